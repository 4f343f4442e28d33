/-
  Texts one behind the other: MixDisks, MixHad.
-/
import Derived.BigQuiet
import Derived.Test.YtkdnfikaodkhnaaGreatDoorG29
import Derived.Test.YtkdnfikaodkhnaaGreatDoorG37
/-
  Several disks in one memory, read and never changed: what each holds, name by name; rows that are no disk's stay as they are.
-/
namespace Go.Proofs.YtkdnfikaodkhnaaGreatDoor.Mix
open Go.RowKit Go.Maps Go.Proofs.YtkdnfikaodkhnaaGreatDoor.Disk
set_option linter.unusedVariables false
set_option linter.unusedSimpArgs false

/-- Disks were read, memory was made: nothing else was changed. -/
structure Rd (own : Own) (w w' : World) : Prop where
  os : w'.os = w.os
  tape : w'.tape = w.tape
  output : w'.output = w.output
  size : w.heap.size ≤ w'.heap.size
  block : ∀ b, b < w.heap.size → own b = none → w'.heap[b]? = w.heap[b]?
theorem Rd.refl (own : Own) (w : World) : Rd own w w := ⟨rfl, rfl, rfl, Nat.le_refl _, fun _ _ _ => rfl⟩
theorem Rd.trans {own : Own} {w w' w'' : World} (h : Rd own w w') (k : Rd own w' w'') : Rd own w w'' :=
  ⟨k.os.trans h.os, k.tape.trans h.tape, k.output.trans h.output, Nat.le_trans h.size k.size, fun b hb ho => (k.block b (Nat.lt_of_lt_of_le hb h.size) ho).trans (h.block b hb ho)⟩
theorem Rd.of_below {own : Own} {w w' : World} (h : Below w.heap.size w w') : Rd own w w' := ⟨h.os, h.tape, h.output, h.size, fun b hb _ => h.block b hb⟩
theorem Rd.of_step {own : Own} {f : Nat} {w w' : World} (h : Step own own f w w') : Rd own w w' := ⟨h.os, h.tape, h.output, h.size, fun b hb ho => h.block b hb (fun g e => by rw [ho] at e; cases e)⟩
theorem free_rd {own : Own} {w w' : World} {A : Option Addr} {n : Nat} {vs : List Value} (h : Free own w A n vs) (hr : Rd own w w') : Free own w' A n vs := by
  refine ⟨h.1, fun hn => ?_⟩
  obtain ⟨b, o, rfl, ho, hb, hc⟩ := h.2 hn
  exact ⟨b, o, rfl, ho, Nat.lt_of_lt_of_le hb hr.size, fun i v hv => (World.cell?_of_block (a := ⟨b, o + i, none⟩) (hr.block b hb ho)).trans (hc i v hv)⟩
/-- What stands in a file; nothing where there is none. -/
def text (d : Dk) (n : Nm) : List UInt8 := ((d.look n).map Fl.now).getD []
/-- A disk among others: where it lies, the world before it, its files' names, what stands in each. -/
structure Ent where
  f : Nat
  w0 : World
  ns : List Nm
  T : Nm → List UInt8
structure Dks (own : Own) (w : World) (K : Nat) (L : List Ent) : Prop where
  one : ∀ p ∈ L, ∀ q ∈ L, p.f = q.f → p = q
  disk : ∀ p ∈ L, ∃ d, Held own p.w0 w p.f d K ∧ d.N.map (·.1) = p.ns ∧ ∀ n, text d n = p.T n
theorem Dks.all {own : Own} {w w' : World} {K : Nat} {L : List Ent} (h : Dks own w K L) (hb : Below w.heap.size w w') : Dks own w' K L :=
  ⟨h.one, fun p hp => by obtain ⟨d, h1, h2, h3⟩ := h.disk p hp; exact ⟨d, h1.all hb, h2, h3⟩⟩
theorem Dks.mono {own : Own} {w : World} {K K' : Nat} {L : List Ent} (h : Dks own w K L) (hK : K ≤ K') (hb : K' ≤ 1073741824) : Dks own w K' L :=
  ⟨h.one, fun p hp => by obtain ⟨d, h1, h2, h3⟩ := h.disk p hp; exact ⟨d, h1.mono hK hb, h2, h3⟩⟩
theorem Dks.top {own : Own} {w : World} {K : Nat} {L : List Ent} (h : Dks own w K L) {p : Ent} (hp : p ∈ L) : ∀ b q, own b = some q → b < w.heap.size := by
  obtain ⟨d, h1, _⟩ := h.disk p hp
  exact h1.top
theorem Dks.read {own : Own} {w w' : World} {K k : Nat} {L : List Ent} {p : Ent} {d : Dk} (h : Dks own w K L) (hp : p ∈ L) (h2 : d.N.map (·.1) = p.ns) (h3 : ∀ n, text d n = p.T n) (h1 : Held own p.w0 w' p.f (d.read k) (K + 1)) (hs : Step own own p.f w w') (hK : K + 1 ≤ 1073741824) : Dks own w' (K + 1) L := by
  refine ⟨h.one, fun q hq => ?_⟩
  by_cases e : q.f = p.f
  · obtain rfl := h.one q hq p hp e
    exact ⟨d.read k, h1, h2, h3⟩
  · obtain ⟨d2, k1, k2, k3⟩ := h.disk q hq
    exact ⟨d2, (k1.other hs e (fun b x hx => Nat.lt_of_lt_of_le (k1.top b x hx) hs.size)).mono (Nat.le_succ _) hK, k2, k3⟩
/-- A row of the call's own is no disk's. -/
theorem Dks.row {own : Own} {w w' : World} {K : Nat} {L : List Ent} (h : Dks own w K L) {p : Ent} (hp : p ∈ L) {t : TypeId} {A : Option Addr} {n c : Nat} {xs : List Value} (hr : w'.ownsRow w.heap.size t 1 (.slice A n c) n xs) : Free own w' A n xs := by
  obtain ⟨d, h1, _⟩ := h.disk p hp
  exact h1.laid hr
set_option maxRecDepth 100000 in
set_option maxHeartbeats 4000000 in
theorem whole_any {own : Own} {w : World} {K : Nat} {L : List Ent} {p : Ent} (s : ByteArray) (h : Dks own w K L) (hp : p ∈ L) (hs : s.size ≤ maxLen) (hK : K + 1 ≤ 1073741824) :
    Calls Tryz.prog 38 #[.pointer (some ⟨p.f, 0, none⟩), .string s] w fun e w' => ∃ A c, e = .returned (.slice A (p.T s.data.toList).length c) ∧ (p.T s.data.toList).length ≤ c ∧ c ≤ maxLen ∧ (p.T s.data.toList).length ≤ 4194304 ∧ Free own w' A (p.T s.data.toList).length (bvs (p.T s.data.toList)) ∧ Dks own w' (K + 1) L ∧ Rd own w w' := by
  obtain ⟨d, h1, h2, h3⟩ := h.disk p hp
  have ht := h3 s.data.toList
  have hnil : Free own w none 0 (bvs []) := ⟨rfl, fun h => absurd h (by omega)⟩
  unfold text at ht
  cases hx : d.look s.data.toList with
  | none =>
    rw [hx] at ht
    have e0 : p.T s.data.toList = [] := ht.symm
    rw [e0]
    have C := Lib.hid (size_lost s h1 hs hx)
    have HD := Lib.hid (h.mono (Nat.le_succ K) hK)
    clear h1 h2 h3 ht hx h
    go_enter Tryz.func38, Tryz.ntmps38
    go_wp2_with (go_at_call 22; refine C.out.mono ?_; rintro e w' ⟨rfl, rfl⟩)
    go_ret
    exact ⟨none, 0, rfl, Nat.le_refl _, by decide, by decide, hnil, HD.out, Rd.refl _ _⟩
  | some x =>
    rw [hx] at ht
    have e0 : p.T s.data.toList = x.now := ht.symm
    rw [e0]
    have hmax := (h1.ok hx).max
    have C := Lib.hid (size_look s h1 hs hx)
    obtain ⟨N, hN⟩ : ∃ N, N = x.now.length := ⟨_, rfl⟩
    have C2 := Lib.hid (read_look s 0 N h1 hs hx (by omega) hK)
    rw [List.drop_zero, hN, List.take_length] at C2
    rw [← hN] at C C2 hmax ⊢
    have HD := Lib.hid h
    have H2 := Lib.hid h2
    have H3 := Lib.hid h3
    have HP := Lib.hid hp
    have HT := Lib.hid (h.mono (Nat.le_succ K) hK)
    have HNL := Lib.hid hN
    clear h1 h2 h3 ht hx h hN
    by_cases h0 : N < 1
    · obtain rfl : N = 0 := by omega
      have e1 : x.now = [] := List.eq_nil_of_length_eq_zero HNL.out.symm
      go_enter Tryz.func38, Tryz.ntmps38
      go_wp2_with (go_at_call 22; refine C.out.mono ?_; rintro e w' ⟨rfl, rfl⟩)
      go_ret
      rw [e1]
      exact ⟨none, 0, rfl, Nat.le_refl _, by decide, by decide, hnil, HT.out, Rd.refl _ _⟩
    · have h0' : ¬ (N : Int) < 1 := by omega
      go_enter Tryz.func38, Tryz.ntmps38
      go_wp2_with (first
        | (go_at_call 22; refine C.out.mono ?_; rintro e w' ⟨rfl, rfl⟩)
        | (go_at_call 66; refine C2.out.mono ?_; rintro e w2 ⟨v, rfl, ho, hd, hst⟩; have HO := Lib.hid ho; have HH := Lib.hid hd; have HS := Lib.hid hst; clear ho hd hst))
      go_ret
      obtain ⟨A, c, rfl, hnc, hc⟩ := own_form HO.out
      exact ⟨A, c, rfl, hnc, hc, hmax, HD.out.row HP.out HO.out, HD.out.read HP.out H2.out H3.out HH.out HS.out hK, Rd.of_step HS.out⟩
end Go.Proofs.YtkdnfikaodkhnaaGreatDoor.Mix
/-
  Proved: what had of law 8 says: where it says yes, the bytes stand at that place of a file of one of the two disks.
-/
namespace Go.Proofs.YtkdnfikaodkhnaaGreatDoor.Mix
open Go.RowKit Go.Maps Go.Proofs.YtkdnfikaodkhnaaGreatDoor.Disk
open Go.Proofs.YtkdnfikaodkhnaaGreatDoor.Rec (str conv_row text_eq below_alloc)
set_option linter.unusedVariables false
set_option linter.unusedSimpArgs false

/-- Bytes stand at a place of a file of a disk. -/
def Stands (p : Ent) (a : Nat) (x : List UInt8) : Prop := ∃ n ∈ p.ns, a + x.length ≤ (p.T n).length ∧ ((p.T n).drop a).take x.length = x
theorem free_row {own : Own} {w : World} {A : Option Addr} {n : Nat} {vs : List Value} (h : Free own w A n vs) : Row w w.heap.size A n vs := Free.row h
theorem names_dks {own : Own} {w : World} {K : Nat} {L : List Ent} {p : Ent} (h : Dks own w K L) (hp : p ∈ L) :
    Calls Tryz.prog 37 #[.pointer (some ⟨p.f, 0, none⟩)] w fun e w' => ∃ A c, e = .returned (.slice A p.ns.length c) ∧ p.ns.length ≤ c ∧ c ≤ maxLen ∧ Free own w' A p.ns.length (p.ns.map encStr) ∧ Below w.heap.size w w' := by
  obtain ⟨d, h1, h2, h3⟩ := h.disk p hp
  refine (names_held h1).mono ?_
  rintro e w' ⟨v, rfl, ho, hb⟩
  have hl : d.N.length = p.ns.length := by rw [← h2, List.length_map]
  rw [h2, hl] at ho
  obtain ⟨A, c, rfl, hnc, hc⟩ := own_form ho
  exact ⟨A, c, rfl, hnc, hc, h.row hp ho, hb⟩
theorem two_free {own : Own} {w : World} (ht : ∀ b q, own b = some q → b < w.heap.size) (t : TypeId) (a b : Value) : Free own (w.alloc (.cells #[a, b] t)) (some ⟨w.heap.size, 0, none⟩) 2 [a, b] := by
  refine ⟨rfl, fun _ => ⟨w.heap.size, 0, rfl, ?_, by simp, fun i v hv => ?_⟩⟩
  · cases h : own w.heap.size with
    | none => rfl
    | some q => have := ht _ _ h; omega
  · rw [Nat.zero_add, cell_of_row _ w.heap.size i #[a, b] t (0, 0) (heap_alloc_new w _), ← Array.getElem?_toList]
    exact hv
theorem free_cell {own : Own} {w : World} {b o n : Nat} {vs : List Value} (h : Free own w (some ⟨b, o, none⟩) n vs) (i : Nat) (v : Value) (hv : vs[i]? = some v) : w.cell? ⟨b, o + i, none⟩ = some v := by
  have hi : 0 < n := by
    have := (List.getElem?_eq_some_iff.1 hv).1
    have := h.1
    omega
  obtain ⟨b', o', e, _, _, hc⟩ := h.2 hi
  injection e with e
  injection e with e1 e2
  subst e1 e2
  exact hc i v hv
set_option maxRecDepth 100000 in
set_option maxHeartbeats 8000000 in
theorem had_any {own : Own} {w : World} {K M : Nat} {L : List Ent} {p q : Ent} (a : Nat) (x : List UInt8) (X : Option Addr) (m c : Nat) (h : Dks own w K L) (hp : p ∈ L) (hq : q ∈ L)
    (hnp : p.ns.length ≤ M) (hnq : q.ns.length ≤ M) (hsp : ∀ n ∈ p.ns, n.length ≤ maxLen) (hsq : ∀ n ∈ q.ns, n.length ≤ maxLen) (hK : K + 2 * M ≤ 1000000000) (ha : a ≤ 8388608)
    (hX : Free own w X m (bvs x)) (hm : 0 < m) (hm2 : m ≤ 8388608) (hmc : m ≤ c) (hcm : c ≤ maxLen) :
    Calls Tryz.prog 40 #[.pointer (some ⟨p.f, 0, none⟩), .pointer (some ⟨q.f, 0, none⟩), .int .i64 (a : Int), .slice X m c] w fun e w' => ∃ t, e = .returned (.bool t) ∧ Dks own w' (K + 2 * M) L ∧ Rd own w w' ∧ (t = true → Stands p a x ∨ Stands q a x) := by
  have hxl : x.length = m := by have := hX.1; rwa [bvs_length] at this
  obtain ⟨w1, hw1⟩ : ∃ w1, w1 = w.alloc (.cells #[.pointer (some ⟨p.f, 0, none⟩), .pointer (some ⟨q.f, 0, none⟩)] 26) := ⟨_, rfl⟩
  have hF : Free own w1 (some ⟨w.heap.size, 0, none⟩) 2 [.pointer (some ⟨p.f, 0, none⟩), .pointer (some ⟨q.f, 0, none⟩)] := by rw [hw1]; exact two_free (h.top hp) _ _ _
  have hb1 : Below w.heap.size w w1 := by rw [hw1]; exact below_alloc w _
  have HF := Lib.hid hF
  have HD1 := Lib.hid (h.all hb1)
  have HR1 := Lib.hid (Rd.of_below (own := own) hb1)
  have HX1 := Lib.hid (free_rd hX (Rd.of_below hb1))
  have HXL := Lib.hid hxl
  have HP := Lib.hid hp
  have HQ := Lib.hid hq
  have HSP := Lib.hid hsp
  have HSQ := Lib.hid hsq
  clear h hX hF hb1 hxl hp hq hsp hsq
  go_enter Tryz.func40, Tryz.ntmps40
  go_upto_region 2 with fail
  rw [← hw1]
  clear hw1
  go_loopw [18] (fun v wr => ∃ (j K' : Nat), v = .int .i64 (j : Int) ∧ j ≤ 2 ∧ K' ≤ K + j * M ∧ Hid (Dks own wr K' L) ∧ Hid (Rd own w1 wr)) (fun v _ => 2 - (RowKit.intOf v).toNat)
  case atStart => exact ⟨0, K, rfl, Nat.zero_le _, by omega, HD1, Rd.refl _ _⟩
  case round =>
    obtain ⟨j, K', rfl, hj, hK', HD, HR⟩ := hrel
    by_cases hj2 : j < 2
    · obtain ⟨r, hr⟩ : ∃ r : Ent, r = if j = 0 then p else q := ⟨_, rfl⟩
      have hrL : r ∈ L := by rw [hr]; split; exact HP.out; exact HQ.out
      have hrn : r.ns.length ≤ M := by rw [hr]; split <;> assumption
      have hrs : ∀ n ∈ r.ns, n.length ≤ maxLen := by rw [hr]; split; exact HSP.out; exact HSQ.out
      have hpr : ∀ {t : Prop}, Stands r a x → Stands p a x ∨ Stands q a x := by
        intro _ h
        rw [hr] at h
        split at h
        · exact .inl h
        · exact .inr h
      have hcell : wr.cell? ⟨w.heap.size, j, none⟩ = some (.pointer (some ⟨r.f, 0, none⟩)) := by
        have := free_cell (free_rd HF.out HR.out) j (.pointer (some ⟨r.f, 0, none⟩)) (by
          rcases (show j = 0 ∨ j = 1 by omega) with rfl | rfl
          · rw [hr]; rfl
          · rw [hr]; rfl)
        rwa [Nat.zero_add] at this
      have HPR := Lib.hid (fun h : Stands r a x => hpr (t := True) h)
      have HRL := Lib.hid hrL
      have HRS := Lib.hid hrs
      have CN := Lib.hid (names_dks HD.out hrL)
      obtain ⟨S, hS⟩ : ∃ S, S = r.ns.length := ⟨_, rfl⟩
      rw [← hS] at CN hrn
      have HSL := Lib.hid hS
      clear hr hrL hrs hpr hS
      go_upto_region 6 with (go_at_call 37; refine CN.out.mono ?_; rintro e w3 ⟨A3, c3, rfl, hn3, hc3, hf3, hb3⟩)
      have hcm3 : c3 ≤ 9223372036854775807 := by unfold maxLen at hc3; exact hc3
      have HD3 := Lib.hid (HD.out.all hb3)
      have HR3 := Lib.hid (HR.out.trans (Rd.of_below hb3))
      have HF3 := Lib.hid hf3
      clear CN hb3 hf3 HD HR hc3
      go_loopw [12] (fun v wr => ∃ (i K'' : Nat), v = .int .i64 (i : Int) ∧ i ≤ S ∧ K'' ≤ K' + i ∧ Hid (Dks own wr K'' L) ∧ Hid (Rd own w3 wr)) (fun v _ => S - (RowKit.intOf v).toNat)
      case atStart => exact ⟨0, K', rfl, Nat.zero_le _, Nat.le_refl _, HD3, Rd.refl _ _⟩
      case round =>
        obtain ⟨i, K'', rfl, hi, hK'', HD, HR⟩ := hrel
        by_cases hlt : i < S
        · obtain ⟨b3, o3, rfl, _, _, _⟩ := HF3.out.2 (by omega)
          obtain ⟨nm, hnm⟩ : ∃ nm, r.ns[i]? = some nm := ⟨r.ns[i]'(by rw [← HSL.out]; exact hlt), List.getElem?_eq_getElem _⟩
          have hcell3 : wr.cell? ⟨b3, o3 + i, none⟩ = some (.string (str nm)) := free_cell (free_rd HF3.out HR.out) i _ (by rw [List.getElem?_map, hnm]; rfl)
          have hmem := List.mem_of_getElem? hnm
          have CW0 := whole_any (str nm) HD.out HRL.out (by show nm.toArray.size ≤ maxLen; rw [List.size_toArray]; exact HRS.out nm hmem) (show K'' + 1 ≤ 1073741824 by
            have : j * M ≤ 2 * M := Nat.mul_le_mul_right _ (by omega)
            have : j * M + M ≤ 2 * M := by
              have := Nat.mul_le_mul_right M (show j + 1 ≤ 2 by omega)
              rw [Nat.add_mul, Nat.one_mul] at this
              exact this
            omega)
          have e0 : (str nm).data.toList = nm := rfl
          rw [e0] at CW0
          obtain ⟨y, hy⟩ : ∃ y, y = r.T nm := ⟨_, rfl⟩
          obtain ⟨Y, hY⟩ : ∃ Y, Y = y.length := ⟨_, rfl⟩
          rw [← hy, ← hY] at CW0
          have CW := Lib.hid CW0
          have HYY := Lib.hid hY
          have HY := Lib.hid hy
          have HM := Lib.hid hmem
          clear CW0 hy hY hmem hnm e0
          go_upto_region 9 with (go_at_call 38; refine CW.out.mono ?_; rintro e w5 ⟨A5, c5, rfl, hyc, hyc2, hym, hf5, hd5, hr5⟩; have HF5 := Lib.hid hf5; have HD5 := Lib.hid hd5; have HR5 := Lib.hid (HR.out.trans hr5); clear hf5 hd5 hr5)
          have hcm5 : c5 ≤ 9223372036854775807 := by unfold maxLen at hyc2; exact hyc2
          clear CW hyc2
          by_cases hge : a + m ≤ Y
          · obtain ⟨yb, yo, rfl, _, _, _⟩ := HF5.out.2 (by omega)
            have j1 : (m : Int) ≤ (Y : Int) - (a : Int) := by omega
            have j2 : decide ((m : Int) ≤ (Y : Int) - (a : Int)) = true := decide_eq_true j1
            have j3 : ¬ c5 = a := by omega
            obtain ⟨s1, hs1⟩ : ∃ s1, s1 = str ((y.drop a).take m) := ⟨_, rfl⟩
            obtain ⟨s2, hs2⟩ : ∃ s2, s2 = str x := ⟨_, rfl⟩
            have HS1 := Lib.hid hs1
            have HS2 := Lib.hid hs2
            obtain ⟨tt, htt⟩ : ∃ tt, tt = decide ((y.drop a).take m = x) := ⟨_, rfl⟩
            have hte : (s1.toList == s2.toList) = tt := by
              rw [text_eq, hs1, hs2, htt]
              refine decide_eq_decide.2 ⟨fun h => ?_, fun h => by rw [h]⟩
              have := congrArg (fun b : ByteArray => b.data.toList) h
              exact this
            have cv1 : ∀ k, (convert 53 9 (.slice (some ⟨yb, yo + a, none⟩) m (c5 - a))).run Tryz.prog (w5.drewN k) = .ok (.string s1) (w5.drewN k) := fun k => by
              have h0 := (free_row HF5.out).drop (k := a) (by omega)
              rw [bvs_drop] at h0
              have h1 := h0.take (k := m) (by omega)
              rw [bvs_take] at h1
              exact conv_row (B := w5.heap.size) (h1.below (below_drewN (Below.refl _ _) k)) HS1
            have HX5 := free_rd HX1.out (HR3.out.trans HR5.out)
            have cv2 : ∀ k, (convert 53 9 (.slice X m c)).run Tryz.prog (w5.drewN k) = .ok (.string s2) (w5.drewN k) := fun k => conv_row (B := w5.heap.size) ((free_row HX5).below (below_drewN (Below.refl _ _) k)) HS2
            have HTT := Lib.hid htt
            clear htt hs1 hs2 HX5
            go_quiet (fail)
            have HD6 := Lib.hid (HD5.out.all (below_drewN (Below.refl _ _) nq))
            have HR6 := Lib.hid (HR5.out.trans (Rd.of_below (own := own) (below_drewN (Below.refl _ _) nq)))
            clear cv1 cv2 hte
            go_upto_if 55 with fail
            have hKK : K'' + 1 ≤ K + 2 * M := by
              have := Nat.mul_le_mul_right M (show j + 1 ≤ 2 by omega)
              rw [Nat.add_mul, Nat.one_mul] at this
              omega
            cases tt with
            | true =>
              have hst : Stands r a x := ⟨nm, HM.out, by rw [← HY.out, HXL.out, ← HYY.out]; exact hge, by rw [← HY.out, HXL.out]; exact of_decide_eq_true HTT.out.symm⟩
              have HST := Lib.hid hst
              have HKK := Lib.hid hKK
              clear hst hKK
              go_wp2_with fail
              go_ret
              exact ⟨true, rfl, HD6.out.mono HKK.out (by omega), HR1.out.trans (HR3.out.trans HR6.out), fun _ => HPR.out HST.out⟩
            | false =>
              clear hKK
              go_wp2_with fail
              go_roundw
              case rel => exact ⟨i + 1, K'' + 1, by go_num, by omega, by omega, HD6, HR6⟩
              case measure => (simp [RowKit.intOf]; omega)
          · have j1 : ¬ (m : Int) ≤ (Y : Int) - (a : Int) := by omega
            have j2 : decide ((m : Int) ≤ (Y : Int) - (a : Int)) = false := decide_eq_false j1
            go_quiet (fail)
            have HD6 := Lib.hid (HD5.out.all (below_drewN (Below.refl _ _) nq))
            have HR6 := Lib.hid (HR5.out.trans (Rd.of_below (own := own) (below_drewN (Below.refl _ _) nq)))
            go_wp2_with fail
            go_roundw
            case rel => exact ⟨i + 1, K'' + 1, by go_num, by omega, by omega, HD6, HR6⟩
            case measure => (simp [RowKit.intOf]; omega)
        · obtain rfl : i = S := by omega
          go_wp2_with fail
          go_roundw
          case rel => exact ⟨j + 1, K'', by go_num, by omega, by rw [Nat.add_mul, Nat.one_mul]; omega, HD, HR3.out.trans HR.out⟩
          case measure => (simp [RowKit.intOf]; omega)
    · obtain rfl : j = 2 := by omega
      go_wp2_with fail
      go_ret
      exact ⟨false, rfl, HD.out.mono hK' (by omega), HR1.out.trans HR.out, fun h => by cases h⟩
end Go.Proofs.YtkdnfikaodkhnaaGreatDoor.Mix
