/-
  Texts one behind the other: TenLaw, Short, DiskSyncWalk, SlotAgain.
-/
import Derived.Lib.MinMax
import Derived.Test.YtcmlchicpmnhdaaGreatDoorG03
import Derived.Test.YtcmlchicpmnhdaaGreatDoorG08
import Derived.Test.YtcmlchicpmnhdaaGreatDoorG33
import Derived.Test.YtcmlchicpmnhdaaGreatDoorG43
/-
  Proved: what total of law 10 returns.
-/
namespace Go.Proofs.YtcmlchicpmnhdaaGreatDoor.Ten
open Go.RowKit Go.Proofs.YtcmlchicpmnhdaaGreatDoor.Rec
set_option linter.unusedVariables false
set_option linter.unusedSimpArgs false

/-- How many segments there are. -/
def tot (l : List Te) : Nat := (l.map fun t => t.segs.length).sum
theorem tot_take {l : List Tv} {i : Nat} {x : Tv} (h : l[i]? = some x) : tot ((l.take (i + 1)).map Tv.te) = tot ((l.take i).map Tv.te) + x.te.segs.length := by
  obtain ⟨h1, h2⟩ := List.getElem?_eq_some_iff.1 h
  unfold tot
  rw [List.take_succ_eq_append_getElem h1, h2]
  simp
theorem tot_le (l : List Te) (h : ∀ t ∈ l, t.segs.length ≤ 62) : tot l ≤ 62 * l.length := by
  induction l with
  | nil => simp [tot]
  | cons t l ih =>
    have h1 := ih (fun u hu => h u (List.mem_cons_of_mem _ hu))
    have h2 := h t (by simp)
    unfold tot at h1 ⊢
    simp only [List.map_cons, List.sum_cons, List.length_cons]
    omega
set_option maxRecDepth 100000 in
set_option maxHeartbeats 4000000 in
theorem total_any (A : Option Addr) (n c : Nat) (l : List Tv) (w : World) (hR : Tens w w.heap.size A n l) (hs : ∀ v ∈ l, v.te.segs.length ≤ 62) (hnc : n ≤ c) (hc : c ≤ maxLen) (hn : n ≤ 100000) :
    Calls Tryz.prog 12 #[.slice A n c] w fun e w' => e = .returned (.int .i64 (tot (l.map Tv.te) : Int)) ∧ w = w' := by
  have hcm : c ≤ 9223372036854775807 := by unfold maxLen at hc; exact hc
  have HR := Lib.hid hR
  have HSS := Lib.hid hs
  clear hR hc hs
  go_enter Tryz.func12, Tryz.ntmps12
  go_wp2_with fail
  go_loopw [3, 4] (fun sv iv wr => ∃ (i s : Nat), sv = .int .i64 (s : Int) ∧ iv = .int .i64 (i : Int) ∧ i ≤ n ∧ s ≤ 62 * i ∧ Hid (s = tot ((l.take i).map Tv.te)) ∧ w = wr) (fun _ iv _ => n - (RowKit.intOf iv).toNat)
  case atStart => exact ⟨0, 0, rfl, rfl, Nat.zero_le _, Nat.zero_le _, Lib.hid (by simp [tot]), rfl⟩
  case round =>
    obtain ⟨i, s, rfl, rfl, hi, hsl, HE, rfl⟩ := hrel
    by_cases hlt : i < n
    · have hlt' : (i : Int) < (n : Int) := by omega
      obtain ⟨bl, o, rfl, hbl, _⟩ := HR.out.row.2 (by omega)
      obtain ⟨x, hx, hmem, hrange⟩ := HR.out.at hlt
      have yx : w.cell? ⟨bl, o + i * 6 + 5, none⟩ = some (.slice x.A x.te.segs.length x.c) := (range_ten hrange).2.2.2.2.2
      have hx62 := HSS.out x hmem
      have hE2 : s + x.te.segs.length = tot ((l.take (i + 1)).map Tv.te) := by rw [tot_take hx, ← HE.out]
      have HE2 := Lib.hid hE2
      obtain ⟨m, hm⟩ : ∃ m, m = x.te.segs.length := ⟨_, rfl⟩
      rw [← hm] at yx hx62 HE2
      clear hx hmem hrange hE2 hm
      go_wp2_with fail
      go_roundw
      case rel => exact ⟨i + 1, s + m, by go_num, by go_num, by omega, by omega, HE2, by first | rfl | trivial⟩
      case measure => (simp [RowKit.intOf]; omega)
    · obtain rfl : i = n := by omega
      have HE2 : Hid (s = tot (l.map Tv.te)) := by have := HE.out; rw [List.take_of_length_le (by rw [HR.out.len]; exact Nat.le_refl _)] at this; exact this
      go_wp2_with fail
      go_ret
      have e := HE2.out
      exact ⟨by subst e; first | rfl | simp, rfl⟩
end Go.Proofs.YtcmlchicpmnhdaaGreatDoor.Ten
/-
  Proved: what Short of package stillroomlaw1 returns, and what is left of a row behind it.
  Conditions: none.
-/
namespace Go.Proofs.YtcmlchicpmnhdaaGreatDoor.Com
open Go.RowKit
set_option linter.unusedVariables false
set_option linter.unusedSimpArgs false

/-- What is left of a slice behind 'Short', in a later world. -/
theorem short_row {w w1 : World} {B : Nat} {A : Option Addr} {n m : Nat} {bs : List UInt8} (hb : Below B w w1) (hR : Row w B A n (bvs bs)) :
    Row w1 B A (min n m) (bvs (bs.take m)) := by
  have h := (hR.below hb).take (k := min n m) (Nat.min_le_left _ _)
  rw [bvs_take] at h
  have hl := hR.size
  have : bs.take (min n m) = bs.take m := by
    rw [← hl, ← List.take_take, List.take_of_length_le]
    exact List.length_take_le' _ _
  rwa [this] at h
end Go.Proofs.YtcmlchicpmnhdaaGreatDoor.Com
/-
  Proved: what 'stillroom/stillroomlaw5.DiskSync' returns.
-/
namespace Go.Proofs.YtcmlchicpmnhdaaGreatDoor.Disk
open Go.RowKit Go.Maps
set_option linter.unusedVariables false
set_option linter.unusedSimpArgs false

/-- A slice of slices of bytes. -/
def RowsB (w : World) (A : Option Addr) (n : Nat) : Prop := 0 < n → ∃ b o, A = some ⟨b, o, none⟩ ∧ b < w.heap.size ∧ ∀ i, i < n → ∃ A' l c bs, w.cell? ⟨b, o + i, none⟩ = some (.slice A' l c) ∧ Row w w.heap.size A' l (bvs bs) ∧ l ≤ c ∧ c ≤ maxLen
theorem rows_of_bytes {W : World} {a : Option Addr} {len cap : Nat}
    (h : (a = none ∧ len = 0 ∧ cap = 0) ∨ ∃ (x : Addr) (A : Nat → Option Addr) (L C : Nat → Nat) (Z : Nat → List Int), a = some x ∧ len ≤ cap ∧ cap ≤ maxLen ∧
      ∀ r, r < cap → W.cell? (x.add r) = some (.slice (A r) (L r) (C r)) ∧ L r ≤ C r ∧ C r ≤ maxLen ∧ (Z r).length = C r ∧ (∀ n ∈ Z r, (Lit.int .u8 n).wf = true) ∧ (A r = none → C r = 0) ∧
        ∀ a', A r = some a' → 0 ≤ a'.block ∧ ∀ c, c < C r → W.cell? (a'.add c) = some (.int .u8 ((Z r).getD c 0))) :
    RowsB W a len ∧ len ≤ cap ∧ cap ≤ maxLen := by
  rcases h with ⟨rfl, rfl, rfl⟩ | ⟨x, A, L, C, Z, rfl, hl, hm, hcell⟩
  · exact ⟨fun h => absurd h (by omega), Nat.le_refl _, by decide⟩
  · refine ⟨fun hn => ?_, hl, hm⟩
    obtain ⟨b, off, spot⟩ := x
    have h0 := (hcell 0 (by omega)).1
    have hspot : spot = none := by simpa [Addr.add] using World.cell?_spot h0
    subst hspot
    refine ⟨b, off, rfl, by simpa [Addr.add] using World.block_lt_of_cell? W _ h0, fun i hi => ?_⟩
    obtain ⟨k1, k2, k3, k4, k5, k6, k7⟩ := hcell i (by omega)
    obtain ⟨bs, r1, r2, r3⟩ := row_of_bytes (W := W) (a := A i) (len := L i) (cap := C i) (by
      cases hA : A i with
      | none => exact .inl ⟨rfl, by have := k6 hA; omega, k6 hA⟩
      | some a' => exact .inr ⟨a', Z i, rfl, k2, k3, k4, fun j hj => (k7 a' hA).2 j (by omega), k5⟩)
    refine ⟨A i, L i, C i, bs, ?_, r1, r2, r3⟩
    unfold Addr.add at k1
    split at k1
    · rename_i hi0; subst hi0; exact k1
    · exact k1
theorem putAt_end (W bs : List UInt8) : putAt W W.length bs = W ++ bs := by
  unfold putAt
  rw [List.take_length, List.drop_eq_nil_of_le (by omega), List.append_nil]
theorem str_add (a b : List UInt8) : (⟨a.toArray⟩ : ByteArray) ++ ⟨b.toArray⟩ = ⟨(a ++ b).toArray⟩ := by
  apply ByteArray.ext
  rw [ByteArray.data_append]
  simp
end Go.Proofs.YtcmlchicpmnhdaaGreatDoor.Disk
/-
  Proved: SlotsAgain returns true, whatever it is handed: Saves that fail, and others behind them.
-/
namespace Go.Proofs.YtcmlchicpmnhdaaGreatDoor.Slot
open Go.RowKit Go.Proofs.YtcmlchicpmnhdaaGreatDoor.Rec Go.Proofs.YtcmlchicpmnhdaaGreatDoor.Disk
open Go.Proofs.YtcmlchicpmnhdaaGreatDoor.Crc (Turned)
open Go.Proofs.YtcmlchicpmnhdaaGreatDoor.Seg (Fr ptr mark_old mark_top free_fr failRaw_held)
set_option linter.unusedVariables false
set_option linter.unusedSimpArgs false

/-- A file of slots of which Saves may have failed. -/
structure Tried (own : Own) (w0 w : World) (v : Sf) (x : Fl) (a : Option Nat) (K : Nat) : Prop where
  ex : ∃ g d, SG own w0 w v g x a K d
  lasts : v.lasts = true
  sides : SidesU x.now v.slot v.turn v.used v.txt
theorem Tried.all {own : Own} {w0 w w' : World} {v : Sf} {x : Fl} {a : Option Nat} {K : Nat} (h : Tried own w0 w v x a K) (hb : Below w.heap.size w w') : Tried own w0 w' v x a K := by
  obtain ⟨g, d, hs⟩ := h.ex
  exact { h with ex := ⟨g, d, hs.all hb⟩ }
theorem Tried.top {own : Own} {w0 w : World} {v : Sf} {x : Fl} {a : Option Nat} {K : Nat} (h : Tried own w0 w v x a K) : ∀ b p, own b = some p → b < w.heap.size := by
  obtain ⟨g, d, hs⟩ := h.ex
  exact hs.top
theorem Tried.below {own : Own} {w0 w : World} {v : Sf} {x : Fl} {a : Option Nat} {K : Nat} (h : Tried own w0 w v x a K) : Below w0.heap.size w0 w := by
  obtain ⟨g, d, hs⟩ := h.ex
  exact hs.disk.below
theorem Tried.lies {own : Own} {w0 w : World} {v : Sf} {x : Fl} {a : Option Nat} {K : Nat} (h : Tried own w0 w v x a K) : Lies own w v := by
  obtain ⟨g, d, hs⟩ := h.ex
  exact hs.lies
theorem Up.tried {own : Own} {w0 w : World} {v : Sf} {x : Fl} {K : Nat} (h : Up own w0 w v x K) : Tried own w0 w v x none K :=
  ⟨h.ex, h.lasts, by rw [h.used]; exact h.sides.toU⟩
def failArm (n : Int) : Option Nat := if 0 ≤ n then some n.toNat else none
theorem tried_fail {own : Own} {w0 w : World} {v : Sf} {x : Fl} {a : Option Nat} {K : Nat} (n : Int) (h : Tried own w0 w v x a K) (hn : n ≤ 9223372036854775807) :
    Calls Tryz.prog 18 #[.pointer (some ⟨v.f, 0, none⟩), .int .i64 n] w fun e w' => e = .returned undef ∧ Tried own w0 w' v x (failArm n) K ∧ Fr own own w w' := by
  obtain ⟨g, d, hs⟩ := h.ex
  refine (failRaw_held n hs.disk hn).mono ?_
  rintro e w' ⟨he, hd, hst⟩
  refine ⟨he, { h with ex := ⟨g, _, hd, ⟨hs.one.N, hs.one.S, hs.one.wait, hs.one.fl⟩, ?_, hs.lies.stp (Stp.of hst) hs.lies.ne, hs.nm⟩ }, Fr.of_step hst⟩
  unfold Dk.arm failArm
  by_cases h0 : 0 ≤ n
  · rw [if_pos (by simp [h0]), if_pos h0]
    congr 1
    show (max n 0).toNat = _
    omega
  · rw [if_neg (by simp [h0]), if_neg h0]
/-- A Save that fails. -/
theorem tried_bad {own : Own} {w0 w : World} {v : Sf} {x : Fl} {a : Option Nat} {K : Nat} (hT : Turned w0) (h : Tried own w0 w v x a K) (hbad : a = some 0 ∨ a = some 1) (hu : v.used < 1099511627776) (hK : K + 2 ≤ 1073741824)
    {A : Option Addr} {n c : Nat} {b : List UInt8} (hR : Free own w A n (bvs b)) (hnc : n ≤ c) (hc : c ≤ maxLen) (hn : n ≤ 4080) :
    Calls Tryz.prog 27 #[.pointer (some ⟨v.sf, 0, none⟩), .slice A n c] w fun e w' => e = .returned (.int .i64 3) ∧ ∃ own' x', Tried own' w0 w' { v with used := v.used + 1 } x' none (K + 2) ∧ Fr own own' w w' := by
  obtain ⟨g, d, hs⟩ := h.ex
  have hbn : b.length = n := by have := hR.1; rwa [bvs_length] at this
  refine (save_any hT hs h.lasts hu h.sides.two h.sides.len hR hnc hc hn hK).mono ?_
  rintro e w' ⟨er, he, own', d', v', x', a', hsv, hsg, hfr⟩
  cases hsv with
  | write => exact ⟨he, own', x, ⟨⟨g, d', hsg⟩, h.lasts, h.sides.more (Nat.le_succ _)⟩, hfr⟩
  | sync L _ => exact ⟨he, own', ⟨putAt x.now (4096 * (1 - v.slot)) (slotFull (v.used + 1) b), x.was, L⟩, ⟨⟨g, d', hsg⟩, h.lasts, h.sides.tried (by omega) (slotFull_len (by omega)) (Nat.lt_succ_self _) (by omega)⟩, hfr⟩
  | ok _ h0 h1 => rcases hbad with e | e <;> contradiction
/-- A Save that comes back. -/
theorem tried_ok {own : Own} {w0 w : World} {v : Sf} {x : Fl} {a : Option Nat} {K : Nat} (hT : Turned w0) (h : Tried own w0 w v x a K) (hok : ¬ (a = some 0 ∨ a = some 1)) (hu : v.used < 1099511627776) (hK : K + 2 ≤ 1073741824)
    {A : Option Addr} {n c : Nat} {b : List UInt8} (hR : Free own w A n (bvs b)) (hnc : n ≤ c) (hc : c ≤ maxLen) (hn : n ≤ 4080) :
    Calls Tryz.prog 27 #[.pointer (some ⟨v.sf, 0, none⟩), .slice A n c] w fun e w' => e = .returned (.int .i64 0) ∧ ∃ own' x', Tried own' w0 w' { v with slot := 1 - v.slot, turn := v.used + 1, txt := b, used := v.used + 1 } x' (armed (armed a)) (K + 2) ∧ Sides x'.now (1 - v.slot) (v.used + 1) b ∧ x'.was = x'.now ∧ x'.soiled = [] ∧ Fr own own' w w' := by
  obtain ⟨g, d, hs⟩ := h.ex
  have hbn : b.length = n := by have := hR.1; rwa [bvs_length] at this
  refine (save_any hT hs h.lasts hu h.sides.two h.sides.len hR hnc hc hn hK).mono ?_
  rintro e w' ⟨er, he, own', d', v', x', a', hsv, hsg, hfr⟩
  cases hsv with
  | write => exact absurd (.inl rfl) hok
  | sync L _ => exact absurd (.inr rfl) hok
  | ok _ h0 h1 =>
    have hS := h.sides.save (b' := b) (r := List.replicate (4080 - b.length) 0) (u' := v.used + 1) (by omega) (slotFull_len (by omega)) (Nat.lt_succ_self _) (by omega)
    exact ⟨he, own', ⟨putAt x.now (4096 * (1 - v.slot)) (slotFull (v.used + 1) b), putAt x.now (4096 * (1 - v.slot)) (slotFull (v.used + 1) b), []⟩, ⟨⟨g, d', hsg⟩, h.lasts, hS.toU⟩, hS, rfl, rfl, hfr⟩
/-- A row that lay before is no disk's. -/
theorem free_of {own : Own} {w w1 wr : World} {A : Option Addr} {n : Nat} {vs : List Value} (ht : ∀ b p, own b = some p → b < wr.heap.size) (hb : Below w1.heap.size w1 wr) (h0 : Below w.heap.size w w1) (h : (∀ b, b < w.heap.size → own b = none) ∧ Row w w.heap.size A n vs) : Free own wr A n vs := by
  refine ⟨h.2.1, fun hn => ?_⟩
  obtain ⟨b, o, e, hlt, hc⟩ := h.2.2 hn
  have h1 := Nat.lt_of_lt_of_le hlt h0.size
  exact ⟨b, o, e, h.1 b hlt, Nat.lt_of_lt_of_le h1 hb.size, fun i v hv => (hb.cell (p := ⟨b, o + i, none⟩) h1).trans ((h0.cell (p := ⟨b, o + i, none⟩) hlt).trans (hc i v hv))⟩
theorem Tried.none {own : Own} {w0 w : World} {v : Sf} {x : Fl} {a : Option Nat} {K : Nat} (h : Tried own w0 w v x a K) : ∀ b, b < w0.heap.size → own b = none := by
  obtain ⟨g, d, hs⟩ := h.ex
  exact hs.disk.free
end Go.Proofs.YtcmlchicpmnhdaaGreatDoor.Slot
