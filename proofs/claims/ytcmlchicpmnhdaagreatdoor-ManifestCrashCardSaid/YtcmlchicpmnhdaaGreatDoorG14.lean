/-
  Texts one behind the other: ManDec, AppendWhere.
-/
import Derived.ArgAppend
import Derived.Lib.Hide
import Derived.RegionTactic
import Derived.Test.YtcmlchicpmnhdaaGreatDoorG03
import Derived.Test.YtcmlchicpmnhdaaGreatDoorG11
import Derived.Test.YtcmlchicpmnhdaaGreatDoorG13
/-
  Proved: what Decode of package manifest returns: tenants in rows of the call's own, just where the bytes are some tenants'.
-/
namespace Go.Proofs.YtcmlchicpmnhdaaGreatDoor.Man
open Go.RowKit Go.Proofs.YtcmlchicpmnhdaaGreatDoor.Rec Go.Proofs.YtcmlchicpmnhdaaGreatDoor.Ten
set_option linter.unusedVariables false
set_option linter.unusedSimpArgs false

/-- A tenant's segments lie in a row of the call's own. -/
def SegOwn (base : Nat) (w : World) (x : Tv) : Prop := w.ownsRow base 2 1 (.slice x.A x.te.segs.length x.c) x.te.segs.length (ivs x.te.segs)
/-- Tenants in rows of the call's own. -/
structure TenOwn (w0 w : World) (v : Value) (l : List Tv) : Prop where
  row : w.ownsRow w0.heap.size 35 6 v l.length (tflat l)
  each : ∀ x ∈ l, SegOwn w0.heap.size w x
  ok : ∀ x ∈ l, x.te.Ok
  below : Below w0.heap.size w0 w
theorem own_base {w : World} {b b' k n : Nat} {e : TypeId} {v : Value} {xs : List Value} (h : w.ownsRow b e k v n xs) (hb : b' ≤ b) : w.ownsRow b' e k v n xs := by
  refine ⟨h.1, ?_⟩
  rcases h.2 with h0 | ⟨g, cap, cur, hv, h1, h2⟩
  · exact .inl h0
  · exact .inr ⟨g, cap, cur, hv, Nat.le_trans hb h1, h2⟩
theorem TenOwn.nil (w : World) : TenOwn w w (.slice none 0 0) [] := ⟨World.ownsRow_nil _ _ _ _, fun x h => by simp at h, fun x h => by simp at h, Below.refl _ _⟩
theorem TenOwn.all {w0 w w' : World} {v : Value} {l : List Tv} (h : TenOwn w0 w v l) (hb : Below w.heap.size w w') : TenOwn w0 w' v l :=
  ⟨own_all h.row hb, fun x hx => own_all (h.each x hx) hb, h.ok, h.below.trans (hb.mono h.below.size)⟩
theorem TenOwn.base {w w0 w' : World} {v : Value} {l : List Tv} (h : TenOwn w0 w' v l) (hb : Below w.heap.size w w0) : TenOwn w w' v l :=
  ⟨own_base h.row hb.size, fun x hx => own_base (h.each x hx) hb.size, h.ok, hb.trans (h.below.mono hb.size)⟩
theorem SegOwn.in {base : Nat} {w : World} {x : Tv} (h : SegOwn base w x) : x.In w w.heap.size := by
  obtain ⟨A, c, e, h1, h2⟩ := own_form h
  injection e with e1 e2 e3
  refine ⟨Row.own h, by omega, by omega⟩
theorem TenOwn.form {w0 w : World} {v : Value} {l : List Tv} (h : TenOwn w0 w v l) : ∃ A c, v = .slice A l.length c ∧ l.length ≤ c ∧ c ≤ maxLen ∧ Tens w w.heap.size A l.length l := by
  obtain ⟨A, c, rfl, h1, h2, h3⟩ := own_row h.row
  exact ⟨A, c, rfl, h1, h2, ⟨rfl, h3, h.ok, fun x hx => (h.each x hx).in⟩⟩
/-- A row of tenants of the call's own gets one more. -/
theorem tens_append {w0 w : World} {v : Value} {l : List Tv} {ops : Array Oper} {rest : List Oper} {o : Oper} {a : Act} {Q : Exit → Act → World → Prop} (h : TenOwn w0 w v l) (hgd : o.guard = none) (s y : Operand) (ho : o.op = .call { callee := .builtin .append, args := #[s, y], argTypes := #[22, 22] }) (hs : a.eval s = v)
    (g c : Nat) (x : Tv) (hy : a.eval y = .slice (some ⟨g, 0, none⟩) 1 c) (hq : ∀ j u, x.vals.toList[j]? = some u → w.cell? ⟨g, j, none⟩ = some u) (hl : l.length ≤ 1000000)
    (k : ∀ v' w', Hid (w'.ownsRow w0.heap.size 35 6 v' (l ++ [x]).length (tflat (l ++ [x]))) → Hid (w.grownBy w' v.ownBlock) → wpList Tryz.prog ops Q rest (a.put o.dst v') w') : wpList Tryz.prog ops Q (o :: rest) a w := by
  obtain ⟨i, hii, hzz⟩ := Option.map_eq_some_iff.1 ten_zeros
  simp only [Prod.mk.injEq] at hzz
  obtain ⟨hz0, hs1, hb1⟩ := hzz
  refine wpList_append_own (w := w) hgd s y 22 ho w0.heap.size 35 i _ 6 64 Tryz.underlying22 hii hz0 hs1 hb1 rfl (by decide) v l.length (tflat l) hs h.row ⟨g, 0, none⟩ 1 c x.vals.toList hy (tcells_length x) ?_ (tcells_one x) (by unfold maxLen; omega) ?_ h.below.size ?_
  · intro j u hu
    have := hq j u hu
    rw [Addr.add_lit, Nat.zero_add]
    exact this
  · omega
  · intro v' w' h1 h2 _
    refine k v' w' ?_ h2
    rw [tflat_snoc] at h1
    rw [List.length_append]
    exact h1
theorem rd_kinds : (35 : TypeId) ≠ 125 ∧ (2 : TypeId) ≠ 125 := by decide
/-- Tenants that were read so far. -/
structure DecSt (w wr : World) (g : Nat) (v : Value) (l : List Tv) (i : Nat) (r1 : Rd) : Prop where
  own : TenOwn w wr v l
  te : l.map Tv.te = (takeAll i r1).1
  rd : RdAt wr w.heap.size g (takeAll i r1).2
theorem DecSt.len {w wr : World} {g i : Nat} {v : Value} {l : List Tv} {r1 : Rd} (h : DecSt w wr g v l i r1) : l.length = i := by
  have := congrArg List.length h.te
  rwa [List.length_map, takeAll_length] at this
theorem segs_small : ∀ (n : Nat) (r : Rd) (i : Nat), 0 ≤ (takeSegs n r).1.getD i 0 ∧ (takeSegs n r).1.getD i 0 < 281474976710656 := by
  intro n
  induction n with
  | zero => intro r i; simp [takeSegs]
  | succ n ih =>
    intro r i
    rw [takeSegs_two]
    have hl := takeSegs_length n r
    rw [List.getD_eq_getElem?_getD]
    by_cases h : i < n
    · rw [List.getElem?_append_left (by omega), ← List.getD_eq_getElem?_getD]
      exact ih r i
    · by_cases h2 : i = n
      · rw [List.getElem?_append_right (by omega), show i - (takeSegs n r).1.length = 0 by omega]
        have := ((takeSegs n r).2).val_lt 6
        have e : (256 : Nat) ^ 6 = 281474976710656 := by decide
        rw [e] at this
        simp only [List.getElem?_cons_zero, Option.getD_some]
        omega
      · rw [List.getElem?_eq_none (by rw [List.length_append, List.length_singleton]; omega)]
        simp
theorem te_ok (r : Rd) : (takeTe r).1.Ok := by
  have h1 := r.val_lt 4
  have h2 := (r.next 4).val_lt 6
  have h3 := ((r.next 4).next 6).val_lt 3
  have h4 := (((r.next 4).next 6).next 3).val_lt 6
  have h5 := ((((r.next 4).next 6).next 3).next 6).val_lt 6
  have e3 : (256 : Nat) ^ 3 = 16777216 := by decide
  have e4 : (256 : Nat) ^ 4 = 4294967296 := by decide
  have e6 : (256 : Nat) ^ 6 = 281474976710656 := by decide
  rw [e4] at h1
  rw [e6] at h2 h4 h5
  rw [e3] at h3
  have hsg : ∀ i, 0 ≤ (takeTe r).1.segs.getD i 0 ∧ (takeTe r).1.segs.getD i 0 < 281474976710656 := fun i => by rw [takeTe_segs]; exact segs_small _ _ i
  have e : (takeTe r).1 = { headTe r with segs := (takeTe r).1.segs } := by simp only [takeTe]
  generalize (takeTe r).1.segs = sl at e hsg
  rw [e]
  unfold headTe
  exact ⟨h1, by dsimp only; omega, by dsimp only; omega, by dsimp only; omega, by dsimp only; omega, fun i => by have := hsg i; dsimp only; omega⟩
/-- One more tenant was read, and appended. -/
theorem dk_next {w wr w2 w3 : World} {g i : Nat} {v v3 : Value} {l : List Tv} {r1 : Rd} {x : Tv} {o : Obj} (h : DecSt w wr g v l i r1) (hx : Tenant wr w2 w.heap.size g (takeAll i r1).2 x)
    (h3 : w3.ownsRow w.heap.size 35 6 v3 (l ++ [x]).length (tflat (l ++ [x]))) (h4 : (w2.alloc o).grownBy w3 v.ownBlock) : DecSt w w3 g v3 (l ++ [x]) (i + 1) r1 := by
  obtain ⟨A, n, c, hb, _⟩ := h.rd.ex
  have n1 := own_not h.own.row hb rd_kinds.1
  have hge := h.rd.ge
  have hlt := h.rd.lt
  have hv : ∀ k, v.ownBlock = some k → w.heap.size ≤ k := fun k hk => (h.own.row.lt k hk).1
  have hrow2 : w2.ownsRow w.heap.size 35 6 v l.length (tflat l) := own_kept h.own.row hx.grow (fun k hk e => n1 (by rw [hk]; exact e.symm))
  have hB2 : Below w.heap.size w w2 := h.own.below.grown hx.grow h.own.below.size (fun k hk => by injection hk with hk; omega)
  have hBa : Below w2.heap.size w2 (w2.alloc o) := below_alloc w2 o
  have hrowa := own_all hrow2 hBa
  have hB3 : Below w.heap.size w w3 := (hB2.trans (hBa.mono hB2.size)).grown h4 (Nat.le_trans hB2.size hBa.size) hv
  have hseg : ∀ y, SegOwn w.heap.size w2 y → SegOwn w.heap.size w3 y := fun y hy => by
    have ha := own_all hy hBa
    refine own_kept ha h4 (fun k hk e => ?_)
    rcases hrowa.2 with ⟨h0, _⟩ | ⟨g2, c2, u2, hv2, _, hg2, _⟩
    · rw [h0] at e; simp [Value.ownBlock] at e
    · have : v.ownBlock = some g2 := by rw [hv2]; rfl
      rw [this] at e
      injection e with e
      subst e
      exact own_not ha (show Blk (w2.alloc o) k 35 u2 from hg2) seg_kinds hk.symm
  refine ⟨⟨h3, ?_, ?_, hB3⟩, ?_, ?_⟩
  · intro y hy
    rcases List.mem_append.1 hy with hy | hy
    · obtain ⟨A', n', c', hb', _⟩ := h.rd.ex
      exact hseg y (own_kept (h.own.each y hy) hx.grow (fun k hk e => own_not (h.own.each y hy) hb' rd_kinds.2 (by rw [hk]; exact e.symm)))
    · obtain rfl := List.mem_singleton.1 hy
      exact hseg y (own_base hx.row h.own.below.size)
  · intro y hy
    rcases List.mem_append.1 hy with hy | hy
    · exact h.own.ok y hy
    · obtain rfl := List.mem_singleton.1 hy
      rw [hx.te]
      exact te_ok _
  · rw [takeAll_two, List.map_append, h.te]
    dsimp only
    rw [List.map_singleton, hx.te]
  · rw [takeAll_two]
    dsimp only
    have hR2 := hx.rd.all hBa
    refine hR2.kept h4 (fun e => ?_) hv
    obtain ⟨A', n', c', hb', _⟩ := hR2.ex
    exact own_not hrowa hb' rd_kinds.1 e
theorem man_beside {w wr w3 : World} {g i m : Nat} {A2 : Option Addr} {c2 : Nat} {l : List Tv} {r1 : Rd} {x : Tv} (h : Hid (DecSt w wr g (.slice A2 l.length c2) l i r1)) (hx : Hid (Tenant wr w3 w.heap.size g (takeAll i r1).2 x)) (hm : Hid (m = l.length)) : Hid (TenOwn w (w3.alloc (.cells x.vals 35)) (.slice A2 m c2) l) := by
  obtain rfl := hm.out
  have h' := h.out
  obtain ⟨A, n, c, hb, _⟩ := h'.rd.ex
  have n1 := own_not h'.own.row hb rd_kinds.1
  have hge := h'.rd.ge
  have hrow : w3.ownsRow w.heap.size 35 6 (.slice A2 l.length c2) l.length (tflat l) := own_kept h'.own.row hx.out.grow (fun k hk e => n1 (by rw [hk]; exact e.symm))
  have hB2 : Below w.heap.size w w3 := h'.own.below.grown hx.out.grow h'.own.below.size (fun k hk => by injection hk with hk; omega)
  have ht : TenOwn w w3 (.slice A2 l.length c2) l := ⟨hrow, fun y hy => own_kept (h'.own.each y hy) hx.out.grow (fun k hk e => own_not (h'.own.each y hy) hb rd_kinds.2 (by rw [hk]; exact e.symm)), h'.own.ok, hB2⟩
  exact Lib.hid (ht.all (below_alloc w3 _))
theorem man_next {w wr w3 w4 : World} {g i m : Nat} {A2 : Option Addr} {c2 : Nat} {v4 : Value} {l : List Tv} {r1 : Rd} {x : Tv} {o : Obj} (h : Hid (DecSt w wr g (.slice A2 l.length c2) l i r1)) (hx : Hid (Tenant wr w3 w.heap.size g (takeAll i r1).2 x)) (hm : Hid (m = l.length))
    (h4 : Hid (w4.ownsRow w.heap.size 35 6 v4 (l ++ [x]).length (tflat (l ++ [x])))) (hg : Hid ((w3.alloc o).grownBy w4 (Value.slice A2 m c2).ownBlock)) : Hid (DecSt w w4 g v4 (l ++ [x]) (i + 1) r1) := by
  obtain rfl := hm.out
  exact Lib.hid (dk_next h.out hx.out h4.out hg.out)
theorem mayAllB_true' {l : List Te} (h : May l) : mayAllB l = true := decide_eq_true h
/-- What Decode says. -/
def Decoded (bs : List UInt8) (w : World) (e : Ending) (w' : World) : Prop :=
  (decAll bs = none ∧ e = .returned (.tuple #[.slice none 0 0, .bool false]) ∧ Below w.heap.size w w') ∨ ∃ v l, decAll bs = some (l.map Tv.te) ∧ e = .returned (.tuple #[v, .bool true]) ∧ TenOwn w w' v l
set_option maxRecDepth 100000 in
set_option maxHeartbeats 8000000 in
theorem mandec_any (A : Option Addr) (n c : Nat) (bs : List UInt8) (w : World) (hR : Row w w.heap.size A n (bvs bs)) (hnc : n ≤ c) (hc : c ≤ maxLen) :
    Calls Tryz.prog 34 #[.slice A n c] w (Decoded bs w) := by
  obtain ⟨g, hg⟩ : ∃ g, g = w.heap.size := ⟨_, rfl⟩
  have hcm : c ≤ 9223372036854775807 := by unfold maxLen at hc; exact hc
  have HR := Lib.hid hR
  have HC := Lib.hid hc
  have HG := Lib.hid hg
  obtain ⟨r0, hr0⟩ : ∃ r0 : Rd, r0 = ⟨bs, false⟩ := ⟨_, rfl⟩
  obtain ⟨r1, hr1⟩ : ∃ r1, r1 = r0.next 1 := ⟨_, rfl⟩
  obtain ⟨N, hN⟩ : ∃ N, N = r0.val 1 := ⟨_, rfl⟩
  have bN : N < 256 := by rw [hN]; exact r0.val_lt 1
  have C1 : Hid (∀ W, Hid (RdAt W w.heap.size g r0) → Calls Tryz.prog 66 #[.pointer (some ⟨g, 0, none⟩), .int .i64 1] W fun e w' => e = .returned (.int .u64 (N : Int)) ∧ Hid (RdAt w' w.heap.size g r1) ∧ Hid (W.grownBy w' (some g))) := fun W hW => by rw [hN, hr1]; exact take_any hW.out 1 1 rfl ⟨by decide, by decide⟩
  have HRD : Hid (readAll bs = takeAll N r1) := Lib.hid (by unfold readAll; rw [hN, hr1, hr0])
  have HR0 := Lib.hid hr0
  clear hR hc hg hr0 hr1 hN
  go_enter Tryz.func34, Tryz.ntmps34
  go_upto_region 3 with fail
  obtain ⟨w1, hw1⟩ : ∃ w1, w1 = w.alloc (.cells #[.slice A n c, .bool false] 125) := ⟨_, rfl⟩
  have HB1 : Hid (Below w.heap.size w w1) := by rw [hw1]; exact below_alloc w _
  have HR1 : Hid (RdAt w1 w.heap.size g r0) := by
    rw [HR0.out]
    refine Lib.hid ⟨⟨A, n, c, ?_, HR.out.below HB1.out, hnc, HC.out⟩, Nat.le_of_eq HG.out.symm⟩
    rw [hw1, HG.out]
    exact Blk.new w _ _
  rw [← HG.out, ← hw1]
  clear hw1
  go_upto_region 4 with (go_at_call 66; (with_reducible refine (C1.out _ HR1).mono ?_); rintro e w2 ⟨rfl, HR2, HG2⟩)
  have HD0 : Hid (DecSt w w2 g (.slice none 0 0) [] 0 r1) := by
    have hge := HR1.out.ge
    exact Lib.hid ⟨⟨World.ownsRow_nil _ _ _ _, fun x h => by simp at h, fun x h => by simp at h, HB1.out.grown HG2.out HB1.out.size (fun k hk => by injection hk with hk; omega)⟩, rfl, HR2.out⟩
  clear HR1 HR2 HG2 C1 HB1
  go_wp2_with fail
  go_loopw [5, 9] (fun lv cv wr => ∃ (i : Nat) (l : List Tv), cv = .int .u64 (i : Int) ∧ i ≤ N ∧ Hid (DecSt w wr g lv l i r1)) (fun _ cv _ => N - (RowKit.intOf cv).toNat)
  case atStart => exact ⟨0, [], rfl, Nat.zero_le _, HD0⟩
  case round =>
    obtain ⟨i, l, rfl, hi, HD⟩ := hrel
    obtain ⟨A2, c2, rfl, hlc, hcm2, hT⟩ := HD.out.own.form
    have hlen := HD.out.len
    have HT := Lib.hid hT
    clear hT
    by_cases hlt : i < N
    · have hlt' : (i : Int) < (N : Int) := by omega
      have CT := Lib.hid (takeTenant_any HD.out.rd)
      have hll : l.length ≤ 1000000 := by omega
      have HL := Lib.hid hlen
      obtain ⟨m, hm⟩ : ∃ m, m = l.length := ⟨_, rfl⟩
      rw [← hm] at hlc ⊢
      have HM := Lib.hid hm
      clear hlen hm
      go_wp2_with (first
        | (go_at_call 67; (with_reducible refine CT.out.mono ?_); rintro e w3 ⟨x, rfl, HX⟩
           have HA : Hid (TenOwn w (w3.alloc (.cells x.vals 35)) (.slice A2 m c2) l) := man_beside HD HX HM
           have HO := Lib.hid (ten_cells1 w3 35 (0, 0) x))
        | (refine build_oneTen rfl (.tmp 12) rfl (some 13) rfl x rfl ?_)
        | (at_builtin; refine tens_append HA.out rfl (.tmp 11) (.tmp 13) rfl rfl w3.heap.size 1 x rfl HO.out hll ?_; intro v4 w4 H4 G4
           have HN := man_next HD HX HM H4 G4))
      go_roundw
      case rel => exact ⟨i + 1, l ++ [x], by go_num, by omega, HN⟩
      case measure => (simp [RowKit.intOf]; omega)
    · obtain rfl : i = N := by omega
      have HE1 : Hid ((readAll bs).1 = l.map Tv.te) := Lib.hid (by rw [HRD.out]; exact HD.out.te.symm)
      have HE2 : Hid ((readAll bs).2 = (takeAll i r1).2) := Lib.hid (by rw [HRD.out])
      obtain ⟨Ar, nr, cr, hb, hrr, _, _⟩ := HD.out.rd.ex
      have x0 : wr.cell? ⟨g, 0, none⟩ = some (.slice Ar nr cr) := Blk.cell hb 0
      have x1 : wr.cell? ⟨g, 1, none⟩ = some (.bool (takeAll i r1).2.short) := Blk.cell hb 1
      have hrl : (takeAll i r1).2.rest.length = nr := hrr.size
      obtain ⟨sh, hsh⟩ : ∃ sh, sh = (takeAll i r1).2.short := ⟨_, rfl⟩
      rw [← hsh] at x1
      have HSH := Lib.hid hsh
      have HRL := Lib.hid hrl
      have HBW := Lib.hid HD.out.own.below
      have CM := mayAll_any A2 l.length c2 l wr HT.out hlc hcm2
      obtain ⟨R, hR⟩ : ∃ R, R = mayAllB (l.map Tv.te) := ⟨_, rfl⟩
      rw [← hR] at CM
      have CM' := Lib.hid CM
      have HRR := Lib.hid hR
      obtain ⟨m, hm⟩ : ∃ m, m = l.length := ⟨_, rfl⟩
      rw [← hm] at CM' hlc ⊢
      have HM := Lib.hid hm
      clear hb hrr hsh hrl CM hR hlen hm
      have HNO : Hid (¬ (sh = false ∧ nr = 0 ∧ R = true) → decAll bs = none) := Lib.hid fun hno => by
        unfold decAll
        rw [if_neg]
        rintro ⟨k1, k2, k3⟩
        rw [HE2.out] at k1 k2
        rw [HE1.out] at k3
        exact hno ⟨by rw [HSH.out]; exact k1, by rw [← HRL.out, k2]; rfl, by rw [HRR.out]; exact mayAllB_true' k3⟩
      cases sh with
      | true =>
        go_wp2_with fail
        go_ret2
        exact .inl ⟨HNO.out (fun h => by cases h.1), rfl, HBW.out⟩
      | false =>
        by_cases hn0 : 0 < nr
        · have hn0' : (0 : Int) < (nr : Int) := by omega
          have HF := Lib.hid (HNO.out (fun h => by omega))
          go_wp2_with fail
          go_ret2
          exact .inl ⟨HF.out, rfl, HBW.out⟩
        · have hn0' : ¬ (0 : Int) < (nr : Int) := by omega
          cases R with
          | false =>
            have HF := Lib.hid (HNO.out (fun h => by cases h.2.2))
            go_wp2_with (go_at_call 21; (with_reducible refine CM'.out.mono ?_); rintro e w5 ⟨rfl, hb5⟩)
            go_ret2
            exact .inl ⟨HF.out, rfl, HBW.out.trans (hb5.mono HBW.out.size)⟩
          | true =>
            have HY : Hid (decAll bs = some (l.map Tv.te)) := Lib.hid (by
              unfold decAll
              rw [if_pos, HE1.out]
              rw [HE2.out, HE1.out]
              refine ⟨HSH.out.symm, List.eq_nil_of_length_eq_zero (by rw [HRL.out]; omega), ?_⟩
              have := HRR.out
              exact of_decide_eq_true this.symm)
            go_wp2_with (go_at_call 21; (with_reducible refine CM'.out.mono ?_); rintro e w5 ⟨rfl, hb5⟩)
            go_ret2
            refine .inr ⟨.slice A2 l.length c2, l, HY.out, by rw [HM.out]; first | done | rfl, HD.out.own.all hb5⟩
end Go.Proofs.YtcmlchicpmnhdaaGreatDoor.Man
/-
  Proved: appends onto a row of the call's own: the row behind it lies where it lay, or in a new block.
  Conditions: the lengths together are at most 2 to the 46th.
-/
namespace Go.Proofs.YtcmlchicpmnhdaaGreatDoor
open Go.RowKit
set_option linter.unusedVariables false
set_option linter.unusedSimpArgs false
variable {P : Program}

/-- Where the row behind an append lies. -/
def Lies (w : World) (v v' : Value) : Prop := v'.ownBlock = v.ownBlock ∨ ∀ b, v'.ownBlock = some b → w.heap.size ≤ b
theorem run_append_where (w : World) (base : Nat) (t ty e : TypeId) (z : Value) (size bytes : Nat) (ht : P.underlying t = some (.slice e)) (hinfo : (P.info? e).map (fun i => (i.zero, i.size, i.bytes)) = some (some z, size, bytes)) (hzs : z.cells.size = size) (hsz : 0 < size)
    (v : Value) (n : Nat) (xs : List Value) (hown : w.ownsRow base e size v n xs)
    (a : Addr) (m c : Nat) (news : List Value) (hl : news.length = m * size) (hnews : ∀ j u, news[j]? = some u → w.cell? (a.add j) = some u) (h1 : ∀ u ∈ news, u.oneCell' = true)
    (h63 : n + m ≤ maxLen) (hbytes : (n + m) * bytes ≤ 140737488355328) (hbase : base ≤ w.heap.size) :
    ∃ v' w', (Builtin.append_ #[t, t] ty #[v, .slice (some a) m c]).run P w = .ok v' w' ∧ w'.ownsRow base e size v' (n + m) (xs ++ news) ∧ w.grownBy w' v.ownBlock ∧ Lies w v v' := by
  obtain ⟨i, hi, hzz⟩ := Option.map_eq_some_iff.1 hinfo
  simp only [Prod.mk.injEq] at hzz
  obtain ⟨hz, hsize, hby⟩ := hzz
  obtain ⟨v', w', hr, h2, h3, _⟩ := run_append_own (P := P) w base t ty e i z size bytes ht hi hz hsize hby hzs hsz v n xs hown a m c news hl hnews h1 h63 hbytes hbase
  refine ⟨v', w', hr, h2, h3, ?_⟩
  rcases hown.2 with ⟨rfl, rfl⟩ | ⟨g, cap, cur, rfl, hbg, hg, hnc, hcm, hcs, htake⟩
  · have hown' : w.ownsRow w.heap.size e size (.slice none 0 0) 0 xs := ⟨hown.1, .inl ⟨rfl, rfl⟩⟩
    obtain ⟨v2, w2, hr2, h22, _, _⟩ := run_append_own (P := P) w w.heap.size t ty e i z size bytes ht hi hz hsize hby hzs hsz _ 0 xs hown' a m c news hl hnews h1 h63 hbytes (Nat.le_refl _)
    rw [hr] at hr2
    injection hr2 with e1 e2
    subst e1
    exact .inr fun b hb => (h22.lt b hb).1
  · by_cases hroom : n + m ≤ cap
    · have hfit : n * i.size + news.length ≤ cur.size := by rw [hsize, hl, hcs, ← Nat.add_mul]; exact Nat.mul_le_mul_right _ hroom
      have hr2 := run_append_room (P := P) w t ty e i ht hi g n cap cur hg a m c news (by rw [hsize]; exact hl) hnews h1 hroom hfit
      rw [hr] at hr2
      injection hr2 with e1 e2
      subst e1
      exact .inl rfl
    · have holds : ∀ j u, xs[j]? = some u → w.cell? ((⟨g, 0, none⟩ : Addr).add j) = some u := hown.cells (g := g) rfl
      obtain ⟨v2, w2, hr2, h22, _⟩ := run_append_arg_grows (P := P) w t ty e i z size bytes ht hi hz hsize hby hzs hsz ⟨g, 0, none⟩ n cap xs hown.1 holds a m c news hl hnews (by omega) h63 hbytes
      rw [hr] at hr2
      injection hr2 with e1 e2
      subst e1
      exact .inr fun b hb => (h22.lt b hb).1
theorem wp_append_where {o : Oper} {a : Act} {w : World} {K : Act → World → Prop} {Q : Exit → Act → World → Prop} (s x : Operand) (t : TypeId)
    (ho : o.op = .call { callee := .builtin .append, args := #[s, x], argTypes := #[t, t] })
    (base : Nat) (e : TypeId) (z : Value) (size bytes : Nat) (ht : P.underlying t = some (.slice e)) (hinfo : (P.info? e).map (fun i => (i.zero, i.size, i.bytes)) = some (some z, size, bytes)) (hzs : z.cells.size = size) (hsz : 0 < size)
    (v : Value) (n : Nat) (xs : List Value) (hs : a.eval s = v) (hown : w.ownsRow base e size v n xs)
    (ad : Addr) (m c : Nat) (news : List Value) (hx : a.eval x = .slice (some ad) m c) (hl : news.length = m * size) (hnews : ∀ j u, news[j]? = some u → w.cell? (ad.add j) = some u) (h1 : ∀ u ∈ news, u.oneCell' = true)
    (h63 : n + m ≤ maxLen) (hbytes : (n + m) * bytes ≤ 140737488355328) (hbase : base ≤ w.heap.size)
    (h : ∀ v' w', Hid (w'.ownsRow base e size v' (n + m) (xs ++ news)) → Hid (w.grownBy w' v.ownBlock) → Hid (Lies w v v') → K (a.put o.dst v') w') : o.wp P a w K Q := by
  obtain ⟨v', w', hr, h2, h3, h4⟩ := run_append_where (P := P) w base t o.type e z size bytes ht hinfo hzs hsz v n xs hown ad m c news hl hnews h1 h63 hbytes hbase
  unfold Oper.wp execOp
  simp only [ho, resolve, invoke, builtin, Sem.run_bind, Sem.run_pure, Result.andThen_ok, List.map_toArray, List.map_cons, List.map_nil, hs, hx, hr]
  exact h v' w' h2 h3 h4
theorem wpList_append_where {w : World} {ops : Array Oper} {rest : List Oper} {o : Oper} {a : Act} {Q : Exit → Act → World → Prop} (hgd : o.guard = none) (s x : Operand) (t : TypeId)
    (ho : o.op = .call { callee := .builtin .append, args := #[s, x], argTypes := #[t, t] })
    (base : Nat) (e : TypeId) (z : Value) (size bytes : Nat) (ht : P.underlying t = some (.slice e)) (hinfo : (P.info? e).map (fun i => (i.zero, i.size, i.bytes)) = some (some z, size, bytes)) (hzs : z.cells.size = size) (hsz : 0 < size)
    (v : Value) (n : Nat) (xs : List Value) (hs : a.eval s = v) (hown : w.ownsRow base e size v n xs)
    (ad : Addr) (m c : Nat) (news : List Value) (hx : a.eval x = .slice (some ad) m c) (hl : news.length = m * size) (hnews : ∀ j u, news[j]? = some u → w.cell? (ad.add j) = some u) (h1 : ∀ u ∈ news, u.oneCell' = true)
    (h63 : n + m ≤ maxLen) (hbytes : (n + m) * bytes ≤ 140737488355328) (hbase : base ≤ w.heap.size)
    (h : ∀ v' w', Hid (w'.ownsRow base e size v' (n + m) (xs ++ news)) → Hid (w.grownBy w' v.ownBlock) → Hid (Lies w v v') → wpList P ops Q rest (a.put o.dst v') w') : wpList P ops Q (o :: rest) a w :=
  wpList_plain hgd fun _ hK => wp_append_where s x t ho base e z size bytes ht hinfo hzs hsz v n xs hs hown ad m c news hx hl hnews h1 h63 hbytes hbase fun v' w' h2 h3 h4 => hK _ _ (h v' w' h2 h3 h4)
theorem step_append_where {ops : Array Oper} {o : Oper} {a : Act} {w : World} {K : Act → World → Prop} {Q : Exit → Act → World → Prop} {E : Prop} (hgd : o.guard = none) (s x : Operand) (t : TypeId)
    (ho : o.op = Op.call { callee := Callee.builtin Builtin.append, args := #[s, x], argTypes := #[t, t] })
    (base : Nat) (e : TypeId) (z : Value) (size bytes : Nat) (ht : P.underlying t = some (.slice e)) (hinfo : (P.info? e).map (fun i => (i.zero, i.size, i.bytes)) = some (some z, size, bytes)) (hzs : z.cells.size = size) (hsz : 0 < size)
    (v : Value) (n : Nat) (xs : List Value) (hs : a.eval s = v) (hown : w.ownsRow base e size v n xs)
    (ad : Addr) (m c : Nat) (news : List Value) (hx : a.eval x = .slice (some ad) m c) (hl : news.length = m * size) (hnews : ∀ j u, news[j]? = some u → w.cell? (ad.add j) = some u) (h1 : ∀ u ∈ news, u.oneCell' = true)
    (h63 : n + m ≤ maxLen) (hbytes : (n + m) * bytes ≤ 140737488355328) (hbase : base ≤ w.heap.size)
    (hK : ∀ v' w', Hid (w'.ownsRow base e size v' (n + m) (xs ++ news)) → Hid (w.grownBy w' v.ownBlock) → Hid (Lies w v v') → K (a.put o.dst v') w') :
    if Region.wanted o (yielded ops a.tmps) = true then Oper.wp P o a w K Q else E := by
  have hw : Region.wanted o (yielded ops a.tmps) = true := by simp [Region.wanted, hgd]
  rw [if_pos hw]
  exact wp_append_where s x t ho base e z size bytes ht hinfo hzs hsz v n xs hs hown ad m c news hx hl hnews h1 h63 hbytes hbase hK
/-- .. from any slice that reads as a list of one-cell values. -/
theorem run_append_from (w : World) (base : Nat) (t ty e : TypeId) (z : Value) (bytes : Nat) (ht : P.underlying t = some (.slice e)) (hinfo : (P.info? e).map (fun i => (i.zero, i.size, i.bytes)) = some (some z, 1, bytes)) (hzs : z.cells.size = 1)
    (v : Value) (n : Nat) (xs : List Value) (hown : w.ownsRow base e 1 v n xs)
    (B : Nat) (A : Option Addr) (m c : Nat) (news : List Value) (hr : Row w B A m news) (h1 : ∀ u ∈ news, u.oneCell' = true)
    (h63 : n + m ≤ maxLen) (hbytes : (n + m) * bytes ≤ 140737488355328) (hbase : base ≤ w.heap.size) :
    ∃ v' w', (Builtin.append_ #[t, t] ty #[v, .slice A m c]).run P w = .ok v' w' ∧ w'.ownsRow base e 1 v' (n + m) (xs ++ news) ∧ w.grownBy w' v.ownBlock ∧ Lies w v v' := by
  cases A with
  | some ad =>
    refine run_append_where w base t ty e z 1 bytes ht hinfo hzs (by decide) v n xs hown ad m c news (by rw [hr.1, Nat.mul_one]) ?_ h1 h63 hbytes hbase
    intro j u hu
    have hj : j < news.length := (List.getElem?_eq_some_iff.1 hu).1
    obtain ⟨b, o, e, _, hc⟩ := hr.2 (by rw [← hr.1]; omega)
    obtain rfl := Option.some.inj e
    have := hc j u hu
    unfold Addr.add
    split
    · rename_i h0; subst h0; exact this
    · exact this
  | none =>
    have h0 : m = 0 := by
      rcases Nat.eq_zero_or_pos m with h | h
      · exact h
      · obtain ⟨b, o, e, _⟩ := hr.2 h; cases e
    subst h0
    obtain rfl : news = [] := List.eq_nil_of_length_eq_zero hr.1
    obtain ⟨i, hi, _⟩ := Option.map_eq_some_iff.1 hinfo
    exact ⟨v, w, append_nothing w base t ty e i 1 ht hi v n xs hown c, by simpa using hown, World.grownBy.refl w _, .inl rfl⟩
theorem step_append_from {ops : Array Oper} {o : Oper} {a : Act} {w : World} {K : Act → World → Prop} {Q : Exit → Act → World → Prop} {E : Prop} (hgd : o.guard = none) (s x : Operand) (t : TypeId)
    (ho : o.op = Op.call { callee := Callee.builtin Builtin.append, args := #[s, x], argTypes := #[t, t] })
    (base : Nat) (e : TypeId) (z : Value) (bytes : Nat) (ht : P.underlying t = some (.slice e)) (hinfo : (P.info? e).map (fun i => (i.zero, i.size, i.bytes)) = some (some z, 1, bytes)) (hzs : z.cells.size = 1)
    (v : Value) (n : Nat) (xs : List Value) (hs : a.eval s = v) (hown : w.ownsRow base e 1 v n xs)
    (B : Nat) (A : Option Addr) (m c : Nat) (news : List Value) (hx : a.eval x = .slice A m c) (hr : Row w B A m news) (h1 : ∀ u ∈ news, u.oneCell' = true)
    (h63 : n + m ≤ maxLen) (hbytes : (n + m) * bytes ≤ 140737488355328) (hbase : base ≤ w.heap.size)
    (hK : ∀ v' w', Hid (w'.ownsRow base e 1 v' (n + m) (xs ++ news)) → Hid (w.grownBy w' v.ownBlock) → Hid (Lies w v v') → K (a.put o.dst v') w') :
    if Region.wanted o (yielded ops a.tmps) = true then Oper.wp P o a w K Q else E := by
  have hw : Region.wanted o (yielded ops a.tmps) = true := by simp [Region.wanted, hgd]
  rw [if_pos hw]
  obtain ⟨v', w', hr', h2, h3, h4⟩ := run_append_from (P := P) w base t o.type e z bytes ht hinfo hzs v n xs hown B A m c news hr h1 h63 hbytes hbase
  unfold Oper.wp execOp
  simp only [ho, resolve, invoke, builtin, Sem.run_bind, Sem.run_pure, Result.andThen_ok, List.map_toArray, List.map_cons, List.map_nil, hs, hx, hr']
  exact hK v' w' h2 h3 h4
end Go.Proofs.YtcmlchicpmnhdaaGreatDoor
