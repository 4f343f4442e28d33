/-
  Proved: what Good of law 6 returns: records that may be, none too long, not too many.
  Conditions: the slice reads as records.
-/
import Derived.Test.YtjpgfdpgjfmnoaaDoorScanRecs
namespace Go.Proofs.YtjpgfdpgjfmnoaaDoor.Rec
open Go.RowKit
set_option linter.unusedVariables false
set_option linter.unusedSimpArgs false

/-- Records so far: a row of the call's own. -/
structure Rs (w0 w : World) (v : Value) (l : List Rc) : Prop where
  row : w.ownsRow w0.heap.size 32 6 v l.length (rflat l)
  below : Below w0.heap.size w0 w
theorem Rs.nil (w : World) : Rs w w (.slice none 0 0) [] := ⟨World.ownsRow_nil _ _ _ _, Below.refl _ _⟩
theorem Rs.all {w0 w w' : World} {v : Value} {l : List Rc} (h : Rs w0 w v l) (hb : Below w.heap.size w w') : Rs w0 w' v l :=
  ⟨h.row.kept (row := none) ⟨hb.os, hb.tape, hb.output, hb.size, fun i hi _ => hb.block i hi⟩ (Classical.em _), h.below.trans (hb.mono h.below.size)⟩
theorem rec_zero : (Tryd.prog.info? 32).map (fun i => (i.zero, i.size, i.bytes)) = some (some (.agg #[.int .i64 0, .int .u32 0, .int .u64 0, .int .u64 0, .int .u64 0, .string ⟨#[]⟩]), 6, 56) := by kernel_rfl
theorem slice_rec (x : Rc) : Tryd.prog.builtSlice 32 1 [(0, .agg x.vals)] = some x.vals := by kernel_rfl
theorem rec_cells1 (w : World) (t : TypeId) (fr : Nat × Nat) (x : Rc) : ∀ j u, x.vals.toList[j]? = some u → (w.alloc (.cells x.vals t fr)).cell? ⟨w.heap.size, j, none⟩ = some u := by
  intro j u hu
  rw [cell_of_row _ w.heap.size j x.vals t fr (heap_alloc_new w _), ← Array.getElem?_toList]
  exact hu
section
variable {w0 w : World} {v : Value} {l : List Rc} {ops : Array Oper} {rest : List Oper} {o : Oper} {a : Act} {Q : Exit → Act → World → Prop}
theorem rs_append (h : Rs w0 w v l) (hgd : o.guard = none) (s y : Operand) (ho : o.op = .call { callee := .builtin .append, args := #[s, y], argTypes := #[22, 22] }) (hs : a.eval s = v)
    (g c : Nat) (x : Rc) (hy : a.eval y = .slice (some ⟨g, 0, none⟩) 1 c) (hq : ∀ j u, x.vals.toList[j]? = some u → w.cell? ⟨g, j, none⟩ = some u) (hl : l.length ≤ 1000000)
    (k : ∀ v' w', Hid (Rs w0 w' v' (l ++ [x])) → wpList Tryd.prog ops Q rest (a.put o.dst v') w') : wpList Tryd.prog ops Q (o :: rest) a w := by
  obtain ⟨i, hii, hzz⟩ := Option.map_eq_some_iff.1 rec_zero
  simp only [Prod.mk.injEq] at hzz
  obtain ⟨hz0, hs1, hb1⟩ := hzz
  refine wpList_append_own (w := w) hgd s y 22 ho w0.heap.size 32 i _ 6 56 Tryd.underlying22 hii hz0 hs1 hb1 rfl (by decide) v l.length (rflat l) hs h.row ⟨g, 0, none⟩ 1 c x.vals.toList hy (rcells_length x) ?_ (rcells_one x) (by unfold maxLen; omega) ?_ h.below.size ?_
  · intro j u hu
    have := hq j u hu
    rw [Addr.add_lit, Nat.zero_add]
    exact this
  · omega
  · intro v' w' h1 h2 _
    refine k v' w' ⟨?_, own_below h.row h.below (Nat.le_refl _) h.below.size h2⟩
    rw [rflat_snoc] at h1
    rw [List.length_append]
    exact h1
theorem build_oneRec (hg : o.guard = none) (y : Operand) (ho : o.op = .buildSlice 22 1 #[(0, y)]) (d : Option Tmp) (hd : o.dst = d) (x : Rc) (hy : a.eval y = .agg x.vals)
    (k : wpList Tryd.prog ops Q rest (a.put d (.slice (some ⟨w.heap.size, 0, none⟩) 1 1)) (w.alloc (.cells x.vals 32))) : wpList Tryd.prog ops Q (o :: rest) a w :=
  build_one hg 22 32 y ho d hd Tryd.underlying22 (.agg x.vals) hy x.vals (slice_rec x) k
end
/-- Records that Good hands on. -/
def Rc.Good (x : Rc) : Prop := x.May ∧ x.Fits ∧ x.body.length ≤ 200
theorem rs_store {w0 w w' : World} {t : TypeId} {v : Value} {l : List Rc} {cs : Array Value} (h : Rs w0 w v l) (hg : (w.alloc (.cells cs t)).grownBy w' (some w.heap.size)) : Hid (Rs w0 w' v l) := by
  have hb : Below w.heap.size w w' := below_only (below_alloc w (.cells cs t)) hg (Nat.le_refl _) (by simp)
  exact h.all hb
set_option maxRecDepth 100000 in
set_option maxHeartbeats 8000000 in
theorem good_any (A : Option Addr) (n c m : Nat) (l : List Rc) (w : World) (hR : Row w w.heap.size A (n * 6) (rflat l)) (hl : l.length = n) (hok : ∀ x ∈ l, x.Ok) (hnc : n ≤ c) (hc : c ≤ maxLen) (hm : m ≤ 100) :
    Calls Tryd.prog 8 #[.slice A n c, .int .i64 (m : Int)] w fun e w' => ∃ v, e = .returned v ∧ ∃ g, Rs w w' v g ∧ g.length ≤ m ∧ ∀ x ∈ g, x.Good := by
  have hcm : c ≤ 9223372036854775807 := by unfold maxLen at hc; exact hc
  have HR := Lib.hid hR
  have HL := Lib.hid hl
  have HOK := Lib.hid hok
  have hz := zeroRec
  clear hR hc hl hok
  go_enter Tryd.func8, Tryd.ntmps8
  go_wp2_with fail
  go_loopw [5, 6] (fun v i wr => ∃ (p : Nat) (g : List Rc), i = .int .i64 (p : Int) ∧ p ≤ n ∧ g.length ≤ m ∧ Hid (Rs w wr v g) ∧ Hid (∀ x ∈ g, x.Good)) (fun _ i _ => n - (intOf i).toNat)
  case atStart => exact ⟨0, [], rfl, Nat.zero_le _, Nat.zero_le _, Rs.nil w, fun x h => by simp at h⟩
  case round =>
    obtain ⟨p, g, rfl, hp, hgm, HS, HG⟩ := hrel
    obtain ⟨A2, c2, rfl, hgc, hc2, _⟩ := own_row HS.out.row
    by_cases hlt : p < n
    · by_cases hgl : g.length < m
      · obtain ⟨b, o, rfl, hb, _⟩ := HR.out.2 (by omega)
        obtain ⟨x, hx⟩ : ∃ x, l[p]? = some x := ⟨l[p]'(by rw [HL.out]; exact hlt), List.getElem?_eq_getElem _⟩
        have hxok : x.Ok := HOK.out x (List.mem_of_getElem? hx)
        have HIT : Hid (wr.rangeAt b (o + p * 6) x.vals.toList) := rec_item (HR.out.below HS.out.below) p x hx
        have CC := Lib.hid (cut_any x 200 wr hxok.body (by decide))
        obtain ⟨y, hy⟩ : ∃ y, y = x.cut 200 := ⟨_, rfl⟩
        have hyl : y.body.length ≤ 200 := by rw [hy]; exact cut_small x 200
        have hyf : y.Fits := by rw [hy]; exact (hxok.cut 200 (by decide)).fits
        rw [← hy] at CC
        have HYF := Lib.hid hyf
        have CM : Hid (∀ W, Calls Tryd.prog 20 #[.agg y.vals] W fun e w' => e = .returned (.bool y.may) ∧ Below W.heap.size W w') := fun W => refmay_any y W (by unfold maxLen; omega)
        have hgl' : (g.length : Int) < (m : Int) := by omega
        clear hx hxok hy hyf
        go_upto_region 6 with (first
          | (refine load_recM HIT.out rfl (.tmp 22) rfl rfl ?_)
          | (go_at_call 19; refine CC.out.mono ?_; rintro e w2 ⟨rfl, hb2⟩; have HS2 := Lib.hid (HS.out.all hb2); clear hb2)
          | (refine store_recN (zero_new w2) rfl rfl (.tmp 7) (.tmp 24) rfl rfl y rfl rfl ?_; intro w3 X3 G3))
        have HS3 := rs_store HS2.out G3.out
        clear G3
        by_cases hmay : y.May
        · have em := may_true hmay
          have HM := Lib.hid hmay
          clear hmay
          rw [em] at CM
          have h3 := X3.out.lt
          go_upto_region 7 with (first
            | (refine load_rec X3.out rfl (.tmp 7) rfl rfl ?_)
            | (go_at_call 20; refine (CM.out _).mono ?_; rintro e w4 ⟨rfl, hb4⟩; have X4 := Lib.hid (X3.out.below hb4 h3); have HS4 := Lib.hid (HS3.out.all hb4); clear hb4))
          have HS5 := Lib.hid (HS4.out.all (below_alloc w4 (.cells y.vals 32)))
          have HONE := Lib.hid (rec_cells1 w4 32 (0, 0) y)
          have hl6 : g.length ≤ 1000000 := by omega
          go_wp2_with (first
            | (refine load_rec X4.out rfl (.tmp 7) rfl rfl ?_)
            | (refine build_oneRec rfl (.tmp 28) rfl (some 29) rfl y rfl ?_)
            | (at_builtin; refine rs_append HS5.out rfl (.tmp 27) (.tmp 29) rfl rfl w4.heap.size 1 y rfl HONE.out hl6 ?_; intro v6 w6 HS6))
          go_roundw
          case rel =>
            refine ⟨p + 1, g ++ [y], by go_num, by omega, by rw [List.length_append]; show g.length + 1 ≤ m; omega, HS6, fun z hz => ?_⟩
            rcases List.mem_append.1 hz with hz | hz
            · exact HG.out z hz
            · obtain rfl := List.mem_singleton.1 hz
              exact ⟨HM.out, HYF.out, hyl⟩
          case measure => (simp [intOf]; omega)
        · have em := may_false hmay
          clear hmay
          rw [em] at CM
          go_wp2_with (first
            | (refine load_rec X3.out rfl (.tmp 7) rfl rfl ?_)
            | (go_at_call 20; refine (CM.out _).mono ?_; rintro e w4 ⟨rfl, hb4⟩; have HS4 := Lib.hid (HS3.out.all hb4); clear hb4))
          go_roundw
          case rel => exact ⟨p + 1, g, by go_num, by omega, hgm, HS4, HG⟩
          case measure => (simp [intOf]; omega)
      · have hgl' : ¬ (g.length : Int) < (m : Int) := by omega
        go_wp2_with fail
        go_ret
        exact ⟨_, rfl, g, HS.out, hgm, HG.out⟩
    · obtain rfl : p = n := by omega
      go_wp2_with fail
      go_ret
      exact ⟨_, rfl, g, HS.out, hgm, HG.out⟩
end Go.Proofs.YtjpgfdpgjfmnoaaDoor.Rec
