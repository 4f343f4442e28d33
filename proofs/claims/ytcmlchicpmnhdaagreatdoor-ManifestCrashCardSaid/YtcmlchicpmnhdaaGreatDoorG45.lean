/-
  Texts one behind the other: ManCut.
-/
import Derived.Test.YtcmlchicpmnhdaaGreatDoorG11
/-
  Proved: what law 10's Cut and CutAll return: tenants of at most 62 segments, at most eight of them.
-/
namespace Go.Proofs.YtcmlchicpmnhdaaGreatDoor.Man
open Go.RowKit Go.Proofs.YtcmlchicpmnhdaaGreatDoor.Rec Go.Proofs.YtcmlchicpmnhdaaGreatDoor.Ten
set_option linter.unusedVariables false
set_option linter.unusedSimpArgs false

def cutTe (t : Te) : Te := { t with segs := t.segs.take 62 }
def cutTv (x : Tv) : Tv := ⟨cutTe x.te, x.A, x.c⟩
theorem cut_len (x : Tv) : (cutTv x).te.segs.length ≤ 62 := by show (x.te.segs.take 62).length ≤ 62; rw [List.length_take]; omega
theorem cut_short {x : Tv} (h : x.te.segs.length ≤ 62) : cutTv x = x := by
  unfold cutTv cutTe
  rw [List.take_of_length_le h]
theorem cut_in {w : World} {B : Nat} {x : Tv} (h : x.In w B) : (cutTv x).In w B := by
  by_cases hl : x.te.segs.length ≤ 62
  · rw [cut_short hl]; exact h
  · have hlen : (cutTv x).te.segs.length = 62 := by show (x.te.segs.take 62).length = 62; rw [List.length_take]; omega
    refine ⟨?_, ?_, h.most⟩
    · rw [hlen]
      have := h.row.take (k := 62) (by omega)
      have e : (ivs x.te.segs).take 62 = ivs (cutTv x).te.segs := by unfold ivs; rw [← List.map_take]; rfl
      rw [e] at this
      exact this
    · rw [hlen]; have := h.cap; show 62 ≤ x.c; omega
theorem cut_ok {x : Tv} (h : x.te.Ok) : (cutTv x).te.Ok := ⟨h.id, h.epoch, h.quota, h.next, h.nextSeg, fun i => by
  show _ ≤ (x.te.segs.take 62).getD i 0 ∧ (x.te.segs.take 62).getD i 0 ≤ _
  have := h.segs i
  rw [List.getD_eq_getElem?_getD] at this ⊢
  rw [List.getElem?_take]
  split
  · exact this
  · decide⟩
set_option maxRecDepth 100000 in
set_option maxHeartbeats 8000000 in
theorem mancut_any (x : Tv) (w : World) (B : Nat) (hin : x.In w B) :
    Calls Tryz.prog 8 #[.agg x.vals] w fun e w' => e = .returned (.agg (cutTv x).vals) ∧ Below w.heap.size w w' := by
  obtain ⟨wa, hwa⟩ : ∃ wa, wa = w.alloc (.cells x.vals 35) := ⟨_, rfl⟩
  have XA : TenAt wa w.heap.size x := by rw [hwa]; exact ten_new w x
  have HBA : Below w.heap.size w wa := by rw [hwa]; exact below_alloc w _
  obtain ⟨w0, hw0⟩ : ∃ w0, w0 = wa.alloc (.cells #[.int .u32 0, .int .u64 0, .int .i64 0, .int .u64 0, .int .i64 0, .slice none 0 0] 35) := ⟨_, rfl⟩
  have HB0 : Hid (Below w.heap.size w w0) := by rw [hw0]; exact HBA.alloc HBA.size _
  have Z0 : Hid (TenAt w0 wa.heap.size zeroTv) := by rw [hw0]; exact ten_zero wa
  have X0 : Hid (TenAt w0 w.heap.size x) := by rw [hw0]; exact blk_below XA (below_alloc wa _) XA.lt
  obtain ⟨tb, htb⟩ : ∃ tb, tb = w.heap.size := ⟨_, rfl⟩
  obtain ⟨rb, hrb⟩ : ∃ rb, rb = w.heap.size + 1 := ⟨_, rfl⟩
  have hsz : wa.heap.size = rb := by rw [hwa, hrb]; simp
  rw [hsz] at Z0
  rw [← htb] at X0
  have HTB := Lib.hid htb
  have HRB := Lib.hid hrb
  have hne : ¬ tb = rb := by omega
  have HNE := Lib.hid hne
  have y5 := X0.out.cells.2.2.2.2.2
  have f5 := Blk.free X0.out 5
  obtain ⟨m, hm⟩ : ∃ m, m = x.te.segs.length := ⟨_, rfl⟩
  rw [← hm] at y5
  have HW0 : Hid (w0 = (w.alloc (.cells x.vals 35)).alloc (.cells #[.int .u32 0, .int .u64 0, .int .i64 0, .int .u64 0, .int .i64 0, .slice none 0 0] 35)) := Lib.hid (by rw [hw0, hwa])
  have hcap := hin.cap
  have hmost : x.c ≤ 9223372036854775807 := by have := hin.most; unfold maxLen at this; exact this
  by_cases h62 : m ≤ 62
  · have h62' : ¬ (62 : Int) < (m : Int) := by omega
    have HX : Hid (cutTv x = x) := Lib.hid (cut_short (by rw [← hm]; exact h62))
    clear hwa hw0 htb hrb hm XA HBA hsz hne hin
    go_enter Tryz.func8, Tryz.ntmps8
    go_upto_region 1 with fail
    rw [← HW0.out, ← HRB.out, ← HTB.out]
    go_wp2_with (first
      | (refine load_ten X0.out rfl (.tmp 1) rfl rfl ?_)
      | (refine store_ten Z0.out rfl rfl (.tmp 2) (.tmp 11) rfl rfl x rfl rfl ?_; intro w2 X2 G2))
    refine bodyPost_ret (result_ten X2.out rfl _ rfl) rfl ?_
    rw [HX.out]
    exact ⟨rfl, below_only HB0.out G2.out (by have := HRB.out; omega) HB0.out.size⟩
  · have h62' : (62 : Int) < (m : Int) := by omega
    obtain ⟨b, o, hA, _, _⟩ := hin.row.2 (by omega)
    rw [hA] at y5
    have hmc : m ≤ x.c := by rw [hm]; exact hcap
    have h62c : 62 ≤ x.c := by omega
    have hlen : (x.te.segs.take 62).length = 62 := by rw [List.length_take]; omega
    have X1 : Hid (TenAt (w0.setCell ⟨tb, 5, none⟩ (.slice (some ⟨b, o, none⟩) 62 x.c)) tb (cutTv x)) := Lib.hid (by
      have := ten_put (A' := some ⟨b, o, none⟩) (c' := x.c) X0.out hlen
      unfold cutTv cutTe
      rw [hA]
      exact this)
    have Z1 : Hid (TenAt (w0.setCell ⟨tb, 5, none⟩ (.slice (some ⟨b, o, none⟩) 62 x.c)) rb zeroTv) := Lib.hid (blk_kept Z0.out (only_setCell w0 ⟨tb, 5, none⟩ _) (by simp; omega))
    have HB1 : Hid (Below w.heap.size w (w0.setCell ⟨tb, 5, none⟩ (.slice (some ⟨b, o, none⟩) 62 x.c))) := Lib.hid (below_only HB0.out (only_setCell w0 ⟨tb, 5, none⟩ _) (by show w.heap.size ≤ tb; omega) HB0.out.size)
    clear hwa hw0 htb hrb hm XA HBA hsz hne hin hlen hA
    go_enter Tryz.func8, Tryz.ntmps8
    go_upto_region 1 with fail
    rw [← HW0.out, ← HRB.out, ← HTB.out]
    go_upto_region 3 with fail
    go_wp2_with (first
      | (refine load_ten X1.out rfl (.tmp 1) rfl rfl ?_)
      | (refine store_ten Z1.out rfl rfl (.tmp 2) (.tmp 11) rfl rfl (cutTv x) rfl rfl ?_; intro w2 X2 G2))
    refine bodyPost_ret (result_ten X2.out rfl _ rfl) rfl ?_
    exact ⟨rfl, below_only HB1.out G2.out (by have := HRB.out; omega) HB1.out.size⟩
/-- What CutAll returns. -/
def CutTo (l : List Tv) (w : World) (e : Ending) (w' : World) : Prop := ∃ v, e = .returned v ∧ Ts w w' v ((l.take 8).map cutTv)
end Go.Proofs.YtcmlchicpmnhdaaGreatDoor.Man
