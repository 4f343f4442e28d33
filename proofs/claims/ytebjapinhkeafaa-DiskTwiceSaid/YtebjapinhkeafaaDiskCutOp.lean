/-
  Proved: what Cut of law 5 (an operation that is not too great) and Cut of law 1 (a text that is not too long) return.
-/
import Derived.Test.YtebjapinhkeafaaDiskOpArg
import Derived.Test.YtebjapinhkeafaaShort
import Derived.Deep.DeepCutAuto
import Derived.Deep.RegionLaw
namespace Go.Proofs.Ytebjapinhkeafaa.Disk
open Go.RowKit Go.Maps
set_option linter.unusedVariables false
set_option linter.unusedSimpArgs false

theorem cutText_any (s : ByteArray) (m : Nat) (w : World) (hs : s.size ≤ maxLen) (hm : m ≤ maxLen) :
    Calls Try.prog 43 #[.string s, .int .i64 (m : Int)] w fun e w' => e = .returned (.string (if m < s.size then s.extract 0 m else s)) ∧ w' = w := by
  unfold maxLen at hs hm
  by_cases h : m < s.size
  · rw [if_pos h]
    have h' : (m : Int) < (s.size : Int) := by omega
    go_enter Try.func43, Try.ntmps43
    go_wp2
    go_ret
    exact ⟨rfl, rfl⟩
  · rw [if_neg h]
    have h' : ¬ (m : Int) < (s.size : Int) := by omega
    go_enter Try.func43, Try.ntmps43
    go_wp2
    go_ret
    exact ⟨rfl, rfl⟩
theorem zeroOp (w : World) : (zeroValue 50).run Try.prog w = .ok (.agg #[.int .i64 0, .int .i64 0, .int .i64 0, .string ⟨#[]⟩, .string ⟨#[]⟩, .slice none 0 0, .slice none 0 0]) w := by kernel_rfl
def cutText (s : ByteArray) (m : Nat) : ByteArray := if m < s.size then s.extract 0 m else s
theorem cutText_size (s : ByteArray) (m : Nat) (hs : s.size ≤ maxLen) : (cutText s m).size ≤ maxLen := by
  unfold cutText
  split
  · rw [ByteArray.size_extract]
    omega
  · exact hs
theorem three_put {w : World} {g : Nat} {t : TypeId} {v0 v1 v2 v3 v4 v5 v6 : Value} (h : Hid (Blk w g t #[v0, v1, v2, v3, v4, v5, v6])) (a b c : Value) :
    Hid (Blk (((w.setCell ⟨g, 3, none⟩ a).setCell ⟨g, 4, none⟩ b).setCell ⟨g, 5, none⟩ c).drew g t #[v0, v1, v2, a, b, c, v6]) ∧ Hid (w.grownBy (((w.setCell ⟨g, 3, none⟩ a).setCell ⟨g, 4, none⟩ b).setCell ⟨g, 5, none⟩ c).drew (some g)) :=
  ⟨((h.out.put 3 a).put 4 b).put 5 c, only_drewN (only_trans (only_trans (only_setCell w ⟨g, 3, none⟩ a) (only_setCell _ ⟨g, 4, none⟩ b)) (only_setCell _ ⟨g, 5, none⟩ c)) 1⟩
/-- What 'Cut' leaves of an operation. -/
def OpV.cut (x : OpV) : Array Value := #[.int .i64 x.k, .int .i64 x.n, .int .i64 x.m, .string (cutText x.name 40), .string (cutText x.to 40), .slice x.A (min x.l 300) x.c, .slice x.P (min x.pl 40) x.pc]
set_option maxRecDepth 100000 in
set_option maxHeartbeats 8000000 in
theorem cutOp_any (x : OpV) (w w0 : World) (hx : x.Ok w0) :
    Calls Try.prog 29 #[.agg x.vals] w fun e w' => e = .returned (.agg x.cut) ∧ Below w.heap.size w w' := by
  obtain ⟨k, n, m, s, u, A, l, c, bs, P, pl, pc, keep⟩ := x
  obtain ⟨_, _, _, hs, hu, hr, hlc, hcm, hp, hplc, hpcm⟩ := hx
  have hz := zeroOp
  have C1 : Hid (∀ w, Calls Try.prog 43 #[.string s, .int .i64 40] w fun e w' => e = .returned (.string (cutText s 40)) ∧ w' = w) := fun w => cutText_any s 40 w hs (by unfold maxLen; omega)
  have C2 : Hid (∀ w, Calls Try.prog 43 #[.string u, .int .i64 40] w fun e w' => e = .returned (.string (cutText u 40)) ∧ w' = w) := fun w => cutText_any u 40 w hu (by unfold maxLen; omega)
  have C3 : Hid (∀ w, Calls Try.prog 11 #[.slice A l c, .int .i64 300] w fun e w' => e = .returned (.slice A (min l 300) c) ∧ w = w') := fun w => Com.short_any A l c 300 w hlc hcm
  have hP0 : 40 < pl → ∃ b o, P = some ⟨b, o, none⟩ := fun h => by
    obtain ⟨b, o, e, _⟩ := hp.2 (by dsimp only at *; omega)
    exact ⟨b, o, e⟩
  have hpl : pl ≤ 9223372036854775807 := by unfold maxLen at hpcm; dsimp only at *; omega
  have hpc : pc ≤ 9223372036854775807 := by unfold maxLen at hpcm; dsimp only at *; omega
  dsimp only at hs hu hr hlc hcm hp hplc hpcm
  clear hr hp hcm hpcm hs hu hlc
  show Calls _ _ #[.agg #[.int .i64 k, .int .i64 n, .int .i64 m, .string s, .string u, .slice A l c, .slice P pl pc]] _ _
  go_enter Try.func29, Try.ntmps29
  go_wp2_with fail
  obtain ⟨w2, hw2⟩ : ∃ w2, w2 = (w.alloc (.cells #[.int .i64 k, .int .i64 n, .int .i64 m, .string s, .string u, .slice A l c, .slice P pl pc] 50)).alloc (.cells #[.int .i64 0, .int .i64 0, .int .i64 0, .string ⟨#[]⟩, .string ⟨#[]⟩, .slice none 0 0, .slice none 0 0] 50) := ⟨_, rfl⟩
  have X1 : Blk w2 w.heap.size 50 #[.int .i64 k, .int .i64 n, .int .i64 m, .string s, .string u, .slice A l c, .slice P pl pc] := by
    rw [hw2]
    exact (Below.heap_alloc _ _ _ (by simp)).trans (Blk.new _ _ _)
  have X2 : Blk w2 (w.heap.size + 1) 50 #[.int .i64 0, .int .i64 0, .int .i64 0, .string ⟨#[]⟩, .string ⟨#[]⟩, .slice none 0 0, .slice none 0 0] := by
    rw [hw2]
    have := Blk.new (w.alloc (.cells #[.int .i64 k, .int .i64 n, .int .i64 m, .string s, .string u, .slice A l c, .slice P pl pc] 50)) 50 #[.int .i64 0, .int .i64 0, .int .i64 0, .string ⟨#[]⟩, .string ⟨#[]⟩, .slice none 0 0, .slice none 0 0]
    simpa using this
  have B2 : Hid (Below w.heap.size w w2) := by rw [hw2]; exact ((Below.refl _ _).alloc (Nat.le_refl _) _).alloc (by simp) _
  rw [← hw2]
  clear hw2
  have x0 := X1.cell 0
  have x1 := X1.cell 1
  have x2 := X1.cell 2
  have x3 := X1.cell 3
  have x4 := X1.cell 4
  have x5 := X1.cell 5
  have x6 := X1.cell 6
  have f3 := X1.free 3
  have f4 := X1.free 4
  have f5 := X1.free 5
  have f6 := X1.free 6
  have HX1 := Lib.hid X1
  have HX2 := Lib.hid X2
  clear X1 X2
  have hg1 : w.heap.size < w2.heap.size := blk_lt' HX1.out
  go_cut [5] (fun v w' => v = .string (cutText s 40) ∧ Hid (Blk w' w.heap.size 50 #[.int .i64 k, .int .i64 n, .int .i64 m, .string (cutText s 40), .string (cutText u 40), .slice A (min l 300) c, .slice P pl pc]) ∧ Hid (w2.grownBy w' (some w.heap.size)))
  case first =>
    go_region_law (first
      | (go_simp; go_at_call 43; with_reducible refine (C1.out _).mono ?_; rintro e w' ⟨rfl, rfl⟩)
      | (go_simp; go_at_call 43; with_reducible refine (C2.out _).mono ?_; rintro e w' ⟨rfl, rfl⟩)
      | (go_simp; go_at_call 11; with_reducible refine (C3.out _).mono ?_; rintro e w' ⟨rfl, rfl⟩))
    all_goals
      go_wp2_with fail
      go_meet
      case rel =>
        exact ⟨rfl, three_put HX1 _ _ _⟩
  case rest =>
    obtain ⟨rfl, HX, HG⟩ := hcut
    have B3 : Hid (Below w.heap.size w wc) := below_only B2.out HG.out (Nat.le_refl _) B2.out.size
    have X2 := blk_kept HX2.out HG.out (by simp)
    have HX2' := Lib.hid X2
    have z0 := HX.out.cell 0
    have z1 := HX.out.cell 1
    have z2 := HX.out.cell 2
    have z3 := HX.out.cell 3
    have z4 := HX.out.cell 4
    have z5 := HX.out.cell 5
    have z6 := HX.out.cell 6
    have g6 := HX.out.free 6
    clear x0 x1 x2 x3 x4 x5 x6 f3 f4 f5 f6 HX2 HG HX1 B2 C1 C2 C3
    have hsz : (Try.prog.info? 50).map (·.size) = some 7 := by kernel_rfl
    have HSZ := Lib.hid hsz
    clear hsz
    obtain ⟨res, hres⟩ : ∃ res, res = OpV.cut ⟨k, n, m, s, u, A, l, c, bs, P, pl, pc, keep⟩ := ⟨_, rfl⟩
    have h1 : res.all (·.oneCell') = true := by rw [hres]; simp [OpV.cut, Value.oneCell']
    have h7 : res.size = 7 := by rw [hres]; rfl
    have H1 := Lib.hid h1
    have H7 := Lib.hid h7
    have HRES := Lib.hid hres
    clear h1 h7
    by_cases hpk : 40 < pl
    · obtain ⟨pb, po, rfl⟩ := hP0 hpk
      have hpk' : (40 : Int) < (pl : Int) := by omega
      have hmin : min pl 40 = 40 := by omega
      go_upto_region 4 with fail
      obtain ⟨w5, hw5⟩ : ∃ w5, w5 = wc.setCell ⟨w.heap.size, 6, none⟩ (.slice (some ⟨pb, po, none⟩) 40 pc) := ⟨_, rfl⟩
      have X5 : Hid (Blk w5 w.heap.size 50 res) := by
        rw [hw5, hres, OpV.cut]
        dsimp only
        rw [hmin]
        exact HX.out.put 6 _
      have Y5 : Hid (Blk w5 (w.heap.size + 1) 50 #[.int .i64 0, .int .i64 0, .int .i64 0, .string ⟨#[]⟩, .string ⟨#[]⟩, .slice none 0 0, .slice none 0 0]) := by
        rw [hw5]
        exact blk_kept HX2'.out (only_setCell _ _ _) (by simp)
      have B5 : Hid (Below w.heap.size w w5) := by
        rw [hw5]
        exact below_only B3.out (only_setCell _ _ _) (Nat.le_refl _) B3.out.size
      rw [← hw5]
      clear hw5 hres z0 z1 z2 z3 z4 z5 z6 g6 HX HX2' B3
      go_wp2_with (first
        | (refine wpList_load_row rfl 50 (.tmp 1) rfl w.heap.size rfl 50 res (0, 0) _ X5.out Try.underlying50 rfl (by rw [H7.out]; exact HSZ.out) ?_)
        | (refine wpList_store_blk rfl 50 (.tmp 2) (.tmp 23) rfl (w.heap.size + 1) res rfl rfl 50 _ Y5.out (by rw [H7.out]; exact HSZ.out) (by rw [H7.out]; rfl) H1.out ?_
           intro w6 G7 G8))
      refine bodyPost_ret (v := .agg res) (results_cell_row rfl _ _ (w.heap.size + 1) 50 _ (0, 0) _ rfl G7.out Try.underlying50 rfl (by rw [H7.out]; exact HSZ.out)) rfl ?_
      exact ⟨by rw [HRES.out], below_only B5.out (only_hid G8) (by omega) B5.out.size⟩
    · have hpk' : ¬ (40 : Int) < (pl : Int) := by omega
      have hmin : min pl 40 = pl := by omega
      go_upto_region 4 with fail
      have X5 : Hid (Blk wc w.heap.size 50 res) := by
        rw [hres, OpV.cut]
        dsimp only
        rw [hmin]
        exact HX.out
      clear hres z0 z1 z2 z3 z4 z5 z6 g6 HX
      go_wp2_with (first
        | (refine wpList_load_row rfl 50 (.tmp 1) rfl w.heap.size rfl 50 res (0, 0) _ X5.out Try.underlying50 rfl (by rw [H7.out]; exact HSZ.out) ?_)
        | (refine wpList_store_blk rfl 50 (.tmp 2) (.tmp 23) rfl (w.heap.size + 1) res rfl rfl 50 _ HX2'.out (by rw [H7.out]; exact HSZ.out) (by rw [H7.out]; rfl) H1.out ?_
           intro w6 G7 G8))
      refine bodyPost_ret (v := .agg res) (results_cell_row rfl _ _ (w.heap.size + 1) 50 _ (0, 0) _ rfl G7.out Try.underlying50 rfl (by rw [H7.out]; exact HSZ.out)) rfl ?_
      exact ⟨by rw [HRES.out], below_only B3.out (only_hid G8) (by omega) B3.out.size⟩
end Go.Proofs.Ytebjapinhkeafaa.Disk
