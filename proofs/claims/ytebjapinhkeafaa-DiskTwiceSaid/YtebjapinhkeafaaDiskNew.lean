/-
  Proved: what New, newFile, apply, begin and the plain getters of package disk do.
-/
import Derived.Test.YtebjapinhkeafaaDiskLeaf
import Derived.Test.YtebjapinhkeafaaAgg
namespace Go.Proofs.Ytebjapinhkeafaa.Disk
open Go.RowKit Go.Maps
set_option linter.unusedVariables false
set_option linter.unusedSimpArgs false

theorem zeroFS (w : World) : (zeroValue 58).run Try.prog w = .ok (.agg #[.int .i64 0, .map none, .map none, .slice none 0 0, .int .i64 0, .int .i64 0, .bool false, .int .i64 0]) w := by kernel_rfl
theorem zeroFile (w : World) : (zeroValue 67).run Try.prog w = .ok (.agg #[.slice none 0 0, .int .i64 0, .map none]) w := by kernel_rfl
theorem zeroChg (w : World) : (zeroValue 64).run Try.prog w = .ok (.agg #[.string ⟨#[]⟩, .string ⟨#[]⟩, .pointer none]) w := by kernel_rfl

theorem newFile_any (A : Option Addr) (n c : Nat) (w : World) :
    Calls Try.prog 34 #[.slice A n c] w fun e w' => e = .returned (.pointer (some ⟨w.heap.size + 1, 0, none⟩)) ∧ w' = (w.alloc (.map #[] 0)).alloc (.cells #[.slice A n c, .int .i64 (n : Int), .map (some w.heap.size)] 67) := by
  have hmm := @run_makeMap Try.prog
  have hz := zeroFile
  go_enter Try.func34, Try.ntmps34
  go_wp2
  go_ret
  exact ⟨by simp, rfl⟩
theorem new_raw (n : Int) (w : World) :
    Calls Try.prog 12 #[.int .i64 n] w fun e w' => e = .returned (.pointer (some ⟨w.heap.size + 2, 0, none⟩)) ∧
      w' = ((w.alloc (.map #[] 0)).alloc (.map #[] 0)).alloc (.cells #[.int .i64 (room n), .map (some w.heap.size), .map (some (w.heap.size + 1)), .slice none 0 0, .int .i64 0, .int .i64 0, .bool false, .int .i64 0] 58) := by
  have hmm := @run_makeMap Try.prog
  have hz := zeroFS
  have cR := roomOf_any n
  go_enter Try.func12, Try.ntmps12
  go_wp2_with (go_at_call 30; refine (cR _).mono ?_; rintro e w' ⟨rfl, rfl⟩)
  go_ret
  exact ⟨by simp, by simp⟩

/-- The fields of a disk at block f. -/
def fsCells (d : Dk) (nb sb : Nat) (wv : Value) : Array Value := #[.int .i64 d.room, .map (some nb), .map (some sb), wv, .int .i64 d.calls, .int .i64 d.reads, .bool d.failing, .int .i64 d.others]
/-- What begin makes of a disk. -/
def Dk.begin (d : Dk) : Dk :=
  if d.failing = false then { d with calls := d.calls + 1 }
  else if 0 < d.others then { d with calls := d.calls + 1, others := d.others - 1 }
  else { d with calls := d.calls + 1, failing := false }
def Dk.err (d : Dk) : Int := if d.failing = true ∧ d.others ≤ 0 then 3 else 0
theorem begin_raw (f nb sb : Nat) (wv : Value) (d : Dk) (K : Nat) (w : World) (hok : d.Ok K) (hb : Blk w f 58 (fsCells d nb sb wv)) :
    Calls Try.prog 31 #[.pointer (some ⟨f, 0, none⟩)] w fun e w' => e = .returned (.int .i64 d.err) ∧ Blk w' f 58 (fsCells d.begin nb sb wv) ∧ w.grownBy w' (some f) := by
  obtain ⟨rm, N, S, wait, calls, reads, failing, others, fl⟩ := d
  have hc := hok.calls
  have ho := hok.others
  have hK := hok.big
  simp only at hc ho
  have h4 : w.cell? ⟨f, 4, none⟩ = some (.int .i64 calls) := hb.cell 4
  have h6 : w.cell? ⟨f, 6, none⟩ = some (.bool failing) := hb.cell 6
  have h7 : w.cell? ⟨f, 7, none⟩ = some (.int .i64 others) := hb.cell 7
  have f4 := hb.free 4
  have f6 := hb.free 6
  have f7 := hb.free 7
  have HB := Lib.hid hb
  clear hb hok
  cases failing
  · have he : Dk.err ⟨rm, N, S, wait, calls, reads, false, others, fl⟩ = 0 := rfl
    rw [he]
    clear he
    go_enter Try.func31, Try.ntmps31
    go_wp2
    go_ret
    exact ⟨rfl, HB.out.put 4 _, only_setCell _ _ _⟩
  · by_cases h0 : 0 < others
    · have he : Dk.err ⟨rm, N, S, wait, calls, reads, true, others, fl⟩ = 0 := if_neg (by simp; omega)
      have hx : Hid (Dk.begin ⟨rm, N, S, wait, calls, reads, true, others, fl⟩ = ⟨rm, N, S, wait, calls + 1, reads, true, others - 1, fl⟩) := by show _ = _; simp [Dk.begin, h0]
      rw [he]
      clear he
      go_enter Try.func31, Try.ntmps31
      go_wp2
      go_ret
      exact ⟨rfl, by rw [hx.out]; exact (HB.out.put 4 _).put 7 _, only_trans (only_setCell _ _ _) (only_setCell _ _ _)⟩
    · have he : Dk.err ⟨rm, N, S, wait, calls, reads, true, others, fl⟩ = 3 := if_pos ⟨rfl, by show others ≤ 0; omega⟩
      have hx : Hid (Dk.begin ⟨rm, N, S, wait, calls, reads, true, others, fl⟩ = ⟨rm, N, S, wait, calls + 1, reads, false, others, fl⟩) := by show _ = _; simp [Dk.begin, h0]
      rw [he]
      clear he
      go_enter Try.func31, Try.ntmps31
      go_wp2
      go_ret
      exact ⟨rfl, by rw [hx.out]; exact (HB.out.put 4 _).put 6 _, only_trans (only_setCell _ _ _) (only_setCell _ _ _)⟩

/-- A change of a directory is made. -/
theorem keyS {s : ByteArray} (hs : s.size ≤ maxLen) : keyOf Try.prog 9 (.string s) = some (.string s.data.toList) := WideMaps.keyOf_string_mk Try.underlying9 hs
theorem blk_kept {w w' : World} {g : Nat} {t : TypeId} {cs : Array Value} {row : Option Nat} (h : Blk w g t cs) (hg : w.grownBy w' row) (hne : some g ≠ row) : Blk w' g t cs := (hg.block g (blk_lt' h) hne).trans h
set_option maxRecDepth 100000 in
theorem apply_any (nb n : Nat) (N : Dir) (c : Chg) (w : World) (hown : w.ownsMap Try.prog 9 held nb n (dirMap N)) (hn : n < maxLen) (h1 : c.gone.size ≤ maxLen) (h2 : c.name.size ≤ maxLen) :
    Calls Try.prog 37 #[.map (some nb), .agg #[.string c.gone, .string c.name, c.ptr]] w fun e w' => e = .returned undef ∧ w'.ownsMap Try.prog 9 held nb (n + 1) (dirMap (c.on N)) ∧ w.grownBy w' (some nb) := by
  obtain ⟨gone, name, file⟩ := c
  have hz := zeroChg
  have hlt := hown.lt
  have hk1 := keyS h1
  have hk2 := keyS h2
  cases file with
  | none =>
    show Calls _ _ #[_, .agg #[.string gone, .string name, .pointer none]] _ _
    have ho0 := hown.alloc (.cells #[.string gone, .string name, .pointer none] 64)
    have hb0 := Blk.new w 64 #[.string gone, .string name, .pointer none]
    have hg0 := World.grownBy_alloc w (.cells #[.string gone, .string name, .pointer none] 64) none
    have c0 := hb0.cell 0
    have HB := Lib.hid hb0
    have HG := Lib.hid hg0
    clear hb0 hg0
    go_enter Try.func37, Try.ntmps37
    go_wp2_with (at_delete; refine wpList_delete_own _ rfl _ _ 55 9 rfl 60 lawS Try.underlying55 held nb n _ rfl ho0 _ _ rfl hk1 ?_; intro w1 hown1 hturn1; have c2 := (blk_kept HB.out hturn1.grown (by simp; omega)).cell 2)
    go_end0
    refine ⟨rfl, ?_, only_trans (HG.out.but _) hturn1.grown⟩
    rw [dirMap_del] at hown1
    exact hown1.mono (by omega)
  | some g =>
    show Calls _ _ #[_, .agg #[.string gone, .string name, .pointer (some ⟨g, 0, none⟩)]] _ _
    have ho0 := hown.alloc (.cells #[.string gone, .string name, .pointer (some ⟨g, 0, none⟩)] 64)
    have hb0 := Blk.new w 64 #[.string gone, .string name, .pointer (some ⟨g, 0, none⟩)]
    have hg0 := World.grownBy_alloc w (.cells #[.string gone, .string name, .pointer (some ⟨g, 0, none⟩)] 64) none
    have c0 := hb0.cell 0
    have HB := Lib.hid hb0
    have HG := Lib.hid hg0
    clear hb0 hg0
    go_enter Try.func37, Try.ntmps37
    go_wp2_with (first
      | (at_delete; refine wpList_delete_own _ rfl _ _ 55 9 rfl 60 lawS Try.underlying55 held nb n _ rfl ho0 _ _ rfl hk1 ?_; intro w1 hown1 hturn1; have c2 := (blk_kept HB.out hturn1.grown (by simp; omega)).cell 2; have c1 := (blk_kept HB.out hturn1.grown (by simp; omega)).cell 1)
      | (at_mapUpdate; refine wpList_mapUpdate_own _ rfl _ _ _ 55 rfl 9 60 lawS Try.underlying55 held nb n _ rfl hown1 hn _ _ _ rfl rfl hk2 _ _ rfl ?_; intro w2 hown2 hgrow2))
    go_end0
    refine ⟨rfl, ?_, only_trans (only_trans (HG.out.but _) hturn1.grown) hgrow2⟩
    rw [dirMap_del] at hown2
    have hown3 : w2.ownsMap Try.prog 9 held nb (n + 1) ((dirMap (ddel gone.data.toList N)).put (.string name.data.toList) (.held (fp g))) := hown2
    rw [dirMap_put] at hown3
    exact hown3

/-! The plain getters, and those of no disk. -/
theorem calls_any (f nb sb : Nat) (wv : Value) (d : Dk) (w : World) (hb : Blk w f 58 (fsCells d nb sb wv)) : Calls Try.prog 21 #[.pointer (some ⟨f, 0, none⟩)] w fun e w' => e = .returned (.int .i64 d.calls) ∧ w' = w := by
  have h4 : w.cell? ⟨f, 4, none⟩ = some (.int .i64 d.calls) := hb.cell 4
  clear hb
  go_enter Try.func21, Try.ntmps21
  go_wp2
  go_ret
  exact ⟨rfl, rfl⟩
theorem reads_any (f nb sb : Nat) (wv : Value) (d : Dk) (w : World) (hb : Blk w f 58 (fsCells d nb sb wv)) : Calls Try.prog 20 #[.pointer (some ⟨f, 0, none⟩)] w fun e w' => e = .returned (.int .i64 d.reads) ∧ w' = w := by
  have h4 : w.cell? ⟨f, 5, none⟩ = some (.int .i64 d.reads) := hb.cell 5
  clear hb
  go_enter Try.func20, Try.ntmps20
  go_wp2
  go_ret
  exact ⟨rfl, rfl⟩
theorem fail_raw (f nb sb : Nat) (wv : Value) (d : Dk) (n : Int) (w : World) (hb : Blk w f 58 (fsCells d nb sb wv)) :
    Calls Try.prog 22 #[.pointer (some ⟨f, 0, none⟩), .int .i64 n] w fun e w' => e = .returned undef ∧ Blk w' f 58 (fsCells { d with failing := decide (0 ≤ n), others := max n 0 } nb sb wv) ∧ w.grownBy w' (some f) := by
  have h6 : w.cell? ⟨f, 6, none⟩ = some (.bool d.failing) := hb.cell 6
  have h7 : w.cell? ⟨f, 7, none⟩ = some (.int .i64 d.others) := hb.cell 7
  have f6 := hb.free 6
  have f7 := hb.free 7
  have HB := Lib.hid hb
  clear hb
  go_enter Try.func22, Try.ntmps22
  go_wp2
  go_end0
  exact ⟨rfl, (HB.out.put 6 _).put 7 _, only_trans (only_setCell _ _ _) (only_setCell _ _ _)⟩
theorem room_raw (f nb sb : Nat) (wv : Value) (d : Dk) (n : Int) (w : World) (hb : Blk w f 58 (fsCells d nb sb wv)) :
    Calls Try.prog 23 #[.pointer (some ⟨f, 0, none⟩), .int .i64 n] w fun e w' => e = .returned undef ∧ Blk w' f 58 (fsCells { d with room := room n } nb sb wv) ∧ w.grownBy w' (some f) := by
  have h0 : w.cell? ⟨f, 0, none⟩ = some (.int .i64 d.room) := hb.cell 0
  have f0 := hb.free 0
  have HB := Lib.hid hb
  have cR := roomOf_any n
  clear hb
  go_enter Try.func23, Try.ntmps23
  go_wp2_with (go_at_call 30; refine (cR _).mono ?_; rintro e w' ⟨rfl, rfl⟩)
  go_end0
  exact ⟨rfl, HB.out.put 0 _, only_setCell _ _ _⟩
theorem create_nil (s : ByteArray) (w : World) : Calls Try.prog 13 #[.pointer none, .string s] w fun e w' => e = .returned (.int .i64 1) ∧ w' = w := by
  go_enter Try.func13, Try.ntmps13
  go_wp2_with (go_at_call 31; refine (begin_nil _).mono ?_; rintro e w' ⟨rfl, rfl⟩)
  go_ret
  exact ⟨rfl, rfl⟩
theorem write_nil (s : ByteArray) (at_ : Int) (A : Option Addr) (n c : Nat) (w : World) : Calls Try.prog 14 #[.pointer none, .string s, .int .i64 at_, .slice A n c] w fun e w' => e = .returned (.int .i64 1) ∧ w' = w := by
  go_enter Try.func14, Try.ntmps14
  go_wp2_with (go_at_call 31; refine (begin_nil _).mono ?_; rintro e w' ⟨rfl, rfl⟩)
  go_ret
  exact ⟨rfl, rfl⟩
theorem sync_nil (s : ByteArray) (w : World) : Calls Try.prog 15 #[.pointer none, .string s] w fun e w' => e = .returned (.int .i64 1) ∧ w' = w := by
  go_enter Try.func15, Try.ntmps15
  go_wp2_with (go_at_call 31; refine (begin_nil _).mono ?_; rintro e w' ⟨rfl, rfl⟩)
  go_ret
  exact ⟨rfl, rfl⟩
theorem syncDir_nil (w : World) : Calls Try.prog 16 #[.pointer none] w fun e w' => e = .returned (.int .i64 1) ∧ w' = w := by
  go_enter Try.func16, Try.ntmps16
  go_wp2_with (go_at_call 31; refine (begin_nil _).mono ?_; rintro e w' ⟨rfl, rfl⟩)
  go_ret
  exact ⟨rfl, rfl⟩
theorem rename_nil (s u : ByteArray) (w : World) : Calls Try.prog 24 #[.pointer none, .string s, .string u] w fun e w' => e = .returned (.int .i64 1) ∧ w' = w := by
  go_enter Try.func24, Try.ntmps24
  go_wp2_with (go_at_call 31; refine (begin_nil _).mono ?_; rintro e w' ⟨rfl, rfl⟩)
  go_ret
  exact ⟨rfl, rfl⟩
theorem remove_nil (s : ByteArray) (w : World) : Calls Try.prog 25 #[.pointer none, .string s] w fun e w' => e = .returned (.int .i64 1) ∧ w' = w := by
  go_enter Try.func25, Try.ntmps25
  go_wp2_with (go_at_call 31; refine (begin_nil _).mono ?_; rintro e w' ⟨rfl, rfl⟩)
  go_ret
  exact ⟨rfl, rfl⟩
theorem read_nil (s : ByteArray) (a n : Int) (w : World) : Calls Try.prog 17 #[.pointer none, .string s, .int .i64 a, .int .i64 n] w fun e w' => e = .returned (.tuple #[.slice none 0 0, .int .i64 1]) ∧ w' = w := by
  go_enter Try.func17, Try.ntmps17
  go_wp2
  go_ret2
  exact ⟨rfl, rfl⟩
theorem size_nil (s : ByteArray) (w : World) : Calls Try.prog 18 #[.pointer none, .string s] w fun e w' => e = .returned (.int .i64 (-1)) ∧ w' = w := by
  go_enter Try.func18, Try.ntmps18
  go_wp2
  go_ret
  exact ⟨rfl, rfl⟩
theorem names_nil (w : World) : Calls Try.prog 26 #[.pointer none] w fun e w' => e = .returned (.slice none 0 0) ∧ w' = w := by
  go_enter Try.func26, Try.ntmps26
  go_wp2
  go_ret
  exact ⟨rfl, rfl⟩
theorem used_nil (w : World) : Calls Try.prog 27 #[.pointer none] w fun e w' => e = .returned (.int .i64 0) ∧ w' = w := by
  go_enter Try.func27, Try.ntmps27
  go_wp2
  go_ret
  exact ⟨rfl, rfl⟩
theorem calls_nil (w : World) : Calls Try.prog 21 #[.pointer none] w fun e w' => e = .returned (.int .i64 0) ∧ w' = w := by
  go_enter Try.func21, Try.ntmps21
  go_wp2
  go_ret
  exact ⟨rfl, rfl⟩
theorem reads_nil (w : World) : Calls Try.prog 20 #[.pointer none] w fun e w' => e = .returned (.int .i64 0) ∧ w' = w := by
  go_enter Try.func20, Try.ntmps20
  go_wp2
  go_ret
  exact ⟨rfl, rfl⟩
theorem dirty_nil (w : World) : Calls Try.prog 28 #[.pointer none] w fun e w' => e = .returned (.int .i64 0) ∧ w' = w := by
  go_enter Try.func28, Try.ntmps28
  go_wp2
  go_ret
  exact ⟨rfl, rfl⟩
theorem fail_nil (n : Int) (w : World) : Calls Try.prog 22 #[.pointer none, .int .i64 n] w fun e w' => e = .returned undef ∧ w' = w := by
  go_enter Try.func22, Try.ntmps22
  go_wp2
  (try simp only [Exit.inBlock, Exit.then]); refine bodyPost_ret (results_none rfl _ _ _) rfl ?_
  exact ⟨rfl, rfl⟩
theorem room_nil (n : Int) (w : World) : Calls Try.prog 23 #[.pointer none, .int .i64 n] w fun e w' => e = .returned undef ∧ w' = w := by
  go_enter Try.func23, Try.ntmps23
  go_wp2
  (try simp only [Exit.inBlock, Exit.then]); refine bodyPost_ret (results_none rfl _ _ _) rfl ?_
  exact ⟨rfl, rfl⟩
theorem crash_nil (n t : Int) (A : Option Addr) (k c : Nat) (w : World) : Calls Try.prog 19 #[.pointer none, .int .i64 n, .slice A k c, .int .i64 t] w fun e w' => e = .returned (.pointer none) ∧ w' = w := by
  go_enter Try.func19, Try.ntmps19
  go_wp2
  go_ret
  exact ⟨rfl, rfl⟩
end Go.Proofs.Ytebjapinhkeafaa.Disk
