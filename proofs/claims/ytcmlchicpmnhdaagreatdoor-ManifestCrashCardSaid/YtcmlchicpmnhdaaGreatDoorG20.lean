/-
  Texts one behind the other: DiskNew, DiskChange.
-/
import Derived.StillTailTactics
import Derived.WalkSpells
import Derived.Deep.RegionLaw
import Derived.Test.YtcmlchicpmnhdaaGreatDoorG05
import Derived.Test.YtcmlchicpmnhdaaGreatDoorG14
import Derived.Test.YtcmlchicpmnhdaaGreatDoorG19
/-
  Proved: what New, newFile, apply, begin and the plain getters of package disk do.
-/
namespace Go.Proofs.YtcmlchicpmnhdaaGreatDoor.Disk
open Go.RowKit Go.Maps
set_option linter.unusedVariables false
set_option linter.unusedSimpArgs false

theorem zeroFS (w : World) : (zeroValue 58).run Tryz.prog w = .ok (.agg #[.int .i64 0, .map none, .map none, .slice none 0 0, .int .i64 0, .int .i64 0, .bool false, .int .i64 0]) w := by kernel_rfl
theorem zeroFile (w : World) : (zeroValue 78).run Tryz.prog w = .ok (.agg #[.slice none 0 0, .int .i64 0, .map none]) w := by kernel_rfl
theorem zeroChg (w : World) : (zeroValue 71).run Tryz.prog w = .ok (.agg #[.string ⟨#[]⟩, .string ⟨#[]⟩, .pointer none]) w := by kernel_rfl

theorem newFile_any (A : Option Addr) (n c : Nat) (w : World) :
    Calls Tryz.prog 64 #[.slice A n c] w fun e w' => e = .returned (.pointer (some ⟨w.heap.size + 1, 0, none⟩)) ∧ w' = (w.alloc (.map #[] 0)).alloc (.cells #[.slice A n c, .int .i64 (n : Int), .map (some w.heap.size)] 78) := by
  have hmm := @run_makeMap Tryz.prog
  have hz := zeroFile
  go_enter Tryz.func64, Tryz.ntmps64
  go_wp2
  go_ret
  exact ⟨by simp, rfl⟩
theorem new_raw (n : Int) (w : World) :
    Calls Tryz.prog 6 #[.int .i64 n] w fun e w' => e = .returned (.pointer (some ⟨w.heap.size + 2, 0, none⟩)) ∧
      w' = ((w.alloc (.map #[] 0)).alloc (.map #[] 0)).alloc (.cells #[.int .i64 (room n), .map (some w.heap.size), .map (some (w.heap.size + 1)), .slice none 0 0, .int .i64 0, .int .i64 0, .bool false, .int .i64 0] 58) := by
  have hmm := @run_makeMap Tryz.prog
  have hz := zeroFS
  have cR := roomOf_any n
  go_enter Tryz.func6, Tryz.ntmps6
  go_wp2_with (go_at_call 23; refine (cR _).mono ?_; rintro e w' ⟨rfl, rfl⟩)
  go_ret
  exact ⟨by simp, by simp⟩

/-- The fields of a disk at block f. -/
def fsCells (d : Dk) (nb sb : Nat) (wv : Value) : Array Value := #[.int .i64 d.room, .map (some nb), .map (some sb), wv, .int .i64 d.calls, .int .i64 d.reads, .bool d.failing, .int .i64 d.others]
/-- What begin makes of a disk. -/
def Dk.begin (d : Dk) : Dk :=
  if d.failing = false then { d with calls := d.calls + 1 }
  else if 0 < d.others then { d with calls := d.calls + 1, others := d.others - 1 }
  else { d with calls := d.calls + 1, failing := false }
def Dk.err (d : Dk) : Int := if d.failing = true ∧ d.others ≤ 0 then 3 else 0
theorem begin_raw (f nb sb : Nat) (wv : Value) (d : Dk) (K : Nat) (w : World) (hok : d.Ok K) (hb : Blk w f 58 (fsCells d nb sb wv)) :
    Calls Tryz.prog 77 #[.pointer (some ⟨f, 0, none⟩)] w fun e w' => e = .returned (.int .i64 d.err) ∧ Blk w' f 58 (fsCells d.begin nb sb wv) ∧ w.grownBy w' (some f) := by
  obtain ⟨rm, N, S, wait, calls, reads, failing, others, fl⟩ := d
  have hc := hok.calls
  have ho := hok.others
  have hK := hok.big
  simp only at hc ho
  have h4 : w.cell? ⟨f, 4, none⟩ = some (.int .i64 calls) := hb.cell 4
  have h6 : w.cell? ⟨f, 6, none⟩ = some (.bool failing) := hb.cell 6
  have h7 : w.cell? ⟨f, 7, none⟩ = some (.int .i64 others) := hb.cell 7
  have f4 := hb.free 4
  have f6 := hb.free 6
  have f7 := hb.free 7
  have HB := Lib.hid hb
  clear hb hok
  cases failing
  · have he : Dk.err ⟨rm, N, S, wait, calls, reads, false, others, fl⟩ = 0 := rfl
    rw [he]
    clear he
    go_enter Tryz.func77, Tryz.ntmps77
    go_wp2
    go_ret
    exact ⟨rfl, HB.out.put 4 _, only_setCell _ _ _⟩
  · by_cases h0 : 0 < others
    · have he : Dk.err ⟨rm, N, S, wait, calls, reads, true, others, fl⟩ = 0 := if_neg (by simp; omega)
      have hx : Hid (Dk.begin ⟨rm, N, S, wait, calls, reads, true, others, fl⟩ = ⟨rm, N, S, wait, calls + 1, reads, true, others - 1, fl⟩) := by show _ = _; simp [Dk.begin, h0]
      rw [he]
      clear he
      go_enter Tryz.func77, Tryz.ntmps77
      go_wp2
      go_ret
      exact ⟨rfl, by rw [hx.out]; exact (HB.out.put 4 _).put 7 _, only_trans (only_setCell _ _ _) (only_setCell _ _ _)⟩
    · have he : Dk.err ⟨rm, N, S, wait, calls, reads, true, others, fl⟩ = 3 := if_pos ⟨rfl, by show others ≤ 0; omega⟩
      have hx : Hid (Dk.begin ⟨rm, N, S, wait, calls, reads, true, others, fl⟩ = ⟨rm, N, S, wait, calls + 1, reads, false, others, fl⟩) := by show _ = _; simp [Dk.begin, h0]
      rw [he]
      clear he
      go_enter Tryz.func77, Tryz.ntmps77
      go_wp2
      go_ret
      exact ⟨rfl, by rw [hx.out]; exact (HB.out.put 4 _).put 6 _, only_trans (only_setCell _ _ _) (only_setCell _ _ _)⟩

/-- A change of a directory is made. -/
theorem keyS {s : ByteArray} (hs : s.size ≤ maxLen) : keyOf Tryz.prog 9 (.string s) = some (.string s.data.toList) := WideMaps.keyOf_string_mk Tryz.underlying9 hs
theorem blk_kept {w w' : World} {g : Nat} {t : TypeId} {cs : Array Value} {row : Option Nat} (h : Blk w g t cs) (hg : w.grownBy w' row) (hne : some g ≠ row) : Blk w' g t cs := (hg.block g (blk_lt' h) hne).trans h
set_option maxRecDepth 100000 in
theorem apply_any (nb n : Nat) (N : Dir) (c : Chg) (w : World) (hown : w.ownsMap Tryz.prog 9 held nb n (dirMap N)) (hn : n < maxLen) (h1 : c.gone.size ≤ maxLen) (h2 : c.name.size ≤ maxLen) :
    Calls Tryz.prog 29 #[.map (some nb), .agg #[.string c.gone, .string c.name, c.ptr]] w fun e w' => e = .returned undef ∧ w'.ownsMap Tryz.prog 9 held nb (n + 1) (dirMap (c.on N)) ∧ w.grownBy w' (some nb) := by
  obtain ⟨gone, name, file⟩ := c
  have hz := zeroChg
  have hlt := hown.lt
  have hk1 := keyS h1
  have hk2 := keyS h2
  cases file with
  | none =>
    show Calls _ _ #[_, .agg #[.string gone, .string name, .pointer none]] _ _
    have ho0 := hown.alloc (.cells #[.string gone, .string name, .pointer none] 71)
    have hb0 := Blk.new w 71 #[.string gone, .string name, .pointer none]
    have hg0 := World.grownBy_alloc w (.cells #[.string gone, .string name, .pointer none] 71) none
    have c0 := hb0.cell 0
    have HB := Lib.hid hb0
    have HG := Lib.hid hg0
    clear hb0 hg0
    go_enter Tryz.func29, Tryz.ntmps29
    go_wp2_with (at_delete; refine wpList_delete_own _ rfl _ _ 55 9 rfl 69 lawS Tryz.underlying55 held nb n _ rfl ho0 _ _ rfl hk1 ?_; intro w1 hown1 hturn1; have c2 := (blk_kept HB.out hturn1.grown (by simp; omega)).cell 2)
    go_end0
    refine ⟨rfl, ?_, only_trans (HG.out.but _) hturn1.grown⟩
    rw [dirMap_del] at hown1
    exact hown1.mono (by omega)
  | some g =>
    show Calls _ _ #[_, .agg #[.string gone, .string name, .pointer (some ⟨g, 0, none⟩)]] _ _
    have ho0 := hown.alloc (.cells #[.string gone, .string name, .pointer (some ⟨g, 0, none⟩)] 71)
    have hb0 := Blk.new w 71 #[.string gone, .string name, .pointer (some ⟨g, 0, none⟩)]
    have hg0 := World.grownBy_alloc w (.cells #[.string gone, .string name, .pointer (some ⟨g, 0, none⟩)] 71) none
    have c0 := hb0.cell 0
    have HB := Lib.hid hb0
    have HG := Lib.hid hg0
    clear hb0 hg0
    go_enter Tryz.func29, Tryz.ntmps29
    go_wp2_with (first
      | (at_delete; refine wpList_delete_own _ rfl _ _ 55 9 rfl 69 lawS Tryz.underlying55 held nb n _ rfl ho0 _ _ rfl hk1 ?_; intro w1 hown1 hturn1; have c2 := (blk_kept HB.out hturn1.grown (by simp; omega)).cell 2; have c1 := (blk_kept HB.out hturn1.grown (by simp; omega)).cell 1)
      | (at_mapUpdate; refine wpList_mapUpdate_own _ rfl _ _ _ 55 rfl 9 69 lawS Tryz.underlying55 held nb n _ rfl hown1 hn _ _ _ rfl rfl hk2 _ _ rfl ?_; intro w2 hown2 hgrow2))
    go_end0
    refine ⟨rfl, ?_, only_trans (only_trans (HG.out.but _) hturn1.grown) hgrow2⟩
    rw [dirMap_del] at hown2
    have hown3 : w2.ownsMap Tryz.prog 9 held nb (n + 1) ((dirMap (ddel gone.data.toList N)).put (.string name.data.toList) (.held (fp g))) := hown2
    rw [dirMap_put] at hown3
    exact hown3

/-! The plain getters, and those of no disk. -/
theorem fail_raw (f nb sb : Nat) (wv : Value) (d : Dk) (n : Int) (w : World) (hb : Blk w f 58 (fsCells d nb sb wv)) :
    Calls Tryz.prog 18 #[.pointer (some ⟨f, 0, none⟩), .int .i64 n] w fun e w' => e = .returned undef ∧ Blk w' f 58 (fsCells { d with failing := decide (0 ≤ n), others := max n 0 } nb sb wv) ∧ w.grownBy w' (some f) := by
  have h6 : w.cell? ⟨f, 6, none⟩ = some (.bool d.failing) := hb.cell 6
  have h7 : w.cell? ⟨f, 7, none⟩ = some (.int .i64 d.others) := hb.cell 7
  have f6 := hb.free 6
  have f7 := hb.free 7
  have HB := Lib.hid hb
  clear hb
  go_enter Tryz.func18, Tryz.ntmps18
  go_wp2
  go_end0
  exact ⟨rfl, (HB.out.put 6 _).put 7 _, only_trans (only_setCell _ _ _) (only_setCell _ _ _)⟩
theorem create_nil (s : ByteArray) (w : World) : Calls Tryz.prog 75 #[.pointer none, .string s] w fun e w' => e = .returned (.int .i64 1) ∧ w' = w := by
  go_enter Tryz.func75, Tryz.ntmps75
  go_wp2_with (go_at_call 77; refine (begin_nil _).mono ?_; rintro e w' ⟨rfl, rfl⟩)
  go_ret
  exact ⟨rfl, rfl⟩
theorem write_nil (s : ByteArray) (at_ : Int) (A : Option Addr) (n c : Nat) (w : World) : Calls Tryz.prog 56 #[.pointer none, .string s, .int .i64 at_, .slice A n c] w fun e w' => e = .returned (.int .i64 1) ∧ w' = w := by
  go_enter Tryz.func56, Tryz.ntmps56
  go_wp2_with (go_at_call 77; refine (begin_nil _).mono ?_; rintro e w' ⟨rfl, rfl⟩)
  go_ret
  exact ⟨rfl, rfl⟩
theorem sync_nil (s : ByteArray) (w : World) : Calls Tryz.prog 57 #[.pointer none, .string s] w fun e w' => e = .returned (.int .i64 1) ∧ w' = w := by
  go_enter Tryz.func57, Tryz.ntmps57
  go_wp2_with (go_at_call 77; refine (begin_nil _).mono ?_; rintro e w' ⟨rfl, rfl⟩)
  go_ret
  exact ⟨rfl, rfl⟩
theorem syncDir_nil (w : World) : Calls Tryz.prog 49 #[.pointer none] w fun e w' => e = .returned (.int .i64 1) ∧ w' = w := by
  go_enter Tryz.func49, Tryz.ntmps49
  go_wp2_with (go_at_call 77; refine (begin_nil _).mono ?_; rintro e w' ⟨rfl, rfl⟩)
  go_ret
  exact ⟨rfl, rfl⟩
theorem rename_nil (s u : ByteArray) (w : World) : Calls Tryz.prog 48 #[.pointer none, .string s, .string u] w fun e w' => e = .returned (.int .i64 1) ∧ w' = w := by
  go_enter Tryz.func48, Tryz.ntmps48
  go_wp2_with (go_at_call 77; refine (begin_nil _).mono ?_; rintro e w' ⟨rfl, rfl⟩)
  go_ret
  exact ⟨rfl, rfl⟩
theorem read_nil (s : ByteArray) (a n : Int) (w : World) : Calls Tryz.prog 68 #[.pointer none, .string s, .int .i64 a, .int .i64 n] w fun e w' => e = .returned (.tuple #[.slice none 0 0, .int .i64 1]) ∧ w' = w := by
  go_enter Tryz.func68, Tryz.ntmps68
  go_wp2
  go_ret2
  exact ⟨rfl, rfl⟩
theorem size_nil (s : ByteArray) (w : World) : Calls Tryz.prog 45 #[.pointer none, .string s] w fun e w' => e = .returned (.int .i64 (-1)) ∧ w' = w := by
  go_enter Tryz.func45, Tryz.ntmps45
  go_wp2
  go_ret
  exact ⟨rfl, rfl⟩
theorem names_nil (w : World) : Calls Tryz.prog 36 #[.pointer none] w fun e w' => e = .returned (.slice none 0 0) ∧ w' = w := by
  go_enter Tryz.func36, Tryz.ntmps36
  go_wp2
  go_ret
  exact ⟨rfl, rfl⟩
theorem used_nil (w : World) : Calls Tryz.prog 82 #[.pointer none] w fun e w' => e = .returned (.int .i64 0) ∧ w' = w := by
  go_enter Tryz.func82, Tryz.ntmps82
  go_wp2
  go_ret
  exact ⟨rfl, rfl⟩
theorem dirty_nil (w : World) : Calls Tryz.prog 92 #[.pointer none] w fun e w' => e = .returned (.int .i64 0) ∧ w' = w := by
  go_enter Tryz.func92, Tryz.ntmps92
  go_wp2
  go_ret
  exact ⟨rfl, rfl⟩
theorem fail_nil (n : Int) (w : World) : Calls Tryz.prog 18 #[.pointer none, .int .i64 n] w fun e w' => e = .returned undef ∧ w' = w := by
  go_enter Tryz.func18, Tryz.ntmps18
  go_wp2
  (try simp only [Exit.inBlock, Exit.then]); refine bodyPost_ret (results_none rfl _ _ _) rfl ?_
  exact ⟨rfl, rfl⟩
theorem crash_nil (n t : Int) (A : Option Addr) (k c : Nat) (w : World) : Calls Tryz.prog 13 #[.pointer none, .int .i64 n, .slice A k c, .int .i64 t] w fun e w' => e = .returned (.pointer none) ∧ w' = w := by
  go_enter Tryz.func13, Tryz.ntmps13
  go_wp2
  go_ret
  exact ⟨rfl, rfl⟩
end Go.Proofs.YtcmlchicpmnhdaaGreatDoor.Disk
/-
  Proved: what change of package disk does to memory: the directory is changed, and the change waits.
-/
namespace Go.Proofs.YtcmlchicpmnhdaaGreatDoor.Disk
open Go.RowKit Go.Maps
set_option linter.unusedVariables false
set_option linter.unusedSimpArgs false

theorem chg_info : (Tryz.prog.info? 71).map (fun i => (i.zero, i.size, i.bytes)) = some (some (.agg #[.string ⟨#[]⟩, .string ⟨#[]⟩, .pointer none]), 3, 40) := by kernel_rfl
/-- Only these three blocks turn. -/
def Turns (w w' : World) (T : Nat → Prop) : Prop := w'.os = w.os ∧ w'.tape = w.tape ∧ w'.output = w.output ∧ w.heap.size ≤ w'.heap.size ∧ ∀ b, b < w.heap.size → ¬ T b → w'.heap[b]? = w.heap[b]?
theorem Turns.of {w w' : World} {g : Nat} {T : Nat → Prop} (h : w.grownBy w' (some g)) (hg : T g) : Turns w w' T := ⟨h.os, h.tape, h.output, h.size, fun b hb hne => h.block b hb (fun e => hne (by injection e with e; rw [e]; exact hg))⟩
theorem Turns.of_opt {w w' : World} {row : Option Nat} {T : Nat → Prop} (h : w.grownBy w' row) (hg : ∀ g, row = some g → T g) : Turns w w' T := ⟨h.os, h.tape, h.output, h.size, fun b hb hne => h.block b hb (fun e => hne (hg b e.symm))⟩
theorem Turns.trans {w1 w2 w3 : World} {T : Nat → Prop} (h : Turns w1 w2 T) (k : Turns w2 w3 T) : Turns w1 w3 T :=
  ⟨k.1.trans h.1, k.2.1.trans h.2.1, k.2.2.1.trans h.2.2.1, Nat.le_trans h.2.2.2.1 k.2.2.2.1, fun b hb hne => (k.2.2.2.2 b (Nat.lt_of_lt_of_le hb h.2.2.2.1) hne).trans (h.2.2.2.2 b hb hne)⟩
theorem Turns.new {w1 w2 w3 : World} {g : Nat} {T : Nat → Prop} (h : Turns w1 w2 T) (hg : w1.heap.size ≤ g) (k : w2.grownBy w3 (some g)) : Turns w1 w3 T :=
  ⟨k.os.trans h.1, k.tape.trans h.2.1, k.output.trans h.2.2.1, Nat.le_trans h.2.2.2.1 k.size, fun b hb hne => (k.block b (Nat.lt_of_lt_of_le hb h.2.2.2.1) (fun e => by injection e with e; omega)).trans (h.2.2.2.2 b hb hne)⟩
theorem Turns.below {w1 w2 w3 : World} {T : Nat → Prop} (h : Turns w1 w2 T) (k : Below w1.heap.size w2 w3) : Turns w1 w3 T :=
  ⟨k.os.trans h.1, k.tape.trans h.2.1, k.output.trans h.2.2.1, Nat.le_trans h.2.2.2.1 k.size, fun b hb hne => (k.block b hb).trans (h.2.2.2.2 b hb hne)⟩
theorem Turns.refl (w : World) (T : Nat → Prop) : Turns w w T := ⟨rfl, rfl, rfl, Nat.le_refl _, fun _ _ _ => rfl⟩
theorem Turns.keep {w w' : World} {T : Nat → Prop} (h : Turns w w' T) {g : Nat} (hg : g < w.heap.size) (hT : ¬ T g) : w'.heap[g]? = w.heap[g]? := h.2.2.2.2 g hg hT

theorem undrew {w w' : World} {row : Option Nat} (h : w.drew.grownBy w' row) : w.grownBy w' row := ⟨h.os, h.tape, h.output, h.size, h.block⟩
theorem three_cells (w : World) (a b c : Value) (t : TypeId) : ∀ j u, [a, b, c][j]? = some u → ((w.alloc (.cells #[a, b, c] t)).drew).cell? ((⟨w.heap.size, 0, none⟩ : Addr).add j) = some u := by
  intro j u hu
  have h := (Blk.new w t #[a, b, c]).cell j
  have e : (⟨w.heap.size, 0, none⟩ : Addr).add j = ⟨w.heap.size, j, none⟩ := by
    unfold Addr.add
    split
    · rename_i hj; subst hj; rfl
    · simp
  rw [e]
  refine Eq.trans h ?_
  simpa using hu
theorem chg_each (c : Chg) : ∀ u ∈ c.cells, u.oneCell' = true := by
  obtain ⟨gone, name, file⟩ := c
  intro u hu
  simp [Chg.cells, Chg.ptr] at hu
  rcases hu with rfl | rfl | rfl <;> rfl

theorem change_end {f nb sb n : Nat} {wv v3 : Value} {d : Dk} {c : Chg} {w w2 w3 : World} {o : Obj} (hfn : f ≠ nb) (hfw : ∀ b, wv.ownBlock = some b → b ≠ f ∧ b ≠ nb) (hfl : f < w.heap.size) (hwl : w.heap.size ≤ w2.heap.size)
    (hN : w2.ownsMap Tryz.prog 9 held nb (n + 1) (dirMap (c.on d.N))) (hW : Turns w w2 (fun b => b = f ∨ b = nb ∨ wv.ownBlock = some b))
    (G1 : w3.ownsRow 0 71 3 v3 (d.wait.length + 1) (chgCells d.wait ++ [.string c.gone, .string c.name, c.ptr])) (G2 : ((w2.alloc o).drew).grownBy w3 wv.ownBlock) (G3 : Lies ((w2.alloc o).drew) wv v3) (hB : Blk w3 f 58 (fsCells d nb sb wv)) :
    ∃ wv', Ending.returned undef = Ending.returned undef ∧
      Blk (w3.setCell ⟨f, 3, none⟩ v3) f 58 (fsCells { d with N := c.on d.N, wait := d.wait ++ [c] } nb sb wv') ∧ (w3.setCell ⟨f, 3, none⟩ v3).ownsMap Tryz.prog 9 held nb (n + 1) (dirMap (c.on d.N)) ∧
      (w3.setCell ⟨f, 3, none⟩ v3).ownsRow 0 71 3 wv' (d.wait ++ [c]).length (chgCells (d.wait ++ [c])) ∧ Lies w wv wv' ∧ Turns w (w3.setCell ⟨f, 3, none⟩ v3) (fun b => b = f ∨ b = nb ∨ wv.ownBlock = some b) := by
  have g1 : w2.grownBy w3 wv.ownBlock := (World.grownBy_alloc w2 o wv.ownBlock).trans (undrew G2)
  have g2 := only_setCell w3 ⟨f, 3, none⟩ v3
  have hn := hN.lt
  have hsz : ((w2.alloc o).drew).heap.size = w2.heap.size + 1 := by simp
  refine ⟨v3, rfl, hB.put 3 v3, (hN.kept g1 (fun e => (hfw nb e.symm).2 rfl)).kept g2 (by simp; exact fun e => hfn e.symm), ?_, ?_, ?_⟩
  · rw [List.length_append, chgCells_snoc]
    refine row_keep G1 fun b hb => g2.block b (row_lt G1 b hb) ?_
    intro e
    injection e with e
    rcases G3 with h | h
    · exact (hfw b (h.symm.trans hb)).1 e
    · have := h b hb
      have e' : b = f := e
      omega
  · rcases G3 with h | h
    · exact .inl h
    · exact .inr fun b hb => by have := h b hb; omega
  · exact (hW.trans (Turns.of_opt g1 fun g hg => .inr (.inr hg))).trans (Turns.of g2 (.inl rfl))

set_option maxRecDepth 100000 in
theorem change_raw (f nb sb n : Nat) (wv : Value) (d : Dk) (c : Chg) (w : World) (hb : Blk w f 58 (fsCells d nb sb wv)) (hN : w.ownsMap Tryz.prog 9 held nb n (dirMap d.N)) (hn : n < maxLen) (h1 : c.gone.size ≤ maxLen) (h2 : c.name.size ≤ maxLen)
    (hr : w.ownsRow 0 71 3 wv d.wait.length (chgCells d.wait)) (hl : d.wait.length ≤ 1073741824) (hfn : f ≠ nb) (hfw : ∀ b, wv.ownBlock = some b → b ≠ f ∧ b ≠ nb) :
    Calls Tryz.prog 79 #[.pointer (some ⟨f, 0, none⟩), .agg #[.string c.gone, .string c.name, c.ptr]] w fun e w' => ∃ wv', e = .returned undef ∧
      Blk w' f 58 (fsCells { d with N := c.on d.N, wait := d.wait ++ [c] } nb sb wv') ∧ w'.ownsMap Tryz.prog 9 held nb (n + 1) (dirMap (c.on d.N)) ∧
      w'.ownsRow 0 71 3 wv' (d.wait ++ [c]).length (chgCells (d.wait ++ [c])) ∧ Lies w wv wv' ∧ Turns w w' (fun b => b = f ∨ b = nb ∨ wv.ownBlock = some b) := by
  have hz := zeroChg
  have hnl := hN.lt
  have hfl := blk_lt' hb
  have s0 : w.cell? ⟨f, 1, none⟩ = some (.map (some nb)) := hb.cell 1
  have X0 := Blk.new w 71 #[.string c.gone, .string c.name, c.ptr]
  have ld : (w.alloc (.cells #[.string c.gone, .string c.name, c.ptr] 71)).heap.size = w.heap.size + 1 := by simp
  have hg0 := World.grownBy_alloc w (.cells #[.string c.gone, .string c.name, c.ptr] 71) none
  have hb0 := blk_kept hb hg0 (by simp)
  have AP := Lib.hid (apply_any nb n d.N c)
  have hq := fun w => run_eql_map_nil (P := Tryz.prog) w 55 _ _ (some nb) Tryz.underlying55
  have HB := Lib.hid hb
  have HR := Lib.hid hr
  generalize hp : c.ptr = p at *
  have HP := Lib.hid hp
  clear hb hr hp
  go_enter Tryz.func79, Tryz.ntmps79
  go_wp2_with fail
  obtain ⟨w1, hw1⟩ : ∃ w1, w1 = w.alloc (.cells #[.string c.gone, .string c.name, p] 71) := ⟨_, rfl⟩
  have hN1 := hN.alloc (.cells #[.string c.gone, .string c.name, p] 71)
  rw [← hw1] at X0 ld hg0 hb0 hN1 ⊢
  have s1 : w1.cell? ⟨f, 1, none⟩ = some (.map (some nb)) := hb0.cell 1
  have x0 := X0.cell 0
  have x1 := X0.cell 1
  have x2 := X0.cell 2
  clear hw1
  go_still_tail 5, (by kernel_rfl)
  change wpList _ _ _ _ _ w1.drew
  go_wp2_with fail
  refine (AP.out w1.drew hN1 hn h1 h2).mono ?_
  rintro e w2 ⟨rfl, hN2, hg2⟩
  have hg2' : w1.grownBy w2 (some nb) := undrew hg2
  have X2 := blk_kept X0 hg2' (by simp; omega)
  have hb2 := blk_kept hb0 hg2' (by simp; omega)
  have hr1 := row_keep (w' := w2) HR.out fun b hbk => (hg2'.block b (Nat.lt_of_lt_of_le (row_lt HR.out b hbk) hg0.size) (by have := (hfw b hbk).2; simp; omega)).trans (hg0.block b (row_lt HR.out b hbk) (by simp))
  have hgw : Turns w w2 (fun b => b = f ∨ b = nb ∨ wv.ownBlock = some b) := (Turns.of_opt hg0 (by simp)).trans (Turns.of hg2' (.inr (.inl rfl)))
  have y0 := X2.cell 0
  have y1 := X2.cell 1
  have y2 := X2.cell 2
  have t3 : w2.cell? ⟨f, 3, none⟩ = some wv := hb2.cell 3
  have ft3 := hb2.free 3
  have ht3 : ∀ k, some k = wv.ownBlock → k ≠ f := fun k hk => (hfw k hk.symm).1
  have HB2 := Lib.hid hb2
  have HR2 := Lib.hid hr1
  have HN2 := Lib.hid hN2
  have HW2 := Lib.hid hgw
  clear s0 s1 x0 x1 x2 X0 X2 hb2 hr1 hN2 hN1 hg2 hg2' hg0 hb0 hgw AP
  have t3a : (w2.alloc (.cells #[.string c.gone, .string c.name, p] 71)).cell? ⟨f, 3, none⟩ = some wv := (blk_kept HB2.out (World.grownBy_alloc w2 (.cells #[.string c.gone, .string c.name, p] 71) none) (by simp)).cell 3
  have R1 : Hid (((w2.alloc (.cells #[.string c.gone, .string c.name, p] 71)).drew).ownsRow 0 71 3 wv d.wait.length (chgCells d.wait)) := HR2.out.alloc _
  have R2 : Hid (∀ u ∈ [Value.string c.gone, Value.string c.name, p], u.oneCell' = true) := by
    have := chg_each c
    rw [Chg.cells, HP.out] at this
    exact this
  have R3 : Hid (d.wait.length + 1 ≤ maxLen) := by show _ ≤ _; unfold maxLen; omega
  have R4 : Hid ((d.wait.length + 1) * 40 ≤ 140737488355328) := by show _ ≤ _; omega
  go_wp2_with fail
  go_region_law (refine step_append_where rfl (.tmp 27) (.tmp 29) 56 rfl 0 71 _ 3 40 Tryz.underlying56 chg_info rfl (by decide) wv d.wait.length (chgCells d.wait) rfl R1.out ⟨w2.heap.size, 0, none⟩ 1 1 [.string c.gone, .string c.name, p] rfl rfl (three_cells w2 _ _ _ _) R2.out R3.out R4.out (Nat.zero_le _) ?_; intro v3 w3 G1 G2 G3; obtain ⟨A3, c3, rfl, _, _⟩ := own_form G1.out; have hb3 := blk_kept (blk_kept HB2.out (World.grownBy_alloc w2 (.cells #[.string c.gone, .string c.name, p] 71) none) (by simp)) (undrew G2.out) (fun e => ht3 f e rfl); have t33 : w3.cell? ⟨f, 3, none⟩ = some wv := hb3.cell 3; have ft33 := hb3.free 3; have HB3 := Lib.hid hb3; clear hb3)
  all_goals
    go_wp2_with fail
    go_end0
    exact change_end hfn hfw hfl HW2.out.2.2.2.1 HN2.out HW2.out (by rw [HP.out]; exact G1.out) G2.out G3.out HB3.out
end Go.Proofs.YtcmlchicpmnhdaaGreatDoor.Disk
