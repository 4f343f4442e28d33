/-
  Texts one behind the other: DiskChange, DiskOps.
-/
import Derived.StillTailTactics
import Derived.WalkSpells
import Derived.Deep.RegionLaw
import Derived.Test.YtcmlchicpmnhdaaDoorG12
import Derived.Test.YtcmlchicpmnhdaaDoorG14
/-
  Proved: what change of package disk does to memory: the directory is changed, and the change waits.
-/
namespace Go.Proofs.YtcmlchicpmnhdaaDoor.Disk
open Go.RowKit Go.Maps
set_option linter.unusedVariables false
set_option linter.unusedSimpArgs false

theorem chg_info : (Tryd.prog.info? 83).map (fun i => (i.zero, i.size, i.bytes)) = some (some (.agg #[.string ⟨#[]⟩, .string ⟨#[]⟩, .pointer none]), 3, 40) := by kernel_rfl
/-- Only these three blocks turn. -/
def Turns (w w' : World) (T : Nat → Prop) : Prop := w'.os = w.os ∧ w'.tape = w.tape ∧ w'.output = w.output ∧ w.heap.size ≤ w'.heap.size ∧ ∀ b, b < w.heap.size → ¬ T b → w'.heap[b]? = w.heap[b]?
theorem Turns.of {w w' : World} {g : Nat} {T : Nat → Prop} (h : w.grownBy w' (some g)) (hg : T g) : Turns w w' T := ⟨h.os, h.tape, h.output, h.size, fun b hb hne => h.block b hb (fun e => hne (by injection e with e; rw [e]; exact hg))⟩
theorem Turns.of_opt {w w' : World} {row : Option Nat} {T : Nat → Prop} (h : w.grownBy w' row) (hg : ∀ g, row = some g → T g) : Turns w w' T := ⟨h.os, h.tape, h.output, h.size, fun b hb hne => h.block b hb (fun e => hne (hg b e.symm))⟩
theorem Turns.trans {w1 w2 w3 : World} {T : Nat → Prop} (h : Turns w1 w2 T) (k : Turns w2 w3 T) : Turns w1 w3 T :=
  ⟨k.1.trans h.1, k.2.1.trans h.2.1, k.2.2.1.trans h.2.2.1, Nat.le_trans h.2.2.2.1 k.2.2.2.1, fun b hb hne => (k.2.2.2.2 b (Nat.lt_of_lt_of_le hb h.2.2.2.1) hne).trans (h.2.2.2.2 b hb hne)⟩
theorem Turns.new {w1 w2 w3 : World} {g : Nat} {T : Nat → Prop} (h : Turns w1 w2 T) (hg : w1.heap.size ≤ g) (k : w2.grownBy w3 (some g)) : Turns w1 w3 T :=
  ⟨k.os.trans h.1, k.tape.trans h.2.1, k.output.trans h.2.2.1, Nat.le_trans h.2.2.2.1 k.size, fun b hb hne => (k.block b (Nat.lt_of_lt_of_le hb h.2.2.2.1) (fun e => by injection e with e; omega)).trans (h.2.2.2.2 b hb hne)⟩
theorem Turns.below {w1 w2 w3 : World} {T : Nat → Prop} (h : Turns w1 w2 T) (k : Below w1.heap.size w2 w3) : Turns w1 w3 T :=
  ⟨k.os.trans h.1, k.tape.trans h.2.1, k.output.trans h.2.2.1, Nat.le_trans h.2.2.2.1 k.size, fun b hb hne => (k.block b hb).trans (h.2.2.2.2 b hb hne)⟩
theorem Turns.refl (w : World) (T : Nat → Prop) : Turns w w T := ⟨rfl, rfl, rfl, Nat.le_refl _, fun _ _ _ => rfl⟩
theorem Turns.keep {w w' : World} {T : Nat → Prop} (h : Turns w w' T) {g : Nat} (hg : g < w.heap.size) (hT : ¬ T g) : w'.heap[g]? = w.heap[g]? := h.2.2.2.2 g hg hT

theorem undrew {w w' : World} {row : Option Nat} (h : w.drew.grownBy w' row) : w.grownBy w' row := ⟨h.os, h.tape, h.output, h.size, h.block⟩
theorem three_cells (w : World) (a b c : Value) (t : TypeId) : ∀ j u, [a, b, c][j]? = some u → ((w.alloc (.cells #[a, b, c] t)).drew).cell? ((⟨w.heap.size, 0, none⟩ : Addr).add j) = some u := by
  intro j u hu
  have h := (Blk.new w t #[a, b, c]).cell j
  have e : (⟨w.heap.size, 0, none⟩ : Addr).add j = ⟨w.heap.size, j, none⟩ := by
    unfold Addr.add
    split
    · rename_i hj; subst hj; rfl
    · simp
  rw [e]
  refine Eq.trans h ?_
  simpa using hu
theorem chg_each (c : Chg) : ∀ u ∈ c.cells, u.oneCell' = true := by
  obtain ⟨gone, name, file⟩ := c
  intro u hu
  simp [Chg.cells, Chg.ptr] at hu
  rcases hu with rfl | rfl | rfl <;> rfl

theorem change_end {f nb sb n : Nat} {wv v3 : Value} {d : Dk} {c : Chg} {w w2 w3 : World} {o : Obj} (hfn : f ≠ nb) (hfw : ∀ b, wv.ownBlock = some b → b ≠ f ∧ b ≠ nb) (hfl : f < w.heap.size) (hwl : w.heap.size ≤ w2.heap.size)
    (hN : w2.ownsMap Tryd.prog 9 held nb (n + 1) (dirMap (c.on d.N))) (hW : Turns w w2 (fun b => b = f ∨ b = nb ∨ wv.ownBlock = some b))
    (G1 : w3.ownsRow 0 83 3 v3 (d.wait.length + 1) (chgCells d.wait ++ [.string c.gone, .string c.name, c.ptr])) (G2 : ((w2.alloc o).drew).grownBy w3 wv.ownBlock) (G3 : Lies ((w2.alloc o).drew) wv v3) (hB : Blk w3 f 57 (fsCells d nb sb wv)) :
    ∃ wv', Ending.returned undef = Ending.returned undef ∧
      Blk (w3.setCell ⟨f, 3, none⟩ v3) f 57 (fsCells { d with N := c.on d.N, wait := d.wait ++ [c] } nb sb wv') ∧ (w3.setCell ⟨f, 3, none⟩ v3).ownsMap Tryd.prog 9 held nb (n + 1) (dirMap (c.on d.N)) ∧
      (w3.setCell ⟨f, 3, none⟩ v3).ownsRow 0 83 3 wv' (d.wait ++ [c]).length (chgCells (d.wait ++ [c])) ∧ Lies w wv wv' ∧ Turns w (w3.setCell ⟨f, 3, none⟩ v3) (fun b => b = f ∨ b = nb ∨ wv.ownBlock = some b) := by
  have g1 : w2.grownBy w3 wv.ownBlock := (World.grownBy_alloc w2 o wv.ownBlock).trans (undrew G2)
  have g2 := only_setCell w3 ⟨f, 3, none⟩ v3
  have hn := hN.lt
  have hsz : ((w2.alloc o).drew).heap.size = w2.heap.size + 1 := by simp
  refine ⟨v3, rfl, hB.put 3 v3, (hN.kept g1 (fun e => (hfw nb e.symm).2 rfl)).kept g2 (by simp; exact fun e => hfn e.symm), ?_, ?_, ?_⟩
  · rw [List.length_append, chgCells_snoc]
    refine row_keep G1 fun b hb => g2.block b (row_lt G1 b hb) ?_
    intro e
    injection e with e
    rcases G3 with h | h
    · exact (hfw b (h.symm.trans hb)).1 e
    · have := h b hb
      have e' : b = f := e
      omega
  · rcases G3 with h | h
    · exact .inl h
    · exact .inr fun b hb => by have := h b hb; omega
  · exact (hW.trans (Turns.of_opt g1 fun g hg => .inr (.inr hg))).trans (Turns.of g2 (.inl rfl))

set_option maxRecDepth 100000 in
theorem change_raw (f nb sb n : Nat) (wv : Value) (d : Dk) (c : Chg) (w : World) (hb : Blk w f 57 (fsCells d nb sb wv)) (hN : w.ownsMap Tryd.prog 9 held nb n (dirMap d.N)) (hn : n < maxLen) (h1 : c.gone.size ≤ maxLen) (h2 : c.name.size ≤ maxLen)
    (hr : w.ownsRow 0 83 3 wv d.wait.length (chgCells d.wait)) (hl : d.wait.length ≤ 1073741824) (hfn : f ≠ nb) (hfw : ∀ b, wv.ownBlock = some b → b ≠ f ∧ b ≠ nb) :
    Calls Tryd.prog 38 #[.pointer (some ⟨f, 0, none⟩), .agg #[.string c.gone, .string c.name, c.ptr]] w fun e w' => ∃ wv', e = .returned undef ∧
      Blk w' f 57 (fsCells { d with N := c.on d.N, wait := d.wait ++ [c] } nb sb wv') ∧ w'.ownsMap Tryd.prog 9 held nb (n + 1) (dirMap (c.on d.N)) ∧
      w'.ownsRow 0 83 3 wv' (d.wait ++ [c]).length (chgCells (d.wait ++ [c])) ∧ Lies w wv wv' ∧ Turns w w' (fun b => b = f ∨ b = nb ∨ wv.ownBlock = some b) := by
  have hz := zeroChg
  have hnl := hN.lt
  have hfl := blk_lt' hb
  have s0 : w.cell? ⟨f, 1, none⟩ = some (.map (some nb)) := hb.cell 1
  have X0 := Blk.new w 83 #[.string c.gone, .string c.name, c.ptr]
  have ld : (w.alloc (.cells #[.string c.gone, .string c.name, c.ptr] 83)).heap.size = w.heap.size + 1 := by simp
  have hg0 := World.grownBy_alloc w (.cells #[.string c.gone, .string c.name, c.ptr] 83) none
  have hb0 := blk_kept hb hg0 (by simp)
  have AP := Lib.hid (apply_any nb n d.N c)
  have hq := fun w => run_eql_map_nil (P := Tryd.prog) w 54 _ _ (some nb) Tryd.underlying54
  have HB := Lib.hid hb
  have HR := Lib.hid hr
  generalize hp : c.ptr = p at *
  have HP := Lib.hid hp
  clear hb hr hp
  go_enter Tryd.func38, Tryd.ntmps38
  go_wp2_with fail
  obtain ⟨w1, hw1⟩ : ∃ w1, w1 = w.alloc (.cells #[.string c.gone, .string c.name, p] 83) := ⟨_, rfl⟩
  have hN1 := hN.alloc (.cells #[.string c.gone, .string c.name, p] 83)
  rw [← hw1] at X0 ld hg0 hb0 hN1 ⊢
  have s1 : w1.cell? ⟨f, 1, none⟩ = some (.map (some nb)) := hb0.cell 1
  have x0 := X0.cell 0
  have x1 := X0.cell 1
  have x2 := X0.cell 2
  clear hw1
  go_still_tail 5, (by kernel_rfl)
  change wpList _ _ _ _ _ w1.drew
  go_wp2_with fail
  refine (AP.out w1.drew hN1 hn h1 h2).mono ?_
  rintro e w2 ⟨rfl, hN2, hg2⟩
  have hg2' : w1.grownBy w2 (some nb) := undrew hg2
  have X2 := blk_kept X0 hg2' (by simp; omega)
  have hb2 := blk_kept hb0 hg2' (by simp; omega)
  have hr1 := row_keep (w' := w2) HR.out fun b hbk => (hg2'.block b (Nat.lt_of_lt_of_le (row_lt HR.out b hbk) hg0.size) (by have := (hfw b hbk).2; simp; omega)).trans (hg0.block b (row_lt HR.out b hbk) (by simp))
  have hgw : Turns w w2 (fun b => b = f ∨ b = nb ∨ wv.ownBlock = some b) := (Turns.of_opt hg0 (by simp)).trans (Turns.of hg2' (.inr (.inl rfl)))
  have y0 := X2.cell 0
  have y1 := X2.cell 1
  have y2 := X2.cell 2
  have t3 : w2.cell? ⟨f, 3, none⟩ = some wv := hb2.cell 3
  have ft3 := hb2.free 3
  have ht3 : ∀ k, some k = wv.ownBlock → k ≠ f := fun k hk => (hfw k hk.symm).1
  have HB2 := Lib.hid hb2
  have HR2 := Lib.hid hr1
  have HN2 := Lib.hid hN2
  have HW2 := Lib.hid hgw
  clear s0 s1 x0 x1 x2 X0 X2 hb2 hr1 hN2 hN1 hg2 hg2' hg0 hb0 hgw AP
  have t3a : (w2.alloc (.cells #[.string c.gone, .string c.name, p] 83)).cell? ⟨f, 3, none⟩ = some wv := (blk_kept HB2.out (World.grownBy_alloc w2 (.cells #[.string c.gone, .string c.name, p] 83) none) (by simp)).cell 3
  have R1 : Hid (((w2.alloc (.cells #[.string c.gone, .string c.name, p] 83)).drew).ownsRow 0 83 3 wv d.wait.length (chgCells d.wait)) := HR2.out.alloc _
  have R2 : Hid (∀ u ∈ [Value.string c.gone, Value.string c.name, p], u.oneCell' = true) := by
    have := chg_each c
    rw [Chg.cells, HP.out] at this
    exact this
  have R3 : Hid (d.wait.length + 1 ≤ maxLen) := by show _ ≤ _; unfold maxLen; omega
  have R4 : Hid ((d.wait.length + 1) * 40 ≤ 140737488355328) := by show _ ≤ _; omega
  go_wp2_with fail
  go_region_law (refine step_append_where rfl (.tmp 27) (.tmp 29) 55 rfl 0 83 _ 3 40 Tryd.underlying55 chg_info rfl (by decide) wv d.wait.length (chgCells d.wait) rfl R1.out ⟨w2.heap.size, 0, none⟩ 1 1 [.string c.gone, .string c.name, p] rfl rfl (three_cells w2 _ _ _ _) R2.out R3.out R4.out (Nat.zero_le _) ?_; intro v3 w3 G1 G2 G3; obtain ⟨A3, c3, rfl, _, _⟩ := own_form G1.out; have hb3 := blk_kept (blk_kept HB2.out (World.grownBy_alloc w2 (.cells #[.string c.gone, .string c.name, p] 83) none) (by simp)) (undrew G2.out) (fun e => ht3 f e rfl); have t33 : w3.cell? ⟨f, 3, none⟩ = some wv := hb3.cell 3; have ft33 := hb3.free 3; have HB3 := Lib.hid hb3; clear hb3)
  all_goals
    go_wp2_with fail
    go_end0
    exact change_end hfn hfw hfl HW2.out.2.2.2.1 HN2.out HW2.out (by rw [HP.out]; exact G1.out) G2.out G3.out HB3.out
end Go.Proofs.YtcmlchicpmnhdaaDoor.Disk
/-
  Proved: what Create of package disk does to a disk.
-/
namespace Go.Proofs.YtcmlchicpmnhdaaDoor.Disk
open Go.RowKit Go.Maps
set_option linter.unusedVariables false
set_option linter.unusedSimpArgs false

def tag (own : Own) (p : Nat × Nat) (T : List Nat) : Own := fun b => if b ∈ T then some p else own b
theorem tag_old {own : Own} {p : Nat × Nat} {T : List Nat} {b : Nat} (h : b ∉ T) : tag own p T b = own b := if_neg h
theorem tag_new {own : Own} {p : Nat × Nat} {T : List Nat} {b : Nat} (h : b ∈ T) : tag own p T b = some p := if_pos h
theorem held_inv {v v' : Value} {ps : List MemPlace} (h : held v = some (.held v', ps)) : v = v' := by
  unfold held at h
  rw [Option.some.injEq, Prod.mk.injEq, DataW.held.injEq] at h
  exact h.1
theorem zeroPtr (w : World) : (zeroValue 79).run Tryd.prog w = .ok (.pointer none) w := by kernel_rfl
theorem dir_look {w : World} {nb n : Nat} {N : Dir} {s : ByteArray} (h : w.ownsMap Tryd.prog 9 held nb n (dirMap N)) (hs : s.size ≤ maxLen) :
    (Instr.lookup 54 (.map (some nb)) (.string s) false).run Tryd.prog w = .ok (match dget s.data.toList N with | some g => fp g | none => .pointer none) w := by
  obtain ⟨v, ps, hrun, hv⟩ := h.lookup lawS Tryd.underlying54 (zeroPtr w) (zd := .held (.pointer none)) (zp := []) rfl (keyS hs)
  rw [dirMap_at] at hv
  rw [hrun]
  generalize dget s.data.toList N = x at *
  cases x with
  | none => rw [held_inv hv]
  | some g => rw [held_inv hv]
theorem dir_look_some {w : World} {nb n g : Nat} {N : Dir} {s : ByteArray} (h : w.ownsMap Tryd.prog 9 held nb n (dirMap N)) (hs : s.size ≤ maxLen) (hg : dget s.data.toList N = some g) :
    (Instr.lookup 54 (.map (some nb)) (.string s) false).run Tryd.prog w = .ok (.pointer (some ⟨g, 0, none⟩)) w := by
  have := dir_look h hs
  rw [hg] at this
  exact this
theorem dir_look_none {w : World} {nb n : Nat} {N : Dir} {s : ByteArray} (h : w.ownsMap Tryd.prog 9 held nb n (dirMap N)) (hs : s.size ≤ maxLen) (hg : dget s.data.toList N = none) :
    (Instr.lookup 54 (.map (some nb)) (.string s) false).run Tryd.prog w = .ok (.pointer none) w := by
  have := dir_look h hs
  rw [hg] at this
  exact this
theorem dir_len {w : World} {nb n : Nat} {N : Dir} (h : w.ownsMap Tryd.prog 9 held nb n (dirMap N)) (ty : TypeId) :
    (Builtin.len_ #[54] ty #[.map (some nb)]).run Tryd.prog w = .ok (.int .i64 (N.length : Int)) w := by
  have := h.len Tryd.underlying54 ty
  rwa [dirMap_size] at this
/-- A disk of which the fields alone have turned. -/
theorem DiskIn.put {own : Own} {w w' : World} {f K K' nb sb : Nat} {d d' : Dk} {wv : Value} (h : DiskIn own w f d K nb sb wv) (hg : w.grownBy w' (some f)) (hb : Blk w' f 57 (fsCells d' nb sb wv))
    (hN : d'.N = d.N) (hS : d'.S = d.S) (hw : d'.wait = d.wait) (hf : d'.fl = d.fl) (hok : d'.Ok K') : DiskIn own w' f d' K' nb sb wv := by
  have hfb := h.blk
  have hne : ∀ b, (∃ t cs fr, w.heap[b]? = some (.cells cs t fr) ∧ t ≠ 57) → some b ≠ some f := by
    rintro b ⟨t, cs, fr, hx, ht⟩ e
    injection e with e
    subst e
    have hx' := hfb.symm.trans hx
    injection hx' with hx'
    injection hx' with h1 h2 h3
    exact ht h2.symm
  have hnm : ∀ b n D k, w.ownsMap Tryd.prog k held b n D → some b ≠ some f := by
    rintro b n D k ⟨es, clock, hx, _⟩ e
    injection e with e
    subst e
    have hx' := hfb.symm.trans hx
    injection hx' with hx'
    cases hx'
  obtain ⟨ok, top, blk, of, on, os, ne, mapN, mapS, row, orow, files⟩ := h
  refine ⟨hok, fun b p hp => Nat.lt_of_lt_of_le (top b p hp) hg.size, hb, of, on, os, ne, ?_, ?_, ?_, orow, ?_⟩
  · rw [hN]; exact mapN.kept hg (hnm _ _ _ _ mapN)
  · rw [hS]; exact mapS.kept hg (hnm _ _ _ _ mapS)
  · rw [hw]
    refine row_keep row fun b hbk => hg.block b (row_lt row b hbk) ?_
    rcases row.2 with ⟨rfl, _⟩ | ⟨g, cap, cur, rfl, _, hgg, _⟩
    · cases hbk
    · have e1 : g = b := by injection hbk
      subst e1
      exact hne g ⟨_, _, _, hgg, by decide⟩
  · intro g hr
    have hr' : d.refs g := by
      unfold Dk.refs at hr ⊢
      rwa [hN, hS, hw] at hr
    obtain ⟨h1, v, ob, hfile⟩ := files g hr'
    rw [hf]
    exact ⟨h1, v, ob, hfile.keep hg.size (fun _ _ => rfl) fun b hb' hp => hg.block b hb' (by
      intro e
      injection e with e
      subst e
      rw [of] at hp
      injection hp with hp
      injection hp with _ hp
      exact h1 hp.symm)⟩
theorem Dk.Ok.begin {d : Dk} {K : Nat} (h : d.Ok K) (hK : K + 1 ≤ 1073741824) : d.begin.Ok (K + 1) := by
  obtain ⟨big, room, N, S, names, calls, reads, others⟩ := h
  unfold Dk.begin
  split
  · refine ⟨hK, room, ?_, ?_, names, ?_, ?_, others⟩ <;> dsimp only <;> omega
  · split
    · refine ⟨hK, room, ?_, ?_, names, ?_, ?_, ?_⟩ <;> dsimp only <;> omega
    · refine ⟨hK, room, ?_, ?_, names, ?_, ?_, others⟩ <;> dsimp only <;> omega
theorem Dk.begin_N (d : Dk) : d.begin.N = d.N ∧ d.begin.S = d.S ∧ d.begin.wait = d.wait ∧ d.begin.fl = d.fl ∧ d.begin.room = d.room := by
  unfold Dk.begin
  split
  · exact ⟨rfl, rfl, rfl, rfl, rfl⟩
  · split <;> exact ⟨rfl, rfl, rfl, rfl, rfl⟩
/-- begin, on a disk. -/
theorem begin_any {own : Own} {w : World} {f K nb sb : Nat} {d : Dk} {wv : Value} (h : DiskIn own w f d K nb sb wv) (hK : K + 1 ≤ 1073741824) :
    Calls Tryd.prog 36 #[.pointer (some ⟨f, 0, none⟩)] w fun e w' => e = .returned (.int .i64 d.err) ∧ DiskIn own w' f d.begin (K + 1) nb sb wv ∧ w.grownBy w' (some f) :=
  (begin_raw f nb sb wv d K w h.ok h.blk).mono fun _ _ ⟨h1, h2, h3⟩ => ⟨h1, h.put h3 h2 d.begin_N.1 d.begin_N.2.1 d.begin_N.2.2.1 d.begin_N.2.2.2.1 (h.ok.begin hK), h3⟩

def Dk.change (d : Dk) (c : Chg) : Dk := { d with N := c.on d.N, wait := d.wait ++ [c] }
theorem Chg.on_mem {c : Chg} {N : Dir} {p : Nm × Nat} (h : p ∈ c.on N) : c.file = some p.2 ∨ p ∈ N := by
  unfold Chg.on at h
  split at h
  · rename_i g hg
    rcases dput_mem h with rfl | h
    · exact .inl hg
    · exact .inr (ddel_mem h)
  · exact .inr (ddel_mem h)
theorem Dk.change_refs {d : Dk} {c : Chg} {g : Nat} (h : (d.change c).refs g) : c.file = some g ∨ d.refs g := by
  unfold Dk.refs Dk.change at h
  dsimp only at h
  rcases h with h | h | ⟨c', hc, hg⟩
  · obtain ⟨p, hp, rfl⟩ := List.mem_map.1 h
    rcases Chg.on_mem hp with h | h
    · exact .inl h
    · exact .inr (.inl (List.mem_map.2 ⟨p, h, rfl⟩))
  · exact .inr (.inr (.inl h))
  · rcases List.mem_append.1 hc with hc | hc
    · exact .inr (.inr (.inr ⟨c', hc, hg⟩))
    · obtain rfl := List.mem_singleton.1 hc
      exact .inl hg
/-- What is f's own, and what is not. -/
theorem DiskIn.cells_ne_map {own : Own} {w : World} {f K nb sb : Nat} {d : Dk} {wv : Value} (h : DiskIn own w f d K nb sb wv) : f ≠ nb ∧ f ≠ sb ∧ (∀ b, wv.ownBlock = some b → b ≠ f ∧ b ≠ nb ∧ b ≠ sb) := by
  have hnm : ∀ b n D k, w.ownsMap Tryd.prog k held b n D → ∀ t cs fr, w.heap[b]? ≠ some (.cells cs t fr) := by
    rintro b n D k ⟨es, clock, hx, _⟩ t cs fr e
    rw [hx] at e
    injection e with e
    cases e
  refine ⟨fun e => ?_, fun e => ?_, fun b hb => ?_⟩
  · exact hnm _ _ _ _ h.mapN _ _ _ (by rw [← e]; exact h.blk)
  · exact hnm _ _ _ _ h.mapS _ _ _ (by rw [← e]; exact h.blk)
  · rcases h.row.2 with ⟨e, _⟩ | ⟨g, cap, cur, e, _, hgg, _⟩
    · rw [e] at hb; cases hb
    · rw [e] at hb
      have e1 : g = b := by injection hb
      subst e1
      refine ⟨fun e => ?_, fun e => ?_, fun e => ?_⟩
      · subst e
        have hx' := h.blk.symm.trans hgg
        injection hx' with hx'
        injection hx' with h1 h2 h3
        exact absurd h2 (by decide)
      · subst e; exact hnm _ _ _ _ h.mapN _ _ _ hgg
      · subst e; exact hnm _ _ _ _ h.mapS _ _ _ hgg
theorem change_any {own : Own} {w : World} {f K K' nb sb : Nat} {d : Dk} {wv : Value} (h : DiskIn own w f d K nb sb wv) (c : Chg) (h1 : c.gone.size ≤ maxLen) (h2 : c.name.size ≤ maxLen)
    (hfile : ∀ g, c.file = some g → g ≠ f ∧ FileAt own w f g (d.fl g)) (hok : (d.change c).Ok K') :
    Calls Tryd.prog 38 #[.pointer (some ⟨f, 0, none⟩), .agg #[.string c.gone, .string c.name, c.ptr]] w fun e w' => ∃ own' wv', e = .returned undef ∧ DiskIn own' w' f (d.change c) K' nb sb wv' ∧ Step own own' f w w' := by
  obtain ⟨n1, n2, n3⟩ := h.cells_ne_map
  have hK := h.ok.big
  refine (change_raw f nb sb d.N.length wv d c w h.blk h.mapN (by have := h.ok.N; unfold maxLen; omega) h1 h2 h.row (by have := h.ok.S; omega) n1 (fun b hb => ⟨(n3 b hb).1, (n3 b hb).2.1⟩)).mono ?_
  rintro e w' ⟨wv', rfl, hb, hm, hr, hl, ht⟩
  have hown : ∀ b, b < w.heap.size → tag own (f, f) wv'.ownBlock.toList b = own b := by
    intro b hb
    by_cases hx : b ∈ wv'.ownBlock.toList
    · rw [tag_new hx]
      have hx' : wv'.ownBlock = some b := by simpa using hx
      rcases hl with hl | hl
      · exact (h.orow b (hl ▸ hx')).symm
      · have := hl b hx'
        omega
    · exact tag_old hx
  have hfr : ∀ b g, own b = some (f, g) → g ≠ f → ¬ (b = f ∨ b = nb ∨ wv.ownBlock = some b) := by
    rintro b g hg hne (rfl | rfl | hx)
    · rw [h.of] at hg; injection hg with hg; injection hg with _ hg; exact hne hg.symm
    · rw [h.on] at hg; injection hg with hg; injection hg with _ hg; exact hne hg.symm
    · rw [h.orow b hx] at hg; injection hg with hg; injection hg with _ hg; exact hne hg.symm
  refine ⟨tag own (f, f) wv'.ownBlock.toList, wv', rfl, ⟨hok, ?_, hb, ?_, ?_, ?_, h.ne, ?_, ?_, hr, ?_, ?_⟩, ⟨ht.1, ht.2.1, ht.2.2.1, ht.2.2.2.1, hown, ?_, ?_⟩⟩
  · intro b p hp
    by_cases hx : b ∈ wv'.ownBlock.toList
    · exact row_lt hr b (by simpa using hx)
    · rw [tag_old hx] at hp
      exact Nat.lt_of_lt_of_le (h.top b p hp) ht.2.2.2.1
  · exact (hown f (blk_lt' h.blk)).trans h.of
  · exact (hown nb h.mapN.lt).trans h.on
  · exact (hown sb h.mapS.lt).trans h.os
  · have := map_tight hm
    rwa [dirMap_size] at this
  · refine map_keep h.mapS (ht.keep h.mapS.lt ?_)
    rintro (e | e | e)
    · exact n2 e.symm
    · exact h.ne e.symm
    · exact (n3 sb e).2.2 rfl
  · intro b hb
    exact tag_new (by simpa using hb)
  · intro g hg
    have hf : g ≠ f ∧ FileAt own w f g (d.fl g) := by
      rcases Dk.change_refs hg with h' | h'
      · exact hfile g h'
      · exact h.files g h'
    obtain ⟨hgf, v, ob, hf⟩ := hf
    exact ⟨hgf, v, ob, hf.keep ht.2.2.2.1 hown fun b hb hp => ht.keep hb (hfr b g hp hgf)⟩
  · intro b hb hne
    refine ht.keep hb ?_
    rintro (rfl | rfl | hx)
    · exact hne _ h.of
    · exact hne _ h.on
    · exact hne _ (h.orow b hx)
  · intro b hb p hp
    by_cases hx : b ∈ wv'.ownBlock.toList
    · rw [tag_new hx] at hp
      injection hp with hp
      rw [← hp]
    · rw [tag_old hx] at hp
      have := h.top b p hp
      omega
end Go.Proofs.YtcmlchicpmnhdaaDoor.Disk
