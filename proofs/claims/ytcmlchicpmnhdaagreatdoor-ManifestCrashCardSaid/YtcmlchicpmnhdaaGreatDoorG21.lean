/-
  Texts one behind the other: DiskOps, DiskCreate.
-/
import Derived.Test.YtcmlchicpmnhdaaGreatDoorG20
/-
  Proved: what Create of package disk does to a disk.
-/
namespace Go.Proofs.YtcmlchicpmnhdaaGreatDoor.Disk
open Go.RowKit Go.Maps
set_option linter.unusedVariables false
set_option linter.unusedSimpArgs false

def tag (own : Own) (p : Nat × Nat) (T : List Nat) : Own := fun b => if b ∈ T then some p else own b
theorem tag_old {own : Own} {p : Nat × Nat} {T : List Nat} {b : Nat} (h : b ∉ T) : tag own p T b = own b := if_neg h
theorem tag_new {own : Own} {p : Nat × Nat} {T : List Nat} {b : Nat} (h : b ∈ T) : tag own p T b = some p := if_pos h
theorem held_inv {v v' : Value} {ps : List MemPlace} (h : held v = some (.held v', ps)) : v = v' := by
  unfold held at h
  rw [Option.some.injEq, Prod.mk.injEq, DataW.held.injEq] at h
  exact h.1
theorem zeroPtr (w : World) : (zeroValue 69).run Tryz.prog w = .ok (.pointer none) w := by kernel_rfl
theorem dir_look {w : World} {nb n : Nat} {N : Dir} {s : ByteArray} (h : w.ownsMap Tryz.prog 9 held nb n (dirMap N)) (hs : s.size ≤ maxLen) :
    (Instr.lookup 55 (.map (some nb)) (.string s) false).run Tryz.prog w = .ok (match dget s.data.toList N with | some g => fp g | none => .pointer none) w := by
  obtain ⟨v, ps, hrun, hv⟩ := h.lookup lawS Tryz.underlying55 (zeroPtr w) (zd := .held (.pointer none)) (zp := []) rfl (keyS hs)
  rw [dirMap_at] at hv
  rw [hrun]
  generalize dget s.data.toList N = x at *
  cases x with
  | none => rw [held_inv hv]
  | some g => rw [held_inv hv]
theorem dir_look_some {w : World} {nb n g : Nat} {N : Dir} {s : ByteArray} (h : w.ownsMap Tryz.prog 9 held nb n (dirMap N)) (hs : s.size ≤ maxLen) (hg : dget s.data.toList N = some g) :
    (Instr.lookup 55 (.map (some nb)) (.string s) false).run Tryz.prog w = .ok (.pointer (some ⟨g, 0, none⟩)) w := by
  have := dir_look h hs
  rw [hg] at this
  exact this
theorem dir_look_none {w : World} {nb n : Nat} {N : Dir} {s : ByteArray} (h : w.ownsMap Tryz.prog 9 held nb n (dirMap N)) (hs : s.size ≤ maxLen) (hg : dget s.data.toList N = none) :
    (Instr.lookup 55 (.map (some nb)) (.string s) false).run Tryz.prog w = .ok (.pointer none) w := by
  have := dir_look h hs
  rw [hg] at this
  exact this
theorem dir_len {w : World} {nb n : Nat} {N : Dir} (h : w.ownsMap Tryz.prog 9 held nb n (dirMap N)) (ty : TypeId) :
    (Builtin.len_ #[55] ty #[.map (some nb)]).run Tryz.prog w = .ok (.int .i64 (N.length : Int)) w := by
  have := h.len Tryz.underlying55 ty
  rwa [dirMap_size] at this
/-- A disk of which the fields alone have turned. -/
theorem DiskIn.put {own : Own} {w w' : World} {f K K' nb sb : Nat} {d d' : Dk} {wv : Value} (h : DiskIn own w f d K nb sb wv) (hg : w.grownBy w' (some f)) (hb : Blk w' f 58 (fsCells d' nb sb wv))
    (hN : d'.N = d.N) (hS : d'.S = d.S) (hw : d'.wait = d.wait) (hf : d'.fl = d.fl) (hok : d'.Ok K') : DiskIn own w' f d' K' nb sb wv := by
  have hfb := h.blk
  have hne : ∀ b, (∃ t cs fr, w.heap[b]? = some (.cells cs t fr) ∧ t ≠ 58) → some b ≠ some f := by
    rintro b ⟨t, cs, fr, hx, ht⟩ e
    injection e with e
    subst e
    have hx' := hfb.symm.trans hx
    injection hx' with hx'
    injection hx' with h1 h2 h3
    exact ht h2.symm
  have hnm : ∀ b n D k, w.ownsMap Tryz.prog k held b n D → some b ≠ some f := by
    rintro b n D k ⟨es, clock, hx, _⟩ e
    injection e with e
    subst e
    have hx' := hfb.symm.trans hx
    injection hx' with hx'
    cases hx'
  obtain ⟨ok, top, blk, of, on, os, ne, mapN, mapS, row, orow, files⟩ := h
  refine ⟨hok, fun b p hp => Nat.lt_of_lt_of_le (top b p hp) hg.size, hb, of, on, os, ne, ?_, ?_, ?_, orow, ?_⟩
  · rw [hN]; exact mapN.kept hg (hnm _ _ _ _ mapN)
  · rw [hS]; exact mapS.kept hg (hnm _ _ _ _ mapS)
  · rw [hw]
    refine row_keep row fun b hbk => hg.block b (row_lt row b hbk) ?_
    rcases row.2 with ⟨rfl, _⟩ | ⟨g, cap, cur, rfl, _, hgg, _⟩
    · cases hbk
    · have e1 : g = b := by injection hbk
      subst e1
      exact hne g ⟨_, _, _, hgg, by decide⟩
  · intro g hr
    have hr' : d.refs g := by
      unfold Dk.refs at hr ⊢
      rwa [hN, hS, hw] at hr
    obtain ⟨h1, v, ob, hfile⟩ := files g hr'
    rw [hf]
    exact ⟨h1, v, ob, hfile.keep hg.size (fun _ _ => rfl) fun b hb' hp => hg.block b hb' (by
      intro e
      injection e with e
      subst e
      rw [of] at hp
      injection hp with hp
      injection hp with _ hp
      exact h1 hp.symm)⟩
theorem Dk.Ok.begin {d : Dk} {K : Nat} (h : d.Ok K) (hK : K + 1 ≤ 1073741824) : d.begin.Ok (K + 1) := by
  obtain ⟨big, room, N, S, names, calls, reads, others⟩ := h
  unfold Dk.begin
  split
  · refine ⟨hK, room, ?_, ?_, names, ?_, ?_, others⟩ <;> dsimp only <;> omega
  · split
    · refine ⟨hK, room, ?_, ?_, names, ?_, ?_, ?_⟩ <;> dsimp only <;> omega
    · refine ⟨hK, room, ?_, ?_, names, ?_, ?_, others⟩ <;> dsimp only <;> omega
theorem Dk.begin_N (d : Dk) : d.begin.N = d.N ∧ d.begin.S = d.S ∧ d.begin.wait = d.wait ∧ d.begin.fl = d.fl ∧ d.begin.room = d.room := by
  unfold Dk.begin
  split
  · exact ⟨rfl, rfl, rfl, rfl, rfl⟩
  · split <;> exact ⟨rfl, rfl, rfl, rfl, rfl⟩
/-- begin, on a disk. -/
theorem begin_any {own : Own} {w : World} {f K nb sb : Nat} {d : Dk} {wv : Value} (h : DiskIn own w f d K nb sb wv) (hK : K + 1 ≤ 1073741824) :
    Calls Tryz.prog 77 #[.pointer (some ⟨f, 0, none⟩)] w fun e w' => e = .returned (.int .i64 d.err) ∧ DiskIn own w' f d.begin (K + 1) nb sb wv ∧ w.grownBy w' (some f) :=
  (begin_raw f nb sb wv d K w h.ok h.blk).mono fun _ _ ⟨h1, h2, h3⟩ => ⟨h1, h.put h3 h2 d.begin_N.1 d.begin_N.2.1 d.begin_N.2.2.1 d.begin_N.2.2.2.1 (h.ok.begin hK), h3⟩

def Dk.change (d : Dk) (c : Chg) : Dk := { d with N := c.on d.N, wait := d.wait ++ [c] }
theorem Chg.on_mem {c : Chg} {N : Dir} {p : Nm × Nat} (h : p ∈ c.on N) : c.file = some p.2 ∨ p ∈ N := by
  unfold Chg.on at h
  split at h
  · rename_i g hg
    rcases dput_mem h with rfl | h
    · exact .inl hg
    · exact .inr (ddel_mem h)
  · exact .inr (ddel_mem h)
theorem Dk.change_refs {d : Dk} {c : Chg} {g : Nat} (h : (d.change c).refs g) : c.file = some g ∨ d.refs g := by
  unfold Dk.refs Dk.change at h
  dsimp only at h
  rcases h with h | h | ⟨c', hc, hg⟩
  · obtain ⟨p, hp, rfl⟩ := List.mem_map.1 h
    rcases Chg.on_mem hp with h | h
    · exact .inl h
    · exact .inr (.inl (List.mem_map.2 ⟨p, h, rfl⟩))
  · exact .inr (.inr (.inl h))
  · rcases List.mem_append.1 hc with hc | hc
    · exact .inr (.inr (.inr ⟨c', hc, hg⟩))
    · obtain rfl := List.mem_singleton.1 hc
      exact .inl hg
/-- What is f's own, and what is not. -/
theorem DiskIn.cells_ne_map {own : Own} {w : World} {f K nb sb : Nat} {d : Dk} {wv : Value} (h : DiskIn own w f d K nb sb wv) : f ≠ nb ∧ f ≠ sb ∧ (∀ b, wv.ownBlock = some b → b ≠ f ∧ b ≠ nb ∧ b ≠ sb) := by
  have hnm : ∀ b n D k, w.ownsMap Tryz.prog k held b n D → ∀ t cs fr, w.heap[b]? ≠ some (.cells cs t fr) := by
    rintro b n D k ⟨es, clock, hx, _⟩ t cs fr e
    rw [hx] at e
    injection e with e
    cases e
  refine ⟨fun e => ?_, fun e => ?_, fun b hb => ?_⟩
  · exact hnm _ _ _ _ h.mapN _ _ _ (by rw [← e]; exact h.blk)
  · exact hnm _ _ _ _ h.mapS _ _ _ (by rw [← e]; exact h.blk)
  · rcases h.row.2 with ⟨e, _⟩ | ⟨g, cap, cur, e, _, hgg, _⟩
    · rw [e] at hb; cases hb
    · rw [e] at hb
      have e1 : g = b := by injection hb
      subst e1
      refine ⟨fun e => ?_, fun e => ?_, fun e => ?_⟩
      · subst e
        have hx' := h.blk.symm.trans hgg
        injection hx' with hx'
        injection hx' with h1 h2 h3
        exact absurd h2 (by decide)
      · subst e; exact hnm _ _ _ _ h.mapN _ _ _ hgg
      · subst e; exact hnm _ _ _ _ h.mapS _ _ _ hgg
theorem change_any {own : Own} {w : World} {f K K' nb sb : Nat} {d : Dk} {wv : Value} (h : DiskIn own w f d K nb sb wv) (c : Chg) (h1 : c.gone.size ≤ maxLen) (h2 : c.name.size ≤ maxLen)
    (hfile : ∀ g, c.file = some g → g ≠ f ∧ FileAt own w f g (d.fl g)) (hok : (d.change c).Ok K') :
    Calls Tryz.prog 79 #[.pointer (some ⟨f, 0, none⟩), .agg #[.string c.gone, .string c.name, c.ptr]] w fun e w' => ∃ own' wv', e = .returned undef ∧ DiskIn own' w' f (d.change c) K' nb sb wv' ∧ Step own own' f w w' := by
  obtain ⟨n1, n2, n3⟩ := h.cells_ne_map
  have hK := h.ok.big
  refine (change_raw f nb sb d.N.length wv d c w h.blk h.mapN (by have := h.ok.N; unfold maxLen; omega) h1 h2 h.row (by have := h.ok.S; omega) n1 (fun b hb => ⟨(n3 b hb).1, (n3 b hb).2.1⟩)).mono ?_
  rintro e w' ⟨wv', rfl, hb, hm, hr, hl, ht⟩
  have hown : ∀ b, b < w.heap.size → tag own (f, f) wv'.ownBlock.toList b = own b := by
    intro b hb
    by_cases hx : b ∈ wv'.ownBlock.toList
    · rw [tag_new hx]
      have hx' : wv'.ownBlock = some b := by simpa using hx
      rcases hl with hl | hl
      · exact (h.orow b (hl ▸ hx')).symm
      · have := hl b hx'
        omega
    · exact tag_old hx
  have hfr : ∀ b g, own b = some (f, g) → g ≠ f → ¬ (b = f ∨ b = nb ∨ wv.ownBlock = some b) := by
    rintro b g hg hne (rfl | rfl | hx)
    · rw [h.of] at hg; injection hg with hg; injection hg with _ hg; exact hne hg.symm
    · rw [h.on] at hg; injection hg with hg; injection hg with _ hg; exact hne hg.symm
    · rw [h.orow b hx] at hg; injection hg with hg; injection hg with _ hg; exact hne hg.symm
  refine ⟨tag own (f, f) wv'.ownBlock.toList, wv', rfl, ⟨hok, ?_, hb, ?_, ?_, ?_, h.ne, ?_, ?_, hr, ?_, ?_⟩, ⟨ht.1, ht.2.1, ht.2.2.1, ht.2.2.2.1, hown, ?_, ?_⟩⟩
  · intro b p hp
    by_cases hx : b ∈ wv'.ownBlock.toList
    · exact row_lt hr b (by simpa using hx)
    · rw [tag_old hx] at hp
      exact Nat.lt_of_lt_of_le (h.top b p hp) ht.2.2.2.1
  · exact (hown f (blk_lt' h.blk)).trans h.of
  · exact (hown nb h.mapN.lt).trans h.on
  · exact (hown sb h.mapS.lt).trans h.os
  · have := map_tight hm
    rwa [dirMap_size] at this
  · refine map_keep h.mapS (ht.keep h.mapS.lt ?_)
    rintro (e | e | e)
    · exact n2 e.symm
    · exact h.ne e.symm
    · exact (n3 sb e).2.2 rfl
  · intro b hb
    exact tag_new (by simpa using hb)
  · intro g hg
    have hf : g ≠ f ∧ FileAt own w f g (d.fl g) := by
      rcases Dk.change_refs hg with h' | h'
      · exact hfile g h'
      · exact h.files g h'
    obtain ⟨hgf, v, ob, hf⟩ := hf
    exact ⟨hgf, v, ob, hf.keep ht.2.2.2.1 hown fun b hb hp => ht.keep hb (hfr b g hp hgf)⟩
  · intro b hb hne
    refine ht.keep hb ?_
    rintro (rfl | rfl | hx)
    · exact hne _ h.of
    · exact hne _ h.on
    · exact hne _ (h.orow b hx)
  · intro b hb p hp
    by_cases hx : b ∈ wv'.ownBlock.toList
    · rw [tag_new hx] at hp
      injection hp with hp
      rw [← hp]
    · rw [tag_old hx] at hp
      have := h.top b p hp
      omega
end Go.Proofs.YtcmlchicpmnhdaaGreatDoor.Disk
/-
  Proved: what Create, Rename and Remove of package disk do to a disk.
-/
namespace Go.Proofs.YtcmlchicpmnhdaaGreatDoor.Disk
open Go.RowKit Go.Maps
set_option linter.unusedVariables false
set_option linter.unusedSimpArgs false

/-- The world behind newFile. -/
def fileWorld (w : World) (v : Value) (n : Nat) : World := (w.alloc (.map #[] 0)).alloc (.cells #[v, .int .i64 (n : Int), .map (some w.heap.size)] 78)
theorem fileWorld_size (w : World) (v : Value) (n : Nat) : (fileWorld w v n).heap.size = w.heap.size + 2 := by simp [fileWorld]
theorem fileWorld_below (w : World) (v : Value) (n : Nat) : Below w.heap.size w (fileWorld w v n) := ((Below.refl _ _).alloc (Nat.le_refl _) _).alloc (by simp) _
def fileOwn (own : Own) (f s : Nat) (v : Value) : Own := tag own (f, s + 1) (s :: (s + 1) :: v.ownBlock.toList)
theorem fileNew {own : Own} {w0 w : World} {f : Nat} {v : Value} {bs : List UInt8} (ht : ∀ b p, own b = some p → b < w0.heap.size) (h0 : w0.heap.size ≤ w.heap.size) (hv : ∀ b, v.ownBlock = some b → w0.heap.size ≤ b)
    (hrow : w.ownsRow 0 5 1 v bs.length (bvs bs)) (hmax : bs.length ≤ 4194304) :
    FileIn (fileOwn own f w.heap.size v) (fileWorld w v bs.length) f (w.heap.size + 1) ⟨bs, bs, []⟩ v w.heap.size ∧
    (∀ b, b < w0.heap.size → fileOwn own f w.heap.size v b = own b) ∧ (∀ b p, fileOwn own f w.heap.size v b = some p → b < (fileWorld w v bs.length).heap.size) ∧ (∀ b p, w0.heap.size ≤ b → fileOwn own f w.heap.size v b = some p → p.1 = f) := by
  have hB := fileWorld_below w v bs.length
  refine ⟨⟨⟨Nat.le_refl _, hmax, List.Pairwise.nil, by simp, fun _ _ _ => rfl⟩, ?_, tag_new (by simp), tag_new (by simp), ?_, ?_, ?_, by simp⟩, ?_, ?_, ?_⟩
  · have := Blk.new (w.alloc (.map #[] 0)) 78 #[v, .int .i64 (bs.length : Int), .map (some w.heap.size)]
    simpa [fileWorld] using this
  · exact row_keep hrow fun b hb => hB.block b (row_lt hrow b hb)
  · intro b hb
    exact tag_new (by simp [hb])
  · exact (World.ownsMap_made w Tryz.prog 3 held).alloc _
  · intro b hb
    refine tag_old ?_
    simp only [List.mem_cons, not_or, Option.mem_toList]
    refine ⟨by omega, by omega, fun e => ?_⟩
    have := hv b e
    omega
  · intro b p hp
    rw [fileWorld_size]
    by_cases hx : b ∈ (w.heap.size :: (w.heap.size + 1) :: v.ownBlock.toList)
    · simp only [List.mem_cons, Option.mem_toList] at hx
      rcases hx with rfl | rfl | hx
      · omega
      · omega
      · have := row_lt hrow b hx
        omega
    · have := ht b p ((tag_old hx).symm.trans hp)
      omega
  · intro b p hb hp
    by_cases hx : b ∈ (w.heap.size :: (w.heap.size + 1) :: v.ownBlock.toList)
    · have e := (tag_new (own := own) (p := (f, w.heap.size + 1)) hx).symm.trans hp
      injection e with e
      rw [← e]
    · have := ht b p ((tag_old hx).symm.trans hp)
      omega

def Dk.err0 (d : Dk) : Prop := d.err = 0
theorem Dk.err_cases (d : Dk) : d.err = 0 ∨ d.err = 3 := by
  unfold Dk.err
  split
  · exact .inr rfl
  · exact .inl rfl
def Dk.withFile (d : Dk) (g : Nat) (x : Fl) : Dk := { d with fl := upd d.fl g x }
def emptyFl : Fl := ⟨[], [], []⟩
def noName : ByteArray := ⟨#[]⟩
def Dk.create (d : Dk) (s : ByteArray) (g : Nat) : Int × Dk :=
  if d.err ≠ 0 then (3, d.begin)
  else if goodName s.data.toList = false then (5, d.begin)
  else if dget s.data.toList d.N = none ∧ 400 ≤ d.N.length then (2, d.begin)
  else (0, (d.begin.withFile g emptyFl).change ⟨noName, s, some g⟩)
theorem DiskIn.lt {own : Own} {w : World} {f K nb sb : Nat} {d : Dk} {wv : Value} (h : DiskIn own w f d K nb sb wv) {g : Nat} (hg : d.refs g) : g < w.heap.size := by
  obtain ⟨_, v, ob, hf⟩ := h.files g hg
  exact blk_lt' hf.blk
/-- A new file joins. -/
theorem DiskIn.withFile {own : Own} {w : World} {f K nb sb : Nat} {d : Dk} {wv : Value} (h : DiskIn own w f d K nb sb wv) :
    DiskIn (fileOwn own f w.heap.size (.slice none 0 0)) (fileWorld w (.slice none 0 0) 0) f (d.withFile (w.heap.size + 1) emptyFl) K nb sb wv ∧
    FileAt (fileOwn own f w.heap.size (.slice none 0 0)) (fileWorld w (.slice none 0 0) 0) f (w.heap.size + 1) emptyFl ∧ Step own (fileOwn own f w.heap.size (.slice none 0 0)) f w (fileWorld w (.slice none 0 0) 0) := by
  obtain ⟨h1, h2, h3, h4⟩ := fileNew (own := own) (w0 := w) (w := w) (f := f) (v := .slice none 0 0) (bs := []) h.top (Nat.le_refl _) (fun b hb => by cases hb) (World.ownsRow_nil w 0 _ 1) (by simp)
  have hB := fileWorld_below w (.slice none 0 0) 0
  have hk := h.keep hB.size h2 h3 fun b hb _ _ => hB.block b hb
  refine ⟨⟨hk.ok.1 |> fun _ => ⟨hk.ok.big, hk.ok.room, hk.ok.N, hk.ok.S, hk.ok.names, hk.ok.calls, hk.ok.reads, hk.ok.others⟩, hk.top, hk.blk, hk.of, hk.on, hk.os, hk.ne, hk.mapN, hk.mapS, hk.row, hk.orow, ?_⟩, ⟨_, _, h1⟩, ⟨hB.os, hB.tape, hB.output, hB.size, h2, fun b hb _ => hB.block b hb, fun b hb p hp => h4 b p hb hp⟩⟩
  intro g hg
  have hg' : d.refs g := hg
  have hlt := h.lt hg'
  have e : (d.withFile (w.heap.size + 1) emptyFl).fl g = d.fl g := if_neg (by omega)
  rw [e]
  exact hk.files g hg'
theorem Chg.on_len (c : Chg) (N : Dir) : (c.on N).length ≤ N.length + 1 := by
  unfold Chg.on
  split
  · have h1 := dput_len c.name.data.toList ‹Nat› (ddel c.gone.data.toList N)
    have h2 := ddel_len c.gone.data.toList N
    omega
  · have h2 := ddel_len c.gone.data.toList N
    omega
theorem Dk.Ok.change {d : Dk} {K : Nat} (h : d.Ok K) (hK : K + 1 ≤ 1073741824) (c : Chg) (h1 : c.gone.size ≤ maxLen) (h2 : c.name.size ≤ maxLen) : (d.begin.change c).Ok (K + 1) := by
  obtain ⟨b1, b2, b3, b4, b5, b6, b7, b8⟩ := h.begin hK
  obtain ⟨e1, e2, e3, e4, e5⟩ := d.begin_N
  have hN := h.N
  have hS := h.S
  have hl := c.on_len d.begin.N
  refine ⟨b1, b2, ?_, ?_, ?_, b6, b7, b8⟩
  · show (c.on d.begin.N).length ≤ _
    rw [e1] at hl ⊢
    omega
  · show d.begin.S.length + (d.begin.wait ++ [c]).length ≤ _
    rw [e2, e3, List.length_append, List.length_singleton]
    omega
  · intro c' hc
    rcases List.mem_append.1 hc with hc | hc
    · exact b5 c' hc
    · obtain rfl := List.mem_singleton.1 hc
      exact ⟨h1, h2⟩
/-- What a changing call leaves. -/
def Done (own : Own) (w : World) (f K : Nat) (R : Nat → Int × Dk) (e : Ending) (w' : World) : Prop := ∃ own' g, w.heap.size ≤ g ∧ e = .returned (.int .i64 (R g).1) ∧ DiskAt own' w' f (R g).2 K ∧ Step own own' f w w'
theorem Done.of {own own' : Own} {w w' : World} {f K : Nat} {R : Nat → Int × Dk} {e : Ending} {n : Int} {d' : Dk} (g : Nat) (hg : w.heap.size ≤ g) (hr : R g = (n, d')) (he : e = .returned (.int .i64 n)) (h : DiskAt own' w' f d' K) (hs : Step own own' f w w') : Done own w f K R e w' :=
  ⟨own', g, hg, by rw [hr]; exact he, by rw [hr]; exact h, hs⟩
/-- .. where the disk's call alone was counted. -/
theorem Done.begun {own : Own} {w w' : World} {f K nb sb : Nat} {R : Nat → Int × Dk} {e : Ending} {n : Int} {d : Dk} {wv : Value} (H : DiskIn own w f d K nb sb wv) (hr : R w.heap.size = (n, d.begin)) (he : e = .returned (.int .i64 n))
    (h : DiskIn own w' f d.begin (K + 1) nb sb wv) (hg : w.grownBy w' (some f)) : Done own w f (K + 1) R e w' := Done.of _ (Nat.le_refl _) hr he ⟨nb, sb, wv, h⟩ (Step.of_grown H.top H.of hg)
theorem create_ok {d : Dk} {K : Nat} (h : d.Ok K) (hK : K + 1 ≤ 1073741824) (s : ByteArray) (hs : s.size ≤ maxLen) (g : Nat) : ((d.begin.withFile g emptyFl).change ⟨noName, s, some g⟩).Ok (K + 1) := by
  obtain ⟨b1, b2, b3, b4, b5, b6, b7, b8⟩ := h.change hK ⟨noName, s, some g⟩ (by show (0 : Nat) ≤ _; omega) hs
  exact ⟨b1, b2, b3, b4, b5, b6, b7, b8⟩
theorem create_tail {own : Own} {w : World} {f K K' nb sb : Nat} {d : Dk} {wv : Value} (h : DiskIn own w f d K nb sb wv) (s : ByteArray) (hs : s.size ≤ maxLen) (hok : ∀ g, ((d.withFile g emptyFl).change ⟨noName, s, some g⟩).Ok K') :
    Calls Tryz.prog 79 #[.pointer (some ⟨f, 0, none⟩), .agg #[.string ⟨#[]⟩, .string s, .pointer (some ⟨w.heap.size + 1, 0, none⟩)]] ((w.alloc (.map #[] 0)).alloc (.cells #[.slice none 0 0, .int .i64 0, .map (some w.heap.size)] 78)) fun e w' => ∃ own', e = .returned undef ∧
      DiskAt own' w' f ((d.withFile (w.heap.size + 1) emptyFl).change ⟨noName, s, some (w.heap.size + 1)⟩) K' ∧ Step own own' f w w' := by
  obtain ⟨h1, h2, h3⟩ := h.withFile
  have hfl := blk_lt' h.blk
  refine (change_any h1 ⟨noName, s, some (w.heap.size + 1)⟩ (by show (0 : Nat) ≤ _; omega) hs (fun g hg => ?_) (hok _)).mono ?_
  · have e : w.heap.size + 1 = g := Option.some.inj hg
    subst e
    refine ⟨by omega, ?_⟩
    have e : (d.withFile (w.heap.size + 1) emptyFl).fl (w.heap.size + 1) = emptyFl := if_pos rfl
    rw [e]
    exact h2
  · rintro e w' ⟨own', wv', he, hd, hst⟩
    exact ⟨own', he, ⟨nb, sb, wv', hd⟩, h3.trans hst⟩
set_option maxRecDepth 100000 in
theorem create_any {own : Own} {w : World} {f K : Nat} {d : Dk} (s : ByteArray) (h : DiskAt own w f d K) (hs : s.size ≤ maxLen) (hK : K + 1 ≤ 1073741824) :
    Calls Tryz.prog 75 #[.pointer (some ⟨f, 0, none⟩), .string s] w (Done own w f (K + 1) (d.create s)) := by
  obtain ⟨nb, sb, wv, h⟩ := h
  have CB := begin_any h hK
  have CN := isName_any s
  rcases d.err_cases with he | he
  · rw [he] at CB
    have HE := Lib.hid he
    cases hg : goodName s.data.toList
    · rw [hg] at CN
      have HH := Lib.hid h
      have HR : Hid (d.create s w.heap.size = (5, d.begin)) := by show _ = _; rw [Dk.create, if_neg (by rw [he]; simp), if_pos hg]
      clear h hg he
      go_enter Tryz.func75, Tryz.ntmps75
      go_wp2_with (first
        | (go_at_call 77; refine CB.mono ?_; rintro e w1 ⟨rfl, h1, g1⟩)
        | (go_at_call 78; refine (CN _ hs).mono ?_; rintro e w' ⟨rfl, rfl⟩))
      go_ret
      exact Done.begun HH.out HR.out rfl h1 g1
    · rw [hg] at CN
      have HH := Lib.hid h
      have HG := Lib.hid hg
      have hN := h.ok.N
      have hl400 : ∀ x : Bool, ((d.N.length : Int) ≥ 400) = ((400 : Int) ≤ (d.N.length : Int)) := fun _ => rfl
      clear h hg he hl400
      cases hx : dget s.data.toList d.N with
      | none =>
        by_cases h400 : 400 ≤ d.N.length
        · have HR : Hid (d.create s w.heap.size = (2, d.begin)) := by show _ = _; rw [Dk.create, if_neg (by rw [HE.out]; simp), if_neg (by rw [HG.out]; simp), if_pos ⟨hx, h400⟩]
          have hx' : dget s.data.toList d.begin.N = none := by rw [d.begin_N.1]; exact hx
          have hl' : (d.begin.N.length : Int) = (d.N.length : Int) := by rw [d.begin_N.1]
          go_enter Tryz.func75, Tryz.ntmps75
          go_wp2_with (first
            | (go_at_call 77; refine CB.mono ?_; rintro e w1 ⟨rfl, h1, g1⟩; have b1 : w1.cell? ⟨f, 1, none⟩ = some (.map (some nb)) := (Blk.cell h1.blk 1); have lk := dir_look_none h1.mapN hs hx'; have ln := fun ty => dir_len h1.mapN ty; rw [hl'] at ln; have H1 := Lib.hid h1; clear h1)
            | (go_at_call 78; refine (CN _ hs).mono ?_; rintro e w' ⟨rfl, rfl⟩))
          go_ret
          exact Done.begun HH.out HR.out rfl H1.out g1
        · have HR : Hid (∀ g, d.create s g = (0, (d.begin.withFile g emptyFl).change ⟨noName, s, some g⟩)) := fun g => by rw [Dk.create, if_neg (by rw [HE.out]; simp), if_neg (by rw [HG.out]; simp), if_neg (fun h => h400 h.2)]
          have hok : ∀ g, ((d.begin.withFile g emptyFl).change ⟨noName, s, some g⟩).Ok (K + 1) := fun g => create_ok HH.out.ok hK s hs g
          have hx' : dget s.data.toList d.begin.N = none := by rw [d.begin_N.1]; exact hx
          have hl' : (d.begin.N.length : Int) = (d.N.length : Int) := by rw [d.begin_N.1]
          have hz := zeroChg
          go_enter Tryz.func75, Tryz.ntmps75
          go_wp2_with (first
            | (go_at_call 77; refine CB.mono ?_; rintro e w1 ⟨rfl, h1, g1⟩; have b1 : w1.cell? ⟨f, 1, none⟩ = some (.map (some nb)) := (Blk.cell h1.blk 1); have lk := dir_look_none h1.mapN hs hx'; have ln := fun ty => dir_len h1.mapN ty; rw [hl'] at ln; have H1 := Lib.hid h1; clear h1)
            | (go_at_call 78; refine (CN _ hs).mono ?_; rintro e w' ⟨rfl, rfl⟩)
            | (go_at_call 64; refine (newFile_any none 0 0 _).mono ?_; rintro e w2 ⟨rfl, rfl⟩; have CC := create_tail H1.out s hs hok)
            | (go_at_call 79; refine CC.mono ?_; rintro e w3 ⟨own3, rfl, h3, g3⟩))
          go_ret
          exact Done.of _ (Nat.le_succ_of_le g1.size) (HR.out _) rfl h3 ((Step.of_grown HH.out.top HH.out.of g1).trans g3)
      | some g =>
        have HR : Hid (∀ g, d.create s g = (0, (d.begin.withFile g emptyFl).change ⟨noName, s, some g⟩)) := fun g => by rw [Dk.create, if_neg (by rw [HE.out]; simp), if_neg (by rw [HG.out]; simp), if_neg (fun h => by rw [hx] at h; cases h.1)]
        have hok : ∀ g, ((d.begin.withFile g emptyFl).change ⟨noName, s, some g⟩).Ok (K + 1) := fun g => create_ok HH.out.ok hK s hs g
        have hx' : dget s.data.toList d.begin.N = some g := by rw [d.begin_N.1]; exact hx
        have hl' : (d.begin.N.length : Int) = (d.N.length : Int) := by rw [d.begin_N.1]
        have hz := zeroChg
        go_enter Tryz.func75, Tryz.ntmps75
        go_wp2_with (first
            | (go_at_call 77; refine CB.mono ?_; rintro e w1 ⟨rfl, h1, g1⟩; have b1 : w1.cell? ⟨f, 1, none⟩ = some (.map (some nb)) := (Blk.cell h1.blk 1); have lk := dir_look_some h1.mapN hs hx'; have ln := fun ty => dir_len h1.mapN ty; rw [hl'] at ln; have H1 := Lib.hid h1; clear h1)
            | (go_at_call 78; refine (CN _ hs).mono ?_; rintro e w' ⟨rfl, rfl⟩)
            | (go_at_call 64; refine (newFile_any none 0 0 _).mono ?_; rintro e w2 ⟨rfl, rfl⟩; have CC := create_tail H1.out s hs hok)
            | (go_at_call 79; refine CC.mono ?_; rintro e w3 ⟨own3, rfl, h3, g3⟩))
        go_ret
        exact Done.of _ (Nat.le_succ_of_le g1.size) (HR.out _) rfl h3 ((Step.of_grown HH.out.top HH.out.of g1).trans g3)
  · rw [he] at CB
    have HR : Hid (d.create s w.heap.size = (3, d.begin)) := by show _ = _; rw [Dk.create, if_pos (by rw [he]; simp)]
    have HH := Lib.hid h
    clear h he
    go_enter Tryz.func75, Tryz.ntmps75
    go_wp2_with (go_at_call 77; refine CB.mono ?_; rintro e w1 ⟨rfl, h1, g1⟩)
    go_ret
    exact Done.begun HH.out HR.out rfl h1 g1
end Go.Proofs.YtcmlchicpmnhdaaGreatDoor.Disk
