/-
  Proved: what Create of package disk does to a disk.
-/
import Derived.Test.YtebjapinhkeafaaDiskChange
namespace Go.Proofs.Ytebjapinhkeafaa.Disk
open Go.RowKit Go.Maps
set_option linter.unusedVariables false
set_option linter.unusedSimpArgs false

def tag (own : Own) (p : Nat × Nat) (T : List Nat) : Own := fun b => if b ∈ T then some p else own b
theorem tag_old {own : Own} {p : Nat × Nat} {T : List Nat} {b : Nat} (h : b ∉ T) : tag own p T b = own b := if_neg h
theorem tag_new {own : Own} {p : Nat × Nat} {T : List Nat} {b : Nat} (h : b ∈ T) : tag own p T b = some p := if_pos h
theorem held_inv {v v' : Value} {ps : List MemPlace} (h : held v = some (.held v', ps)) : v = v' := by
  unfold held at h
  rw [Option.some.injEq, Prod.mk.injEq, DataW.held.injEq] at h
  exact h.1
theorem zeroPtr (w : World) : (zeroValue 60).run Try.prog w = .ok (.pointer none) w := by kernel_rfl
theorem dir_look {w : World} {nb n : Nat} {N : Dir} {s : ByteArray} (h : w.ownsMap Try.prog 9 held nb n (dirMap N)) (hs : s.size ≤ maxLen) :
    (Instr.lookup 55 (.map (some nb)) (.string s) false).run Try.prog w = .ok (match dget s.data.toList N with | some g => fp g | none => .pointer none) w := by
  obtain ⟨v, ps, hrun, hv⟩ := h.lookup lawS Try.underlying55 (zeroPtr w) (zd := .held (.pointer none)) (zp := []) rfl (keyS hs)
  rw [dirMap_at] at hv
  rw [hrun]
  generalize dget s.data.toList N = x at *
  cases x with
  | none => rw [held_inv hv]
  | some g => rw [held_inv hv]
theorem dir_look_some {w : World} {nb n g : Nat} {N : Dir} {s : ByteArray} (h : w.ownsMap Try.prog 9 held nb n (dirMap N)) (hs : s.size ≤ maxLen) (hg : dget s.data.toList N = some g) :
    (Instr.lookup 55 (.map (some nb)) (.string s) false).run Try.prog w = .ok (.pointer (some ⟨g, 0, none⟩)) w := by
  have := dir_look h hs
  rw [hg] at this
  exact this
theorem dir_look_none {w : World} {nb n : Nat} {N : Dir} {s : ByteArray} (h : w.ownsMap Try.prog 9 held nb n (dirMap N)) (hs : s.size ≤ maxLen) (hg : dget s.data.toList N = none) :
    (Instr.lookup 55 (.map (some nb)) (.string s) false).run Try.prog w = .ok (.pointer none) w := by
  have := dir_look h hs
  rw [hg] at this
  exact this
theorem dir_len {w : World} {nb n : Nat} {N : Dir} (h : w.ownsMap Try.prog 9 held nb n (dirMap N)) (ty : TypeId) :
    (Builtin.len_ #[55] ty #[.map (some nb)]).run Try.prog w = .ok (.int .i64 (N.length : Int)) w := by
  have := h.len Try.underlying55 ty
  rwa [dirMap_size] at this
/-- A disk of which the fields alone have turned. -/
theorem DiskIn.put {own : Own} {w w' : World} {f K K' nb sb : Nat} {d d' : Dk} {wv : Value} (h : DiskIn own w f d K nb sb wv) (hg : w.grownBy w' (some f)) (hb : Blk w' f 58 (fsCells d' nb sb wv))
    (hN : d'.N = d.N) (hS : d'.S = d.S) (hw : d'.wait = d.wait) (hf : d'.fl = d.fl) (hok : d'.Ok K') : DiskIn own w' f d' K' nb sb wv := by
  have hfb := h.blk
  have hne : ∀ b, (∃ t cs fr, w.heap[b]? = some (.cells cs t fr) ∧ t ≠ 58) → some b ≠ some f := by
    rintro b ⟨t, cs, fr, hx, ht⟩ e
    injection e with e
    subst e
    have hx' := hfb.symm.trans hx
    injection hx' with hx'
    injection hx' with h1 h2 h3
    exact ht h2.symm
  have hnm : ∀ b n D k, w.ownsMap Try.prog k held b n D → some b ≠ some f := by
    rintro b n D k ⟨es, clock, hx, _⟩ e
    injection e with e
    subst e
    have hx' := hfb.symm.trans hx
    injection hx' with hx'
    cases hx'
  obtain ⟨ok, top, blk, of, on, os, ne, mapN, mapS, row, orow, files⟩ := h
  refine ⟨hok, fun b p hp => Nat.lt_of_lt_of_le (top b p hp) hg.size, hb, of, on, os, ne, ?_, ?_, ?_, orow, ?_⟩
  · rw [hN]; exact mapN.kept hg (hnm _ _ _ _ mapN)
  · rw [hS]; exact mapS.kept hg (hnm _ _ _ _ mapS)
  · rw [hw]
    refine row_keep row fun b hbk => hg.block b (row_lt row b hbk) ?_
    rcases row.2 with ⟨rfl, _⟩ | ⟨g, cap, cur, rfl, _, hgg, _⟩
    · cases hbk
    · have e1 : g = b := by injection hbk
      subst e1
      exact hne g ⟨_, _, _, hgg, by decide⟩
  · intro g hr
    have hr' : d.refs g := by
      unfold Dk.refs at hr ⊢
      rwa [hN, hS, hw] at hr
    obtain ⟨h1, v, ob, hfile⟩ := files g hr'
    rw [hf]
    exact ⟨h1, v, ob, hfile.keep hg.size (fun _ _ => rfl) fun b hb' hp => hg.block b hb' (by
      intro e
      injection e with e
      subst e
      rw [of] at hp
      injection hp with hp
      injection hp with _ hp
      exact h1 hp.symm)⟩
theorem Dk.Ok.begin {d : Dk} {K : Nat} (h : d.Ok K) (hK : K + 1 ≤ 1073741824) : d.begin.Ok (K + 1) := by
  obtain ⟨big, room, N, S, names, calls, reads, others⟩ := h
  unfold Dk.begin
  split
  · refine ⟨hK, room, ?_, ?_, names, ?_, ?_, others⟩ <;> dsimp only <;> omega
  · split
    · refine ⟨hK, room, ?_, ?_, names, ?_, ?_, ?_⟩ <;> dsimp only <;> omega
    · refine ⟨hK, room, ?_, ?_, names, ?_, ?_, others⟩ <;> dsimp only <;> omega
theorem Dk.begin_N (d : Dk) : d.begin.N = d.N ∧ d.begin.S = d.S ∧ d.begin.wait = d.wait ∧ d.begin.fl = d.fl ∧ d.begin.room = d.room := by
  unfold Dk.begin
  split
  · exact ⟨rfl, rfl, rfl, rfl, rfl⟩
  · split <;> exact ⟨rfl, rfl, rfl, rfl, rfl⟩
/-- begin, on a disk. -/
theorem begin_any {own : Own} {w : World} {f K nb sb : Nat} {d : Dk} {wv : Value} (h : DiskIn own w f d K nb sb wv) (hK : K + 1 ≤ 1073741824) :
    Calls Try.prog 31 #[.pointer (some ⟨f, 0, none⟩)] w fun e w' => e = .returned (.int .i64 d.err) ∧ DiskIn own w' f d.begin (K + 1) nb sb wv ∧ w.grownBy w' (some f) :=
  (begin_raw f nb sb wv d K w h.ok h.blk).mono fun _ _ ⟨h1, h2, h3⟩ => ⟨h1, h.put h3 h2 d.begin_N.1 d.begin_N.2.1 d.begin_N.2.2.1 d.begin_N.2.2.2.1 (h.ok.begin hK), h3⟩

def Dk.change (d : Dk) (c : Chg) : Dk := { d with N := c.on d.N, wait := d.wait ++ [c] }
theorem Chg.on_mem {c : Chg} {N : Dir} {p : Nm × Nat} (h : p ∈ c.on N) : c.file = some p.2 ∨ p ∈ N := by
  unfold Chg.on at h
  split at h
  · rename_i g hg
    rcases dput_mem h with rfl | h
    · exact .inl hg
    · exact .inr (ddel_mem h)
  · exact .inr (ddel_mem h)
theorem Dk.change_refs {d : Dk} {c : Chg} {g : Nat} (h : (d.change c).refs g) : c.file = some g ∨ d.refs g := by
  unfold Dk.refs Dk.change at h
  dsimp only at h
  rcases h with h | h | ⟨c', hc, hg⟩
  · obtain ⟨p, hp, rfl⟩ := List.mem_map.1 h
    rcases Chg.on_mem hp with h | h
    · exact .inl h
    · exact .inr (.inl (List.mem_map.2 ⟨p, h, rfl⟩))
  · exact .inr (.inr (.inl h))
  · rcases List.mem_append.1 hc with hc | hc
    · exact .inr (.inr (.inr ⟨c', hc, hg⟩))
    · obtain rfl := List.mem_singleton.1 hc
      exact .inl hg
/-- What is f's own, and what is not. -/
theorem DiskIn.cells_ne_map {own : Own} {w : World} {f K nb sb : Nat} {d : Dk} {wv : Value} (h : DiskIn own w f d K nb sb wv) : f ≠ nb ∧ f ≠ sb ∧ (∀ b, wv.ownBlock = some b → b ≠ f ∧ b ≠ nb ∧ b ≠ sb) := by
  have hnm : ∀ b n D k, w.ownsMap Try.prog k held b n D → ∀ t cs fr, w.heap[b]? ≠ some (.cells cs t fr) := by
    rintro b n D k ⟨es, clock, hx, _⟩ t cs fr e
    rw [hx] at e
    injection e with e
    cases e
  refine ⟨fun e => ?_, fun e => ?_, fun b hb => ?_⟩
  · exact hnm _ _ _ _ h.mapN _ _ _ (by rw [← e]; exact h.blk)
  · exact hnm _ _ _ _ h.mapS _ _ _ (by rw [← e]; exact h.blk)
  · rcases h.row.2 with ⟨e, _⟩ | ⟨g, cap, cur, e, _, hgg, _⟩
    · rw [e] at hb; cases hb
    · rw [e] at hb
      have e1 : g = b := by injection hb
      subst e1
      refine ⟨fun e => ?_, fun e => ?_, fun e => ?_⟩
      · subst e
        have hx' := h.blk.symm.trans hgg
        injection hx' with hx'
        injection hx' with h1 h2 h3
        exact absurd h2 (by decide)
      · subst e; exact hnm _ _ _ _ h.mapN _ _ _ hgg
      · subst e; exact hnm _ _ _ _ h.mapS _ _ _ hgg
theorem change_any {own : Own} {w : World} {f K K' nb sb : Nat} {d : Dk} {wv : Value} (h : DiskIn own w f d K nb sb wv) (c : Chg) (h1 : c.gone.size ≤ maxLen) (h2 : c.name.size ≤ maxLen)
    (hfile : ∀ g, c.file = some g → g ≠ f ∧ FileAt own w f g (d.fl g)) (hok : (d.change c).Ok K') :
    Calls Try.prog 33 #[.pointer (some ⟨f, 0, none⟩), .agg #[.string c.gone, .string c.name, c.ptr]] w fun e w' => ∃ own' wv', e = .returned undef ∧ DiskIn own' w' f (d.change c) K' nb sb wv' ∧ Step own own' f w w' := by
  obtain ⟨n1, n2, n3⟩ := h.cells_ne_map
  have hK := h.ok.big
  refine (change_raw f nb sb d.N.length wv d c w h.blk h.mapN (by have := h.ok.N; unfold maxLen; omega) h1 h2 h.row (by have := h.ok.S; omega) n1 (fun b hb => ⟨(n3 b hb).1, (n3 b hb).2.1⟩)).mono ?_
  rintro e w' ⟨wv', rfl, hb, hm, hr, hl, ht⟩
  have hown : ∀ b, b < w.heap.size → tag own (f, f) wv'.ownBlock.toList b = own b := by
    intro b hb
    by_cases hx : b ∈ wv'.ownBlock.toList
    · rw [tag_new hx]
      have hx' : wv'.ownBlock = some b := by simpa using hx
      rcases hl with hl | hl
      · exact (h.orow b (hl ▸ hx')).symm
      · have := hl b hx'
        omega
    · exact tag_old hx
  have hfr : ∀ b g, own b = some (f, g) → g ≠ f → ¬ (b = f ∨ b = nb ∨ wv.ownBlock = some b) := by
    rintro b g hg hne (rfl | rfl | hx)
    · rw [h.of] at hg; injection hg with hg; injection hg with _ hg; exact hne hg.symm
    · rw [h.on] at hg; injection hg with hg; injection hg with _ hg; exact hne hg.symm
    · rw [h.orow b hx] at hg; injection hg with hg; injection hg with _ hg; exact hne hg.symm
  refine ⟨tag own (f, f) wv'.ownBlock.toList, wv', rfl, ⟨hok, ?_, hb, ?_, ?_, ?_, h.ne, ?_, ?_, hr, ?_, ?_⟩, ⟨ht.1, ht.2.1, ht.2.2.1, ht.2.2.2.1, hown, ?_, ?_⟩⟩
  · intro b p hp
    by_cases hx : b ∈ wv'.ownBlock.toList
    · exact row_lt hr b (by simpa using hx)
    · rw [tag_old hx] at hp
      exact Nat.lt_of_lt_of_le (h.top b p hp) ht.2.2.2.1
  · exact (hown f (blk_lt' h.blk)).trans h.of
  · exact (hown nb h.mapN.lt).trans h.on
  · exact (hown sb h.mapS.lt).trans h.os
  · have := map_tight hm
    rwa [dirMap_size] at this
  · refine map_keep h.mapS (ht.keep h.mapS.lt ?_)
    rintro (e | e | e)
    · exact n2 e.symm
    · exact h.ne e.symm
    · exact (n3 sb e).2.2 rfl
  · intro b hb
    exact tag_new (by simpa using hb)
  · intro g hg
    have hf : g ≠ f ∧ FileAt own w f g (d.fl g) := by
      rcases Dk.change_refs hg with h' | h'
      · exact hfile g h'
      · exact h.files g h'
    obtain ⟨hgf, v, ob, hf⟩ := hf
    exact ⟨hgf, v, ob, hf.keep ht.2.2.2.1 hown fun b hb hp => ht.keep hb (hfr b g hp hgf)⟩
  · intro b hb hne
    refine ht.keep hb ?_
    rintro (rfl | rfl | hx)
    · exact hne _ h.of
    · exact hne _ h.on
    · exact hne _ (h.orow b hx)
  · intro b hb p hp
    by_cases hx : b ∈ wv'.ownBlock.toList
    · rw [tag_new hx] at hp
      injection hp with hp
      rw [← hp]
    · rw [tag_old hx] at hp
      have := h.top b p hp
      omega
end Go.Proofs.Ytebjapinhkeafaa.Disk
