/-
  Texts one behind the other: DiskSync.
-/
import Derived.Test.YtcmlchicpmnhdaaGreatDoorG29
/-
  Proved: what Sync and SyncDir of package disk do to a disk.
-/
namespace Go.Proofs.YtcmlchicpmnhdaaGreatDoor.Disk
open Go.RowKit Go.Maps
set_option linter.unusedVariables false
set_option linter.unusedSimpArgs false

theorem Fl.sync_ok {x : Fl} (h : x.Ok) : (Fl.mk x.now x.now []).Ok := ⟨Nat.le_refl _, h.max, List.Pairwise.nil, (by intro p hp; cases hp), fun _ _ _ => rfl⟩
set_option maxRecDepth 100000 in
theorem fsync_any {own : Own} {w : World} {f g : Nat} {x : Fl} {v : Value} {ob : Nat} (h : FileIn own w f g x v ob) (ht : ∀ b p, own b = some p → b < w.heap.size) :
    Calls Tryz.prog 84 #[.pointer (some ⟨g, 0, none⟩)] w fun e w' => ∃ own' ob', e = .returned undef ∧ FileIn own' w' f g ⟨x.now, x.now, []⟩ v ob' ∧ StepP own own' (f, g) w w' := by
  obtain ⟨A, c, rfl, hc1, hc2⟩ := own_form h.row
  have hmx := h.ok.max
  have hgl := blk_lt' h.blk
  have hB0 : Blk (w.alloc (.map #[] 0)) g 78 #[.slice A x.now.length c, .int .i64 (x.was.length : Int), .map (some ob)] := blk_kept h.blk (World.grownBy_alloc w (.map #[] 0) none) (by simp)
  have c2 : (w.alloc (.map #[] 0)).cell? ⟨g, 2, none⟩ = some (.map (some ob)) := hB0.cell 2
  have f2 := hB0.free 2
  have hB1 := blk_kept (h.blk.put 2 (.map (some w.heap.size))) (World.grownBy_alloc _ (.map #[] 0) none) (by simp)
  have c0 : ((w.setCell ⟨g, 2, none⟩ (.map (some w.heap.size))).alloc (.map #[] 0)).cell? ⟨g, 0, none⟩ = some (.slice A x.now.length c) := hB1.cell 0
  have c1 : ((w.setCell ⟨g, 2, none⟩ (.map (some w.heap.size))).alloc (.map #[] 0)).cell? ⟨g, 1, none⟩ = some (.int .i64 (x.was.length : Int)) := hB1.cell 1
  have f1 := hB1.free 1
  have hB2 := blk_kept ((h.blk.put 2 (.map (some w.heap.size))).put 1 (.int .i64 (x.now.length : Int))) (World.grownBy_alloc _ (.map #[] 0) none) (by simp)
  have hmap : ((w.setCell ⟨g, 2, none⟩ (.map (some w.heap.size))).setCell ⟨g, 1, none⟩ (.int .i64 (x.now.length : Int)) |>.alloc (.map #[] 0)).ownsMap Tryz.prog 3 held w.heap.size 0 (.map []) := by
    have := World.ownsMap_made ((w.setCell ⟨g, 2, none⟩ (.map (some w.heap.size))).setCell ⟨g, 1, none⟩ (.int .i64 (x.now.length : Int))) Tryz.prog 3 held
    simpa using this
  have HMAP := Lib.hid hmap
  have HH := Lib.hid h
  have HB2 := Lib.hid hB2
  have HT := Lib.hid ht
  clear h hB0 hB1 hB2 ht hmap
  have hmm := @run_makeMap Tryz.prog
  go_enter Tryz.func84, Tryz.ntmps84
  go_wp2
  go_end0
  have h := HH.out
  have ht := HT.out
  have hx1 := h.ne_row
  have g2 := only_trans (only_trans (only_setCell w ⟨g, 2, none⟩ (.map (some w.heap.size))) (only_setCell _ ⟨g, 1, none⟩ (.int .i64 (x.now.length : Int)))) (World.grownBy_alloc _ (.map #[] 0) (some g))
  have htag : ∀ b, b < w.heap.size → tag own (f, g) [w.heap.size] b = own b := fun b hb => tag_old (by simp; omega)
  refine ⟨tag own (f, g) [w.heap.size], w.heap.size, rfl, ⟨Fl.sync_ok h.ok, HB2.out, (htag g hgl).trans h.og, tag_new (by simp), ?_, ?_, ?_, (by intro p hp; cases hp)⟩, ⟨g2.os, g2.tape, g2.output, g2.size, htag, ?_, ?_, ?_⟩⟩
  · exact row_keep h.row fun b hb => g2.block b (row_lt h.row b hb) (fun e => hx1 (by rw [← e, hb]))
  · intro b hb
    exact (htag b (row_lt h.row b hb)).trans (h.orow b hb)
  · exact HMAP.out
  · intro b hb hne'
    refine g2.block b hb ?_
    intro e
    have := Option.some.inj e
    subst this
    exact hne' h.og
  · intro b hb q hq
    by_cases hx : b ∈ [w.heap.size]
    · rw [tag_new hx] at hq
      exact (Option.some.inj hq).symm
    · rw [tag_old hx] at hq
      have := ht b q hq
      omega
  · intro b q hq
    have hs := g2.size
    by_cases hx : b ∈ [w.heap.size]
    · simp at hx
      simp
      omega
    · rw [tag_old hx] at hq
      have := ht b q hq
      simp
      omega
def Dk.sync (d : Dk) (s : ByteArray) : Int × Dk :=
  if d.err ≠ 0 then (3, d.begin) else match dget s.data.toList d.N with
    | none => (1, d.begin)
    | some g => (0, d.begin.withFile g ⟨(d.fl g).now, (d.fl g).now, []⟩)
theorem begin_look {own : Own} {w : World} {f K nb sb g : Nat} {d : Dk} {wv : Value} {s : ByteArray} (h : DiskIn own w f d.begin K nb sb wv) (hx : dget s.data.toList d.N = some g) : g ≠ f ∧ FileAt own w f g (d.fl g) := by
  have hx' : dget s.data.toList d.begin.N = some g := by rw [d.begin_N.1]; exact hx
  have := h.look hx'
  rwa [d.begin_N.2.2.2.1] at this
theorem sync_tail {own : Own} {w w1 : World} {f K nb sb g : Nat} {d : Dk} {wv : Value} {s : ByteArray} (h : DiskIn own w1 f d.begin K nb sb wv) (H : DiskIn own w f d (K - 1) nb sb wv) (hg : w.grownBy w1 (some f)) (hx : dget s.data.toList d.N = some g) :
    Calls Tryz.prog 84 #[.pointer (some ⟨g, 0, none⟩)] w1 fun e w' => ∃ own', e = .returned undef ∧ DiskAt own' w' f (d.begin.withFile g ⟨(d.fl g).now, (d.fl g).now, []⟩) K ∧ Step own own' f w w' := by
  obtain ⟨hgf, v, ob, hf⟩ := begin_look h hx
  refine (fsync_any hf h.top).mono ?_
  rintro e w' ⟨own', ob', he, h1, h2⟩
  exact ⟨own', he, ⟨nb, sb, wv, h.fileStep hgf h2 ⟨v, ob', h1⟩⟩, (Step.of_grown H.top H.of hg).trans h2.step⟩
set_option maxRecDepth 100000 in
theorem sync_any {own : Own} {w : World} {f K : Nat} {d : Dk} (s : ByteArray) (h : DiskAt own w f d K) (hs : s.size ≤ maxLen) (hK : K + 1 ≤ 1073741824) :
    Calls Tryz.prog 57 #[.pointer (some ⟨f, 0, none⟩), .string s] w (Done own w f (K + 1) (fun _ => d.sync s)) := by
  obtain ⟨nb, sb, wv, h⟩ := h
  have CB := begin_any h hK
  rcases d.err_cases with he | he
  · rw [he] at CB
    have HE := Lib.hid he
    have HH := Lib.hid h
    clear h he
    cases hx : dget s.data.toList d.N with
    | none =>
      have HR : Hid ((fun _ : Nat => d.sync s) w.heap.size = (1, d.begin)) := by show d.sync s = _; rw [Dk.sync, if_neg (by rw [HE.out]; simp), hx]
      have hx' : dget s.data.toList d.begin.N = none := by rw [d.begin_N.1]; exact hx
      go_enter Tryz.func57, Tryz.ntmps57
      go_wp2_with (go_at_call 77; refine CB.mono ?_; rintro e w1 ⟨rfl, h1, g1⟩; have b1 : w1.cell? ⟨f, 1, none⟩ = some (.map (some nb)) := (Blk.cell h1.blk 1); have lk := dir_look_none h1.mapN hs hx'; have H1 := Lib.hid h1; clear h1)
      go_ret
      exact Done.begun HH.out HR.out rfl H1.out g1
    | some g =>
      have hx' : dget s.data.toList d.begin.N = some g := by rw [d.begin_N.1]; exact hx
      have HR : Hid ((fun _ : Nat => d.sync s) w.heap.size = (0, d.begin.withFile g ⟨(d.fl g).now, (d.fl g).now, []⟩)) := by show d.sync s = _; rw [Dk.sync, if_neg (by rw [HE.out]; simp), hx]
      go_enter Tryz.func57, Tryz.ntmps57
      go_wp2_with (first
        | (go_at_call 77; refine CB.mono ?_; rintro e w1 ⟨rfl, h1, g1⟩; have b1 : w1.cell? ⟨f, 1, none⟩ = some (.map (some nb)) := (Blk.cell h1.blk 1); have lk := dir_look_some h1.mapN hs hx'; have CS := Lib.hid (sync_tail h1 HH.out g1 hx); clear h1)
        | (go_at_call 84; refine CS.out.mono ?_; rintro e w2 ⟨own2, rfl, h2, g2⟩))
      go_ret
      exact Done.of _ (Nat.le_refl _) HR.out rfl h2 g2
  · rw [he] at CB
    have HR : Hid ((fun _ : Nat => d.sync s) w.heap.size = (3, d.begin)) := by show d.sync s = _; rw [Dk.sync, if_pos (by rw [he]; simp)]
    have HH := Lib.hid h
    clear h he
    go_enter Tryz.func57, Tryz.ntmps57
    go_wp2_with (go_at_call 77; refine CB.mono ?_; rintro e w1 ⟨rfl, h1, g1⟩)
    go_ret
    exact Done.begun HH.out HR.out rfl h1 g1
/-! SyncDir. -/
def Dk.syncDir (d : Dk) : Int × Dk := if d.err ≠ 0 then (3, d.begin) else (0, { d.begin with S := foldDir d.S d.wait d.wait.length, wait := [] })
theorem syncDir_end {own : Own} {w1 wr : World} {f K nb sb m : Nat} {d : Dk} {wv : Value} {S' : Dir} (h : DiskIn own w1 f d K nb sb wv) (hg : w1.grownBy wr (some sb)) (hm : wr.ownsMap Tryz.prog 9 held sb m (dirMap S')) (hr : ∀ p ∈ S', d.refs p.2) (hl : S'.length ≤ K) :
    DiskIn own (wr.setCell ⟨f, 3, none⟩ (.slice none 0 0)) f { d with S := S', wait := [] } K nb sb (.slice none 0 0) ∧ Step own own f w1 (wr.setCell ⟨f, 3, none⟩ (.slice none 0 0)) := by
  obtain ⟨n1, n2, n3⟩ := h.cells_ne_map
  have g2 := only_setCell wr ⟨f, 3, none⟩ (.slice none 0 0)
  have hk : ∀ b, b < w1.heap.size → b ≠ sb → b ≠ f → (wr.setCell ⟨f, 3, none⟩ (.slice none 0 0)).heap[b]? = w1.heap[b]? := fun b hb h1 h2 =>
    (g2.block b (Nat.lt_of_lt_of_le hb hg.size) (fun e => h2 (Option.some.inj e))).trans (hg.block b hb (fun e => h1 (Option.some.inj e)))
  have hBr : Blk wr f 58 (fsCells d nb sb wv) := blk_kept h.blk hg (fun e => n2 (Option.some.inj e))
  have hmt := map_tight (map_keep hm (g2.block sb hm.lt (fun e => n2 (Option.some.inj e).symm)))
  rw [dirMap_size] at hmt
  refine ⟨⟨⟨h.ok.big, h.ok.room, h.ok.N, by show S'.length + 0 ≤ K; omega, (by intro c hc; cases hc), h.ok.calls, h.ok.reads, h.ok.others⟩, fun b p hp => Nat.lt_of_lt_of_le (h.top b p hp) (Nat.le_trans hg.size g2.size), hBr.put 3 (.slice none 0 0), h.of, h.on, h.os, h.ne,
    map_keep h.mapN (hk nb h.mapN.lt h.ne n1.symm), hmt, World.ownsRow_nil _ 0 _ 3, (fun b hb => by cases hb), ?_⟩, ⟨g2.os.trans hg.os, g2.tape.trans hg.tape, g2.output.trans hg.output, Nat.le_trans hg.size g2.size, fun _ _ => rfl, ?_, ?_⟩⟩
  · intro g hg'
    have hr' : d.refs g := by
      rcases hg' with hx | hx | ⟨c, hc, _⟩
      · exact .inl hx
      · obtain ⟨p, hp, rfl⟩ := List.mem_map.1 hx
        exact hr p hp
      · cases hc
    obtain ⟨h1, v, ob, hf⟩ := h.files g hr'
    refine ⟨h1, v, ob, hf.keep (Nat.le_trans hg.size g2.size) (fun _ _ => rfl) fun b hb hp => hk b hb ?_ ?_⟩
    · rintro rfl
      rw [h.os] at hp
      exact h1 (Prod.mk.inj (Option.some.inj hp)).2.symm
    · rintro rfl
      rw [h.of] at hp
      exact h1 (Prod.mk.inj (Option.some.inj hp)).2.symm
  · intro b hb hne
    refine hk b hb ?_ ?_
    · rintro rfl
      exact hne _ h.os
    · rintro rfl
      exact hne _ h.of
  · intro b hb p hp
    have := h.top b p hp
    omega
set_option maxRecDepth 100000 in
theorem syncDir_any {own : Own} {w : World} {f K : Nat} {d : Dk} (h : DiskAt own w f d K) (hK : K + 1 ≤ 1073741824) :
    Calls Tryz.prog 49 #[.pointer (some ⟨f, 0, none⟩)] w (Done own w f (K + 1) (fun _ => d.syncDir)) := by
  obtain ⟨nb, sb, wv, h⟩ := h
  have CB := begin_any h hK
  have hSK := h.ok.S
  have hKb := h.ok.big
  rcases d.err_cases with he | he
  · rw [he] at CB
    have HR : Hid ((fun _ : Nat => d.syncDir) w.heap.size = (0, { d.begin with S := foldDir d.S d.wait d.wait.length, wait := [] })) := by show d.syncDir = _; rw [Dk.syncDir, if_neg (by rw [he]; simp)]
    have HH := Lib.hid h
    obtain ⟨Aw, cw, rfl, hcw, hcwm⟩ := own_form h.row
    clear h he
    have hz := zeroChg
    go_enter Tryz.func49, Tryz.ntmps49
    go_wp2_with (go_at_call 77; refine CB.mono ?_; rintro e w1 ⟨rfl, h1, g1⟩; have b3 : w1.cell? ⟨f, 3, none⟩ = some (.slice Aw d.wait.length cw) := (Blk.cell h1.blk 3); have H1 := Lib.hid h1; clear h1)
    go_loopw [16] (fun y wr => ∃ k : Nat, y = .int .i64 (k : Int) ∧ k ≤ d.wait.length ∧ Hid (w1.grownBy wr (some sb)) ∧ Hid (∃ m, m ≤ K ∧ wr.ownsMap Tryz.prog 9 held sb m (dirMap (foldDir d.S d.wait k)))) (fun y _ => d.wait.length - (RowKit.intOf y).toNat)
    case atStart =>
      refine ⟨0, rfl, Nat.zero_le _, World.grownBy.refl _ _, d.S.length, by omega, ?_⟩
      have := H1.out.mapS
      rw [d.begin_N.2.1] at this
      exact this
    case round =>
      obtain ⟨k, rfl, hk, HG, HM⟩ := hrel
      obtain ⟨n1, n2, n3⟩ := H1.out.cells_ne_map
      by_cases hlt : k < d.wait.length
      · obtain ⟨ch, hch⟩ : ∃ ch, d.wait[k]? = some ch := ⟨d.wait[k], List.getElem?_eq_getElem (by omega)⟩
        have hrow := H1.out.row
        rw [d.begin_N.2.2.1] at hrow
        obtain ⟨bw, cap, ew, hbw, x0, x1, x2⟩ := chg_cell hrow hch
        injection ew with ew1 ew2 ew3
        subst ew1 ew3
        have hbs : some bw ≠ some sb := fun e => (n3 bw rfl).2.2 (Option.some.inj e)
        have y0 := (World.cell?_of_block (a := ⟨bw, k * 3, none⟩) (HG.out.block bw hbw hbs)).trans x0
        have y1 := (World.cell?_of_block (a := ⟨bw, k * 3 + 1, none⟩) (HG.out.block bw hbw hbs)).trans x1
        have y2 := (World.cell?_of_block (a := ⟨bw, k * 3 + 2, none⟩) (HG.out.block bw hbw hbs)).trans x2
        have HBF : Hid (Blk wr f 58 (fsCells d.begin nb sb (.slice (some ⟨bw, 0, none⟩) d.wait.length cw))) := blk_kept H1.out.blk HG.out (fun e => n2 (Option.some.inj e))
        have qk : wr.cell? ⟨f, 2, none⟩ = some (.map (some sb)) := HBF.out.cell 2
        have hlen : (foldDir d.S d.wait k).length ≤ d.S.length + k := foldDir_len _ _ _
        have hnm := HH.out.ok.names ch (List.mem_of_getElem? hch)
        have hkM : (k : Int) < (d.wait.length : Int) := by omega
        have HCH := Lib.hid hch
        obtain ⟨pp, hpp⟩ : ∃ pp, ch.ptr = .pointer pp := ⟨_, rfl⟩
        rw [hpp] at y2
        have HPP := Lib.hid hpp
        clear hch x0 x1 x2 hpp hrow hbs
        go_wp2_with fail
        obtain ⟨w3, hw3⟩ : ∃ w3, w3 = wr.alloc (.cells #[.string ch.gone, .string ch.name, .pointer pp] 71) := ⟨_, rfl⟩
        have X3 : Blk w3 wr.heap.size 71 #[.string ch.gone, .string ch.name, .pointer pp] := by rw [hw3]; exact Blk.new _ _ _
        have G3 : wr.grownBy w3 (some sb) := by rw [hw3]; exact World.grownBy_alloc _ _ _
        have HG3 : Hid (w1.grownBy w3 (some sb)) := only_trans HG.out G3
        have HM3 : Hid (w3.ownsMap Tryz.prog 9 held sb (foldDir d.S d.wait k).length (dirMap (foldDir d.S d.wait k))) := by
          obtain ⟨m, _, hm⟩ := HM.out
          have := map_tight (hm.alloc (.cells #[.string ch.gone, .string ch.name, .pointer pp] 71))
          rw [dirMap_size, ← hw3] at this
          exact this
        rw [← hw3]
        have z0 := X3.cell 0
        have z1 := X3.cell 1
        have z2 := X3.cell 2
        have qk3 : w3.cell? ⟨f, 2, none⟩ = some (.map (some sb)) := (blk_kept HBF.out G3 (fun e => n2 (Option.some.inj e))).cell 2
        clear hw3 qk y0 y1 y2 G3
        go_still_tail 5, (by kernel_rfl)
        change wpList _ _ _ _ _ w3.drew
        have AP := apply_any sb _ _ ch w3.drew HM3.out (by unfold maxLen; omega) hnm.1 hnm.2
        rw [HPP.out] at AP
        go_wp2_with fail
        refine AP.mono ?_
        rintro e w4 ⟨rfl, hm4, g4⟩
        have HG4 : Hid (w1.grownBy w4 (some sb)) := only_trans HG3.out (undrew g4)
        have HM4 : Hid (∃ m, m ≤ K ∧ w4.ownsMap Tryz.prog 9 held sb m (dirMap (foldDir d.S d.wait (k + 1)))) := ⟨(foldDir d.S d.wait k).length + 1, by omega, by rw [foldDir_next HCH.out]; exact hm4⟩
        clear AP hm4 g4 X3 z0 z1 z2 qk3
        go_wp2_with fail
        exact ⟨⟨k + 1, by go_num, by omega, HG4, HM4⟩, by simp [RowKit.intOf]; omega⟩
      · obtain rfl : k = d.wait.length := by omega
        have HBF : Hid (Blk wr f 58 (fsCells d.begin nb sb (.slice Aw d.wait.length cw))) := blk_kept H1.out.blk HG.out (fun e => n2 (Option.some.inj e))
        have q3 : wr.cell? ⟨f, 3, none⟩ = some (.slice Aw d.wait.length cw) := HBF.out.cell 3
        have fr3 := HBF.out.free 3
        have hE : Hid (DiskIn own (wr.setCell ⟨f, 3, none⟩ (.slice none 0 0)) f { d.begin with S := foldDir d.S d.wait d.wait.length, wait := [] } (K + 1) nb sb (.slice none 0 0) ∧ Step own own f w1 (wr.setCell ⟨f, 3, none⟩ (.slice none 0 0))) := by
          obtain ⟨m, _, hm⟩ := HM.out
          refine syncDir_end H1.out HG.out hm ?_ ?_
          · intro p hp
            have e := d.begin_N
            have h2 := foldDir_refs d _ p hp
            unfold Dk.refs at h2 ⊢
            rw [e.1, e.2.1, e.2.2.1]
            exact h2
          · have := foldDir_len d.S d.wait d.wait.length
            omega
        go_wp2_with fail
        go_ret
        exact Done.of _ (Nat.le_refl _) HR.out rfl ⟨_, _, _, hE.out.1⟩ ((Step.of_grown HH.out.top HH.out.of g1).trans hE.out.2)
  · rw [he] at CB
    have HR : Hid ((fun _ : Nat => d.syncDir) w.heap.size = (3, d.begin)) := by show d.syncDir = _; rw [Dk.syncDir, if_pos (by rw [he]; simp)]
    have HH := Lib.hid h
    clear h he
    go_enter Tryz.func49, Tryz.ntmps49
    go_wp2_with (go_at_call 77; refine CB.mono ?_; rintro e w1 ⟨rfl, h1, g1⟩)
    go_ret
    exact Done.begun HH.out HR.out rfl h1 g1
/-! Rename, Remove. -/
def Dk.rename (d : Dk) (s u : ByteArray) : Int × Dk :=
  if d.err ≠ 0 then (3, d.begin) else match dget s.data.toList d.N with
    | none => (1, d.begin)
    | some g => if goodName u.data.toList = false then (5, d.begin) else (0, d.begin.change ⟨s, u, some g⟩)
def Dk.remove (d : Dk) (s : ByteArray) : Int × Dk :=
  if d.err ≠ 0 then (3, d.begin) else match dget s.data.toList d.N with
    | none => (1, d.begin)
    | some _ => (0, d.begin.change ⟨s, noName, none⟩)
theorem change_tail {own : Own} {w w1 : World} {f K nb sb : Nat} {d : Dk} {wv : Value} (c : Chg) (h : DiskIn own w1 f d.begin (K + 1) nb sb wv) (H : DiskIn own w f d K nb sb wv) (hK : K + 1 ≤ 1073741824) (hg : w.grownBy w1 (some f)) (h1 : c.gone.size ≤ maxLen) (h2 : c.name.size ≤ maxLen) (hc : ∀ g, c.file = some g → d.refs g) :
    Calls Tryz.prog 79 #[.pointer (some ⟨f, 0, none⟩), .agg #[.string c.gone, .string c.name, c.ptr]] w1 fun e w' => ∃ own', e = .returned undef ∧ DiskAt own' w' f (d.begin.change c) (K + 1) ∧ Step own own' f w w' := by
  refine (change_any h c h1 h2 (fun g hg' => ?_) (H.ok.change hK c h1 h2)).mono ?_
  · have hr := hc g hg'
    refine h.files g ?_
    have e := d.begin_N
    unfold Dk.refs at hr ⊢
    rw [e.1, e.2.1, e.2.2.1]
    exact hr
  · rintro e w' ⟨own', wv', he, hd, hst⟩
    exact ⟨own', he, ⟨nb, sb, wv', hd⟩, (Step.of_grown H.top H.of hg).trans hst⟩
set_option maxRecDepth 100000 in
theorem rename_any {own : Own} {w : World} {f K : Nat} {d : Dk} (s u : ByteArray) (h : DiskAt own w f d K) (hs : s.size ≤ maxLen) (hu : u.size ≤ maxLen) (hK : K + 1 ≤ 1073741824) :
    Calls Tryz.prog 48 #[.pointer (some ⟨f, 0, none⟩), .string s, .string u] w (Done own w f (K + 1) (fun _ => d.rename s u)) := by
  obtain ⟨nb, sb, wv, h⟩ := h
  have CB := begin_any h hK
  have CN := isName_any u
  have hz := zeroChg
  rcases d.err_cases with he | he
  · rw [he] at CB
    have HE := Lib.hid he
    have HH := Lib.hid h
    clear h he
    cases hx : dget s.data.toList d.N with
    | none =>
      have HR : Hid ((fun _ : Nat => d.rename s u) w.heap.size = (1, d.begin)) := by show d.rename s u = _; rw [Dk.rename, if_neg (by rw [HE.out]; simp), hx]
      have hx' : dget s.data.toList d.begin.N = none := by rw [d.begin_N.1]; exact hx
      go_enter Tryz.func48, Tryz.ntmps48
      go_wp2_with (go_at_call 77; refine CB.mono ?_; rintro e w1 ⟨rfl, h1, g1⟩; have b1 : w1.cell? ⟨f, 1, none⟩ = some (.map (some nb)) := (Blk.cell h1.blk 1); have lk := dir_look_none h1.mapN hs hx'; have H1 := Lib.hid h1; clear h1)
      go_ret
      exact Done.begun HH.out HR.out rfl H1.out g1
    | some g =>
      have hx' : dget s.data.toList d.begin.N = some g := by rw [d.begin_N.1]; exact hx
      cases hg : goodName u.data.toList
      · rw [hg] at CN
        have HR : Hid ((fun _ : Nat => d.rename s u) w.heap.size = (5, d.begin)) := by show d.rename s u = _; rw [Dk.rename, if_neg (by rw [HE.out]; simp), hx]; exact if_pos hg
        clear hg
        go_enter Tryz.func48, Tryz.ntmps48
        go_wp2_with (first
          | (go_at_call 77; refine CB.mono ?_; rintro e w1 ⟨rfl, h1, g1⟩; have b1 : w1.cell? ⟨f, 1, none⟩ = some (.map (some nb)) := (Blk.cell h1.blk 1); have lk := dir_look_some h1.mapN hs hx'; have H1 := Lib.hid h1; clear h1)
          | (go_at_call 78; refine (CN _ hu).mono ?_; rintro e w' ⟨rfl, rfl⟩))
        go_ret
        exact Done.begun HH.out HR.out rfl H1.out g1
      · rw [hg] at CN
        have HR : Hid ((fun _ : Nat => d.rename s u) w.heap.size = (0, d.begin.change ⟨s, u, some g⟩)) := by show d.rename s u = _; rw [Dk.rename, if_neg (by rw [HE.out]; simp), hx]; exact if_neg (by rw [hg]; simp)
        have hrf : Hid (∀ g', (Chg.mk s u (some g)).file = some g' → d.refs g') := by
          show ∀ _, _
          intro g' e
          have e' : g = g' := Option.some.inj e
          subst e'
          exact .inl (List.mem_map.2 ⟨_, dget_mem hx, rfl⟩)
        clear hg
        go_enter Tryz.func48, Tryz.ntmps48
        go_wp2_with (first
          | (go_at_call 77; refine CB.mono ?_; rintro e w1 ⟨rfl, h1, g1⟩; have b1 : w1.cell? ⟨f, 1, none⟩ = some (.map (some nb)) := (Blk.cell h1.blk 1); have lk := dir_look_some h1.mapN hs hx'; have CC := Lib.hid (change_tail ⟨s, u, some g⟩ h1 HH.out hK g1 hs hu hrf.out); clear h1)
          | (go_at_call 78; refine (CN _ hu).mono ?_; rintro e w' ⟨rfl, hww⟩; obtain rfl := hww.symm)
          | (go_at_call 79; refine CC.out.mono ?_; rintro e w2 ⟨own2, rfl, h2, g2⟩))
        go_ret
        exact Done.of _ (Nat.le_refl _) HR.out rfl h2 g2
  · rw [he] at CB
    have HR : Hid ((fun _ : Nat => d.rename s u) w.heap.size = (3, d.begin)) := by show d.rename s u = _; rw [Dk.rename, if_pos (by rw [he]; simp)]
    have HH := Lib.hid h
    clear h he
    go_enter Tryz.func48, Tryz.ntmps48
    go_wp2_with (go_at_call 77; refine CB.mono ?_; rintro e w1 ⟨rfl, h1, g1⟩)
    go_ret
    exact Done.begun HH.out HR.out rfl h1 g1
end Go.Proofs.YtcmlchicpmnhdaaGreatDoor.Disk
