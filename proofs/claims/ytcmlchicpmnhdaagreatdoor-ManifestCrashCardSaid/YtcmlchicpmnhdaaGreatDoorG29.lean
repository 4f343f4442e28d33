/-
  Texts one behind the other: DiskCrash.
-/
import Derived.Deep.OwnRows
import Derived.Test.YtcmlchicpmnhdaaGreatDoorG28
/-
  Proved: what Crash of package disk returns: another disk, as the document says, and nothing that lay has turned.
-/
namespace Go.Proofs.YtcmlchicpmnhdaaGreatDoor.Disk
open Go.RowKit Go.Maps
set_option linter.unusedVariables false
set_option linter.unusedSimpArgs false

theorem Left.turnS {own own1 : Own} {w wr w2 : World} {f' nb' sb' m : Nat} {rm : Int} {fn : News} {rest rest' : Dir} (h : Left own own1 w wr f' nb' sb' rm fn rest) (hg : wr.grownBy w2 (some sb')) (hm : w2.ownsMap Tryz.prog 9 held sb' m (dirMap (News.dir fn ++ rest'))) :
    Left own own1 w w2 f' nb' sb' rm fn rest' := by
  have hfsb : f' ≠ sb' := by
    intro e
    obtain ⟨es, clock, hx, _⟩ := h.mapS
    rw [← e, h.blk] at hx
    injection hx with hx
    cases hx
  have hk : ∀ b, b < wr.heap.size → b ≠ sb' → w2.heap[b]? = wr.heap[b]? := fun b hbl hne => hg.block b hbl (fun e => hne (Option.some.inj e))
  refine ⟨(hk f' (blk_lt' h.blk) hfsb).trans h.blk, h.of, h.on, h.os, h.ne, h.fge, h.sge, h.nge, map_keep h.mapN (hk nb' h.mapN.lt h.ne), ?_, ?_, h.inc, ?_, h.same, fun b p hp => Nat.lt_of_lt_of_le (h.top b p hp) hg.size, h.new⟩
  · have := map_tight hm
    rw [dirMap_size] at this
    simpa [News.dir] using this
  · intro t ht'
    obtain ⟨h1, h2, v, ob, hfile⟩ := h.files t ht'
    refine ⟨h1, Nat.lt_of_lt_of_le h2 hg.size, v, ob, hfile.keep hg.size (fun _ _ => rfl) fun b hbl hp => hk b hbl ?_⟩
    rintro rfl
    rw [h.os] at hp
    injection hp with hp
    injection hp with _ hp
    exact h1 hp.symm
  · exact h.below.grown hg h.below.size (fun k hk => by have := Option.some.inj hk; have := h.sge; omega)
theorem new_left {own : Own} {w : World} (n : Int) (ht : ∀ b p, own b = some p → b < w.heap.size) :
    Calls Tryz.prog 6 #[.int .i64 n] w fun e w' => ∃ own1 f' nb' sb', e = .returned (.pointer (some ⟨f', 0, none⟩)) ∧ Left own own1 w w' f' nb' sb' (room n) [] [] := by
  refine (new_raw n w).mono ?_
  rintro e w' ⟨rfl, rfl⟩
  have s1 : (w.alloc (.map #[] 0)).heap.size = w.heap.size + 1 := by simp
  have s2 : ((w.alloc (.map #[] 0)).alloc (.map #[] 0)).heap.size = w.heap.size + 2 := by simp
  refine ⟨tag own (w.heap.size + 2, w.heap.size + 2) [w.heap.size, w.heap.size + 1, w.heap.size + 2], w.heap.size + 2, w.heap.size, w.heap.size + 1, rfl, ?_, tag_new (by simp), tag_new (by simp), tag_new (by simp), by omega, by omega, by omega, by omega, ?_, ?_, by simp, List.Pairwise.nil, ?_, ?_, ?_, ?_⟩
  · have := Blk.new ((w.alloc (.map #[] 0)).alloc (.map #[] 0)) 58 #[.int .i64 (room n), .map (some w.heap.size), .map (some (w.heap.size + 1)), .slice none 0 0, .int .i64 0, .int .i64 0, .bool false, .int .i64 0]
    rw [s2] at this
    exact this
  · exact ((World.ownsMap_made w Tryz.prog 9 held).alloc _).alloc _
  · have := (World.ownsMap_made (w.alloc (.map #[] 0)) Tryz.prog 9 held).alloc (.cells #[.int .i64 (room n), .map (some w.heap.size), .map (some (w.heap.size + 1)), .slice none 0 0, .int .i64 0, .int .i64 0, .bool false, .int .i64 0] 58)
    rw [s1] at this
    exact this
  · exact (((Below.refl _ _).alloc (Nat.le_refl _) _).alloc (by simp) _).alloc (by simp; omega) _
  · intro b hb
    exact tag_old (by simp; omega)
  · intro b p hp
    by_cases hx : b ∈ [w.heap.size, w.heap.size + 1, w.heap.size + 2]
    · simp at hx ⊢
      omega
    · have := ht b p ((tag_old hx).symm.trans hp)
      simp
      omega
  · intro b p hb hp
    by_cases hx : b ∈ [w.heap.size, w.heap.size + 1, w.heap.size + 2]
    · have e := (tag_new (own := own) (p := (w.heap.size + 2, w.heap.size + 2)) hx).symm.trans hp
      injection e with e
      rw [← e]
    · have := ht b p ((tag_old hx).symm.trans hp)
      omega
theorem room_same {n : Int} (h : 0 ≤ n ∧ n ≤ 4194304) : room n = n := by unfold room; omega
theorem copy_left {own own1 : Own} {w wr : World} {f' nb' sb' : Nat} {rm : Int} {sb n : Nat} {S : Dir} (h : Left own own1 w wr f' nb' sb' rm [] []) (hS : wr.ownsMap Tryz.prog 9 held sb n (dirMap S)) (hne : sb' ≠ sb) (hn : S.length ≤ 1099511627776) :
    Calls Tryz.prog 28 #[.map (some sb'), .map (some sb)] wr.drew fun e w' => e = .returned undef ∧ Left own own1 w w' f' nb' sb' rm [] S := by
  have h0 : wr.ownsMap Tryz.prog 9 held sb' 0 (dirMap []) := h.mapS
  have hc := AnyX.maps_Copy Shelf.mcopy lawS held sb' sb 0 n (dirMap []) (dirMap S) wr.drew h0.drew hS.drew hne (by rw [dirMap_size]; unfold maxLen; omega)
  change Calls _ 28 _ _ _ at hc
  refine hc.mono ?_
  rintro e w' ⟨he, h1, _, hg⟩
  have e1 : Lib.mergeD (dirMap []) (dirMap S) = dirMap S := merge_empty hS lawS
  rw [e1] at h1
  exact ⟨he, h.turnS (undrew hg) h1⟩
theorem chg_cell {w : World} {wv : Value} {l : List Chg} {n : Nat} (h : w.ownsRow 0 71 3 wv n (chgCells l)) {k : Nat} {c : Chg} (hk : l[k]? = some c) :
    ∃ b cap, wv = .slice (some ⟨b, 0, none⟩) n cap ∧ b < w.heap.size ∧ w.cell? ⟨b, k * 3, none⟩ = some (.string c.gone) ∧ w.cell? ⟨b, k * 3 + 1, none⟩ = some (.string c.name) ∧ w.cell? ⟨b, k * 3 + 2, none⟩ = some c.ptr := by
  have hkl := (List.getElem?_eq_some_iff.1 hk).1
  have hlen := h.1
  rw [chgCells_len] at hlen
  have hget : ∀ (l : List Chg) (k : Nat) (c : Chg), l[k]? = some c → ∀ j, j < 3 → (chgCells l)[k * 3 + j]? = c.cells[j]? := by
    intro l
    induction l with
    | nil => intro k c hk; simp at hk
    | cons d r ih =>
      intro k c hk j hj
      have e : chgCells (d :: r) = d.cells ++ chgCells r := rfl
      have hd : d.cells.length = 3 := rfl
      rw [e]
      cases k with
      | zero =>
        rw [List.getElem?_cons_zero] at hk
        injection hk with hk
        subst hk
        rw [Nat.zero_mul, Nat.zero_add, List.getElem?_append_left (by omega)]
      | succ k =>
        rw [List.getElem?_cons_succ] at hk
        rw [List.getElem?_append_right (by omega), hd, show (k + 1) * 3 + j - 3 = k * 3 + j by omega]
        exact ih k c hk j hj
  rcases h.2 with ⟨_, h0⟩ | ⟨b, cap, cur, hv, _, hb, h1, h2, h3, h4⟩
  · omega
  · have hblt : b < w.heap.size := (Array.getElem?_eq_some_iff.1 hb).1
    have hcell : ∀ j u, j < 3 → c.cells[j]? = some u → w.cell? ⟨b, k * 3 + j, none⟩ = some u := by
      intro j u hj hu
      rw [cell_of_row w b (k * 3 + j) cur 71 (0, 0) hb]
      have h5 := hget l k c hk j hj
      rw [← h4, List.getElem?_take, if_pos (by omega)] at h5
      rw [← Array.getElem?_toList, h5, hu]
    refine ⟨b, cap, hv, hblt, ?_, ?_, ?_⟩
    · exact hcell 0 _ (by omega) rfl
    · exact hcell 1 _ (by omega) rfl
    · exact hcell 2 _ (by omega) rfl
theorem partOf_at (z : Int) (i : Nat) (hz : z = (i : Int)) (A : Option Addr) (n c : Nat) (keep : List Bool) (torn : Int) (B : Nat) (w : World) (hR : Row w B A n (lvs keep)) :
    Calls Tryz.prog 31 #[.int .i64 z, .slice A n c, .int .i64 torn] w fun e w' => e = .returned (.int .i64 ((partOf i keep torn : Nat) : Int)) ∧ w' = w := by
  subst hz
  exact partOf_any i A n c keep torn B w hR
theorem copy_end {own own1 : Own} {w wr : World} {f' nb' sb' K : Nat} {rm : Int} {fn : News} (h : Left own own1 w wr f' nb' sb' rm fn []) (hrm : 0 ≤ rm ∧ rm ≤ 4194304) (hK : fn.length ≤ K) (hKb : K ≤ 1073741824) :
    Calls Tryz.prog 28 #[.map (some nb'), .map (some sb')] wr.drew fun e w' => e = .returned undef ∧ DiskAt own1 w' f' (newDk rm fn) K ∧ Below w.heap.size wr w' := by
  have hS := h.mapS
  rw [List.append_nil] at hS
  have hl : (News.dir fn).length = fn.length := by simp [News.dir]
  have hc := AnyX.maps_Copy Shelf.mcopy lawS held nb' sb' 0 _ (dirMap []) (dirMap (News.dir fn)) wr.drew h.mapN.drew hS.drew h.ne (by rw [dirMap_size]; unfold maxLen; omega)
  change Calls _ 28 _ _ _ at hc
  refine hc.mono ?_
  rintro e w' ⟨he, h1, _, hg⟩
  have e1 : Lib.mergeD (dirMap []) (dirMap (News.dir fn)) = dirMap (News.dir fn) := merge_empty hS lawS
  rw [e1] at h1
  have hge := h.nge
  exact ⟨he, h.done (undrew hg) h1 hrm hK hKb, (Below.refl _ wr).grown (undrew hg) h.below.size (fun k hk => by have := Option.some.inj hk; omega)⟩
/-- One file more. -/
theorem crash_file {own own2 : Own} {w wo wr : World} {f f' nb' sb' g : Nat} {rm : Int} {fn : News} {rest : Dir} {nm : Nm} {x : Fl} {v0 : Value} {ob : Nat} {ps : List Nat} (hf : FileIn own2 wo f g x v0 ob) (h : Left own own2 w wr f' nb' sb' rm fn ((nm, g) :: rest)) (hb : Below wo.heap.size wo wr)
    (ht : ∀ b p, own2 b = some p → b < wo.heap.size) (hR : Row wr wr.heap.size (some ⟨wo.heap.size, 0, none⟩) x.soiled.length (nvs ps)) (hp : ∀ i, ps.getD i 0 ≤ 64) (hnm : nm.toArray.size ≤ maxLen) (hlen : fn.length + (rest.length + 1) ≤ 1099511627776) :
    Calls Tryz.prog 32 #[.pointer (some ⟨g, 0, none⟩), .slice (some ⟨wo.heap.size, 0, none⟩) x.soiled.length x.soiled.length] wr.drew fun e w6 => ∃ own3 g' w7, e = .returned (.pointer (some ⟨g', 0, none⟩)) ∧ w6.cell? ⟨f', 2, none⟩ = some (.map (some sb')) ∧
      (Instr.mapUpdate 55 (.map (some sb')) (.string ⟨nm.toArray⟩) (.pointer (some ⟨g', 0, none⟩))).run Tryz.prog w6 = .ok () w7 ∧ Left own own3 w w7 f' nb' sb' rm (fn ++ [(nm, g', x.crash ps)]) rest ∧ wr.grownBy w7 (some sb') := by
  have hcount := hf.ok.count
  have hfw : FileIn own2 wr.drew f g x v0 ob := hf.keep hb.size (fun _ _ => rfl) (fun b hb' _ => hb.block b hb')
  have htw : ∀ b p, own2 b = some p → b < wr.drew.heap.size := fun b p hp => Nat.lt_of_lt_of_le (ht b p hp) hb.size
  refine (crashed_any (f' := f') hfw htw (B := wr.heap.size) (Nat.le_refl _) (c2 := x.soiled.length) hR hp (Nat.le_refl _) (by unfold maxLen; omega)).mono ?_
  rintro e w6 ⟨own3, g', he, hge, hfile, hb6, hs6, ht6, hn6⟩
  have hb6' : Below wr.heap.size wr w6 := ⟨hb6.os, hb6.tape, hb6.output, hb6.size, hb6.block⟩
  have hm6 := map_keep h.mapS (hb6'.block sb' h.mapS.lt)
  have hkey := keyS (s := ⟨nm.toArray⟩) hnm
  obtain ⟨w7, hmu, hm7, hg7⟩ := hm6.update (val := .pointer (some ⟨g', 0, none⟩)) lawS Tryz.underlying55 (by rw [List.length_cons]; unfold maxLen; omega) hkey rfl
  refine ⟨own3, g', w7, he, Blk.cell ((hb6'.block f' (blk_lt' h.blk)).trans h.blk) 2, hmu, ?_, ?_⟩
  · exact h.next hge hfile hb6' hs6 ht6 hn6 hm7 hg7
  · exact only_trans (World.grownBy.but (only_of_below (World.grownBy.refl wr none) hb6') _) hg7
theorem round_next {d : Dk} {keep : List Bool} {torn : Int} {NN : Dir} {own own2 own3 : Own} {w w3 wo wr w7 : World} {f' nb' sb' g g' i fst nk : Nat} {fn : News} {nm : Nm} {ps : List Nat} (h : Round d keep torn NN own own2 w w3 wo f' nb' sb' fn i fst) (hd : NN.drop i = (nm, g) :: NN.drop (i + 1))
    (hl : Left own own3 w w7 f' nb' sb' d.room (fn ++ [(nm, g', (d.fl g).crash ps)]) (NN.drop (i + 1))) (hb : Below wo.heap.size wo wr) (hg : wr.grownBy w7 (some sb')) (hps : ps = partsFor fst (d.fl g).soiled.length keep torn) (hnk : nk = (d.fl g).soiled.length) (hc : nk ≤ 65536) :
    Hid (Round d keep torn NN own own3 w w3 w7 f' nb' sb' (fn ++ [(nm, g', (d.fl g).crash ps)]) (i + 1) (fst + nk)) := by
  refine ⟨hl, by rw [List.length_append, h.len]; rfl, ?_, ?_, only_trans (only_below h.grown (hb.mono h.grown.size)) hg⟩
  · have hs := h.spec
    rw [hd, crashFiles] at hs
    rw [← hs, List.map_append, List.append_assoc, hnk, ← hps]
    rfl
  · have := h.fstb
    omega
set_option maxRecDepth 100000 in
set_option maxHeartbeats 2000000 in
theorem crash_any {own : Own} {w : World} {f K : Nat} {d : Dk} (n torn : Int) (h : DiskAt own w f d K) {B : Nat} {A : Option Addr} {m c : Nat} {keep : List Bool} (hR : Row w B A m (lvs keep)) (hB : B ≤ w.heap.size) (hm : m ≤ 1099511627776) :
    Calls Tryz.prog 13 #[.pointer (some ⟨f, 0, none⟩), .int .i64 n, .slice A m c, .int .i64 torn] w fun e w' => ∃ own' f' d', e = .returned (.pointer (some ⟨f', 0, none⟩)) ∧ w.heap.size ≤ f' ∧ DiskAt own' w' f' d' K ∧ d.Crashed d' n keep torn ∧
      Below w.heap.size w w' ∧ (∀ b, b < w.heap.size → own' b = own b) ∧ (∀ b p, w.heap.size ≤ b → own' b = some p → p.1 = f') := by
  obtain ⟨nb, sb, wv, h⟩ := h
  have b0 : w.cell? ⟨f, 0, none⟩ = some (.int .i64 d.room) := Blk.cell h.blk 0
  have b2 : w.cell? ⟨f, 2, none⟩ = some (.map (some sb)) := Blk.cell h.blk 2
  have b3 : w.cell? ⟨f, 3, none⟩ = some wv := Blk.cell h.blk 3
  have hfl := blk_lt' h.blk
  have hsl := h.mapS.lt
  have hSK := h.ok.S
  have hKb := h.ok.big
  obtain ⟨Aw, cw, rfl, hcw, hcwm⟩ := own_form h.row
  have CN := new_left (own := own) (w := w) d.room h.top
  rw [room_same h.ok.room] at CN
  obtain ⟨M, hM⟩ : ∃ M : Nat, M = (min (max n 0) (d.wait.length : Int)).toNat := ⟨_, rfl⟩
  have hM1 : min (max n 0) (d.wait.length : Int) = (M : Int) := by omega
  have hML : M ≤ d.wait.length := by omega
  have HM := Lib.hid hM
  have HH := Lib.hid h
  have HR := Lib.hid hR
  clear h hR hM
  go_enter Tryz.func13, Tryz.ntmps13
  go_wp2_with (go_at_call 6; refine CN.mono ?_; rintro e w1 ⟨own1, f', nb', sb', rfl, l1⟩; have q2 : w1.cell? ⟨f', 2, none⟩ = some (.map (some sb')) := Blk.cell l1.blk 2; have p2 : w1.cell? ⟨f, 2, none⟩ = some (.map (some sb)) := (World.cell?_of_block (l1.below.block f hfl)).trans b2; have L1 := Lib.hid l1; clear l1)
  go_still_tail 8, (by kernel_rfl)
  change wpList _ _ _ _ _ w1.drew
  have CC := copy_left L1.out (map_keep HH.out.mapS (L1.out.below.block sb hsl)) (by have := L1.out.sge; omega) (by omega)
  go_wp2_with fail
  refine CC.mono ?_
  rintro e w2 ⟨rfl, l2⟩
  have L2 := Lib.hid l2
  have p3 : w2.cell? ⟨f, 3, none⟩ = some (.slice Aw d.wait.length cw) := (World.cell?_of_block (l2.below.block f hfl)).trans b3
  clear l2 CC p2 q2
  go_wp2_with fail
  go_quiet (fail)
  go_wp2_with fail
  have hz := zeroChg
  go_loopw [48] (fun y wr => ∃ k : Nat, y = .int .i64 (k : Int) ∧ k ≤ M ∧ Hid (Left own own1 w wr f' nb' sb' d.room [] (foldDir d.S d.wait k))) (fun y _ => M - (RowKit.intOf y).toNat)
  case atStart => exact ⟨0, rfl, Nat.zero_le _, L2.out.drewN _⟩
  case round =>
    obtain ⟨k, rfl, hk, LK⟩ := hrel
    by_cases hlt : k < M
    · obtain ⟨ch, hch⟩ : ∃ ch, d.wait[k]? = some ch := ⟨d.wait[k], List.getElem?_eq_getElem (by omega)⟩
      obtain ⟨bw, cap, ew, hbw, x0, x1, x2⟩ := chg_cell HH.out.row hch
      injection ew with ew1 ew2 ew3
      subst ew1 ew3
      have y0 := (LK.out.below.cell (p := ⟨bw, k * 3, none⟩) hbw).trans x0
      have y1 := (LK.out.below.cell (p := ⟨bw, k * 3 + 1, none⟩) hbw).trans x1
      have y2 := (LK.out.below.cell (p := ⟨bw, k * 3 + 2, none⟩) hbw).trans x2
      have qk : wr.cell? ⟨f', 2, none⟩ = some (.map (some sb')) := Blk.cell LK.out.blk 2
      have hlen : (foldDir d.S d.wait k).length ≤ d.S.length + k := foldDir_len _ _ _
      have hnm := HH.out.ok.names ch (List.mem_of_getElem? hch)
      have hkM : (k : Int) < (M : Int) := by omega
      have HCH := Lib.hid hch
      obtain ⟨pp, hpp⟩ : ∃ pp, ch.ptr = .pointer pp := ⟨_, rfl⟩
      rw [hpp] at y2
      have HPP := Lib.hid hpp
      clear hch x0 x1 x2 hpp
      go_wp2_with fail
      obtain ⟨w3, hw3⟩ : ∃ w3, w3 = wr.alloc (.cells #[.string ch.gone, .string ch.name, .pointer pp] 71) := ⟨_, rfl⟩
      have X3 : Blk w3 wr.heap.size 71 #[.string ch.gone, .string ch.name, .pointer pp] := by rw [hw3]; exact Blk.new _ _ _
      have L3 : Hid (Left own own1 w w3 f' nb' sb' d.room [] (foldDir d.S d.wait k)) := by rw [hw3]; exact LK.out.all ((Below.refl _ _).alloc (Nat.le_refl _) _)
      rw [← hw3]
      have z0 := X3.cell 0
      have z1 := X3.cell 1
      have z2 := X3.cell 2
      have qk3 : w3.cell? ⟨f', 2, none⟩ = some (.map (some sb')) := Blk.cell L3.out.blk 2
      clear hw3 qk y0 y1 y2
      go_still_tail 5, (by kernel_rfl)
      change wpList _ _ _ _ _ w3.drew
      have AP := apply_any sb' _ _ ch w3.drew L3.out.mapS (by unfold maxLen; show 0 + _ < _; omega) hnm.1 hnm.2
      rw [HPP.out] at AP
      go_wp2_with fail
      refine AP.mono ?_
      rintro e w4 ⟨rfl, hm4, g4⟩
      have L4 : Hid (Left own own1 w w4 f' nb' sb' d.room [] (foldDir d.S d.wait (k + 1))) := L3.out.turnS (undrew g4) (by rw [foldDir_next HCH.out]; exact hm4)
      clear AP hm4 g4 X3 z0 z1 z2 qk3
      go_wp2_with fail
      exact ⟨⟨k + 1, by go_num, by omega, L4⟩, by simp [RowKit.intOf]; omega⟩
    · obtain rfl : k = M := by omega
      have qk : wr.cell? ⟨f', 2, none⟩ = some (.map (some sb')) := Blk.cell LK.out.blk 2
      have hdir : Hid (foldDir d.S d.wait k = d.crashDir n) := by show _ = _; rw [foldDir, Dk.crashDir, HM.out]
      have hrefs : ∀ p ∈ foldDir d.S d.wait k, d.refs p.2 := foldDir_refs d k
      have hnames := dir_names LK.out.mapS
      generalize hNN : foldDir d.S d.wait k = NN at *
      have hNl : NN.length ≤ K := by rw [← hNN]; have := foldDir_len d.S d.wait k; omega
      have CNM := names_any (N := NN) LK.out.mapS (by omega)
      have HNM := Lib.hid CNM
      have HRF := Lib.hid hrefs
      have HNA : Hid (∀ p ∈ NN, p.1.length ≤ maxLen) := hnames
      clear CNM hNN hrefs hnames
      go_wp2_with (go_at_call 30; refine HNM.out.mono ?_; rintro e w3 ⟨vn, rfl, rn, bn⟩; obtain ⟨An, cn, rfl, hcn, hcnm⟩ := own_form rn; have RN := Lib.hid rn; have L3 := Lib.hid (LK.out.all bn); clear rn bn)
      have R0 : Hid (Round d keep torn NN own own1 w w3 w3 f' nb' sb' [] 0 0) := ⟨by rw [List.drop_zero]; exact L3.out, rfl, by rw [List.drop_zero]; rfl, by omega, World.grownBy.refl _ _⟩
      go_loopw [12, 65] (fun y z wr => ∃ (k : Nat) (fst : Nat) (fn : News) (own2 : Own), z = .int .i64 (k : Int) ∧ y = .int .i64 (fst : Int) ∧ k ≤ NN.length ∧ Hid (Round d keep torn NN own own2 w w3 wr f' nb' sb' fn k fst)) (fun _ z _ => NN.length - (RowKit.intOf z).toNat)
      case atStart => exact ⟨0, 0, [], own1, rfl, rfl, Nat.zero_le _, R0⟩
      case round =>
        obtain ⟨i, fst, fn, own2, rfl, rfl, hi, RD⟩ := hrel
        obtain ⟨wo, hwo⟩ : ∃ wo, wo = wr := ⟨_, rfl⟩
        subst hwo
        by_cases hin : i < NN.length
        · obtain ⟨nm, g, hnm⟩ : ∃ nm g, NN[i] = (nm, g) := ⟨_, _, rfl⟩
          have hdrop : NN.drop i = (nm, g) :: NN.drop (i + 1) := by rw [List.drop_eq_getElem_cons hin, hnm]
          have hmem : (nm, g) ∈ NN := by rw [← hnm]; exact List.getElem_mem hin
          obtain ⟨hgf, v0, ob, hf⟩ := HH.out.files g (HRF.out _ hmem)
          have hnml := HNA.out _ hmem
          have hLr := RD.out.left
          rw [hdrop] at hLr
          obtain ⟨bN, capN, curN, eN, hbNge, hbN, hN1, hN2, hN3, hN4⟩ := own_block RN.out (by omega)
          injection eN with eN1 eN2 eN3
          subst eN1 eN3
          have hbNl := blk_lt' hbN
          have hsbcell : bN ≠ sb' := by
            rintro rfl
            obtain ⟨es, clock, hx, _⟩ := L3.out.mapS
            have hx' := hbN.symm.trans hx
            injection hx' with hx'
            cases hx'
          have qn : wo.cell? ⟨bN, i, none⟩ = some (.string ⟨nm.toArray⟩) := by
            have h1 : Blk wo bN 9 curN := (RD.out.grown.block bN hbNl (fun e => hsbcell (Option.some.inj e))).trans hbN
            have h2 : (((NN.map (·.1)).map encStr))[i]? = some (.string ⟨nm.toArray⟩) := by
              rw [List.getElem?_map, List.getElem?_map, List.getElem?_eq_getElem hin, hnm]
              rfl
            rw [h1.cell i, ← Array.getElem?_toList]
            rw [← hN4, List.getElem?_take, if_pos hin] at h2
            exact h2
          have lk := dir_look_some (s := ⟨nm.toArray⟩) (g := g) hLr.mapS (by show nm.toArray.size ≤ maxLen; rw [List.size_toArray]; exact hnml) (by
            show dget nm.toArray.toList _ = _
            exact dget_mid (dir_rising hLr.mapS))
          have hgl := blk_lt' hf.blk
          have hfr : FileIn own2 wo f g (d.fl g) v0 ob := hf.keep hLr.below.size hLr.same (fun b hb _ => hLr.below.block b hb)
          have qg2 : wo.cell? ⟨g, 2, none⟩ = some (.map (some ob)) := Blk.cell hfr.blk 2
          have ln := fun ty => sec_len hfr.map ty
          have hcount := hf.ok.count
          have qf2 : wo.cell? ⟨f', 2, none⟩ = some (.map (some sb')) := Blk.cell hLr.blk 2
          obtain ⟨nk, hnk⟩ : ∃ nk, nk = (d.fl g).soiled.length := ⟨_, rfl⟩
          rw [← hnk] at ln hcount
          have hmk : ∀ w, (Instr.makeSlice 75 (.int .i64 (nk : Int)) (.int .i64 (nk : Int))).run Tryz.prog w = .ok (.slice (some ⟨w.heap.size, 0, none⟩) nk nk) (w.alloc (.cells (madeCells #[.int .i64 0] nk) 3)) := by
            intro w
            exact Go.run_make_row' (P := Tryz.prog) 75 3 (.int .i64 0) 8 Tryz.underlying75 (by kernel_rfl) rfl .i64 .i64 nk (by omega) (by omega) w
          have hik : (i : Int) < (NN.length : Int) := by omega
          have HLR := Lib.hid hLr
          have HFR := Lib.hid hfr
          have HNK := Lib.hid hnk
          have HDR := Lib.hid hdrop
          have hfb := RD.out.fstb
          have HNML := Lib.hid hnml
          clear hLr hfr hnk hdrop hnm hf hN4 hN3 hN1 hnml
          obtain ⟨ps, hps⟩ : ∃ ps, ps = partsFor fst nk keep torn := ⟨_, rfl⟩
          have hpl : ps.length = nk := by rw [hps, partsFor_length]
          have hpa : ∀ j, j < nk → ps.getD j 0 = partOf (fst + j) keep torn := by
            intro j hj
            rw [hps, partsFor, List.getD_eq_getElem?_getD, List.getElem?_map, List.getElem?_range hj]
            rfl
          have hple : ∀ j, ps.getD j 0 ≤ 64 := fun j => by rw [hps]; exact partsFor_le _ _ _ _ _
          have hmade : madeCells #[Value.int .i64 0] nk = (filled ps 0).toArray := by rw [← hpl]; exact filled_none ps
          rw [hmade] at hmk
          have HPS := Lib.hid hps
          have HPL := Lib.hid hpl
          have HPA := Lib.hid hpa
          have HPLE := Lib.hid hple
          clear hmade hps hpl hpa hple
          go_wp2_with fail
          obtain ⟨w5, hw5⟩ : ∃ w5, w5 = wo.alloc (.cells (filled ps 0).toArray 3) := ⟨_, rfl⟩
          have X5 : Hid (Blk w5 wo.heap.size 3 (filled ps 0).toArray) := by rw [hw5]; exact Blk.new _ _ _
          have B5 : Hid (Below wo.heap.size wo w5) := by rw [hw5]; exact (Below.refl _ _).alloc (Nat.le_refl _) _
          rw [← hw5]
          clear hw5
          go_loopw [83] (fun y wr => ∃ j : Nat, y = .int .i64 (j : Int) ∧ j ≤ nk ∧ Hid (Blk wr wo.heap.size 3 (filled ps j).toArray) ∧ Hid (Below wo.heap.size wo wr)) (fun y _ => nk - (RowKit.intOf y).toNat)
          case atStart => exact ⟨0, rfl, Nat.zero_le _, X5, B5⟩
          case round =>
            obtain ⟨j, rfl, hj, XJ, BJ⟩ := hrel
            by_cases hjl : j < nk
            · have hjn : (j : Int) < (nk : Int) := by omega
              have hRw : Row wr B A m (lvs keep) := Row.below (Row.more (w := wr) (B := B) (B' := B) (by
                have := HLR.out.below.trans (BJ.out.mono HLR.out.below.size)
                exact (Row.below (w := w) HR.out (this.mono hB))) (Nat.le_refl _)) (Below.refl _ _)
              have CP := fun (z : Int) (hz : z = ((fst + j : Nat) : Int)) => partOf_at z (fst + j) hz A m c keep torn B wr hRw
              have HZ : Hid ((fst : Int) + (j : Int) = ((fst + j : Nat) : Int)) := by show _ = _; omega
              have xc : wr.cell? ⟨wo.heap.size, j, none⟩ = some (.int .i64 0) := by rw [XJ.out.cell, List.getElem?_toArray]; exact filled_at ps (by rw [HPL.out]; exact hjl)
              have xf := XJ.out.free j
              have HPJ := HPA.out j hjl
              rw [← HPJ] at CP
              clear hRw HPJ
              go_wp2_with (go_at_call 31; refine (CP _ HZ.out).mono ?_; rintro e w' ⟨rfl, rfl⟩)
              refine ⟨⟨j + 1, by go_num, by omega, ?_, ?_⟩, by simp [RowKit.intOf]; omega⟩
              · have hput := XJ.out.put j (.int .i64 ((ps.getD j 0 : Nat) : Int))
                rw [filled_put ps (by rw [HPL.out]; exact hjl)] at hput
                rw [List.getD_eq_getElem?_getD] at hput
                exact hput
              · exact below_only BJ.out (only_setCell _ _ _) (Nat.le_refl _) BJ.out.size
            · obtain rfl : j = nk := by omega
              have LW := Lib.hid (HLR.out.all BJ.out)
              have HX : Hid (Row wr wr.heap.size (some ⟨wo.heap.size, 0, none⟩) (d.fl g).soiled.length (nvs ps)) := by
                have hX := XJ.out.row
                have e0 := filled_all ps
                rw [HPL.out] at e0
                show Row _ _ _ _ _
                rw [← HNK.out]
                simp only [e0, List.size_toArray] at hX
                have e1 : (nvs ps).length = j := by simp [nvs, HPL.out]
                rw [e1] at hX
                exact hX
              have CRS := crash_file HFR.out LW.out BJ.out HLR.out.top HX.out HPLE.out (nm := nm)
              rw [← HNK.out] at CRS
              have qf6 : wr.cell? ⟨f', 2, none⟩ = some (.map (some sb')) := Blk.cell LW.out.blk 2
              have HCRS := Lib.hid CRS
              have HLN : Hid (fn.length + ((NN.drop (i + 1)).length + 1) ≤ 1099511627776) := by show _ ≤ _; have := RD.out.len; rw [List.length_drop]; omega
              clear CRS
              go_wp2_with fail
              go_region_with (go_at_call 32; refine (HCRS.out (by rw [List.size_toArray]; exact HNML.out) HLN.out).mono ?_; rintro e w6 ⟨own3, g', w7, rfl, qf7, hmu, lx, gx⟩; have LX := Lib.hid lx; have GX := Lib.hid gx; clear lx gx)
              all_goals
                go_wp2_with fail
                refine ⟨⟨i + 1, fst + j, _, own3, by go_num, by go_num, by omega, round_next RD.out HDR.out LX.out BJ.out GX.out (by rw [HPS.out, HNK.out]) HNK.out hcount⟩, by simp [RowKit.intOf]; omega⟩
        · obtain rfl : i = NN.length := by omega
          have LE : Hid (Left own own2 w wo f' nb' sb' d.room fn []) := by have := RD.out.left; rw [List.drop_length] at this; exact this
          have qn1 : wo.cell? ⟨f', 1, none⟩ = some (.map (some nb')) := Blk.cell LE.out.blk 1
          have qn2 : wo.cell? ⟨f', 2, none⟩ = some (.map (some sb')) := Blk.cell LE.out.blk 2
          have CE := Lib.hid (copy_end LE.out HH.out.ok.room (by have := RD.out.len; omega) hKb)
          go_wp2_with fail
          go_still_tail 8, (by kernel_rfl)
          change wpList _ _ _ _ _ wo.drew
          go_wp2_with fail
          refine CE.out.mono ?_
          rintro e w4 ⟨rfl, hd4, hb4⟩
          go_wp2_with fail
          go_ret
          refine ⟨own2, f', newDk d.room fn, rfl, LE.out.fge, hd4, newDk_crashed LE.out.inc ?_, LE.out.below.trans hb4, LE.out.same, LE.out.new⟩
          have hsp := RD.out.spec
          rw [List.drop_length, crashFiles, List.append_nil, hdir.out] at hsp
          exact hsp
end Go.Proofs.YtcmlchicpmnhdaaGreatDoor.Disk
