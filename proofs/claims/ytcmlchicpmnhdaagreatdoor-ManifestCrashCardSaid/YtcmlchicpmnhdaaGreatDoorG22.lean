/-
  Texts one behind the other: DiskSoil.
-/
import Derived.Deep.RegionWith
import Derived.Test.YtcmlchicpmnhdaaGreatDoorG18
import Derived.Test.YtcmlchicpmnhdaaGreatDoorG21
/-
  Proved: what bytes.Clone of a slice of bytes returns, and what soil of package disk does to a file.
-/
namespace Go.Proofs.YtcmlchicpmnhdaaGreatDoor.Disk
open Go.RowKit Go.Maps
set_option linter.unusedVariables false
set_option linter.unusedSimpArgs false

theorem clone_any {w : World} {B : Nat} {A : Option Addr} {n : Nat} {bs : List UInt8} (c : Nat) (hR : Row w B A n (bvs bs)) (hn : n ≤ 140737488355328) (hA : A = none → c = 0) :
    Calls Tryz.prog 63 #[.slice A n c] w fun e w' => ∃ v, e = .returned v ∧ w'.ownsRow w.heap.size 5 1 v n (bvs bs) ∧ Below w.heap.size w w' := by
  have hl := hR.size
  cases A with
  | none =>
    have h0 : n = 0 := by
      rcases Nat.eq_zero_or_pos n with h | h
      · exact h
      · obtain ⟨b, o, e, _⟩ := hR.2 h
        cases e
    subst h0
    obtain rfl := hA rfl
    obtain rfl : bs = [] := List.eq_nil_of_length_eq_zero hl
    refine (Any.bytes_Clone_nil Shelf.clone 0 0 w).mono ?_
    rintro e w' ⟨rfl, rfl⟩
    exact ⟨_, rfl, World.ownsRow_nil _ _ _ _, Below.refl _ _⟩
  | some a =>
    have e1 : bvs bs = (bs.map fun c => (c.toNat : Int)).map (Value.int .u8) := by
      rw [bvs, List.map_map]
      rfl
    have hc : ∀ i, i < n → w.cell? (a.add i) = some (.int .u8 ((bs.map fun c => (c.toNat : Int)).getD i 0)) := by
      intro i hi
      obtain ⟨b, o, e, _, hc⟩ := hR.byte (by omega)
      injection e with e
      subst e
      have h1 := hc i hi
      have h2 : (bs.map fun c => (c.toNat : Int)).getD i 0 = ((bs.getD i 0).toNat : Int) := by
        rw [List.getD_eq_getElem?_getD, List.getElem?_map, List.getD_eq_getElem?_getD, List.getElem?_eq_getElem (by omega)]
        rfl
      rw [h2]
      unfold Addr.add
      split
      · rename_i h; subst h; exact h1
      · exact h1
    have h := Any.bytes_Clone_at Shelf.clone a n c (bs.map fun c => (c.toNat : Int)) w (by rw [List.length_map, hl]) hn hc
    change Calls _ 63 _ _ _ at h
    refine h.mono ?_
    rintro e w' ⟨v, rfl, hr, _, hb⟩
    exact ⟨v, rfl, by rw [e1]; exact hr, hb⟩
/-- A sector is made dirty. -/
def Fl.soil (x : Fl) (s : Nat) (v : Value) : Fl := if shas s x.soiled = true then x else { x with soiled := sins (s, v) x.soiled }
theorem Fl.soil_has (x : Fl) (s t : Nat) (v : Value) : shas t (x.soil s v).soiled = (shas t x.soiled || decide (t = s)) := by
  unfold Fl.soil
  split
  · rename_i h
    by_cases e : t = s
    · subst e; rw [h]; rfl
    · simp [e]
  · rename_i h
    rw [Bool.eq_iff_iff, Bool.or_eq_true, shas_mem, shas_mem]
    dsimp only
    rw [List.mem_map, List.mem_map]
    constructor
    · rintro ⟨p, hp, rfl⟩
      rcases sins_mem.1 hp with rfl | hp
      · exact .inr (by simp)
      · exact .inl ⟨p, hp, rfl⟩
    · rintro (⟨p, hp, rfl⟩ | e)
      · exact ⟨p, sins_mem.2 (.inr hp), rfl⟩
      · exact ⟨(s, v), sins_mem.2 (.inl rfl), by simp at e; exact e.symm⟩
theorem Fl.soil_ok {x : Fl} (h : x.Ok) {s : Nat} (v : Value) (hs : 64 * s < 4194304) : (x.soil s v).Ok := by
  have hh := fun t => x.soil_has s t v
  unfold Fl.soil at *
  split
  · exact h
  · rename_i hn
    simp only [if_neg hn] at hh
    have hn' : shas s x.soiled = false := by simpa using hn
    refine ⟨h.le, h.max, sins_rising (s, v) h.rising ?_, ?_, ?_⟩
    · intro p hp e
      have : shas s x.soiled = true := shas_mem.2 (List.mem_map.2 ⟨p, hp, e⟩)
      rw [hn'] at this; cases this
    · intro p hp
      rcases sins_mem.1 hp with rfl | hp
      · exact hs
      · exact h.within p hp
    · intro i hi hx
      refine h.clean i hi ?_
      have := hh (i / 64)
      dsimp only at this hx
      rw [hx] at this
      cases hc : shas (i / 64) x.soiled
      · rfl
      · rw [hc] at this; cases this

/-- What a call on one file does to memory: only blocks of p's turn. -/
structure StepP (own own' : Own) (p : Nat × Nat) (w w' : World) : Prop where
  os : w'.os = w.os
  tape : w'.tape = w.tape
  output : w'.output = w.output
  size : w.heap.size ≤ w'.heap.size
  same : ∀ b, b < w.heap.size → own' b = own b
  block : ∀ b, b < w.heap.size → own b ≠ some p → w'.heap[b]? = w.heap[b]?
  new : ∀ b, w.heap.size ≤ b → ∀ q, own' b = some q → q = p
  top : ∀ b q, own' b = some q → b < w'.heap.size
theorem StepP.refl (own : Own) (p : Nat × Nat) (w : World) (ht : ∀ b p, own b = some p → b < w.heap.size) : StepP own own p w w :=
  ⟨rfl, rfl, rfl, Nat.le_refl _, fun _ _ => rfl, fun _ _ _ => rfl, fun b hb p hp => absurd (ht b p hp) (by omega), ht⟩
theorem StepP.trans {o1 o2 o3 : Own} {p : Nat × Nat} {w1 w2 w3 : World} (h : StepP o1 o2 p w1 w2) (k : StepP o2 o3 p w2 w3) : StepP o1 o3 p w1 w3 where
  os := k.os.trans h.os
  tape := k.tape.trans h.tape
  output := k.output.trans h.output
  size := Nat.le_trans h.size k.size
  same := fun b hb => (k.same b (Nat.lt_of_lt_of_le hb h.size)).trans (h.same b hb)
  block := fun b hb hne => (k.block b (Nat.lt_of_lt_of_le hb h.size) (by rw [h.same b hb]; exact hne)).trans (h.block b hb hne)
  new := fun b hb q hq => by
    rcases Nat.lt_or_ge b w2.heap.size with hh | hh
    · exact h.new b hb q ((k.same b hh).symm.trans hq)
    · exact k.new b hh q hq
  top := k.top
theorem StepP.step {o1 o2 : Own} {f g : Nat} {w1 w2 : World} (h : StepP o1 o2 (f, g) w1 w2) : Step o1 o2 f w1 w2 :=
  ⟨h.os, h.tape, h.output, h.size, h.same, fun b hb hne => h.block b hb (hne g), fun b hb q hq => by rw [h.new b hb q hq]⟩
theorem StepP.of_grown {own : Own} {p : Nat × Nat} {row : Option Nat} {w w' : World} (ht : ∀ b p, own b = some p → b < w.heap.size) (hb : ∀ b, row = some b → own b = some p) (hg : w.grownBy w' row) : StepP own own p w w' :=
  ⟨hg.os, hg.tape, hg.output, hg.size, fun _ _ => rfl, fun b' hb' hne => hg.block b' hb' (fun e => hne (hb b' e.symm)), fun b' hb' p hp => absurd (ht b' p hp) (by omega), fun b q hq => Nat.lt_of_lt_of_le (ht b q hq) hg.size⟩
theorem zeroBytes (w : World) : (zeroValue 51).run Tryz.prog w = .ok (.slice none 0 0) w := by kernel_rfl
theorem keyI (s : Nat) (hs : s < 9223372036854775808) : keyOf Tryz.prog 3 (.int .i64 (s : Int)) = some (.int .i64 (s : Int)) :=
  keyOf_int_mk Tryz.underlying3 (by simp [Lit.wf, IntKind.min, IntKind.max, IntKind.bits, IntKind.signed]; omega)
theorem sec_look {w : World} {ob n s : Nat} {L : Secs} (h : w.ownsMap Tryz.prog 3 held ob n (secMap L)) (hs : s < 9223372036854775808) :
    ∃ v, (Instr.lookup 76 (.map (some ob)) (.int .i64 (s : Int)) true).run Tryz.prog w = .ok (.tuple #[v, .bool (shas s L)]) w := by
  obtain ⟨v, ps, hrun, _⟩ := h.look_ok lawI Tryz.underlying76 (zeroBytes w) (zd := .held (.slice none 0 0)) (zp := []) rfl (keyI s hs)
  rw [secMap_has] at hrun
  exact ⟨v, hrun⟩
theorem was_cut {x : Fl} (h : x.Ok) {s F T : Nat} (hd : shas s x.soiled = false) (hF : F = min (64 * s) x.was.length) (hT : T = min (F + 64) x.was.length) :
    bvs ((x.now.drop F).take (T - F)) = bvs ((x.was.drop (64 * s)).take 64) := by
  congr 1
  apply List.ext_getElem?
  intro i
  rw [List.getElem?_take, List.getElem?_take, List.getElem?_drop, List.getElem?_drop]
  have hle := h.le
  by_cases hi : i < T - F
  · have e1 : F = 64 * s := by omega
    rw [if_pos hi, if_pos (by omega), e1]
    exact h.clean _ (by omega) (by rw [show (64 * s + i) / 64 = s by omega]; exact hd)
  · rw [if_neg hi]
    split
    · rw [List.getElem?_eq_none (by omega)]
    · rfl
theorem soil_end {own : Own} {w w2 w3 : World} {f g : Nat} {x : Fl} {v v1 : Value} {ob s F T : Nat} (h : FileIn own w f g x v ob) (ht : ∀ b p, own b = some p → b < w.heap.size) (hd : shas s x.soiled = false) (hs : 64 * s < 4194304) (hn : T - F ≤ 64)
    (r1 : w2.ownsRow w.heap.size 5 1 v1 (T - F) (bvs ((x.was.drop (64 * s)).take 64))) (b1 : Below w.heap.size w w2)
    (m3 : w3.ownsMap Tryz.prog 3 held ob (x.soiled.length + 1) ((secMap x.soiled).put (.int .i64 (s : Int)) (.held v1))) (g3 : w2.grownBy w3 (some ob)) :
    ∃ own' u, Ending.returned undef = Ending.returned undef ∧ FileIn own' w3 f g (x.soil s u) v ob ∧ StepP own own' (f, g) w w3 := by
  have hob := h.map.lt
  have hon : ∀ b, b < w.heap.size → tag own (f, g) v1.ownBlock.toList b = own b := fun b hb => tag_old (by
    intro hx
    have := (r1.lt b (by simpa using hx)).1
    omega)
  have hst : StepP own (tag own (f, g) v1.ownBlock.toList) (f, g) w w3 := by
    refine ⟨g3.os.trans b1.os, g3.tape.trans b1.tape, g3.output.trans b1.output, Nat.le_trans b1.size g3.size, hon, ?_, ?_, ?_⟩
    · intro b hb hne
      exact (g3.block b (Nat.lt_of_lt_of_le hb b1.size) (fun e => hne (by injection e with e; rw [e]; exact h.oo))).trans (b1.block b hb)
    · intro b hb q hq
      by_cases hx : b ∈ v1.ownBlock.toList
      · rw [tag_new hx] at hq
        exact (Option.some.inj hq).symm
      · rw [tag_old hx] at hq
        have := ht b q hq
        omega
    · intro b q hq
      by_cases hx : b ∈ v1.ownBlock.toList
      · have := (r1.lt b (by simpa using hx)).2
        exact Nat.lt_of_lt_of_le this g3.size
      · rw [tag_old hx] at hq
        have := ht b q hq
        have := b1.size
        have := g3.size
        omega
  refine ⟨_, v1, rfl, ?_, hst⟩
  have hkeep : ∀ b, b < w.heap.size → own b = some (f, g) → b ≠ ob → w3.heap[b]? = w.heap[b]? := fun b hb _ hne =>
    (g3.block b (Nat.lt_of_lt_of_le hb b1.size) (fun e => hne (Option.some.inj e))).trans (b1.block b hb)
  have hcells : ∀ b t cs fr, w.heap[b]? = some (.cells cs t fr) → b ≠ ob := by
    rintro b t cs fr hx rfl
    obtain ⟨es, clock, hm, _⟩ := h.map
    rw [hx] at hm
    injection hm with hm
    cases hm
  have e1 : x.soil s v1 = { x with soiled := sins (s, v1) x.soiled } := if_neg (by rw [hd]; simp)
  refine ⟨Fl.soil_ok h.ok v1 hs, ?_, (hon g (blk_lt' h.blk)).trans h.og, (hon ob hob).trans h.oo, ?_, ?_, ?_, ?_⟩
  · rw [e1]
    exact (hkeep g (blk_lt' h.blk) h.og (hcells _ _ _ _ h.blk)).trans h.blk
  · rw [e1]
    refine row_keep h.row fun b hb => hkeep b (row_lt h.row b hb) (h.orow b hb) ?_
    rcases h.row.2 with ⟨e, _⟩ | ⟨g', cap, cur, e, _, hgg, _⟩
    · rw [e] at hb; cases hb
    · rw [e] at hb
      have e2 : g' = b := by injection hb
      subst e2
      exact hcells _ _ _ _ hgg
  · intro b hb
    exact (hon b (row_lt h.row b hb)).trans (h.orow b hb)
  · rw [secMap_put, sput_new _ hd] at m3
    have := map_tight m3
    rw [secMap_size] at this
    rw [e1]
    exact this
  · rw [e1]
    intro p hp
    rcases sins_mem.1 hp with rfl | hp
    · obtain ⟨A, c, e, hc1, hc2⟩ := own_form r1
      refine ⟨A, T - F, c, e, hc1, hc2, ?_, ?_⟩
      rotate_left
      · intro _ a ha
        have := (r1.lt a.block (by rw [e, ha]; rfl)).1
        have hg := blk_lt' h.blk
        refine ⟨fun hv => ?_, by omega⟩
        have := row_lt h.row _ hv
        omega
      subst e
      refine ⟨by rw [r1.1, Nat.mul_one], fun hn0 => ?_⟩
      obtain ⟨b, cap, cur, e, _, hb, h1, h2, h3, h4⟩ := own_block r1 hn0
      injection e with e
      subst e
      have hbl := blk_lt' hb
      have hb0 : w.heap.size ≤ b := (r1.lt b rfl).1
      refine ⟨b, 0, rfl, tag_new (by simp [Value.ownBlock]), Nat.lt_of_lt_of_le hbl g3.size, fun i u hu => ?_⟩
      have hk : Blk w3 b 5 cur := (g3.block b hbl (fun e => by injection e; omega)).trans hb
      rw [Nat.zero_add, hk.cell i, ← Array.getElem?_toList]
      rw [← h4, List.getElem?_take] at hu
      split at hu
      · exact hu
      · cases hu
    · obtain ⟨A, n, c, e, h1, h2, h3, h4⟩ := h.olds p hp
      refine ⟨A, n, c, e, h1, h2, ⟨h3.1, fun hn0 => ?_⟩, h4⟩
      obtain ⟨b, o, e, hp', hb, hc⟩ := h3.2 hn0
      refine ⟨b, o, e, (hon b hb).trans hp', Nat.lt_of_lt_of_le hb hst.size, fun i u hu => ?_⟩
      have hcu := hc i u hu
      have hne : b ≠ ob := by
        rintro rfl
        obtain ⟨es, clock, hm, _⟩ := h.map
        simp [World.cell?, hm] at hcu
      exact (World.cell?_of_block (hkeep b hb hp' hne)).trans hcu
set_option maxRecDepth 100000 in
set_option maxHeartbeats 1000000 in
theorem soil_any {own : Own} {w : World} {f g : Nat} {x : Fl} {v : Value} {ob : Nat} (h : FileIn own w f g x v ob) (ht : ∀ b p, own b = some p → b < w.heap.size) (s : Nat) (hs : 64 * s < 4194304) :
    Calls Tryz.prog 98 #[.pointer (some ⟨g, 0, none⟩), .int .i64 (s : Int)] w fun e w' => ∃ own' u, e = .returned undef ∧ FileIn own' w' f g (x.soil s u) v ob ∧ StepP own own' (f, g) w w' := by
  obtain ⟨u0, lk⟩ := sec_look (s := s) h.map (by omega)
  have c2 : w.cell? ⟨g, 2, none⟩ = some (.map (some ob)) := h.blk.cell 2
  cases hd : shas s x.soiled
  · rw [hd] at lk
    have c0 : w.cell? ⟨g, 0, none⟩ = some v := h.blk.cell 0
    have c1 : w.cell? ⟨g, 1, none⟩ = some (.int .i64 (x.was.length : Int)) := h.blk.cell 1
    obtain ⟨A, c, rfl, hc1, hc2⟩ := own_form h.row
    have hle := h.ok.le
    have hmx := h.ok.max
    obtain ⟨F, hF⟩ : ∃ F, F = min (64 * s) x.was.length := ⟨_, rfl⟩
    obtain ⟨T, hT⟩ : ∃ T, T = min (F + 64) x.was.length := ⟨_, rfl⟩
    have hF1 : min ((s : Int) * 64) (x.was.length : Int) = (F : Int) := by omega
    have hT1 : min ((F : Int) + 64) (x.was.length : Int) = (T : Int) := by omega
    have hFT : F ≤ T := by omega
    have hTn : T ≤ x.now.length := by omega
    generalize hSw : x.was.length = S at *
    generalize hn : x.now.length = n at *
    have HH := Lib.hid h
    have HF := Lib.hid hF
    have HT := Lib.hid hT
    have HS := Lib.hid hSw
    have HN := Lib.hid hn
    clear h hF hT hn hSw
    go_enter Tryz.func98, Tryz.ntmps98
    go_wp2_with fail
    have hgl : g < w.heap.size := blk_lt' HH.out.blk
    have HM : ∀ (w2 : World) (v1 : Value), Below w.heap.size w w2 → ∃ w3, (Instr.mapUpdate 76 (.map (some ob)) (.int .i64 (s : Int)) v1).run Tryz.prog w2 = .ok () w3 ∧ w3.ownsMap Tryz.prog 3 held ob (x.soiled.length + 1) ((secMap x.soiled).put (.int .i64 (s : Int)) (.held v1)) ∧ w2.grownBy w3 (some ob) := fun w2 v1 hb =>
      (map_keep HH.out.map (hb.block ob HH.out.map.lt)).update lawI Tryz.underlying76 (by have := HH.out.ok.count; unfold maxLen; omega) (keyI s (by omega)) rfl
    have hcut := was_cut HH.out.ok (s := s) hd (F := F) (T := T) (by rw [HS.out]; exact HF.out) (by rw [HS.out]; exact HT.out)
    have hR0 := HH.out.row
    rw [HN.out] at hR0
    have hR := Row.own hR0
    clear hR0
    have HD := Lib.hid hd
    clear hd
    by_cases hFc : c = F
    · subst hFc
      have hT0 : T = c := by have := HT.out; omega
      have hcut0 : bvs ((x.was.drop (64 * s)).take 64) = [] := by rw [← hcut, hT0, Nat.sub_self, List.take_zero]; rfl
      have CL : Calls Tryz.prog 63 #[.slice A 0 0] w.drew fun e w' => ∃ v, e = .returned v ∧ w'.ownsRow w.heap.size 5 1 v (T - c) (bvs ((x.was.drop (64 * s)).take 64)) ∧ Below w.heap.size w w' := by
        rw [hcut0, hT0, Nat.sub_self]
        refine (clone_any (w := w.drew) (B := 0) (A := A) (n := 0) (bs := []) 0 ⟨rfl, fun h => absurd h (by omega)⟩ (by omega) (fun _ => rfl)).mono ?_
        rintro e w' ⟨v, h1, h2, h3⟩
        exact ⟨v, h1, h2, h3.os, h3.tape, h3.output, h3.size, h3.block⟩
      clear hcut hcut0 hR hT0
      go_region_with (go_at_call 63; refine CL.mono ?_; rintro e w2 ⟨v1, rfl, r1, b1⟩; have c22 : w2.cell? ⟨g, 2, none⟩ = some (.map (some ob)) := (World.cell?_of_block (b1.block g hgl)).trans c2; obtain ⟨w3, hmu, m3, g3⟩ := HM w2 v1 b1; have R1 := Lib.hid r1; have B1 := Lib.hid b1; have M3 := Lib.hid m3; have G3 := Lib.hid g3; clear r1 b1 m3 g3)
      all_goals
        go_wp2_with fail
        go_end0
        exact soil_end HH.out ht HD.out hs (by have := HT.out; omega) R1.out B1.out M3.out G3.out
    · have CL : Calls Tryz.prog 63 #[.slice (Option.map (fun x => x.add F) A) (T - F) (c - F)] w.drew fun e w' => ∃ v, e = .returned v ∧ w'.ownsRow w.heap.size 5 1 v (T - F) (bvs ((x.was.drop (64 * s)).take 64)) ∧ Below w.heap.size w w' := by
        have hA : A ≠ none := by
          rintro rfl
          have := HH.out.row.2
          rcases this with ⟨e, _⟩ | ⟨g, cap, cur, e, _⟩
          · injection e with _ _ e; omega
          · injection e with e; cases e
        rw [← hcut]
        have hR' : Row w.drew w.heap.size (Option.map (fun x => x.add F) A) (T - F) (bvs ((x.now.drop F).take (T - F))) := by
          rcases Nat.lt_or_ge F T with hlt | hge
          · have := Row.cut hR hlt hTn
            rw [bvs_drop, bvs_take] at this
            exact this
          · have e0 : T - F = 0 := by omega
            rw [e0, List.take_zero]
            exact ⟨rfl, fun h => absurd h (by omega)⟩
        refine (clone_any (w := w.drew) (c - F) hR' (by omega) (fun h => absurd (Option.map_eq_none_iff.1 h) hA)).mono ?_
        rintro e w' ⟨v, h1, h2, h3⟩
        exact ⟨v, h1, h2, h3.os, h3.tape, h3.output, h3.size, h3.block⟩
      clear hcut hR
      go_region_with (go_at_call 63; refine CL.mono ?_; rintro e w2 ⟨v1, rfl, r1, b1⟩; have c22 : w2.cell? ⟨g, 2, none⟩ = some (.map (some ob)) := (World.cell?_of_block (b1.block g hgl)).trans c2; obtain ⟨w3, hmu, m3, g3⟩ := HM w2 v1 b1; have R1 := Lib.hid r1; have B1 := Lib.hid b1; have M3 := Lib.hid m3; have G3 := Lib.hid g3; clear r1 b1 m3 g3)
      all_goals
        go_wp2_with fail
        go_end0
        exact soil_end HH.out ht HD.out hs (by have := HT.out; omega) R1.out B1.out M3.out G3.out
  · rw [hd] at lk
    have HR : Hid (x.soil s u0 = x) := if_pos hd
    have HH := Lib.hid h
    clear h hd
    go_enter Tryz.func98, Tryz.ntmps98
    go_wp2_with fail
    (try simp only [Exit.inBlock, Exit.then]); refine bodyPost_ret (results_none rfl _ _ _) rfl ?_
    exact ⟨own, u0, rfl, by rw [HR.out]; exact HH.out, StepP.refl _ _ _ ht⟩
end Go.Proofs.YtcmlchicpmnhdaaGreatDoor.Disk
