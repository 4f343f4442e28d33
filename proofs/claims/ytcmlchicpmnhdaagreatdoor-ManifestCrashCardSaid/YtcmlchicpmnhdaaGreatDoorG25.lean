/-
  Texts one behind the other: DiskPut.
-/
import Derived.Test.YtcmlchicpmnhdaaGreatDoorG09
import Derived.Test.YtcmlchicpmnhdaaGreatDoorG23
import Derived.Test.YtcmlchicpmnhdaaGreatDoorG24
/-
  Proved: what Write, Sync and SyncDir of package disk do to a disk.
-/
namespace Go.Proofs.YtcmlchicpmnhdaaGreatDoor.Disk
open Go.RowKit Go.Maps
set_option linter.unusedVariables false
set_option linter.unusedSimpArgs false

/-- What a changing call leaves. -/
def DoneR (own : Own) (w : World) (f K : Nat) (R : Int → Dk → Prop) (e : Ending) (w' : World) : Prop := ∃ own' n d', R n d' ∧ e = .returned (.int .i64 n) ∧ DiskAt own' w' f d' K ∧ Step own own' f w w'
theorem DoneR.begun {own : Own} {w w' : World} {f K nb sb : Nat} {R : Int → Dk → Prop} {e : Ending} {n : Int} {d : Dk} {wv : Value} (H : DiskIn own w f d K nb sb wv) (hr : R n d.begin) (he : e = .returned (.int .i64 n))
    (h : DiskIn own w' f d.begin (K + 1) nb sb wv) (hg : w.grownBy w' (some f)) : DoneR own w f (K + 1) R e w' := ⟨own, n, _, hr, he, ⟨nb, sb, wv, h⟩, Step.of_grown H.top H.of hg⟩
/-- .. behind something that only lays new blocks. -/
theorem DoneR.begun' {own : Own} {w w' w2 : World} {f K nb sb : Nat} {R : Int → Dk → Prop} {e : Ending} {n : Int} {d : Dk} {wv : Value} (H : DiskIn own w f d K nb sb wv) (hr : R n d.begin) (he : e = .returned (.int .i64 n))
    (h : DiskIn own w' f d.begin (K + 1) nb sb wv) (hg : w.grownBy w' (some f)) (hb : Below w'.heap.size w' w2) : DoneR own w f (K + 1) R e w2 :=
  ⟨own, n, _, hr, he, DiskAt.below ⟨nb, sb, wv, h⟩ hb, (Step.of_grown H.top H.of hg).trans (Step.of_below h.top hb)⟩
/-- One file has turned. -/
theorem DiskIn.fileStep {own own' : Own} {w w' : World} {f K nb sb g : Nat} {d : Dk} {wv : Value} {x : Fl} (h : DiskIn own w f d K nb sb wv) (hg : g ≠ f) (hs : StepP own own' (f, g) w w') (hx : FileAt own' w' f g x) : DiskIn own' w' f (d.withFile g x) K nb sb wv := by
  have hk : ∀ b, b < w.heap.size → ∀ g', g' ≠ g → own b = some (f, g') → w'.heap[b]? = w.heap[b]? := fun b hb g' hne ho => hs.block b hb (by rw [ho]; intro e; injection e with e; injection e with _ e; exact hne e)
  obtain ⟨ok, top, blk, of, on, os, ne, mapN, mapS, row, orow, files⟩ := h
  refine ⟨⟨ok.big, ok.room, ok.N, ok.S, ok.names, ok.calls, ok.reads, ok.others⟩, hs.top, (hk f (blk_lt' blk) f hg.symm of).trans blk, (hs.same f (blk_lt' blk)).trans of, (hs.same nb mapN.lt).trans on, (hs.same sb mapS.lt).trans os, ne,
    map_keep mapN (hk nb mapN.lt f hg.symm on), map_keep mapS (hk sb mapS.lt f hg.symm os), row_keep row fun b hb => hk b (row_lt row b hb) f hg.symm (orow b hb), fun b hb => (hs.same b (row_lt row b hb)).trans (orow b hb), ?_⟩
  intro g' hr
  obtain ⟨h1, v, ob, hf⟩ := files g' hr
  by_cases e : g' = g
  · subst e
    have e : (d.withFile g' x).fl g' = x := if_pos rfl
    rw [e]
    exact ⟨h1, hx⟩
  · have e1 : (d.withFile g x).fl g' = d.fl g' := if_neg e
    rw [e1]
    exact ⟨h1, v, ob, hf.keep hs.size hs.same fun b hb hp => hk b hb g' e hp⟩
def Dk.Writes (d : Dk) (s : ByteArray) (a : Int) (bs : List UInt8) (n : Int) (d' : Dk) : Prop :=
  if d.err ≠ 0 then n = 3 ∧ d' = d.begin
  else match dget s.data.toList d.N with
    | none => n = 1 ∧ d' = d.begin
    | some g =>
      if a < 0 ∨ ((d.fl g).now.length : Int) < a then n = 6 ∧ d' = d.begin
      else if ((d.fl g).now.length : Int) < a + bs.length ∧ d.room < (total (fun g => (d.fl g).now.length) d.N : Int) + (a + bs.length - ((d.fl g).now.length : Int)) then n = 2 ∧ d' = d.begin
      else n = 0 ∧ ∃ L, (∀ t, shas t L = (shas t (d.fl g).soiled || touches a.toNat bs.length t)) ∧ d' = d.begin.withFile g ⟨putAt (d.fl g).now a.toNat bs, (d.fl g).was, L⟩
theorem total_ge {φ : Nat → Nat} {n : Nm} {g : Nat} : ∀ {N : Dir}, (n, g) ∈ N → φ g ≤ total φ N
  | [], h => by cases h
  | p :: r, h => by
    have e : total φ (p :: r) = φ p.2 + total φ r := by simp [total]
    rcases List.mem_cons.1 h with h | h
    · rw [e, ← h]; show φ g ≤ φ g + _; omega
    · have := total_ge (φ := φ) h
      rw [e]; omega
theorem DiskIn.drew {own : Own} {w : World} {f K nb sb : Nat} {d : Dk} {wv : Value} (h : DiskIn own w f d K nb sb wv) : DiskIn own w.drew f d K nb sb wv := h.keep (Nat.le_refl _) (fun _ _ => rfl) h.top (fun _ _ _ _ => rfl)
theorem Below.drew1 (w : World) : Below w.heap.size w w.drew := ⟨rfl, rfl, rfl, Nat.le_refl _, fun _ _ => rfl⟩
theorem used_at {own : Own} {w : World} {f K nb sb T : Nat} {d : Dk} {wv : Value} (h : DiskIn own w f d K nb sb wv) (h1 : total (fun g => (d.fl g).now.length) d.N = T) :
    Calls Tryz.prog 82 #[.pointer (some ⟨f, 0, none⟩)] w.drew fun e w' => e = .returned (.int .i64 (T : Int)) ∧ Below w.heap.size w w' := by
  refine (used_any h.drew).mono ?_
  rintro e w' ⟨rfl, hb⟩
  exact ⟨by rw [h1], hb.os, hb.tape, hb.output, hb.size, hb.block⟩
theorem write_tail {own : Own} {w w1 w2 : World} {f g K nb sb : Nat} {d : Dk} {wv v0 : Value} {ob0 an : Nat} (HH : DiskIn own w f d K nb sb wv) (h1 : DiskIn own w1 f d.begin (K + 1) nb sb wv) (hf : FileIn own w1 f g (d.fl g) v0 ob0) (g1 : w.grownBy w1 (some f)) (b2 : Below w1.heap.size w1 w2)
    (ha : an ≤ (d.fl g).now.length) {B : Nat} {A : Option Addr} {m c : Nat} {bs : List UInt8} (hR : Row w B A m (bvs bs)) (hB : B ≤ w.heap.size) (hA : 0 < m → ∀ ad, A = some ad → ∀ g, own ad.block ≠ some (f, g)) (hc : m ≤ c) (hcm : c ≤ maxLen) (hm : an + m ≤ 4194304) :
    Calls Tryz.prog 83 #[.pointer (some ⟨g, 0, none⟩), .int .i64 (an : Int), .slice A m c] w2 fun e w' => ∃ own' L, e = .returned undef ∧ (∀ t, shas t L = (shas t (d.fl g).soiled || touches an bs.length t)) ∧
      (g ≠ f → DiskAt own' w' f (d.begin.withFile g ⟨putAt (d.fl g).now an bs, (d.fl g).was, L⟩) (K + 1)) ∧ Step own own' f w w' := by
  have h2 : DiskIn own w2 f d.begin (K + 1) nb sb wv := h1.keep b2.size (fun _ _ => rfl) (fun b p hp => Nat.lt_of_lt_of_le (h1.top b p hp) b2.size) (fun b hb _ _ => b2.block b hb)
  have hf2 : FileIn own w2 f g (d.fl g) v0 ob0 := hf.keep b2.size (fun _ _ => rfl) (fun b hb _ => b2.block b hb)
  have hs1 := g1.size
  have hs2 := b2.size
  have hR2 : Row w2 B A m (bvs bs) := by
    refine ⟨hR.1, fun hn => ?_⟩
    obtain ⟨b, o, e, hb, hcell⟩ := hR.2 hn
    refine ⟨b, o, e, hb, fun i u hu => (World.cell?_of_block ((b2.block b (by omega)).trans (g1.block b (by omega) ?_))).trans (hcell i u hu)⟩
    intro e'
    have e2 : b = f := Option.some.inj e'
    subst e2
    exact hA hn _ e _ HH.of
  refine (fwrite_any hf2 h2.top an ha hR2 (by omega) (fun hm0 ad had => hA hm0 ad had g) hc hcm hm).mono ?_
  rintro e w' ⟨own', v', L, he, h3, h4, h5⟩
  exact ⟨own', L, he, h4, fun hgf => ⟨nb, sb, wv, h2.fileStep hgf h5 ⟨v', ob0, h3⟩⟩, (Step.of_grown HH.top HH.of g1).trans ((Step.of_below h1.top b2).trans h5.step)⟩
set_option maxRecDepth 100000 in
set_option maxHeartbeats 1000000 in
theorem write_any {own : Own} {w : World} {f K : Nat} {d : Dk} (s : ByteArray) (a : Int) (h : DiskAt own w f d K) (hs : s.size ≤ maxLen) (hK : K + 1 ≤ 1073741824) (ha1 : -9223372036854775808 ≤ a) (ha2 : a ≤ 9223372036854775807)
    {B : Nat} {A : Option Addr} {m c : Nat} {bs : List UInt8} (hR : Row w B A m (bvs bs)) (hB : B ≤ w.heap.size) (hA : 0 < m → ∀ ad, A = some ad → ∀ g, own ad.block ≠ some (f, g)) (hc : m ≤ c) (hcm : c ≤ maxLen) (hm : m ≤ 1099511627776) :
    Calls Tryz.prog 56 #[.pointer (some ⟨f, 0, none⟩), .string s, .int .i64 a, .slice A m c] w (DoneR own w f (K + 1) (d.Writes s a bs)) := by
  obtain ⟨nb, sb, wv, h⟩ := h
  have CB := begin_any h hK
  have hcb : c ≤ 9223372036854775807 := by unfold maxLen at hcm; omega
  rcases d.err_cases with he | he
  · rw [he] at CB
    have HE := Lib.hid he
    have HH := Lib.hid h
    have HR := Lib.hid hR
    have HA := Lib.hid hA
    have HCM := Lib.hid hcm
    have HL := Lib.hid hR.size
    clear h he hR hA hcm
    cases hx : dget s.data.toList d.N with
    | none =>
      have HR : Hid (d.Writes s a bs 1 d.begin) := by show d.Writes s a bs 1 d.begin; rw [Dk.Writes, if_neg (by rw [HE.out]; simp), hx]; exact ⟨rfl, rfl⟩
      have hx' : dget s.data.toList d.begin.N = none := by rw [d.begin_N.1]; exact hx
      go_enter Tryz.func56, Tryz.ntmps56
      go_wp2_with (go_at_call 77; refine CB.mono ?_; rintro e w1 ⟨rfl, h1, g1⟩; have b1 : w1.cell? ⟨f, 1, none⟩ = some (.map (some nb)) := (Blk.cell h1.blk 1); have lk := dir_look_none h1.mapN hs hx'; have H1 := Lib.hid h1; clear h1)
      go_ret
      exact DoneR.begun HH.out HR.out rfl H1.out g1
    | some g =>
      have hx' : dget s.data.toList d.begin.N = some g := by rw [d.begin_N.1]; exact hx
      have hgr : d.refs g := .inl (List.mem_map.2 ⟨_, dget_mem hx, rfl⟩)
      have HW : Hid (∀ n d', (if a < 0 ∨ ((d.fl g).now.length : Int) < a then n = 6 ∧ d' = d.begin
        else if ((d.fl g).now.length : Int) < a + bs.length ∧ d.room < (total (fun g => (d.fl g).now.length) d.N : Int) + (a + bs.length - ((d.fl g).now.length : Int)) then n = 2 ∧ d' = d.begin
        else n = 0 ∧ ∃ L, (∀ t, shas t L = (shas t (d.fl g).soiled || touches a.toNat bs.length t)) ∧ d' = d.begin.withFile g ⟨putAt (d.fl g).now a.toNat bs, (d.fl g).was, L⟩) → d.Writes s a bs n d') := by
        show ∀ _ _, _
        intro n d' h
        rw [Dk.Writes, if_neg (by rw [HE.out]; simp), hx]
        exact h
      have hgr' : d.begin.refs g := by
        have e := d.begin_N
        unfold Dk.refs at hgr ⊢
        rw [e.1, e.2.1, e.2.2.1]
        exact hgr
      have hmx : (d.fl g).now.length ≤ 4194304 := by
        obtain ⟨_, v0, ob0, hf⟩ := HH.out.files g hgr
        exact hf.ok.max
      have hUN : total (fun g => (d.begin.fl g).now.length) d.begin.N = total (fun g => (d.fl g).now.length) d.N := by rw [d.begin_N.1, d.begin_N.2.2.2.1]
      have hfl : d.begin.fl g = d.fl g := by rw [d.begin_N.2.2.2.1]
      have hrm : d.begin.room = d.room := d.begin_N.2.2.2.2
      have hge : (d.fl g).now.length ≤ total (fun g => (d.fl g).now.length) d.N := total_ge (φ := fun g => (d.fl g).now.length) (dget_mem hx)
      have hTb : total (fun g => (d.fl g).now.length) d.N ≤ 4503599627370496 := by
        have h1 : total (fun g => (d.fl g).now.length) d.N ≤ d.N.length * 4194304 := by
          rw [← part_none (fun g => (d.fl g).now.length) (fun _ => false) (fun _ => rfl)]
          refine part_le _ _ _ _ fun p hp => ?_
          obtain ⟨_, v0, ob0, hf⟩ := HH.out.files p.2 (.inl (List.mem_map.2 ⟨p, hp, rfl⟩))
          exact hf.ok.max
        have h2 := HH.out.ok.N
        have h3 := HH.out.ok.big
        omega
      have hroom := HH.out.ok.room
      have HUN := Lib.hid hUN
      clear hUN
      generalize hTT : total (fun g => (d.fl g).now.length) d.N = T at *
      have HTT := Lib.hid hTT
      clear hTT hgr
      have hrange : (a < 0 ∨ ((d.fl g).now.length : Int) < a) ∨ ∃ an : Nat, a = (an : Int) ∧ an ≤ (d.fl g).now.length := by
        by_cases h1 : a < 0 ∨ ((d.fl g).now.length : Int) < a
        · exact .inl h1
        · exact .inr ⟨a.toNat, by omega, by omega⟩
      rcases hrange with hbad | ⟨an, rfl, han⟩
      · have HR2 : Hid (d.Writes s a bs 6 d.begin) := HW.out _ _ (by rw [if_pos hbad]; exact ⟨rfl, rfl⟩)
        rcases hbad with hneg | hbig
        · go_enter Tryz.func56, Tryz.ntmps56
          go_wp2_with (go_at_call 77; refine CB.mono ?_; rintro e w1 ⟨rfl, h1, g1⟩; have b1 : w1.cell? ⟨f, 1, none⟩ = some (.map (some nb)) := (Blk.cell h1.blk 1); have b0 : w1.cell? ⟨f, 0, none⟩ = some (.int .i64 d.room) := (Blk.cell h1.blk 0).trans (by rw [← hrm]; rfl); have lk := dir_look_some h1.mapN hs hx'; obtain ⟨hgf, v0, ob0, hf1⟩ := h1.files g hgr'; rw [hfl] at hf1; obtain ⟨A0, c0, rfl, _, _⟩ := own_form hf1.row; have cg : w1.cell? ⟨g, 0, none⟩ = some (.slice A0 (d.fl g).now.length c0) := Blk.cell hf1.blk 0; have H1 := Lib.hid h1; have HF1 := Lib.hid hf1; clear h1 hf1)
          go_ret
          exact DoneR.begun HH.out HR2.out rfl H1.out g1
        · have hnn : 0 ≤ a := by omega
          go_enter Tryz.func56, Tryz.ntmps56
          go_wp2_with (go_at_call 77; refine CB.mono ?_; rintro e w1 ⟨rfl, h1, g1⟩; have b1 : w1.cell? ⟨f, 1, none⟩ = some (.map (some nb)) := (Blk.cell h1.blk 1); have b0 : w1.cell? ⟨f, 0, none⟩ = some (.int .i64 d.room) := (Blk.cell h1.blk 0).trans (by rw [← hrm]; rfl); have lk := dir_look_some h1.mapN hs hx'; obtain ⟨hgf, v0, ob0, hf1⟩ := h1.files g hgr'; rw [hfl] at hf1; obtain ⟨A0, c0, rfl, _, _⟩ := own_form hf1.row; have cg : w1.cell? ⟨g, 0, none⟩ = some (.slice A0 (d.fl g).now.length c0) := Blk.cell hf1.blk 0; have H1 := Lib.hid h1; have HF1 := Lib.hid hf1; clear h1 hf1)
          go_ret
          exact DoneR.begun HH.out HR2.out rfl H1.out g1
      · have hnb : ¬ ((an : Int) < 0 ∨ ((d.fl g).now.length : Int) < (an : Int)) := by omega
        have hL := HL.out
        by_cases hmore : (d.fl g).now.length < an + m
        · have hg1 : decide ((0 : Int) < (an : Int) + (m : Int) - ((d.fl g).now.length : Int)) = true := decide_eq_true (by omega)
          have hwr : IntKind.i64.wrap ((T : Int) + ((an : Int) + (m : Int) - ((d.fl g).now.length : Int))) = (T : Int) + ((an : Int) + (m : Int) - ((d.fl g).now.length : Int)) := by rw [IntKind.wrap_i64]; omega
          by_cases hfull : d.room < (T : Int) + ((an : Int) + (m : Int) - ((d.fl g).now.length : Int))
          · have HR2 : Hid (d.Writes s an bs 2 d.begin) := HW.out _ _ (by rw [if_neg hnb, if_pos ⟨by rw [hL]; omega, by rw [hL]; exact hfull⟩]; exact ⟨rfl, rfl⟩)
            go_enter Tryz.func56, Tryz.ntmps56
            go_wp2_with (go_at_call 77; refine CB.mono ?_; rintro e w1 ⟨rfl, h1, g1⟩; have b1 : w1.cell? ⟨f, 1, none⟩ = some (.map (some nb)) := (Blk.cell h1.blk 1); have b0 : w1.cell? ⟨f, 0, none⟩ = some (.int .i64 d.room) := (Blk.cell h1.blk 0).trans (by rw [← hrm]; rfl); have lk := dir_look_some h1.mapN hs hx'; obtain ⟨hgf, v0, ob0, hf1⟩ := h1.files g hgr'; rw [hfl] at hf1; obtain ⟨A0, c0, rfl, _, _⟩ := own_form hf1.row; have cg : w1.cell? ⟨g, 0, none⟩ = some (.slice A0 (d.fl g).now.length c0) := Blk.cell hf1.blk 0; have H1 := Lib.hid h1; have HF1 := Lib.hid hf1; clear h1 hf1)
            refine wp_region_noPanic ?_
            refine wp_region_held_drew (S := (fun W => Hid (Below w1.heap.size w1 W))) (by kernel_rfl) (show Hid (Below w1.heap.size w1 w1.drew) from Below.drew1 w1) (fun h9 => ?_)
            refine held_take 0 (v := ?_) (d := (some 44)) rfl rfl (by kernel_rfl) (by kernel_rfl) (by kernel_rfl) (fun _ _ _ h => h) (Or.inl ⟨by rfl, ?_⟩) h9 ?_
            rotate_left
            · intro _ _; go_simp; (try with_reducible rfl)
            try simp only [Act.put, List.setIfInBounds_toArray, List.set_cons_zero, List.set_cons_succ]
            refine held_take 1 (v := .bool true) (d := (some 45)) rfl rfl (by kernel_rfl) (by kernel_rfl) (by kernel_rfl) (fun _ _ _ h => h) (Or.inl ⟨by rfl, ?_⟩) h9 ?_
            · intro _ _; go_simp; first | done | omega
            try simp only [Act.put, List.setIfInBounds_toArray, List.set_cons_zero, List.set_cons_succ]
            refine held_take 2 (v := ?_) (d := (some 46)) rfl rfl (by kernel_rfl) (by kernel_rfl) (by kernel_rfl) (fun _ _ _ h => h) (Or.inl ⟨by rfl, ?_⟩) h9 ?_
            rotate_left
            · intro _ _; go_simp; (try with_reducible rfl)
            try simp only [Act.put, List.setIfInBounds_toArray, List.set_cons_zero, List.set_cons_succ]
            refine held_take 3 (v := ?_) (d := (some 47)) rfl rfl (by kernel_rfl) (by kernel_rfl) (by kernel_rfl) (fun _ _ _ h => h) (Or.inl ⟨by rfl, ?_⟩) h9 ?_
            rotate_left
            · intro _ _; go_simp; (try with_reducible rfl)
            try simp only [Act.put, List.setIfInBounds_toArray, List.set_cons_zero, List.set_cons_succ]
            refine held_take 5 (v := ?_) (d := (some 49)) rfl rfl (by kernel_rfl) (by kernel_rfl) (by kernel_rfl) (fun _ _ _ h => h) (Or.inl ⟨by rfl, ?_⟩) h9 ?_
            rotate_left
            · intro _ _; go_simp; (try with_reducible rfl)
            try simp only [Act.put, List.setIfInBounds_toArray, List.set_cons_zero, List.set_cons_succ]
            refine held_take 7 (v := ?_) (d := (some 51)) rfl rfl (by kernel_rfl) (by kernel_rfl) (by kernel_rfl) (fun _ _ _ h => h) (Or.inl ⟨by rfl, ?_⟩) h9 ?_
            rotate_left
            · intro _ _; go_simp; (try with_reducible rfl)
            try simp only [Act.put, List.setIfInBounds_toArray, List.set_cons_zero, List.set_cons_succ]
            refine held_take 8 (v := ?_) (d := (some 52)) rfl rfl (by kernel_rfl) (by kernel_rfl) (by kernel_rfl) (fun _ _ _ h => h) (Or.inl ⟨by rfl, ?_⟩) h9 ?_
            rotate_left
            · intro _ _; go_simp; (try with_reducible rfl)
            try simp only [Act.put, List.setIfInBounds_toArray, List.set_cons_zero, List.set_cons_succ]
            refine held_take 9 (v := ?_) (d := (some 53)) rfl rfl (by kernel_rfl) (by kernel_rfl) (by kernel_rfl) (fun _ _ _ h => h) (Or.inl ⟨by rfl, ?_⟩) h9 ?_
            rotate_left
            · intro _ _; go_simp; (try with_reducible rfl)
            try simp only [Act.put, List.setIfInBounds_toArray, List.set_cons_zero, List.set_cons_succ]
            refine held_take 10 (v := ?_) (d := (some 54)) rfl rfl (by kernel_rfl) (by kernel_rfl) (by kernel_rfl) (fun _ _ _ h => h) (Or.inl ⟨by rfl, ?_⟩) h9 ?_
            rotate_left
            · intro W hW; have b0W := (World.cell?_of_block (hW.out.block f (blk_lt' H1.out.blk))).trans b0; go_simp; (try with_reducible rfl)
            try simp only [Act.put, List.setIfInBounds_toArray, List.set_cons_zero, List.set_cons_succ]
            refine wpAnyH_ready (rs := [4]) (by kernel_rfl) (by simp) (AllReadyH.cons rfl (fun K hK => ?_) AllReadyH.nil)
            go_simp
            have US := used_at H1.out HUN.out
            with_reducible refine US.mono ?_
            clear US
            rintro e w2 ⟨rfl, b2⟩
            have B2 := Lib.hid b2
            clear b2
            refine hK.out _ _ (B2) (fun h10 => ?_)
            clear hK K
            try simp only [Act.put, List.setIfInBounds_toArray, List.set_cons_zero, List.set_cons_succ]
            refine held_take 6 (v := ?_) (d := (some 50)) rfl rfl (by kernel_rfl) (by kernel_rfl) (by kernel_rfl) (fun _ _ _ h => h) (Or.inl ⟨by rfl, ?_⟩) h10 ?_
            rotate_left
            · intro _ _; go_simp; (try with_reducible rfl)
            try simp only [Act.put, List.setIfInBounds_toArray, List.set_cons_zero, List.set_cons_succ]
            refine held_take 11 (v := .bool true) (d := (some 55)) rfl rfl (by kernel_rfl) (by kernel_rfl) (by kernel_rfl) (fun _ _ _ h => h) (Or.inl ⟨by rfl, ?_⟩) h10 ?_
            · intro _ _; go_simp; first | done | omega
            try simp only [Act.put, List.setIfInBounds_toArray, List.set_cons_zero, List.set_cons_succ]
            refine held_take 12 (v := .bool true) (d := (some 56)) rfl rfl (by kernel_rfl) (by kernel_rfl) (by kernel_rfl) (fun _ _ _ h => h) (Or.inl ⟨by rfl, ?_⟩) h10 ?_
            · intro _ _; go_simp; first | done | omega
            try simp only [Act.put, List.setIfInBounds_toArray, List.set_cons_zero, List.set_cons_succ]
            refine wpAnyH_done (by kernel_rfl) ?_ _
            refine NoPanic.normal ?_
            go_wp2_with fail
            go_ret
            exact DoneR.begun' HH.out HR2.out rfl H1.out g1 B2.out
          · have hfit : an + m ≤ 4194304 := by omega
            have HR2 : Hid (∀ d' L, (∀ t, shas t L = (shas t (d.fl g).soiled || touches an bs.length t)) → d' = d.begin.withFile g ⟨putAt (d.fl g).now an bs, (d.fl g).was, L⟩ → d.Writes s an bs 0 d') := fun d' L h1 h2 =>
              HW.out _ _ (by rw [if_neg hnb, if_neg (by rw [hL]; omega)]; exact ⟨rfl, L, h1, h2⟩)
            go_enter Tryz.func56, Tryz.ntmps56
            go_wp2_with (go_at_call 77; refine CB.mono ?_; rintro e w1 ⟨rfl, h1, g1⟩; have b1 : w1.cell? ⟨f, 1, none⟩ = some (.map (some nb)) := (Blk.cell h1.blk 1); have b0 : w1.cell? ⟨f, 0, none⟩ = some (.int .i64 d.room) := (Blk.cell h1.blk 0).trans (by rw [← hrm]; rfl); have lk := dir_look_some h1.mapN hs hx'; obtain ⟨hgf, v0, ob0, hf1⟩ := h1.files g hgr'; rw [hfl] at hf1; obtain ⟨A0, c0, rfl, _, _⟩ := own_form hf1.row; have cg : w1.cell? ⟨g, 0, none⟩ = some (.slice A0 (d.fl g).now.length c0) := Blk.cell hf1.blk 0; have H1 := Lib.hid h1; have HF1 := Lib.hid hf1; clear h1 hf1)
            refine wp_region_noPanic ?_
            refine wp_region_held_drew (S := (fun W => Hid (Below w1.heap.size w1 W))) (by kernel_rfl) (show Hid (Below w1.heap.size w1 w1.drew) from Below.drew1 w1) (fun h9 => ?_)
            refine held_take 0 (v := ?_) (d := (some 44)) rfl rfl (by kernel_rfl) (by kernel_rfl) (by kernel_rfl) (fun _ _ _ h => h) (Or.inl ⟨by rfl, ?_⟩) h9 ?_
            rotate_left
            · intro _ _; go_simp; (try with_reducible rfl)
            try simp only [Act.put, List.setIfInBounds_toArray, List.set_cons_zero, List.set_cons_succ]
            refine held_take 1 (v := .bool true) (d := (some 45)) rfl rfl (by kernel_rfl) (by kernel_rfl) (by kernel_rfl) (fun _ _ _ h => h) (Or.inl ⟨by rfl, ?_⟩) h9 ?_
            · intro _ _; go_simp; first | done | omega
            try simp only [Act.put, List.setIfInBounds_toArray, List.set_cons_zero, List.set_cons_succ]
            refine held_take 2 (v := ?_) (d := (some 46)) rfl rfl (by kernel_rfl) (by kernel_rfl) (by kernel_rfl) (fun _ _ _ h => h) (Or.inl ⟨by rfl, ?_⟩) h9 ?_
            rotate_left
            · intro _ _; go_simp; (try with_reducible rfl)
            try simp only [Act.put, List.setIfInBounds_toArray, List.set_cons_zero, List.set_cons_succ]
            refine held_take 3 (v := ?_) (d := (some 47)) rfl rfl (by kernel_rfl) (by kernel_rfl) (by kernel_rfl) (fun _ _ _ h => h) (Or.inl ⟨by rfl, ?_⟩) h9 ?_
            rotate_left
            · intro _ _; go_simp; (try with_reducible rfl)
            try simp only [Act.put, List.setIfInBounds_toArray, List.set_cons_zero, List.set_cons_succ]
            refine held_take 5 (v := ?_) (d := (some 49)) rfl rfl (by kernel_rfl) (by kernel_rfl) (by kernel_rfl) (fun _ _ _ h => h) (Or.inl ⟨by rfl, ?_⟩) h9 ?_
            rotate_left
            · intro _ _; go_simp; (try with_reducible rfl)
            try simp only [Act.put, List.setIfInBounds_toArray, List.set_cons_zero, List.set_cons_succ]
            refine held_take 7 (v := ?_) (d := (some 51)) rfl rfl (by kernel_rfl) (by kernel_rfl) (by kernel_rfl) (fun _ _ _ h => h) (Or.inl ⟨by rfl, ?_⟩) h9 ?_
            rotate_left
            · intro _ _; go_simp; (try with_reducible rfl)
            try simp only [Act.put, List.setIfInBounds_toArray, List.set_cons_zero, List.set_cons_succ]
            refine held_take 8 (v := ?_) (d := (some 52)) rfl rfl (by kernel_rfl) (by kernel_rfl) (by kernel_rfl) (fun _ _ _ h => h) (Or.inl ⟨by rfl, ?_⟩) h9 ?_
            rotate_left
            · intro _ _; go_simp; (try with_reducible rfl)
            try simp only [Act.put, List.setIfInBounds_toArray, List.set_cons_zero, List.set_cons_succ]
            refine held_take 9 (v := ?_) (d := (some 53)) rfl rfl (by kernel_rfl) (by kernel_rfl) (by kernel_rfl) (fun _ _ _ h => h) (Or.inl ⟨by rfl, ?_⟩) h9 ?_
            rotate_left
            · intro _ _; go_simp; (try with_reducible rfl)
            try simp only [Act.put, List.setIfInBounds_toArray, List.set_cons_zero, List.set_cons_succ]
            refine held_take 10 (v := ?_) (d := (some 54)) rfl rfl (by kernel_rfl) (by kernel_rfl) (by kernel_rfl) (fun _ _ _ h => h) (Or.inl ⟨by rfl, ?_⟩) h9 ?_
            rotate_left
            · intro W hW; have b0W := (World.cell?_of_block (hW.out.block f (blk_lt' H1.out.blk))).trans b0; go_simp; (try with_reducible rfl)
            try simp only [Act.put, List.setIfInBounds_toArray, List.set_cons_zero, List.set_cons_succ]
            refine wpAnyH_ready (rs := [4]) (by kernel_rfl) (by simp) (AllReadyH.cons rfl (fun K hK => ?_) AllReadyH.nil)
            go_simp
            have US := used_at H1.out HUN.out
            with_reducible refine US.mono ?_
            clear US
            rintro e w2 ⟨rfl, b2⟩
            have B2 := Lib.hid b2
            clear b2
            refine hK.out _ _ (B2) (fun h10 => ?_)
            clear hK K
            try simp only [Act.put, List.setIfInBounds_toArray, List.set_cons_zero, List.set_cons_succ]
            refine held_take 6 (v := ?_) (d := (some 50)) rfl rfl (by kernel_rfl) (by kernel_rfl) (by kernel_rfl) (fun _ _ _ h => h) (Or.inl ⟨by rfl, ?_⟩) h10 ?_
            rotate_left
            · intro _ _; go_simp; (try with_reducible rfl)
            try simp only [Act.put, List.setIfInBounds_toArray, List.set_cons_zero, List.set_cons_succ]
            refine held_take 11 (v := .bool false) (d := (some 55)) rfl rfl (by kernel_rfl) (by kernel_rfl) (by kernel_rfl) (fun _ _ _ h => h) (Or.inl ⟨by rfl, ?_⟩) h10 ?_
            · intro _ _; go_simp; first | done | omega
            try simp only [Act.put, List.setIfInBounds_toArray, List.set_cons_zero, List.set_cons_succ]
            refine held_take 12 (v := .bool false) (d := (some 56)) rfl rfl (by kernel_rfl) (by kernel_rfl) (by kernel_rfl) (fun _ _ _ h => h) (Or.inl ⟨by rfl, ?_⟩) h10 ?_
            · intro _ _; go_simp; first | done | omega
            try simp only [Act.put, List.setIfInBounds_toArray, List.set_cons_zero, List.set_cons_succ]
            refine wpAnyH_done (by kernel_rfl) ?_ _
            refine NoPanic.normal ?_
            have FW := write_tail HH.out H1.out HF1.out g1 B2.out han HR.out hB HA.out hc HCM.out hfit
            go_wp2_with (go_at_call 83; refine FW.mono ?_; rintro e w3 ⟨own3, L, rfl, hL3, hD3, hS3⟩)
            go_ret
            exact ⟨own3, 0, _, HR2.out _ L hL3 rfl, rfl, hD3 hgf, hS3⟩
        · have hg1 : decide ((0 : Int) < (an : Int) + (m : Int) - ((d.fl g).now.length : Int)) = false := decide_eq_false (by omega)
          have hfit : an + m ≤ 4194304 := by omega
          have HR2 : Hid (∀ d' L, (∀ t, shas t L = (shas t (d.fl g).soiled || touches an bs.length t)) → d' = d.begin.withFile g ⟨putAt (d.fl g).now an bs, (d.fl g).was, L⟩ → d.Writes s an bs 0 d') := fun d' L h1 h2 =>
            HW.out _ _ (by rw [if_neg hnb, if_neg (by rw [hL]; omega)]; exact ⟨rfl, L, h1, h2⟩)
          go_enter Tryz.func56, Tryz.ntmps56
          go_wp2_with (go_at_call 77; refine CB.mono ?_; rintro e w1 ⟨rfl, h1, g1⟩; have b1 : w1.cell? ⟨f, 1, none⟩ = some (.map (some nb)) := (Blk.cell h1.blk 1); have b0 : w1.cell? ⟨f, 0, none⟩ = some (.int .i64 d.room) := (Blk.cell h1.blk 0).trans (by rw [← hrm]; rfl); have lk := dir_look_some h1.mapN hs hx'; obtain ⟨hgf, v0, ob0, hf1⟩ := h1.files g hgr'; rw [hfl] at hf1; obtain ⟨A0, c0, rfl, _, _⟩ := own_form hf1.row; have cg : w1.cell? ⟨g, 0, none⟩ = some (.slice A0 (d.fl g).now.length c0) := Blk.cell hf1.blk 0; have H1 := Lib.hid h1; have HF1 := Lib.hid hf1; clear h1 hf1)
          refine wp_region_noPanic ?_
          refine wp_region_held_drew (S := (fun W => Hid (Below w1.heap.size w1 W))) (by kernel_rfl) (show Hid (Below w1.heap.size w1 w1.drew) from Below.drew1 w1) (fun h9 => ?_)
          refine held_take 0 (v := ?_) (d := (some 44)) rfl rfl (by kernel_rfl) (by kernel_rfl) (by kernel_rfl) (fun _ _ _ h => h) (Or.inl ⟨by rfl, ?_⟩) h9 ?_
          rotate_left
          · intro _ _; go_simp; (try with_reducible rfl)
          try simp only [Act.put, List.setIfInBounds_toArray, List.set_cons_zero, List.set_cons_succ]
          refine held_take 1 (v := .bool false) (d := (some 45)) rfl rfl (by kernel_rfl) (by kernel_rfl) (by kernel_rfl) (fun _ _ _ h => h) (Or.inl ⟨by rfl, ?_⟩) h9 ?_
          · intro _ _; go_simp; first | done | omega
          try simp only [Act.put, List.setIfInBounds_toArray, List.set_cons_zero, List.set_cons_succ]
          refine held_take 2 (v := ?_) (d := (some 46)) rfl rfl (by kernel_rfl) (by kernel_rfl) (by kernel_rfl) (fun _ _ _ h => h) (Or.inl ⟨by rfl, ?_⟩) h9 ?_
          rotate_left
          · intro _ _; go_simp; (try with_reducible rfl)
          try simp only [Act.put, List.setIfInBounds_toArray, List.set_cons_zero, List.set_cons_succ]
          refine held_take 3 (v := undef) (d := (some 47)) rfl rfl (by kernel_rfl) (by kernel_rfl) (by kernel_rfl) (fun _ _ _ h => h) (Or.inr ⟨by rfl, rfl⟩) h9 ?_
          try simp only [Act.put, List.setIfInBounds_toArray, List.set_cons_zero, List.set_cons_succ]
          refine held_take 4 (v := undef) (d := (some 48)) rfl rfl (by kernel_rfl) (by kernel_rfl) (by kernel_rfl) (fun _ _ _ h => h) (Or.inr ⟨by rfl, rfl⟩) h9 ?_
          try simp only [Act.put, List.setIfInBounds_toArray, List.set_cons_zero, List.set_cons_succ]
          refine held_take 5 (v := undef) (d := (some 49)) rfl rfl (by kernel_rfl) (by kernel_rfl) (by kernel_rfl) (fun _ _ _ h => h) (Or.inr ⟨by rfl, rfl⟩) h9 ?_
          try simp only [Act.put, List.setIfInBounds_toArray, List.set_cons_zero, List.set_cons_succ]
          refine held_take 6 (v := undef) (d := (some 50)) rfl rfl (by kernel_rfl) (by kernel_rfl) (by kernel_rfl) (fun _ _ _ h => h) (Or.inr ⟨by rfl, rfl⟩) h9 ?_
          try simp only [Act.put, List.setIfInBounds_toArray, List.set_cons_zero, List.set_cons_succ]
          refine held_take 7 (v := undef) (d := (some 51)) rfl rfl (by kernel_rfl) (by kernel_rfl) (by kernel_rfl) (fun _ _ _ h => h) (Or.inr ⟨by rfl, rfl⟩) h9 ?_
          try simp only [Act.put, List.setIfInBounds_toArray, List.set_cons_zero, List.set_cons_succ]
          refine held_take 8 (v := undef) (d := (some 52)) rfl rfl (by kernel_rfl) (by kernel_rfl) (by kernel_rfl) (fun _ _ _ h => h) (Or.inr ⟨by rfl, rfl⟩) h9 ?_
          try simp only [Act.put, List.setIfInBounds_toArray, List.set_cons_zero, List.set_cons_succ]
          refine held_take 9 (v := undef) (d := (some 53)) rfl rfl (by kernel_rfl) (by kernel_rfl) (by kernel_rfl) (fun _ _ _ h => h) (Or.inr ⟨by rfl, rfl⟩) h9 ?_
          try simp only [Act.put, List.setIfInBounds_toArray, List.set_cons_zero, List.set_cons_succ]
          refine held_take 10 (v := undef) (d := (some 54)) rfl rfl (by kernel_rfl) (by kernel_rfl) (by kernel_rfl) (fun _ _ _ h => h) (Or.inr ⟨by rfl, rfl⟩) h9 ?_
          try simp only [Act.put, List.setIfInBounds_toArray, List.set_cons_zero, List.set_cons_succ]
          refine held_take 11 (v := undef) (d := (some 55)) rfl rfl (by kernel_rfl) (by kernel_rfl) (by kernel_rfl) (fun _ _ _ h => h) (Or.inr ⟨by rfl, rfl⟩) h9 ?_
          try simp only [Act.put, List.setIfInBounds_toArray, List.set_cons_zero, List.set_cons_succ]
          refine held_take 12 (v := ?_) (d := (some 56)) rfl rfl (by kernel_rfl) (by kernel_rfl) (by kernel_rfl) (fun _ _ _ h => h) (Or.inl ⟨by rfl, ?_⟩) h9 ?_
          rotate_left
          · intro _ _; go_simp; (try with_reducible rfl)
          try simp only [Act.put, List.setIfInBounds_toArray, List.set_cons_zero, List.set_cons_succ]
          refine wpAnyH_done (by kernel_rfl) ?_ _
          refine NoPanic.normal ?_
          have FW := write_tail HH.out H1.out HF1.out g1 (Below.drew1 w1) han HR.out hB HA.out hc HCM.out hfit
          go_wp2_with (go_at_call 83; refine FW.mono ?_; rintro e w3 ⟨own3, L, rfl, hL3, hD3, hS3⟩)
          go_ret
          exact ⟨own3, 0, _, HR2.out _ L hL3 rfl, rfl, hD3 hgf, hS3⟩
  · rw [he] at CB
    have HR : Hid (d.Writes s a bs 3 d.begin) := by show d.Writes s a bs 3 d.begin; rw [Dk.Writes, if_pos (by rw [he]; simp)]; exact ⟨rfl, rfl⟩
    have HH := Lib.hid h
    clear h he hR hA hcm
    go_enter Tryz.func56, Tryz.ntmps56
    go_wp2_with (go_at_call 77; refine CB.mono ?_; rintro e w1 ⟨rfl, h1, g1⟩)
    go_ret
    exact DoneR.begun HH.out HR.out rfl h1 g1
end Go.Proofs.YtcmlchicpmnhdaaGreatDoor.Disk
