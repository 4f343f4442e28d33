/-
  Texts one behind the other: SegSame, ScanAny.
-/
import Derived.Test.YtkdnfikaodkhnaaDoorG23
import Derived.Test.YtkdnfikaodkhnaaDoorG25
import Derived.Test.YtkdnfikaodkhnaaDoorG27
import Derived.Test.YtkdnfikaodkhnaaDoorG29
/-
  Proved: same of law 8 says true of a segment and of just the records that it tells, where it keeps its face.
-/
namespace Go.Proofs.YtkdnfikaodkhnaaDoor.Seg
open Go.RowKit Go.Proofs.YtkdnfikaodkhnaaDoor.Disk Go.Proofs.YtkdnfikaodkhnaaDoor.Rec
set_option linter.unusedVariables false
set_option linter.unusedSimpArgs false

theorem front_all (bs : List UInt8) : ∀ (f p : Nat), bs.length ≤ p + f → ∀ q ∈ frontFrom p bs, q.1 < bs.length ∧ ∃ n, dec (bs.drop q.1) = .ok q.2 n := by
  intro f
  induction f with
  | zero =>
    intro p h1 q hq
    rcases out_ok (dec (bs.drop p)) with ⟨x, m, hd⟩ | ⟨e, _, _, hno⟩
    · have k1 := (dec_ok hd).1
      have k2 := (dec_ok hd).2.1
      rw [List.length_drop] at k2
      omega
    · rw [frontFrom_no hno] at hq; simp at hq
  | succ f ih =>
    intro p h1 q hq
    rcases out_ok (dec (bs.drop p)) with ⟨x, m, hd⟩ | ⟨e, _, _, hno⟩
    · obtain ⟨k1, k2, _⟩ := dec_ok hd
      rw [List.length_drop] at k2
      rw [frontFrom_ok hd] at hq
      rcases List.mem_cons.1 hq with rfl | hq
      · exact ⟨by show p < _; omega, m, hd⟩
      · exact ih (p + m) (by omega) q hq
    · rw [frontFrom_no hno] at hq; simp at hq
theorem own_mem {id : Nat} {l : List (Nat × Rc)} {q : Nat × Rc} (h : q ∈ ownOf id l) : q ∈ l ∧ q.2.tenant = id := by
  unfold ownOf at h
  induction l with
  | nil => simp at h
  | cons x l ih =>
    rw [List.takeWhile_cons] at h
    split at h
    · rename_i hx
      rcases List.mem_cons.1 h with rfl | h
      · exact ⟨by simp, by simpa using hx⟩
      · exact ⟨List.mem_cons_of_mem _ (ih h).1, (ih h).2⟩
    · simp at h
set_option maxRecDepth 100000 in
set_option maxHeartbeats 8000000 in
theorem same_any {SG : Own → World → World → Sv → Prop} (F : Face SG) {own : Own} {w0 w : World} {v : Sv} {A : Option Addr} {n c : Nat} (hT : Tabs w0) (h : SG own w0 w v) (hn : (ownOf v.id (frontFrom 0 v.x.now)).length = n) (hn2 : n ≤ 1000000)
    (hA : Free own w A (n * 7) (flat (ownOf v.id (frontFrom 0 v.x.now)))) (hnc : n ≤ c) (hc : c ≤ maxLen) (hK : v.K + 8 * (n + 1) + 8 ≤ 1073741824) :
    Calls Tryd.prog 23 #[.pointer (some ⟨v.sg, 0, none⟩), .slice A n c] w fun e w' => e = .returned (.bool true) ∧ ∃ own' K', K' ≤ v.K + 8 * (n + 1) ∧ SG own' w0 w' { v with K := K' } ∧ Fr own own' w w' := by
  have hcm : c ≤ 9223372036854775807 := by unfold maxLen at hc; exact hc
  have HT := Lib.hid hT
  have HF := Lib.hid F
  have hz := zeroRec
  have HA := Lib.hid hA
  have hall : ∀ q ∈ ownOf v.id (frontFrom 0 v.x.now), q.1 < v.x.now.length ∧ (∃ n, dec (v.x.now.drop q.1) = .ok q.2 n) ∧ q.2.tenant = v.id := fun q hq => by
    obtain ⟨h1, h2⟩ := own_mem hq
    obtain ⟨k1, k2⟩ := front_all v.x.now v.x.now.length 0 (by omega) q h1
    exact ⟨k1, k2, h2⟩
  have CR := Lib.hid (F.records hT h (by omega))
  obtain ⟨L, hL⟩ : ∃ L, L = ownOf v.id (frontFrom 0 v.x.now) := ⟨_, rfl⟩
  rw [← hL] at HA CR hall hn
  rw [hn] at CR
  have HALL := Lib.hid hall
  have HN := Lib.hid hn
  clear F hT hA hall h hL hn
  have ep : ptr v.sg = .pointer (some ⟨v.sg, 0, none⟩) := rfl
  rw [ep] at CR
  go_enter Tryd.func23, Tryd.ntmps23
  go_upto_region 4 with (first
    | (go_at_call 14; refine CR.out.mono ?_; rintro e w1 ⟨own1, A1, c1, K1, rfl, hc1, hcm1, hf1, hK1, hs1, hfr1⟩; have HK1 := Lib.hid hK1; have HS1 := Lib.hid hs1; have HFR1 := Lib.hid hfr1.fr; have HA1 := Lib.hid (free_fr HA.out hfr1.fr); have C1 := Lib.hid (found_any A1 n c1 L w1 (Free.row hf1) HN.out hc1 hcm1 (by omega)); clear hK1 hs1 hfr1 hf1)
    | (go_at_call 47; refine C1.out.mono ?_; rintro e w2 ⟨v2, rfl, h2⟩; obtain ⟨A2, c2, rfl, _, _, hr2⟩ := h2.form; rw [HN.out] at hr2 ⊢; have HS2 := Lib.hid (HF.out.all HS1.out h2.below); have HFR2 := Lib.hid (HFR1.out.trans (Fr.of_below (own := own1) h2.below)); have HA2 := Lib.hid (free_fr HA1.out (Fr.of_below (own := own1) h2.below)); have C2 := Lib.hid (eqall_any A2 A n c2 c L w2 hr2 (Free.row HA2.out) HN.out (by omega)); clear h2 hr2)
    | (go_at_call 46; refine C2.out.mono ?_; rintro e w3 ⟨rfl, hb3⟩; have HS3 := Lib.hid (HF.out.all HS2.out hb3); have HFR3 := Lib.hid (HFR2.out.trans (Fr.of_below (own := own1) hb3)); have HA3 := Lib.hid (free_fr HA2.out (Fr.of_below (own := own1) hb3)); clear hb3))
  clear CR C1 C2 HS1 HS2 HFR1 HFR2 HA1 HA2
  go_loopw [5] (fun iv wr => ∃ (i K' : Nat) (own' : Own), iv = .int .i64 (i : Int) ∧ i ≤ n ∧ K' ≤ v.K + 8 + 8 * i ∧ Hid (SG own' w0 wr { v with K := K' }) ∧ Hid (Fr own1 own' w3 wr)) (fun iv _ => n - (RowKit.intOf iv).toNat)
  case atStart => exact ⟨0, K1, own1, rfl, Nat.zero_le _, HK1.out, HS3, Fr.refl _ _⟩
  case round =>
    obtain ⟨i, K', own', rfl, hi, hK', HSG, HFR⟩ := hrel
    by_cases hlt : i < n
    · have hA4 := free_fr HA3.out HFR.out
      obtain ⟨b, o, rfl, _, _, _⟩ := hA4.2 (by omega)
      obtain ⟨⟨at', x⟩, hq⟩ : ∃ q, L[i]? = some q := ⟨L[i]'(by rw [HN.out]; exact hlt), List.getElem?_eq_getElem _⟩
      obtain ⟨g1, ⟨n', g2⟩, g3⟩ := HALL.out _ (List.mem_of_getElem? hq)
      dsimp only at g1 g2 g3
      have hit := found_rec (found_item (Free.row hA4) i (at', x) hq)
      have i1 : wr.cell? ⟨b, o + i * 7, none⟩ = some (.int .i64 (at' : Int)) := hit.1
      have C5 := Lib.hid (HF.out.read_ok (v := { v with K := K' }) (a := at') (n := n') (x := x) HT.out HSG.out g1 g2 g3 (show K' + 8 ≤ 1073741824 by omega))
      have C5' : Hid (Calls Tryd.prog 25 #[.pointer (some ⟨v.sg, 0, none⟩), .int .i64 (at' : Int)] wr fun e w' => ∃ own5 K5, e = .returned (.tuple #[.agg x.vals, .int .i64 0]) ∧ K5 ≤ K' + 8 ∧ SG own5 w0 w' { v with K := K5 } ∧ FrS SG v.f v.sg own' own5 wr w') := C5.out
      have HQ := Lib.hid hq
      have HA4 := Lib.hid hA4
      clear hq g1 g2 g3 hit C5 hA4
      go_upto_region 7 with (first
        | (go_at_call 25; refine C5'.out.mono ?_; rintro e w5 ⟨own5, K5, rfl, hK5, hs5, hf5⟩)
        | (refine store_recN (zero_new w5) rfl rfl (.tmp 6) (.tmp 32) rfl rfl x rfl rfl ?_; intro w6 X6 G6))
      have hb56 : Below w5.heap.size w5 w6 := below_only (below_alloc w5 _) G6.out (Nat.le_refl _) (by simp)
      have HS6 := Lib.hid (HF.out.all hs5 hb56)
      have HFR6 := Lib.hid (HFR.out.trans (hf5.fr.trans (Fr.of_below (own := own5) hb56)))
      have ho5 : own5 w5.heap.size = none := by
        cases h : own5 w5.heap.size with
        | none => rfl
        | some q => have := HF.out.top hs5 _ _ h; omega
      have hlt6 : w5.heap.size < w6.heap.size := X6.out.lt
      have HX6 : Hid (∀ W, Fr own5 own5 w6 W → RecAt W w5.heap.size x) := fun W hW => (hW.block _ hlt6 ho5).trans X6.out
      have hA6 := free_fr HA4.out (hf5.fr.trans (Fr.of_below (own := own5) hb56))
      have HI6 : Hid (∀ W, Fr own5 own5 w6 W → W.rangeAt b (o + i * 7 + 1) x.vals.toList) := fun W hW => (found_rec (found_item (Free.row (free_fr hA6 hW)) i (at', x) HQ.out)).2
      have CQ : Hid (∀ W, Calls Tryd.prog 48 #[.agg x.vals, .agg x.vals] W fun e w' => e = .returned (.bool true) ∧ Below W.heap.size W w') := fun W => by
        have := eq_any x x W
        rwa [decide_eq_true rfl] at this
      have HFD : Hid (Fr own5 own5 w6 w6.drew) := Fr.of_below (Below.refl _ _).drew
      have hK6 : K5 ≤ v.K + 8 + 8 * (i + 1) := by omega
      clear hs5 hf5 hb56 ho5 hK5 hA6 X6 G6 C5'
      refine wp_region_noPanic ?_
      refine wp_region_held_drew (S := fun W => Hid (Fr own5 own5 w6 W)) (by kernel_rfl) HFD (fun h0 => ?_)
      refine held_take 0 (v := ?_) (d := (some 34)) rfl rfl (by kernel_rfl) (by kernel_rfl) (by kernel_rfl) (fun _ _ _ h => h) (Or.inl ⟨by rfl, ?_⟩) h0 ?_
      rotate_left
      · intro _ _; go_simp; (try with_reducible rfl)
      try simp only [Act.put, List.setIfInBounds_toArray, List.set_cons_zero, List.set_cons_succ]
      refine held_take 1 (v := .bool false) (d := (some 35)) rfl rfl (by kernel_rfl) (by kernel_rfl) (by kernel_rfl) (fun _ _ _ h => h) (Or.inl ⟨by rfl, ?_⟩) h0 ?_
      · intro _ _; go_simp; (try with_reducible rfl)
      try simp only [Act.put, List.setIfInBounds_toArray, List.set_cons_zero, List.set_cons_succ]
      refine held_take 2 (v := ?_) (d := (some 36)) rfl rfl (by kernel_rfl) (by kernel_rfl) (by kernel_rfl) (fun _ _ _ h => h) (Or.inl ⟨by rfl, ?_⟩) h0 ?_
      rotate_left
      · intro _ _; go_simp; (try with_reducible rfl)
      try simp only [Act.put, List.setIfInBounds_toArray, List.set_cons_zero, List.set_cons_succ]
      refine held_take 3 (v := .agg x.vals) (d := some 37) rfl rfl (by kernel_rfl) (by kernel_rfl) (by kernel_rfl) (fun _ _ _ h => h) (yieldsIf_load_rec (by rfl) (.tmp 6) rfl w5.heap.size rfl x (fun W h => HX6.out W h.out)) h0 ?_
      try simp only [Act.put, List.setIfInBounds_toArray, List.set_cons_zero, List.set_cons_succ]
      refine held_take 4 (v := ?_) (d := (some 38)) rfl rfl (by kernel_rfl) (by kernel_rfl) (by kernel_rfl) (fun _ _ _ h => h) (Or.inl ⟨by rfl, ?_⟩) h0 ?_
      rotate_left
      · intro _ _; go_simp; (try with_reducible rfl)
      try simp only [Act.put, List.setIfInBounds_toArray, List.set_cons_zero, List.set_cons_succ]
      refine held_take 5 (v := ?_) (d := (some 39)) rfl rfl (by kernel_rfl) (by kernel_rfl) (by kernel_rfl) (fun _ _ _ h => h) (Or.inl ⟨by rfl, ?_⟩) h0 ?_
      rotate_left
      · intro _ _; go_simp; (try with_reducible rfl)
      try simp only [Act.put, List.setIfInBounds_toArray, List.set_cons_zero, List.set_cons_succ]
      refine held_take 6 (v := ?_) (d := (some 40)) rfl rfl (by kernel_rfl) (by kernel_rfl) (by kernel_rfl) (fun _ _ _ h => h) (Or.inl ⟨by rfl, ?_⟩) h0 ?_
      rotate_left
      · intro _ _; go_simp; (try with_reducible rfl)
      try simp only [Act.put, List.setIfInBounds_toArray, List.set_cons_zero, List.set_cons_succ]
      refine held_take 7 (v := ?_) (d := (some 41)) rfl rfl (by kernel_rfl) (by kernel_rfl) (by kernel_rfl) (fun _ _ _ h => h) (Or.inl ⟨by rfl, ?_⟩) h0 ?_
      rotate_left
      · intro _ _; go_simp; (try with_reducible rfl)
      try simp only [Act.put, List.setIfInBounds_toArray, List.set_cons_zero, List.set_cons_succ]
      refine held_take 8 (v := .agg x.vals) (d := some 42) rfl rfl (by kernel_rfl) (by kernel_rfl) (by kernel_rfl) (fun _ _ _ h => h) (yieldsIf_load_mid (by rfl) 33 (.tmp 41) rfl b (o + i * 7 + 1) rfl x.vals.toList _ (fun W h => HI6.out W h.out) Tryd.underlying33 rfl rec_info) h0 ?_
      try simp only [Act.put, List.setIfInBounds_toArray, List.set_cons_zero, List.set_cons_succ]
      refine wpAnyH_ready (rs := [9]) (by kernel_rfl) (by simp) (AllReadyH.cons rfl (fun K hK => ?_) AllReadyH.nil)
      go_simp
      with_reducible refine (CQ.out _).mono ?_
      rintro e w7 ⟨rfl, hb7⟩
      have HF7 := Lib.hid (HFD.out.trans (Fr.of_below (own := own5) hb7))
      have HB7 := Lib.hid hb7
      clear hb7
      refine hK.out _ _ (HF7) (fun h1 => ?_)
      clear hK K
      try simp only [Act.put, List.setIfInBounds_toArray, List.set_cons_zero, List.set_cons_succ]
      refine held_take 10 (v := .bool false) (d := (some 44)) rfl rfl (by kernel_rfl) (by kernel_rfl) (by kernel_rfl) (fun _ _ _ h => h) (Or.inl ⟨by rfl, ?_⟩) h1 ?_
      · intro _ _; go_simp; (try with_reducible rfl)
      try simp only [Act.put, List.setIfInBounds_toArray, List.set_cons_zero, List.set_cons_succ]
      refine held_take 11 (v := .bool false) (d := (some 45)) rfl rfl (by kernel_rfl) (by kernel_rfl) (by kernel_rfl) (fun _ _ _ h => h) (Or.inl ⟨by rfl, ?_⟩) h1 ?_
      · intro _ _; go_simp; (try with_reducible rfl)
      try simp only [Act.put, List.setIfInBounds_toArray, List.set_cons_zero, List.set_cons_succ]
      refine wpAnyH_done (by kernel_rfl) ?_ _
      refine NoPanic.normal ?_
      have HS7 := Lib.hid (HF.out.all (HF.out.all HS6.out (Below.refl _ _).drew) HB7.out)
      go_wp2_with fail
      go_roundw
      case rel => exact ⟨i + 1, K5, own5, by go_num, by omega, hK6, HS7, HFR6.out.trans HF7.out⟩
      case measure => (simp [RowKit.intOf]; omega)
    · obtain rfl : i = n := by omega
      go_wp2_with fail
      go_ret
      exact ⟨rfl, own', K', by omega, HSG.out, HFR3.out.trans HFR.out⟩
end Go.Proofs.YtkdnfikaodkhnaaDoor.Seg
/-
  Proved: what All and Front of package scan return (an empty text too): the records that stand in a list of bytes, and at its front.
  Conditions: the slice reads as bytes, not too many; the table crc.turned holds its sixteen words.
-/
namespace Go.Proofs.YtkdnfikaodkhnaaDoor.Rec
open Go.RowKit
open Go.Proofs.YtkdnfikaodkhnaaDoor.Crc (Turned)
set_option linter.unusedVariables false
set_option linter.unusedSimpArgs false

set_option maxRecDepth 100000 in
set_option maxHeartbeats 8000000 in
theorem scanrow_none (w0 : World) (v0 : Value) (l0 : List (Nat × Rc)) (c : Nat) (w : World) (hF : Fd w0 99 w v0 l0) (hT : Turned w0) (hc : c ≤ maxLen) :
    Calls Tryd.prog 70 #[v0, .slice none 0 c, .int .i64 0] w fun e w' => e = .returned (.tuple #[v0, .int .i64 0]) ∧ Fd w0 99 w' v0 l0 := by
  have hcm : c ≤ 9223372036854775807 := by unfold maxLen at hc; exact hc
  have HF := Lib.hid hF
  have hz := zeroRec
  have CD := Lib.hid (decode_any none 0 c [] w (turned_kept hT hF.below) empty_row (Nat.zero_le _) hc)
  rw [dec_nil] at CD
  clear hc hT hF
  go_enter Tryd.func70, Tryd.ntmps70
  go_wp2_with fail
  go_loopw [0, 2] (fun v i wr => v = v0 ∧ i = .int .i64 0 ∧ wr = w) (fun _ i _ => 0)
  case atStart => exact ⟨rfl, rfl, rfl⟩
  case round =>
    obtain ⟨rfl, rfl, rfl⟩ := hrel
    have CD2 : Hid (Calls Tryd.prog 49 #[.slice none 0 c] wr fun E w' => E = .returned (.tuple #[.agg zeroRc.vals, .int .i64 0, .int .i64 11]) ∧ Below wr.heap.size wr w') := CD.out
    clear CD
    go_upto_region 2 with (first
        | (go_at_call 49; refine CD2.out.mono ?_; rintro E w2 ⟨rfl, hb2⟩; have HF2 := Lib.hid (HF.out.all hb2); clear hb2)
        | (refine store_recN (zero_new w2) rfl rfl (.tmp 8) (.tmp 16) rfl rfl zeroRc rfl rfl ?_; intro w3 X3 G3))
    have HF3 : Hid (Fd w0 99 w3 u0 l0) := fd_store HF2.out G3.out
    clear G3
    go_wp2_with fail
    go_ret2
    exact ⟨rfl, HF3.out⟩
set_option maxRecDepth 100000 in
set_option maxHeartbeats 8000000 in
theorem scanrow_zero (w0 : World) (v0 : Value) (l0 : List (Nat × Rc)) (ad : Addr) (c : Nat) (w : World) (hF : Fd w0 99 w v0 l0) (hT : Turned w0) (hc : c ≤ maxLen) :
    Calls Tryd.prog 70 #[v0, .slice (some ad) 0 c, .int .i64 0] w fun e w' => e = .returned (.tuple #[v0, .int .i64 0]) ∧ Fd w0 99 w' v0 l0 := by
  have hcm : c ≤ 9223372036854775807 := by unfold maxLen at hc; exact hc
  have HF := Lib.hid hF
  have hz := zeroRec
  have CD : Hid (∀ P, Calls Tryd.prog 49 #[.slice P 0 c] w fun E w' => E = .returned (.tuple #[.agg zeroRc.vals, .int .i64 0, .int .i64 11]) ∧ Below w.heap.size w w') := by
    intro P
    have h := decode_any P 0 c [] w (turned_kept hT hF.below) empty_row (Nat.zero_le _) hc
    rw [dec_nil] at h
    exact h
  clear hc hT hF
  go_enter Tryd.func70, Tryd.ntmps70
  go_wp2_with fail
  go_loopw [0, 2] (fun v i wr => v = v0 ∧ i = .int .i64 0 ∧ wr = w) (fun _ i _ => 0)
  case atStart => exact ⟨rfl, rfl, rfl⟩
  case round =>
    obtain ⟨rfl, rfl, rfl⟩ := hrel
    go_upto_region 2 with (first
        | (go_at_call 49; refine (CD.out _).mono ?_; rintro E w2 ⟨rfl, hb2⟩; have HF2 := Lib.hid (HF.out.all hb2); clear hb2)
        | (refine store_recN (zero_new w2) rfl rfl (.tmp 8) (.tmp 16) rfl rfl zeroRc rfl rfl ?_; intro w3 X3 G3))
    have HF3 : Hid (Fd w0 99 w3 u0 l0) := fd_store HF2.out G3.out
    clear G3
    go_wp2_with fail
    go_ret2
    exact ⟨rfl, HF3.out⟩
/-- .. whatever the slice. -/
theorem scanrow_any (w0 : World) (v0 : Value) (l0 : List (Nat × Rc)) (A : Option Addr) (n c p0 : Nat) (bs : List UInt8) (w : World) (hF : Fd w0 99 w v0 l0) (hT : Turned w0) (hR : Row w0 w0.heap.size A n (bvs bs)) (hnc : n ≤ c) (hc : c ≤ maxLen) (hn : n ≤ 8388608) (hp0 : p0 ≤ n) (hl0 : l0.length ≤ p0) :
    Calls Tryd.prog 70 #[v0, .slice A n c, .int .i64 (p0 : Int)] w fun e w' => ∃ v, e = .returned (.tuple #[v, .int .i64 ((endOf p0 (frontFrom p0 bs) : Nat) : Int)]) ∧ Fd w0 99 w' v (l0 ++ frontFrom p0 bs) := by
  rcases Nat.eq_zero_or_pos n with h0 | h0
  · subst h0
    obtain rfl : p0 = 0 := by omega
    obtain rfl : bs = [] := List.eq_nil_of_length_eq_zero hR.size
    rw [front_nil, List.append_nil]
    cases A with
    | none => exact (scanrow_none w0 v0 l0 c w hF hT hc).mono fun e w' h => ⟨v0, h.1, h.2⟩
    | some ad => exact (scanrow_zero w0 v0 l0 ad c w hF hT hc).mono fun e w' h => ⟨v0, h.1, h.2⟩
  · obtain ⟨b, o, rfl, _, _⟩ := hR.2 h0
    exact scanrow_some w0 v0 l0 b o n c p0 bs w hF hT hR hnc hc hn hp0 hl0
set_option maxRecDepth 100000 in
set_option maxHeartbeats 8000000 in
theorem scanfront_any (A : Option Addr) (n c : Nat) (bs : List UInt8) (w : World) (hT : Turned w) (hR : Row w w.heap.size A n (bvs bs)) (hnc : n ≤ c) (hc : c ≤ maxLen) (hn : n ≤ 8388608) :
    Calls Tryd.prog 54 #[.slice A n c] w fun e w' => ∃ v, e = .returned (.tuple #[v, .int .i64 ((endOf 0 (frontFrom 0 bs) : Nat) : Int)]) ∧ Fd w 99 w' v (frontFrom 0 bs) := by
  have C := Lib.hid (scanrow_any w (.slice none 0 0) [] A n c 0 bs w (Fd.nil w _) hT hR hnc hc hn (Nat.zero_le _) (Nat.zero_le _))
  clear hT hR
  go_enter Tryd.func54, Tryd.ntmps54
  go_wp2_with (go_at_call 70; refine C.out.mono ?_; rintro e w2 ⟨v, rfl, h2⟩)
  go_ret2
  exact ⟨v, rfl, h2⟩
end Go.Proofs.YtkdnfikaodkhnaaDoor.Rec
