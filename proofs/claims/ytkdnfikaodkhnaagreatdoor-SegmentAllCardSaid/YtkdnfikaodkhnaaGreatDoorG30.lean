/-
  Texts one behind the other: SegSame, SegGroup, NumShelf.
-/
import Derived.Shelf.Strconv.Itoa4
import Derived.Test.YtkdnfikaodkhnaaGreatDoorProg
import Derived.Test.YtkdnfikaodkhnaaGreatDoorG25
import Derived.Test.YtkdnfikaodkhnaaGreatDoorG27
import Derived.Test.YtkdnfikaodkhnaaGreatDoorG29
/-
  Proved: same of law 8 says true of a segment and of just the records that it tells, where it keeps its face.
-/
namespace Go.Proofs.YtkdnfikaodkhnaaGreatDoor.Seg
open Go.RowKit Go.Proofs.YtkdnfikaodkhnaaGreatDoor.Disk Go.Proofs.YtkdnfikaodkhnaaGreatDoor.Rec
set_option linter.unusedVariables false
set_option linter.unusedSimpArgs false

theorem front_all (bs : List UInt8) : ∀ (f p : Nat), bs.length ≤ p + f → ∀ q ∈ frontFrom p bs, q.1 < bs.length ∧ ∃ n, dec (bs.drop q.1) = .ok q.2 n := by
  intro f
  induction f with
  | zero =>
    intro p h1 q hq
    rcases out_ok (dec (bs.drop p)) with ⟨x, m, hd⟩ | ⟨e, _, _, hno⟩
    · have k1 := (dec_ok hd).1
      have k2 := (dec_ok hd).2.1
      rw [List.length_drop] at k2
      omega
    · rw [frontFrom_no hno] at hq; simp at hq
  | succ f ih =>
    intro p h1 q hq
    rcases out_ok (dec (bs.drop p)) with ⟨x, m, hd⟩ | ⟨e, _, _, hno⟩
    · obtain ⟨k1, k2, _⟩ := dec_ok hd
      rw [List.length_drop] at k2
      rw [frontFrom_ok hd] at hq
      rcases List.mem_cons.1 hq with rfl | hq
      · exact ⟨by show p < _; omega, m, hd⟩
      · exact ih (p + m) (by omega) q hq
    · rw [frontFrom_no hno] at hq; simp at hq
theorem own_mem {id : Nat} {l : List (Nat × Rc)} {q : Nat × Rc} (h : q ∈ ownOf id l) : q ∈ l ∧ q.2.tenant = id := by
  unfold ownOf at h
  induction l with
  | nil => simp at h
  | cons x l ih =>
    rw [List.takeWhile_cons] at h
    split at h
    · rename_i hx
      rcases List.mem_cons.1 h with rfl | h
      · exact ⟨by simp, by simpa using hx⟩
      · exact ⟨List.mem_cons_of_mem _ (ih h).1, (ih h).2⟩
    · simp at h
set_option maxRecDepth 100000 in
set_option maxHeartbeats 8000000 in
theorem same_any {SG : Own → World → World → Sv → Prop} (F : Face SG) {own : Own} {w0 w : World} {v : Sv} {A : Option Addr} {n c : Nat} (hT : Tabs w0) (h : SG own w0 w v) (hn : (ownOf v.id (frontFrom 0 v.x.now)).length = n) (hn2 : n ≤ 1000000)
    (hA : Free own w A (n * 7) (flat (ownOf v.id (frontFrom 0 v.x.now)))) (hnc : n ≤ c) (hc : c ≤ maxLen) (hK : v.K + 8 * (n + 1) + 8 ≤ 1073741824) :
    Calls Tryz.prog 12 #[.pointer (some ⟨v.sg, 0, none⟩), .slice A n c] w fun e w' => e = .returned (.bool true) ∧ ∃ own' K', K' ≤ v.K + 8 * (n + 1) ∧ SG own' w0 w' { v with K := K' } ∧ Fr own own' w w' := by
  have hcm : c ≤ 9223372036854775807 := by unfold maxLen at hc; exact hc
  have HT := Lib.hid hT
  have HF := Lib.hid F
  have hz := zeroRec
  have HA := Lib.hid hA
  have hall : ∀ q ∈ ownOf v.id (frontFrom 0 v.x.now), q.1 < v.x.now.length ∧ (∃ n, dec (v.x.now.drop q.1) = .ok q.2 n) ∧ q.2.tenant = v.id := fun q hq => by
    obtain ⟨h1, h2⟩ := own_mem hq
    obtain ⟨k1, k2⟩ := front_all v.x.now v.x.now.length 0 (by omega) q h1
    exact ⟨k1, k2, h2⟩
  have CR := Lib.hid (F.records hT h (by omega))
  obtain ⟨L, hL⟩ : ∃ L, L = ownOf v.id (frontFrom 0 v.x.now) := ⟨_, rfl⟩
  rw [← hL] at HA CR hall hn
  rw [hn] at CR
  have HALL := Lib.hid hall
  have HN := Lib.hid hn
  clear F hT hA hall h hL hn
  have ep : ptr v.sg = .pointer (some ⟨v.sg, 0, none⟩) := rfl
  rw [ep] at CR
  go_enter Tryz.func12, Tryz.ntmps12
  go_upto_region 4 with (first
    | (go_at_call 17; refine CR.out.mono ?_; rintro e w1 ⟨own1, A1, c1, K1, rfl, hc1, hcm1, hf1, hK1, hs1, hfr1⟩; have HK1 := Lib.hid hK1; have HS1 := Lib.hid hs1; have HFR1 := Lib.hid hfr1.fr; have HA1 := Lib.hid (free_fr HA.out hfr1.fr); have C1 := Lib.hid (found_any A1 n c1 L w1 (Free.row hf1) HN.out hc1 hcm1 (by omega)); clear hK1 hs1 hfr1 hf1)
    | (go_at_call 16; refine C1.out.mono ?_; rintro e w2 ⟨v2, rfl, h2⟩; obtain ⟨A2, c2, rfl, _, _, hr2⟩ := h2.form; rw [HN.out] at hr2 ⊢; have HS2 := Lib.hid (HF.out.all HS1.out h2.below); have HFR2 := Lib.hid (HFR1.out.trans (Fr.of_below (own := own1) h2.below)); have HA2 := Lib.hid (free_fr HA1.out (Fr.of_below (own := own1) h2.below)); have C2 := Lib.hid (eqall_any A2 A n c2 c L w2 hr2 (Free.row HA2.out) HN.out (by omega)); clear h2 hr2)
    | (go_at_call 18; refine C2.out.mono ?_; rintro e w3 ⟨rfl, hb3⟩; have HS3 := Lib.hid (HF.out.all HS2.out hb3); have HFR3 := Lib.hid (HFR2.out.trans (Fr.of_below (own := own1) hb3)); have HA3 := Lib.hid (free_fr HA2.out (Fr.of_below (own := own1) hb3)); clear hb3))
  clear CR C1 C2 HS1 HS2 HFR1 HFR2 HA1 HA2
  go_loopw [5] (fun iv wr => ∃ (i K' : Nat) (own' : Own), iv = .int .i64 (i : Int) ∧ i ≤ n ∧ K' ≤ v.K + 8 + 8 * i ∧ Hid (SG own' w0 wr { v with K := K' }) ∧ Hid (Fr own1 own' w3 wr)) (fun iv _ => n - (RowKit.intOf iv).toNat)
  case atStart => exact ⟨0, K1, own1, rfl, Nat.zero_le _, HK1.out, HS3, Fr.refl _ _⟩
  case round =>
    obtain ⟨i, K', own', rfl, hi, hK', HSG, HFR⟩ := hrel
    by_cases hlt : i < n
    · have hA4 := free_fr HA3.out HFR.out
      obtain ⟨b, o, rfl, _, _, _⟩ := hA4.2 (by omega)
      obtain ⟨⟨at', x⟩, hq⟩ : ∃ q, L[i]? = some q := ⟨L[i]'(by rw [HN.out]; exact hlt), List.getElem?_eq_getElem _⟩
      obtain ⟨g1, ⟨n', g2⟩, g3⟩ := HALL.out _ (List.mem_of_getElem? hq)
      dsimp only at g1 g2 g3
      have hit := found_rec (found_item (Free.row hA4) i (at', x) hq)
      have i1 : wr.cell? ⟨b, o + i * 7, none⟩ = some (.int .i64 (at' : Int)) := hit.1
      have C5 := Lib.hid (HF.out.read_ok (v := { v with K := K' }) (a := at') (n := n') (x := x) HT.out HSG.out g1 g2 g3 (show K' + 8 ≤ 1073741824 by omega))
      have C5' : Hid (Calls Tryz.prog 19 #[.pointer (some ⟨v.sg, 0, none⟩), .int .i64 (at' : Int)] wr fun e w' => ∃ own5 K5, e = .returned (.tuple #[.agg x.vals, .int .i64 0]) ∧ K5 ≤ K' + 8 ∧ SG own5 w0 w' { v with K := K5 } ∧ FrS SG v.f v.sg own' own5 wr w') := C5.out
      have HQ := Lib.hid hq
      have HA4 := Lib.hid hA4
      clear hq g1 g2 g3 hit C5 hA4
      go_upto_region 7 with (first
        | (go_at_call 19; refine C5'.out.mono ?_; rintro e w5 ⟨own5, K5, rfl, hK5, hs5, hf5⟩)
        | (refine store_recN (zero_new w5) rfl rfl (.tmp 6) (.tmp 32) rfl rfl x rfl rfl ?_; intro w6 X6 G6))
      have hb56 : Below w5.heap.size w5 w6 := below_only (below_alloc w5 _) G6.out (Nat.le_refl _) (by simp)
      have HS6 := Lib.hid (HF.out.all hs5 hb56)
      have HFR6 := Lib.hid (HFR.out.trans (hf5.fr.trans (Fr.of_below (own := own5) hb56)))
      have ho5 : own5 w5.heap.size = none := by
        cases h : own5 w5.heap.size with
        | none => rfl
        | some q => have := HF.out.top hs5 _ _ h; omega
      have hlt6 : w5.heap.size < w6.heap.size := X6.out.lt
      have HX6 : Hid (∀ W, Fr own5 own5 w6 W → RecAt W w5.heap.size x) := fun W hW => (hW.block _ hlt6 ho5).trans X6.out
      have hA6 := free_fr HA4.out (hf5.fr.trans (Fr.of_below (own := own5) hb56))
      have HI6 : Hid (∀ W, Fr own5 own5 w6 W → W.rangeAt b (o + i * 7 + 1) x.vals.toList) := fun W hW => (found_rec (found_item (Free.row (free_fr hA6 hW)) i (at', x) HQ.out)).2
      have CQ : Hid (∀ W, Calls Tryz.prog 31 #[.agg x.vals, .agg x.vals] W fun e w' => e = .returned (.bool true) ∧ Below W.heap.size W w') := fun W => by
        have := eq_any x x W
        rwa [decide_eq_true rfl] at this
      have HFD : Hid (Fr own5 own5 w6 w6.drew) := Fr.of_below (Below.refl _ _).drew
      have hK6 : K5 ≤ v.K + 8 + 8 * (i + 1) := by omega
      clear hs5 hf5 hb56 ho5 hK5 hA6 X6 G6 C5'
      refine wp_region_noPanic ?_
      refine wp_region_held_drew (S := fun W => Hid (Fr own5 own5 w6 W)) (by kernel_rfl) HFD (fun h0 => ?_)
      refine held_take 0 (v := ?_) (d := (some 34)) rfl rfl (by kernel_rfl) (by kernel_rfl) (by kernel_rfl) (fun _ _ _ h => h) (Or.inl ⟨by rfl, ?_⟩) h0 ?_
      rotate_left
      · intro _ _; go_simp; (try with_reducible rfl)
      try simp only [Act.put, List.setIfInBounds_toArray, List.set_cons_zero, List.set_cons_succ]
      refine held_take 1 (v := .bool false) (d := (some 35)) rfl rfl (by kernel_rfl) (by kernel_rfl) (by kernel_rfl) (fun _ _ _ h => h) (Or.inl ⟨by rfl, ?_⟩) h0 ?_
      · intro _ _; go_simp; (try with_reducible rfl)
      try simp only [Act.put, List.setIfInBounds_toArray, List.set_cons_zero, List.set_cons_succ]
      refine held_take 2 (v := ?_) (d := (some 36)) rfl rfl (by kernel_rfl) (by kernel_rfl) (by kernel_rfl) (fun _ _ _ h => h) (Or.inl ⟨by rfl, ?_⟩) h0 ?_
      rotate_left
      · intro _ _; go_simp; (try with_reducible rfl)
      try simp only [Act.put, List.setIfInBounds_toArray, List.set_cons_zero, List.set_cons_succ]
      refine held_take 3 (v := .agg x.vals) (d := some 37) rfl rfl (by kernel_rfl) (by kernel_rfl) (by kernel_rfl) (fun _ _ _ h => h) (yieldsIf_load_rec (by rfl) (.tmp 6) rfl w5.heap.size rfl x (fun W h => HX6.out W h.out)) h0 ?_
      try simp only [Act.put, List.setIfInBounds_toArray, List.set_cons_zero, List.set_cons_succ]
      refine held_take 4 (v := ?_) (d := (some 38)) rfl rfl (by kernel_rfl) (by kernel_rfl) (by kernel_rfl) (fun _ _ _ h => h) (Or.inl ⟨by rfl, ?_⟩) h0 ?_
      rotate_left
      · intro _ _; go_simp; (try with_reducible rfl)
      try simp only [Act.put, List.setIfInBounds_toArray, List.set_cons_zero, List.set_cons_succ]
      refine held_take 5 (v := ?_) (d := (some 39)) rfl rfl (by kernel_rfl) (by kernel_rfl) (by kernel_rfl) (fun _ _ _ h => h) (Or.inl ⟨by rfl, ?_⟩) h0 ?_
      rotate_left
      · intro _ _; go_simp; (try with_reducible rfl)
      try simp only [Act.put, List.setIfInBounds_toArray, List.set_cons_zero, List.set_cons_succ]
      refine held_take 6 (v := ?_) (d := (some 40)) rfl rfl (by kernel_rfl) (by kernel_rfl) (by kernel_rfl) (fun _ _ _ h => h) (Or.inl ⟨by rfl, ?_⟩) h0 ?_
      rotate_left
      · intro _ _; go_simp; (try with_reducible rfl)
      try simp only [Act.put, List.setIfInBounds_toArray, List.set_cons_zero, List.set_cons_succ]
      refine held_take 7 (v := ?_) (d := (some 41)) rfl rfl (by kernel_rfl) (by kernel_rfl) (by kernel_rfl) (fun _ _ _ h => h) (Or.inl ⟨by rfl, ?_⟩) h0 ?_
      rotate_left
      · intro _ _; go_simp; (try with_reducible rfl)
      try simp only [Act.put, List.setIfInBounds_toArray, List.set_cons_zero, List.set_cons_succ]
      refine held_take 8 (v := .agg x.vals) (d := some 42) rfl rfl (by kernel_rfl) (by kernel_rfl) (by kernel_rfl) (fun _ _ _ h => h) (yieldsIf_load_mid (by rfl) 40 (.tmp 41) rfl b (o + i * 7 + 1) rfl x.vals.toList _ (fun W h => HI6.out W h.out) Tryz.underlying40 rfl rec_info) h0 ?_
      try simp only [Act.put, List.setIfInBounds_toArray, List.set_cons_zero, List.set_cons_succ]
      refine wpAnyH_ready (rs := [9]) (by kernel_rfl) (by simp) (AllReadyH.cons rfl (fun K hK => ?_) AllReadyH.nil)
      go_simp
      with_reducible refine (CQ.out _).mono ?_
      rintro e w7 ⟨rfl, hb7⟩
      have HF7 := Lib.hid (HFD.out.trans (Fr.of_below (own := own5) hb7))
      have HB7 := Lib.hid hb7
      clear hb7
      refine hK.out _ _ (HF7) (fun h1 => ?_)
      clear hK K
      try simp only [Act.put, List.setIfInBounds_toArray, List.set_cons_zero, List.set_cons_succ]
      refine held_take 10 (v := .bool false) (d := (some 44)) rfl rfl (by kernel_rfl) (by kernel_rfl) (by kernel_rfl) (fun _ _ _ h => h) (Or.inl ⟨by rfl, ?_⟩) h1 ?_
      · intro _ _; go_simp; (try with_reducible rfl)
      try simp only [Act.put, List.setIfInBounds_toArray, List.set_cons_zero, List.set_cons_succ]
      refine held_take 11 (v := .bool false) (d := (some 45)) rfl rfl (by kernel_rfl) (by kernel_rfl) (by kernel_rfl) (fun _ _ _ h => h) (Or.inl ⟨by rfl, ?_⟩) h1 ?_
      · intro _ _; go_simp; (try with_reducible rfl)
      try simp only [Act.put, List.setIfInBounds_toArray, List.set_cons_zero, List.set_cons_succ]
      refine wpAnyH_done (by kernel_rfl) ?_ _
      refine NoPanic.normal ?_
      have HS7 := Lib.hid (HF.out.all (HF.out.all HS6.out (Below.refl _ _).drew) HB7.out)
      go_wp2_with fail
      go_roundw
      case rel => exact ⟨i + 1, K5, own5, by go_num, by omega, hK6, HS7, HFR6.out.trans HF7.out⟩
      case measure => (simp [RowKit.intOf]; omega)
    · obtain rfl : i = n := by omega
      go_wp2_with fail
      go_ret
      exact ⟨rfl, own', K', by omega, HSG.out, HFR3.out.trans HFR.out⟩
end Go.Proofs.YtkdnfikaodkhnaaGreatDoor.Seg
/-
  Proved: what group of law 8 returns: records of a tenant that may be.
  Conditions: the slice reads as records; the tenant is a number of 32 bits.
-/
namespace Go.Proofs.YtkdnfikaodkhnaaGreatDoor.Rec
open Go.RowKit
set_option linter.unusedVariables false
set_option linter.unusedSimpArgs false

theorem RecAt.ten {w : World} {g : Nat} {x : Rc} (h : RecAt w g x) (t : Nat) : RecAt (w.setCell ⟨g, 1, none⟩ (.int .u32 (t : Int))) g { x with tenant := t } := Blk.put h 1 _
theorem Rc.Good.ten {x : Rc} (h : x.Good) {t : Nat} (ht : t < 4294967296) : ({ x with tenant := t } : Rc).Good := ⟨h.1, ⟨ht, h.2.1.epoch, h.2.1.object, h.2.1.seq⟩, h.2.2⟩
set_option maxRecDepth 100000 in
set_option maxHeartbeats 8000000 in
theorem group_any (A : Option Addr) (n c id : Nat) (l : List Rc) (w : World) (hid : id < 4294967296) (hR : Row w w.heap.size A (n * 6) (rflat l)) (hl : l.length = n) (hok : ∀ x ∈ l, x.Ok) (hnc : n ≤ c) (hc : c ≤ maxLen) :
    Calls Tryz.prog 8 #[.slice A n c, .int .u32 (id : Int)] w fun e w' => ∃ v, e = .returned v ∧ ∃ g, Rs w w' v g ∧ g.length ≤ 5 ∧ ∀ x ∈ g, x.Good ∧ x.tenant = id := by
  have CG := Lib.hid (good_any A n c 5 l w hR hl hok hnc hc (by decide))
  have hz := zeroRec
  have HW := Lib.hid (Below.refl w.heap.size w)
  clear hR hl hok
  go_enter Tryz.func8, Tryz.ntmps8
  go_upto_region 4 with (go_at_call 25; refine CG.out.mono ?_; rintro e w2 ⟨v2, rfl, g, hs2, hg5, hgood⟩)
  obtain ⟨A2, c2, rfl, hgc, hc2, hR2⟩ := own_row hs2.row
  have HR2 := Lib.hid hR2
  have HG := Lib.hid hgood
  have HB2 := Lib.hid hs2.below
  have hcm2 : c2 ≤ 9223372036854775807 := by unfold maxLen at hc2; exact hc2
  clear hs2 hR2 hgood hc2 CG HW
  go_loopw [5, 6] (fun v i wr => ∃ (p : Nat) (h : List Rc), i = .int .i64 (p : Int) ∧ p ≤ g.length ∧ h.length = p ∧ Hid (Rs w2 wr v h) ∧ Hid (∀ x ∈ h, x.Good ∧ x.tenant = id)) (fun _ i _ => g.length - (RowKit.intOf i).toNat)
  case atStart => exact ⟨0, [], rfl, Nat.zero_le _, rfl, Rs.nil w2, fun x h => by simp at h⟩
  case round =>
    obtain ⟨p, h, rfl, hp, hhp, HS, HH⟩ := hrel
    by_cases hlt : p < g.length
    · obtain ⟨b, o, rfl, hb, _⟩ := HR2.out.2 (by omega)
      obtain ⟨x, hx⟩ : ∃ x, g[p]? = some x := ⟨g[p]'hlt, List.getElem?_eq_getElem _⟩
      have HXG := Lib.hid (HG.out x (List.mem_of_getElem? hx))
      have HIT : Hid (wr.rangeAt b (o + p * 6) x.vals.toList) := rec_item (HR2.out.below HS.out.below) p x hx
      clear hx
      go_upto_region 7 with (first
        | (refine load_recM HIT.out rfl (.tmp 18) rfl rfl ?_)
        | (refine store_recN (zero_new wr) rfl rfl (.tmp 7) (.tmp 19) rfl rfl x rfl rfl ?_; intro w3 X3 G3))
      have HS3 := rs_store HS.out G3.out
      have y1 : w3.cell? ⟨wr.heap.size, 1, none⟩ = some (.int .u32 (x.tenant : Int)) := X3.out.cell 1
      have f1 : w3.frozen? ⟨wr.heap.size, 1, none⟩ = false := X3.out.free 1
      have hw3 : wr.heap.size < w3.heap.size := X3.out.lt
      have hrs : w2.heap.size ≤ wr.heap.size := HS.out.below.size
      go_upto_region 8 with fail
      obtain ⟨w4, hw4⟩ : ∃ w4, w4 = w3.setCell ⟨wr.heap.size, 1, none⟩ (.int .u32 (id : Int)) := ⟨_, rfl⟩
      have X4 : Hid (RecAt w4 wr.heap.size { x with tenant := id }) := by rw [hw4]; exact X3.out.ten id
      have HS4 : Hid (Rs w2 w4 u5 h) := by
        have hg4 : w3.grownBy w4 (some wr.heap.size) := by rw [hw4]; exact only_setCell w3 ⟨wr.heap.size, 1, none⟩ _
        refine ⟨HS3.out.row.kept hg4 ?_, below_only HS3.out.below hg4 hrs HS3.out.below.size⟩
        rcases HS.out.row.2 with ⟨h0, _⟩ | ⟨g', c', u', hv, _, hg', _⟩
        · exact .inl (by rw [h0]; rfl)
        · refine .inr ?_
          rw [hv]
          intro e
          have e : g' = wr.heap.size := by simpa [Value.ownBlock] using e
          rw [e, Array.getElem?_eq_none (Nat.le_refl _)] at hg'
          cases hg'
      rw [← hw4]
      clear hw4 y1 f1 X3 G3 HS3
      obtain ⟨z, hz'⟩ : ∃ z : Rc, z = { x with tenant := id } := ⟨_, rfl⟩
      have HZG : Hid (z.Good ∧ z.tenant = id) := by rw [hz']; exact ⟨HXG.out.ten hid, rfl⟩
      rw [← hz'] at X4
      clear hz'
      have HS5 := Lib.hid (HS4.out.all (below_alloc w4 (.cells z.vals 40)))
      have HONE := Lib.hid (rec_cells1 w4 40 (0, 0) z)
      have hl6 : h.length ≤ 1000000 := by omega
      go_wp2_with (first
        | (refine load_rec X4.out rfl (.tmp 7) rfl rfl ?_)
        | (refine build_oneRec rfl (.tmp 23) rfl (some 24) rfl z rfl ?_)
        | (at_builtin; refine rs_append HS5.out rfl (.tmp 22) (.tmp 24) rfl rfl w4.heap.size 1 z rfl HONE.out hl6 ?_; intro v6 w6 HS6))
      go_roundw
      case rel =>
        refine ⟨p + 1, h ++ [z], by go_num, by omega, by rw [List.length_append]; show h.length + 1 = p + 1; omega, HS6, fun y hy => ?_⟩
        rcases List.mem_append.1 hy with hy | hy
        · exact HH.out y hy
        · obtain rfl := List.mem_singleton.1 hy
          exact HZG.out
      case measure => (simp [RowKit.intOf]; omega)
    · go_wp2_with fail
      go_ret
      refine ⟨_, rfl, h, ⟨HS.out.row.mono HB2.out.size, HB2.out.trans (HS.out.below.mono HB2.out.size)⟩, by omega, HH.out⟩
end Go.Proofs.YtkdnfikaodkhnaaGreatDoor.Rec
/-
  The contracts of Go's library that the proofs of this seat use, laid at the numbers of its program.
-/
namespace Go.Proofs.YtkdnfikaodkhnaaGreatDoor
open Go.Shelf
def Shelf.fint_ren : Go.Shelf.Ren := ⟨fun | 173 => 46 | 246 => 76 | 283 => 93 | 284 => 94 | 285 => 95 | 286 => 96 | 129 => 105 | 317 => 104 | 318 => 106 | 319 => 107 | 320 => 108 | 337 => 128 | 338 => 129 | n => n, fun | 2 => 2 | 3 => 3 | 9 => 9 | 4 => 4 | 171 => 138 | 0 => 0 | 53 => 38 | 37 => 53 | 5 => 5 | 173 => 141 | 212 => 151 | 51 => 22 | 20 => 20 | 213 => 152 | 46 => 134 | 232 => 176 | 233 => 177 | n => n, fun | 17 => 0 | 18 => 2 | 19 => 3 | n => n⟩
theorem Shelf.fint : Go.Proofs.LaysM.n173 Tryz.prog Shelf.fint_ren := {
  mixed := by kernel_rfl,
  f129 := Tryz.func105.trans (congrArg some (by kernel_rfl)),
  f173 := Tryz.func46.trans (congrArg some (by kernel_rfl)),
  f246 := Tryz.func76.trans (congrArg some (by kernel_rfl)),
  f283 := Tryz.func93.trans (congrArg some (by kernel_rfl)),
  f284 := Tryz.func94.trans (congrArg some (by kernel_rfl)),
  f285 := Tryz.func95.trans (congrArg some (by kernel_rfl)),
  f286 := Tryz.func96.trans (congrArg some (by kernel_rfl)),
  f317 := Tryz.func104.trans (congrArg some (by kernel_rfl)),
  f318 := Tryz.func106.trans (congrArg some (by kernel_rfl)),
  f319 := Tryz.func107.trans (congrArg some (by kernel_rfl)),
  f320 := Tryz.func108.trans (congrArg some (by kernel_rfl)),
  f337 := Tryz.func128.trans (congrArg some (by kernel_rfl)),
  f338 := Tryz.func129.trans (congrArg some (by kernel_rfl)),
  t0 := Tryz.underlying0,
  a0 := Tryz.isAgg0,
  z0 := Tryz.sizeOf0,
  v0 := Tryz.zeroValue0,
  t2 := Tryz.underlying2,
  a2 := Tryz.isAgg2,
  z2 := Tryz.sizeOf2,
  v2 := Tryz.zeroValue2,
  t3 := Tryz.underlying3,
  a3 := Tryz.isAgg3,
  z3 := Tryz.sizeOf3,
  v3 := Tryz.zeroValue3,
  t4 := Tryz.underlying4,
  a4 := Tryz.isAgg4,
  z4 := Tryz.sizeOf4,
  v4 := Tryz.zeroValue4,
  t5 := Tryz.underlying5,
  a5 := Tryz.isAgg5,
  z5 := Tryz.sizeOf5,
  v5 := Tryz.zeroValue5,
  t9 := Tryz.underlying9,
  a9 := Tryz.isAgg9,
  z9 := Tryz.sizeOf9,
  v9 := Tryz.zeroValue9,
  t20 := Tryz.underlying20,
  a20 := Tryz.isAgg20,
  z20 := Tryz.sizeOf20,
  v20 := Tryz.zeroValue20,
  t37 := Tryz.underlying53,
  a37 := Tryz.isAgg53,
  z37 := Tryz.sizeOf53,
  v37 := Tryz.zeroValue53,
  t46 := Tryz.underlying134,
  a46 := Tryz.isAgg134,
  z46 := Tryz.sizeOf134,
  v46 := Tryz.zeroValue134,
  t51 := Tryz.underlying22,
  a51 := Tryz.isAgg22,
  z51 := Tryz.sizeOf22,
  v51 := Tryz.zeroValue22,
  t53 := Tryz.underlying38,
  a53 := Tryz.isAgg38,
  z53 := Tryz.sizeOf38,
  v53 := Tryz.zeroValue38,
  t171 := Tryz.underlying138,
  a171 := Tryz.isAgg138,
  z171 := Tryz.sizeOf138,
  v171 := Tryz.zeroValue138,
  t173 := Tryz.underlying141,
  a173 := Tryz.isAgg141,
  z173 := Tryz.sizeOf141,
  v173 := Tryz.zeroValue141,
  t212 := Tryz.underlying151,
  a212 := Tryz.isAgg151,
  z212 := Tryz.sizeOf151,
  v212 := Tryz.zeroValue151,
  t213 := Tryz.underlying152,
  a213 := Tryz.isAgg152,
  z213 := Tryz.sizeOf152,
  t232 := Tryz.underlying176,
  a232 := Tryz.isAgg176,
  z232 := Tryz.sizeOf176,
  v232 := Tryz.zeroValue176,
  t233 := Tryz.underlying177,
  a233 := Tryz.isAgg177,
  z233 := Tryz.sizeOf177,
  v233 := Tryz.zeroValue177,
  g17 := by kernel_rfl,
  g18 := by kernel_rfl,
  g19 := by kernel_rfl,
  i0 := by kernel_rfl,
  i2 := by kernel_rfl,
  i3 := by kernel_rfl,
  i4 := by kernel_rfl,
  i5 := by kernel_rfl,
  i9 := by kernel_rfl,
  i20 := by kernel_rfl,
  i37 := by kernel_rfl,
  i46 := by kernel_rfl,
  i51 := by kernel_rfl,
  i53 := by kernel_rfl,
  i171 := by kernel_rfl,
  i173 := by kernel_rfl,
  i212 := by kernel_rfl,
  i232 := by kernel_rfl,
  i233 := by kernel_rfl,
  m17 := by kernel_rfl,
  m18 := by kernel_rfl,
  m19 := by kernel_rfl }
end Go.Proofs.YtkdnfikaodkhnaaGreatDoor
