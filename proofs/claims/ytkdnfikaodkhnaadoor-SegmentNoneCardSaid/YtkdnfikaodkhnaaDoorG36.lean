/-
  Texts one behind the other: SegGroup, SegBadWalk.
-/
import Derived.Test.YtkdnfikaodkhnaaDoorG07
import Derived.Test.YtkdnfikaodkhnaaDoorG24
import Derived.Test.YtkdnfikaodkhnaaDoorG25
/-
  Proved: what group of law 8 returns: records of a tenant that may be.
  Conditions: the slice reads as records; the tenant is a number of 32 bits.
-/
namespace Go.Proofs.YtkdnfikaodkhnaaDoor.Rec
open Go.RowKit
set_option linter.unusedVariables false
set_option linter.unusedSimpArgs false

theorem RecAt.ten {w : World} {g : Nat} {x : Rc} (h : RecAt w g x) (t : Nat) : RecAt (w.setCell ⟨g, 1, none⟩ (.int .u32 (t : Int))) g { x with tenant := t } := Blk.put h 1 _
theorem Rc.Good.ten {x : Rc} (h : x.Good) {t : Nat} (ht : t < 4294967296) : ({ x with tenant := t } : Rc).Good := ⟨h.1, ⟨ht, h.2.1.epoch, h.2.1.object, h.2.1.seq⟩, h.2.2⟩
set_option maxRecDepth 100000 in
set_option maxHeartbeats 8000000 in
theorem group_any (A : Option Addr) (n c id : Nat) (l : List Rc) (w : World) (hid : id < 4294967296) (hR : Row w w.heap.size A (n * 6) (rflat l)) (hl : l.length = n) (hok : ∀ x ∈ l, x.Ok) (hnc : n ≤ c) (hc : c ≤ maxLen) :
    Calls Tryd.prog 15 #[.slice A n c, .int .u32 (id : Int)] w fun e w' => ∃ v, e = .returned v ∧ ∃ g, Rs w w' v g ∧ g.length ≤ 5 ∧ ∀ x ∈ g, x.Good ∧ x.tenant = id := by
  have CG := Lib.hid (good_any A n c 5 l w hR hl hok hnc hc (by decide))
  have hz := zeroRec
  have HW := Lib.hid (Below.refl w.heap.size w)
  clear hR hl hok
  go_enter Tryd.func15, Tryd.ntmps15
  go_upto_region 4 with (go_at_call 34; refine CG.out.mono ?_; rintro e w2 ⟨v2, rfl, g, hs2, hg5, hgood⟩)
  obtain ⟨A2, c2, rfl, hgc, hc2, hR2⟩ := own_row hs2.row
  have HR2 := Lib.hid hR2
  have HG := Lib.hid hgood
  have HB2 := Lib.hid hs2.below
  have hcm2 : c2 ≤ 9223372036854775807 := by unfold maxLen at hc2; exact hc2
  clear hs2 hR2 hgood hc2 CG HW
  go_loopw [5, 6] (fun v i wr => ∃ (p : Nat) (h : List Rc), i = .int .i64 (p : Int) ∧ p ≤ g.length ∧ h.length = p ∧ Hid (Rs w2 wr v h) ∧ Hid (∀ x ∈ h, x.Good ∧ x.tenant = id)) (fun _ i _ => g.length - (RowKit.intOf i).toNat)
  case atStart => exact ⟨0, [], rfl, Nat.zero_le _, rfl, Rs.nil w2, fun x h => by simp at h⟩
  case round =>
    obtain ⟨p, h, rfl, hp, hhp, HS, HH⟩ := hrel
    by_cases hlt : p < g.length
    · obtain ⟨b, o, rfl, hb, _⟩ := HR2.out.2 (by omega)
      obtain ⟨x, hx⟩ : ∃ x, g[p]? = some x := ⟨g[p]'hlt, List.getElem?_eq_getElem _⟩
      have HXG := Lib.hid (HG.out x (List.mem_of_getElem? hx))
      have HIT : Hid (wr.rangeAt b (o + p * 6) x.vals.toList) := rec_item (HR2.out.below HS.out.below) p x hx
      clear hx
      go_upto_region 7 with (first
        | (refine load_recM HIT.out rfl (.tmp 18) rfl rfl ?_)
        | (refine store_recN (zero_new wr) rfl rfl (.tmp 7) (.tmp 19) rfl rfl x rfl rfl ?_; intro w3 X3 G3))
      have HS3 := rs_store HS.out G3.out
      have y1 : w3.cell? ⟨wr.heap.size, 1, none⟩ = some (.int .u32 (x.tenant : Int)) := X3.out.cell 1
      have f1 : w3.frozen? ⟨wr.heap.size, 1, none⟩ = false := X3.out.free 1
      have hw3 : wr.heap.size < w3.heap.size := X3.out.lt
      have hrs : w2.heap.size ≤ wr.heap.size := HS.out.below.size
      go_upto_region 8 with fail
      obtain ⟨w4, hw4⟩ : ∃ w4, w4 = w3.setCell ⟨wr.heap.size, 1, none⟩ (.int .u32 (id : Int)) := ⟨_, rfl⟩
      have X4 : Hid (RecAt w4 wr.heap.size { x with tenant := id }) := by rw [hw4]; exact X3.out.ten id
      have HS4 : Hid (Rs w2 w4 u5 h) := by
        have hg4 : w3.grownBy w4 (some wr.heap.size) := by rw [hw4]; exact only_setCell w3 ⟨wr.heap.size, 1, none⟩ _
        refine ⟨HS3.out.row.kept hg4 ?_, below_only HS3.out.below hg4 hrs HS3.out.below.size⟩
        rcases HS.out.row.2 with ⟨h0, _⟩ | ⟨g', c', u', hv, _, hg', _⟩
        · exact .inl (by rw [h0]; rfl)
        · refine .inr ?_
          rw [hv]
          intro e
          have e : g' = wr.heap.size := by simpa [Value.ownBlock] using e
          rw [e, Array.getElem?_eq_none (Nat.le_refl _)] at hg'
          cases hg'
      rw [← hw4]
      clear hw4 y1 f1 X3 G3 HS3
      obtain ⟨z, hz'⟩ : ∃ z : Rc, z = { x with tenant := id } := ⟨_, rfl⟩
      have HZG : Hid (z.Good ∧ z.tenant = id) := by rw [hz']; exact ⟨HXG.out.ten hid, rfl⟩
      rw [← hz'] at X4
      clear hz'
      have HS5 := Lib.hid (HS4.out.all (below_alloc w4 (.cells z.vals 33)))
      have HONE := Lib.hid (rec_cells1 w4 33 (0, 0) z)
      have hl6 : h.length ≤ 1000000 := by omega
      go_wp2_with (first
        | (refine load_rec X4.out rfl (.tmp 7) rfl rfl ?_)
        | (refine build_oneRec rfl (.tmp 23) rfl (some 24) rfl z rfl ?_)
        | (at_builtin; refine rs_append HS5.out rfl (.tmp 22) (.tmp 24) rfl rfl w4.heap.size 1 z rfl HONE.out hl6 ?_; intro v6 w6 HS6))
      go_roundw
      case rel =>
        refine ⟨p + 1, h ++ [z], by go_num, by omega, by rw [List.length_append]; show h.length + 1 = p + 1; omega, HS6, fun y hy => ?_⟩
        rcases List.mem_append.1 hy with hy | hy
        · exact HH.out y hy
        · obtain rfl := List.mem_singleton.1 hy
          exact HZG.out
      case measure => (simp [RowKit.intOf]; omega)
    · go_wp2_with fail
      go_ret
      refine ⟨_, rfl, h, ⟨HS.out.row.mono HB2.out.size, HB2.out.trans (HS.out.below.mono HB2.out.size)⟩, by omega, HH.out⟩
end Go.Proofs.YtkdnfikaodkhnaaDoor.Rec
/-
  Proved: SegmentBad returns true, whatever it is handed, where a segment keeps its face.
-/
namespace Go.Proofs.YtkdnfikaodkhnaaDoor.Seg
open Go.RowKit Go.Proofs.YtkdnfikaodkhnaaDoor.Disk Go.Proofs.YtkdnfikaodkhnaaDoor.Rec
set_option linter.unusedVariables false
set_option linter.unusedSimpArgs false

def FitB (id : Nat) (l : List Rc) : Prop := ∀ x ∈ l, x.May ∧ x.tenant = id
instance (id : Nat) (l : List Rc) : Decidable (FitB id l) := by unfold FitB; exact inferInstance
theorem fitB_snoc (id : Nat) (h : List Rc) (z : Rc) : decide (FitB id (h ++ [z])) = (decide (FitB id h) && z.may && decide (z.tenant = id)) := by
  have e : FitB id (h ++ [z]) ↔ (FitB id h ∧ z.May) ∧ z.tenant = id := by
    unfold FitB
    constructor
    · intro k
      exact ⟨⟨fun x hx => k x (List.mem_append.2 (.inl hx)), (k z (by simp)).1⟩, (k z (by simp)).2⟩
    · rintro ⟨⟨k1, k2⟩, k3⟩ x hx
      rcases List.mem_append.1 hx with hx | hx
      · exact k1 x hx
      · obtain rfl := List.mem_singleton.1 hx
        exact ⟨k2, k3⟩
  unfold Rc.may
  rw [decide_eq_decide.2 e, Bool.decide_and, Bool.decide_and]
def zOf (id p : Nat) (x : Rc) : Rc := if p % 2 = 0 then { x.cut 100 with tenant := id } else x.cut 100
theorem zOf_ok {id p : Nat} {x : Rc} (hid : id < 4294967296) (hx : x.Ok) : (zOf id p x).Ok ∧ (zOf id p x).body.length ≤ 100 := by
  have hc := hx.cut 100 (by decide)
  unfold zOf
  split
  · exact ⟨⟨hc.kind, ⟨hid, hc.fits.epoch, hc.fits.object, hc.fits.seq⟩, hc.body⟩, cut_small x 100⟩
  · exact ⟨hc, cut_small x 100⟩
theorem rs_free {own : Own} {w0 w : World} {v : Value} {l : List Rc} (ht : ∀ b q, own b = some q → b < w0.heap.size) (h : Rs w0 w v l) : ∃ A c, v = .slice A l.length c ∧ l.length ≤ c ∧ c ≤ maxLen ∧ Free own w A (l.length * 6) (rflat l) :=
  Grow.form (own := own) (base := w0.heap.size) ⟨h.row, fun g hg => by
    cases ho : own g with
    | none => rfl
    | some q => have := ht g q ho; have := (h.row.lt g hg).1; omega⟩
theorem cat_small {h : List Rc} (k : ∀ x ∈ h, x.May ∧ x.body.length ≤ 100) : (cat h).length ≤ h.length * 139 := by
  induction h with
  | nil => exact Nat.zero_le _
  | cons x h ih =>
    rw [cat_cons, List.length_append, enc_length x (k x (by simp)).1, List.length_cons]
    have := ih (fun y hy => k y (by simp [hy]))
    have := (k x (by simp)).2
    omega
set_option maxRecDepth 100000 in
set_option maxHeartbeats 8000000 in
theorem segmentBad_walk {SG : Own → World → World → Sv → Prop} (F : Face SG) (id : Nat) (hid : id < 4294967296) (A : Option Addr) (n c : Nat) (w : World) (hT : Tabs w) (hA : (∃ l : List Rc, l.length = n ∧ (∀ y ∈ l, y.Ok) ∧ Row w w.heap.size A (n * 6) (rflat l))) (hn : n ≤ c) (hc : c ≤ maxLen)
    (HBEG : Hid (Calls Tryd.prog 7 #[] w fun e w' => e = .returned (.bool true) ∧ Below w.heap.size w w')) :
    Calls Tryd.prog 3 #[.int .u32 (id : Int), .slice A n c] w fun e w' => e = .returned (.bool true) ∧ Below w.heap.size w w' := by
  obtain ⟨l, hl, hok, hR⟩ := hA
  have hcm : c ≤ 9223372036854775807 := by unfold maxLen at hc; exact hc
  have HT := Lib.hid hT
  have HF := Lib.hid F
  have HR := Lib.hid hR
  have HL := Lib.hid hl
  have HOK := Lib.hid hok
  have hz := zeroRec
  clear F hT hR hl hok hc
  go_enter Tryd.func3, Tryd.ntmps3
  go_upto_region 4 with (go_at_call 7; refine HBEG.out.mono ?_; rintro e w1 ⟨rfl, hb1⟩; have HB1 := Lib.hid hb1; clear hb1)
  have CN := Lib.hid (new_held 1048576 w1)
  rw [show room 1048576 = 1048576 by decide] at CN
  have HT1 := Lib.hid (Tabs.below HT.out HB1.out rfl)
  go_upto_region 5 with (go_at_call 8; refine CN.out.mono ?_; rintro e w2 ⟨own2, f, rfl, hd2⟩)
  have CC := Lib.hid (HF.out.create (id := id) (num := 1) HT1.out hd2 (St.new 1048576) hid (by decide) (by decide))
  have HB2 : Hid (Below w1.heap.size w1 w2) := hd2.below
  clear CN hd2
  go_upto_region 8 with (go_at_call 9; refine CC.out.mono ?_; rintro e w3 ⟨own3, sg, g, K3, rfl, hK3, hs3, hf3⟩)
  have HS3 := Lib.hid hs3
  have HB3 : Hid (Below w.heap.size w w3) := HB1.out.trans ((HF.out.below hs3).mono HB1.out.size)
  clear CC hs3 hf3 HBEG HB2
  go_upto_region 11 with fail
  go_loopw [9, 10, 11] (fun m o i wr => ∃ (p : Nat) (h : List Rc) (t : Bool), i = .int .i64 (p : Int) ∧ p ≤ n ∧ p ≤ 6 ∧ h.length = p ∧ o = .bool t ∧ Hid (t = decide (FitB id h)) ∧ Hid (∀ y ∈ h, y.Ok ∧ y.body.length ≤ 100) ∧ Hid (Rs w3 wr m h)) (fun _ _ i _ => n - (RowKit.intOf i).toNat)
  case atStart => exact ⟨0, [], true, rfl, Nat.zero_le _, Nat.zero_le _, rfl, rfl, by show _ = _; rw [decide_eq_true (show FitB id [] from fun x h => by simp at h)], fun y h => by simp at h, Rs.nil w3⟩
  case round =>
    obtain ⟨p, h, t, rfl, hp, hp6, hhp, rfl, HTT, HH, HS⟩ := hrel
    by_cases hlt : p < n ∧ p < 6
    · obtain ⟨hlt1, hlt2⟩ := hlt
      have hlt2' : (p : Int) < 6 := by omega
      obtain ⟨b, o, rfl, hb, _⟩ := HR.out.2 (by omega)
      obtain ⟨x, hx⟩ : ∃ x, l[p]? = some x := ⟨l[p]'(by rw [HL.out]; exact hlt1), List.getElem?_eq_getElem _⟩
      have HXO := Lib.hid (HOK.out x (List.mem_of_getElem? hx))
      have HIT : Hid (wr.rangeAt b (o + p * 6) x.vals.toList) := rec_item (HR.out.below (HB3.out.trans (HS.out.below.mono HB3.out.size))) p x hx
      have CC := Lib.hid (cut_any x 100 wr HXO.out.body (by decide))
      obtain ⟨y, hy⟩ : ∃ y, y = x.cut 100 := ⟨_, rfl⟩
      rw [← hy] at CC
      have HYY := Lib.hid hy
      clear hx hy
      go_upto_region 14 with (first
        | (refine load_recM HIT.out rfl (.tmp 38) rfl rfl ?_)
        | (go_at_call 10; refine CC.out.mono ?_; rintro e w4 ⟨rfl, hb4⟩; have HS4 := Lib.hid (HS.out.all hb4); clear hb4)
        | (refine store_recN (zero_new w4) rfl rfl (.tmp 12) (.tmp 40) rfl rfl y rfl rfl ?_; intro w5 X5 G5))
      have HS5 := rs_store HS4.out G5.out
      have hrs : w3.heap.size ≤ w4.heap.size := HS4.out.below.size
      have hw5 : w4.heap.size < w5.heap.size := X5.out.lt
      obtain ⟨b2, hb2⟩ : ∃ b2, b2 = decide (p % 2 = 0) := ⟨_, rfl⟩
      have r2 : ((p : Int) % 2 == 0) = b2 := by
        rw [hb2]
        by_cases h : p % 2 = 0
        · rw [decide_eq_true h]; exact beq_iff_eq.2 (by omega)
        · rw [decide_eq_false h]; exact beq_eq_false_iff_ne.2 (by omega)
      have r1 : ((p : Int).tmod 2 == 0) = b2 := by rw [Int.tmod_eq_emod_of_nonneg (by omega)]; exact r2
      have HB2 := Lib.hid hb2
      have hpar := HB2.out
      clear hb2 hpar G5
      go_upto_if 43 with fail
      clear r1 r2
      go_cut [12] (fun v w' => v = .pointer (some ⟨w4.heap.size, 0, none⟩) ∧ w4.heap.size < w'.heap.size ∧ Hid (RecAt w' w4.heap.size (zOf id p x)) ∧ Hid (Rs w3 w' u9 h))
      case first =>
        cases b2 with
        | false =>
          have hz' : y = zOf id p x := by unfold zOf; rw [if_neg (of_decide_eq_false HB2.out.symm)]; exact HYY.out
          have X6 : Hid (RecAt w5 w4.heap.size (zOf id p x)) := by rw [← hz']; exact X5.out
          clear hz'
          go_wp2_with fail
          go_meet
          case rel => exact ⟨rfl, hw5, X6, HS5⟩
        | true =>
          have hz' : ({ y with tenant := id } : Rc) = zOf id p x := by unfold zOf; rw [if_pos (of_decide_eq_true HB2.out.symm), HYY.out]
          have y1 : w5.cell? ⟨w4.heap.size, 1, none⟩ = some (.int .u32 (y.tenant : Int)) := X5.out.cell 1
          have f1 : w5.frozen? ⟨w4.heap.size, 1, none⟩ = false := X5.out.free 1
          have X6 : Hid (RecAt (w5.setCell ⟨w4.heap.size, 1, none⟩ (.int .u32 (id : Int))) w4.heap.size (zOf id p x)) := by rw [← hz']; exact X5.out.ten id
          have HS6 : Hid (Rs w3 (w5.setCell ⟨w4.heap.size, 1, none⟩ (.int .u32 (id : Int))) u9 h) := by
            have hg4 : w5.grownBy (w5.setCell ⟨w4.heap.size, 1, none⟩ (.int .u32 (id : Int))) (some w4.heap.size) := only_setCell w5 ⟨w4.heap.size, 1, none⟩ _
            refine ⟨HS5.out.row.kept hg4 ?_, below_only HS5.out.below hg4 hrs HS5.out.below.size⟩
            rcases HS4.out.row.2 with ⟨h0, _⟩ | ⟨g', c', u', hv, _, hg', _⟩
            · exact .inl (by rw [h0]; rfl)
            · refine .inr ?_
              rw [hv]
              intro e
              have e : g' = w4.heap.size := by simpa [Value.ownBlock] using e
              rw [e, Array.getElem?_eq_none (Nat.le_refl _)] at hg'
              cases hg'
          have hsz : w4.heap.size < (w5.setCell ⟨w4.heap.size, 1, none⟩ (.int .u32 (id : Int))).heap.size := X6.out.lt
          clear hz'
          go_wp2_with fail
          go_meet
          case rel => exact ⟨rfl, hsz, X6, HS6⟩
      case rest =>
      obtain ⟨rfl, hlt7, X7, HS7⟩ := hcut
      obtain ⟨hzok, hz100⟩ := zOf_ok (p := p) hid HXO.out
      obtain ⟨z, hz'⟩ : ∃ z, z = zOf id p x := ⟨_, rfl⟩
      rw [← hz'] at X7 hzok hz100
      have HZO := Lib.hid hzok
      have CM : Hid (∀ W, Calls Tryd.prog 11 #[.agg z.vals] W fun e w' => e = .returned (.bool z.may) ∧ Below W.heap.size W w') := fun W => refmay_any z W HZO.out.body
      have HZL := Lib.hid hz100
      obtain ⟨t2, ht2⟩ : ∃ t2, t2 = (t && z.may && decide (z.tenant = id)) := ⟨_, rfl⟩
      have HT2 : Hid (t2 = decide (FitB id (h ++ [z]))) := by show _ = _; rw [ht2, fitB_snoc, ← HTT.out]
      have HTD := Lib.hid ht2
      clear hz' hzok hz100 ht2 X5 HS4 HS5 HIT CC
      obtain ⟨m2, hm2⟩ : ∃ m2, m2 = z.may := ⟨_, rfl⟩
      obtain ⟨q2, hq2⟩ : ∃ q2, q2 = decide (z.tenant = id) := ⟨_, rfl⟩
      have dq : ((z.tenant : Int) == (id : Int)) = q2 := by
        rw [hq2]
        by_cases h : z.tenant = id
        · rw [decide_eq_true h]; exact beq_iff_eq.2 (by omega)
        · rw [decide_eq_false h]; exact beq_eq_false_iff_ne.2 (by omega)
      rw [← hm2] at CM HTD
      rw [← hq2] at HTD
      clear hm2 hq2
      go_upto_region 16 with fail
      go_cut [10] (fun v w' => v = .bool t2 ∧ w4.heap.size < w'.heap.size ∧ Hid (RecAt w' w4.heap.size z) ∧ Hid (Rs w3 w' u9 h))
      case first =>
        have z1 : ∀ W, RecAt W w4.heap.size z → W.cell? ⟨w4.heap.size, 1, none⟩ = some (.int .u32 (z.tenant : Int)) := fun W h => h.cell 1
        cases t with
        | false =>
          have ht2 : t2 = false := by rw [HTD.out]; rfl
          have HT2F := Lib.hid ht2
          clear ht2 z1
          go_wp2_with fail
          go_meet
          case rel => exact ⟨by rw [HT2F.out], hlt7, X7, HS7⟩
        | true =>
          cases m2 with
          | false =>
            have ht2 : t2 = false := by rw [HTD.out]; rfl
            have HT2F := Lib.hid ht2
            clear ht2 z1
            go_wp2_with (first
              | (refine load_recG X7.out (by rfl) (.tmp 12) rfl rfl ?_)
              | (go_at_call 11; refine (CM.out _).mono ?_; rintro e w8 ⟨rfl, hb8⟩; have X8 := Lib.hid (X7.out.below hb8 hlt7); have HS8 := Lib.hid (HS7.out.all hb8); have hlt8 := Nat.lt_of_lt_of_le hlt7 hb8.size; clear hb8))
            go_meet
            case rel => exact ⟨by rw [HT2F.out], hlt8, X8, HS8⟩
          | true =>
            have ht2 : t2 = q2 := by rw [HTD.out]; simp
            have HT2F := Lib.hid ht2
            clear ht2
            go_wp2_with (first
              | (refine load_recG X7.out (by rfl) (.tmp 12) rfl rfl ?_)
              | (go_at_call 11; refine (CM.out _).mono ?_; rintro e w8 ⟨rfl, hb8⟩; have X8 := Lib.hid (X7.out.below hb8 hlt7); have HS8 := Lib.hid (HS7.out.all hb8); have hlt8 := Nat.lt_of_lt_of_le hlt7 hb8.size; have zc := z1 _ X8.out; clear hb8))
            go_meet
            case rel => exact ⟨by rw [HT2F.out], hlt8, X8, HS8⟩
      case rest =>
      obtain ⟨rfl, hlt9, X9, HS9⟩ := hcut
      have HS10 := Lib.hid (HS9.out.all (below_alloc _ (.cells z.vals 33)))
      have HONE : Hid (∀ W : World, ∀ j u, z.vals.toList[j]? = some u → (W.alloc (.cells z.vals 33 (0, 0))).cell? ⟨W.heap.size, j, none⟩ = some u) := fun W => rec_cells1 W 33 (0, 0) z
      have hl6 : h.length ≤ 1000000 := by omega
      go_wp2_with (first
        | (refine load_rec X9.out rfl (.tmp 12) rfl rfl ?_)
        | (refine build_oneRec rfl (.tmp 58) rfl (some 59) rfl z rfl ?_)
        | (at_builtin; refine rs_append HS10.out rfl (.tmp 57) (.tmp 59) rfl rfl _ 1 z rfl (HONE.out _) hl6 ?_; intro v11 w11 HS11))
      go_roundw
      case rel =>
        refine ⟨p + 1, h ++ [z], t2, by go_num, by omega, by omega, by rw [List.length_append]; show h.length + 1 = p + 1; omega, rfl, HT2, fun y hy => ?_, HS11⟩
        rcases List.mem_append.1 hy with hy | hy
        · exact HH.out y hy
        · obtain rfl := List.mem_singleton.1 hy
          exact ⟨HZO.out, HZL.out⟩
      case measure => (simp [RowKit.intOf]; omega)
    · obtain ⟨A2, c2, rfl, hc2, hcm2, hfree⟩ := rs_free (HF.out.top HS3.out) HS.out
      have hSG := HF.out.all HS3.out HS.out.below
      have HB9 : Hid (Below w.heap.size w wr) := HB3.out.trans (HS.out.below.mono HB3.out.size)
      have hrm : (⟨f, sg, id, 1, 1048576, [(segName id 1, g)], [(segName id 1, g)], [], g, emptyFl, K3⟩ : Sv).rm = 1048576 := rfl
      rw [hhp] at hc2 hfree
      rw [hhp]
      have hex : decide ((p : Int) < (n : Int)) = false ∨ decide ((p : Int) < 6) = false := by
        by_cases h1 : p < n
        · exact .inr (decide_eq_false (by omega))
        · exact .inl (decide_eq_false (by omega))
      by_cases hgo : t = true ∧ 0 < p
      · obtain ⟨rfl, hp0⟩ := hgo
        have hfit : FitB id h := of_decide_eq_true HTT.out.symm
        have CA := Lib.hid (HF.out.append_ok (g0 := []) HT1.out hSG rfl (fun x hx => by simp at hx) (fun x hx => ⟨(hfit x hx).1, (HH.out x hx).1.fits, (hfit x hx).2⟩) hhp hp0 (by omega) hc2 hcm2 hfree (by
          have := cat_small (h := h) (fun x hx => ⟨(hfit x hx).1, (HH.out x hx).2⟩)
          rw [List.nil_append]
          show ((cat h).length : Int) ≤ 1048576
          omega) (show K3 + 8 ≤ 1073741824 by omega))
        have hp0' : (0 : Int) < (p : Int) := by omega
        clear hSG hfree hfit hrm
        by_cases h1 : p < n
        · have h6 : ¬ (p : Int) < 6 := by omega
          go_wp2_with (go_at_call 12; refine CA.out.mono ?_; rintro e w20 ⟨own', P, cp, L, K', rfl, _, _, _, _, hs20, _⟩; have HB20 := Lib.hid (HF.out.below hs20); clear hs20)
          go_ret
          exact ⟨rfl, HB1.out.trans (HB20.out.mono HB1.out.size)⟩
        · go_wp2_with (go_at_call 12; refine CA.out.mono ?_; rintro e w20 ⟨own', P, cp, L, K', rfl, _, _, _, _, hs20, _⟩; have HB20 := Lib.hid (HF.out.below hs20); clear hs20)
          go_ret
          exact ⟨rfl, HB1.out.trans (HB20.out.mono HB1.out.size)⟩
      · have hnf : ¬ (0 < p ∧ Fit id h) := fun k => hgo ⟨by rw [HTT.out, decide_eq_true (show FitB id h from fun x hx => ⟨(k.2 x hx).1, (k.2 x hx).2.2⟩)], k.1⟩
        have CA := Lib.hid (HF.out.append_form (g0 := []) HT1.out hSG rfl (fun x hx => by simp at hx) hnf (fun x hx => (HH.out x hx).1) hhp (by omega) hc2 hcm2 hfree (show K3 + 8 ≤ 1073741824 by omega))
        have ht9 : (t && decide ((0 : Int) < (p : Int))) = false := by
          cases t with
          | false => rfl
          | true =>
            rw [Bool.true_and]
            exact decide_eq_false (fun k => hgo ⟨rfl, by omega⟩)
        have ht10 : t = false ∨ ¬ (0 : Int) < (p : Int) := by
          cases t with
          | false => exact .inl rfl
          | true => exact .inr (fun k => hgo ⟨rfl, by omega⟩)
        clear hSG hfree hnf hrm hgo
        have HRS : Hid (∀ own W K', SG own w1 W ⟨f, sg, id, 1, 1048576, [(segName id 1, g)], [(segName id 1, g)], [], g, emptyFl, K'⟩ → K' + 8 ≤ 1073741824 → Calls Tryd.prog 14 #[ptr sg] W fun e w' => ∃ A c, e = .returned (.slice A 0 c) ∧ Below w1.heap.size w1 w') := fun own W K' hs hK => by
          refine (HF.out.records HT1.out hs hK).mono ?_
          rintro e w' ⟨own', A, c, K2, rfl, _, _, _, _, hs2, _⟩
          have e0 : (ownOf id (frontFrom 0 emptyFl.now)).length = 0 := by
            show (ownOf id (frontFrom 0 [])).length = 0
            rw [front_nil]
            rfl
          refine ⟨A, c, ?_, HF.out.below hs2⟩
          show Ending.returned (.slice A (ownOf id (frontFrom 0 emptyFl.now)).length c) = _
          rw [e0]
        have HSZ : Hid (∀ own W K', SG own w1 W ⟨f, sg, id, 1, 1048576, [(segName id 1, g)], [(segName id 1, g)], [], g, emptyFl, K'⟩ → Calls Tryd.prog 13 #[ptr sg] W fun e w' => e = .returned (.int .i64 0) ∧ Below W.heap.size W w') := fun own W K' hs => (HF.out.size hs)
        by_cases h1 : p < n
        · have h6 : ¬ (p : Int) < 6 := by omega
          rcases ht10 with rfl | hp0
          · go_wp2_with (first
              | (go_at_call 12; refine CA.out.mono ?_; rintro e w20 ⟨own', P, cp, K', rfl, hK20, hs20, _⟩; have HS20 := Lib.hid hs20; clear hs20)
              | (go_at_call 13; refine (HSZ.out _ _ _ HS20.out).mono ?_; rintro e w21 ⟨rfl, hb21⟩; have HS21 := Lib.hid (HF.out.all HS20.out hb21); clear hb21)
              | (go_at_call 14; refine (HRS.out _ _ _ HS21.out (by have h : K' ≤ K3 + 8 := hK20; omega)).mono ?_; rintro e w22 ⟨A22, c22, rfl, hb22⟩; have HB22 := Lib.hid hb22; clear hb22))
            go_ret
            exact ⟨rfl, HB1.out.trans (HB22.out.mono HB1.out.size)⟩
          · exfalso
            omega
        · rcases ht10 with rfl | hp0
          · go_wp2_with (first
              | (go_at_call 12; refine CA.out.mono ?_; rintro e w20 ⟨own', P, cp, K', rfl, hK20, hs20, _⟩; have HS20 := Lib.hid hs20; clear hs20)
              | (go_at_call 13; refine (HSZ.out _ _ _ HS20.out).mono ?_; rintro e w21 ⟨rfl, hb21⟩; have HS21 := Lib.hid (HF.out.all HS20.out hb21); clear hb21)
              | (go_at_call 14; refine (HRS.out _ _ _ HS21.out (by have h : K' ≤ K3 + 8 := hK20; omega)).mono ?_; rintro e w22 ⟨A22, c22, rfl, hb22⟩; have HB22 := Lib.hid hb22; clear hb22))
            go_ret
            exact ⟨rfl, HB1.out.trans (HB22.out.mono HB1.out.size)⟩
          · cases t with
            | false =>
              go_wp2_with (first
                | (go_at_call 12; refine CA.out.mono ?_; rintro e w20 ⟨own', P, cp, K', rfl, hK20, hs20, _⟩; have HS20 := Lib.hid hs20; clear hs20)
                | (go_at_call 13; refine (HSZ.out _ _ _ HS20.out).mono ?_; rintro e w21 ⟨rfl, hb21⟩; have HS21 := Lib.hid (HF.out.all HS20.out hb21); clear hb21)
                | (go_at_call 14; refine (HRS.out _ _ _ HS21.out (by have h : K' ≤ K3 + 8 := hK20; omega)).mono ?_; rintro e w22 ⟨A22, c22, rfl, hb22⟩; have HB22 := Lib.hid hb22; clear hb22))
              go_ret
              exact ⟨rfl, HB1.out.trans (HB22.out.mono HB1.out.size)⟩
            | true =>
              go_wp2_with (first
                | (go_at_call 12; refine CA.out.mono ?_; rintro e w20 ⟨own', P, cp, K', rfl, hK20, hs20, _⟩; have HS20 := Lib.hid hs20; clear hs20)
                | (go_at_call 13; refine (HSZ.out _ _ _ HS20.out).mono ?_; rintro e w21 ⟨rfl, hb21⟩; have HS21 := Lib.hid (HF.out.all HS20.out hb21); clear hb21)
                | (go_at_call 14; refine (HRS.out _ _ _ HS21.out (by have h : K' ≤ K3 + 8 := hK20; omega)).mono ?_; rintro e w22 ⟨A22, c22, rfl, hb22⟩; have HB22 := Lib.hid hb22; clear hb22))
              go_ret
              exact ⟨rfl, HB1.out.trans (HB22.out.mono HB1.out.size)⟩
end Go.Proofs.YtkdnfikaodkhnaaDoor.Seg
