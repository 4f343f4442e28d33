/-
  Texts one behind the other: SegAnyWalk.
-/
import Derived.Test.YtkdnfikaodkhnaaDoorG23
import Derived.Test.YtkdnfikaodkhnaaDoorG26
import Derived.Test.YtkdnfikaodkhnaaDoorG30
import Derived.Test.YtkdnfikaodkhnaaDoorG36
import Derived.Test.YtkdnfikaodkhnaaDoorG37
/-
  Proved: SegmentAny returns true, whatever it is handed, where a segment keeps its face.
-/
namespace Go.Proofs.YtkdnfikaodkhnaaDoor.Seg
open Go.RowKit Go.Proofs.YtkdnfikaodkhnaaDoor.Disk Go.Proofs.YtkdnfikaodkhnaaDoor.Rec
set_option linter.unusedVariables false
set_option linter.unusedSimpArgs false

/-- A text that is read to its end is its records, one behind the other. -/
theorem front_cat_all (bs : List UInt8) : ∀ (f p : Nat), bs.length ≤ p + f → p ≤ bs.length → endOf p (frontFrom p bs) = bs.length → bs.drop p = cat ((frontFrom p bs).map (·.2)) ∧ ∀ q ∈ frontFrom p bs, q.2.May ∧ q.2.Fits := by
  intro f
  induction f with
  | zero =>
    intro p h1 h2 h3
    rcases out_ok (dec (bs.drop p)) with ⟨x, m, hd⟩ | ⟨e, _, _, hno⟩
    · have k1 := (dec_ok hd).1
      have k2 := (dec_ok hd).2.1
      rw [List.length_drop] at k2
      omega
    · rw [frontFrom_no hno]
      exact ⟨by rw [List.drop_eq_nil_of_le (by omega)]; rfl, fun q hq => by simp at hq⟩
  | succ f ih =>
    intro p h1 h2 h3
    rcases out_ok (dec (bs.drop p)) with ⟨x, m, hd⟩ | ⟨e, _, _, hno⟩
    · obtain ⟨k1, k2, k3, k4, k5⟩ := dec_ok hd
      rw [List.length_drop] at k2
      rw [front_end hd] at h3
      obtain ⟨i1, i2⟩ := ih (p + m) (by omega) (by omega) h3
      rw [frontFrom_ok hd]
      refine ⟨?_, fun q hq => ?_⟩
      · show bs.drop p = enc x ++ cat ((frontFrom (p + m) bs).map (·.2))
        rw [← i1, enc_may k3, k5, ← List.drop_drop, List.take_append_drop]
      · rcases List.mem_cons.1 hq with rfl | hq
        · exact ⟨k3, k4⟩
        · exact i2 q hq
    · rw [frontFrom_no hno] at h3 ⊢
      have h3 : p = bs.length := h3
      exact ⟨by rw [List.drop_eq_nil_of_le (by omega)]; rfl, fun q hq => by simp at hq⟩
theorem fd_free {own : Own} {w0 w : World} {e : TypeId} {v : Value} {l : List (Nat × Rc)} (ht : ∀ b q, own b = some q → b < w0.heap.size) (h : Rec.Fd w0 e w v l) : ∃ A c, v = .slice A l.length c ∧ l.length ≤ c ∧ c ≤ maxLen ∧ Free own w A (l.length * 7) (flat l) :=
  Grow.form (own := own) (base := w0.heap.size) ⟨h.row, fun g hg => by
    cases ho : own g with
    | none => rfl
    | some q => have := ht g q ho; have := (h.row.lt g hg).1; omega⟩
theorem ref_size : (Tryd.prog.info? 54).map (·.size) = some 7 := by kernel_rfl
def rB (id : Nat) : Rc := ⟨2, id, 0, 0, 0, []⟩
theorem rB_fit (id : Nat) (h : id < 4294967296) : Fit id [rB id] := by
  intro x hx
  obtain rfl := List.mem_singleton.1 hx
  exact ⟨⟨by show (1 : Int) ≤ 2; decide, by show (2 : Int) ≤ 4; decide, Nat.zero_le _, Nat.zero_le _, Nat.zero_le _, Nat.zero_le _⟩, ⟨h, by show 0 < _; decide, by show 0 < _; decide, by show 0 < _; decide⟩, rfl⟩
theorem front_count' (bs : List UInt8) : (frontFrom 0 bs).length ≤ bs.length := by
  have h : ∀ (f p : Nat), bs.length ≤ p + f → p ≤ bs.length → (frontFrom p bs).length + p ≤ bs.length := by
    intro f
    induction f with
    | zero =>
      intro p h1 h2
      rcases out_ok (dec (bs.drop p)) with ⟨x, m, hd⟩ | ⟨e, _, _, hno⟩
      · have k1 := (dec_ok hd).1
        have k2 := (dec_ok hd).2.1
        rw [List.length_drop] at k2
        omega
      · rw [frontFrom_no hno]; simpa using h2
    | succ f ih =>
      intro p h1 h2
      rcases out_ok (dec (bs.drop p)) with ⟨x, m, hd⟩ | ⟨e, _, _, hno⟩
      · have k1 := (dec_ok hd).1
        have k2 := (dec_ok hd).2.1
        rw [List.length_drop] at k2
        rw [frontFrom_ok hd, List.length_cons]
        have := ih (p + m) (by omega) (by omega)
        omega
      · rw [frontFrom_no hno]; simpa using h2
  have := h bs.length 0 (by omega) (Nat.zero_le _)
  omega
set_option maxRecDepth 100000 in
set_option maxHeartbeats 8000000 in
theorem segmentAny_walk {SG : Own → World → World → Sv → Prop} (F : Face SG) (id : Nat) (hid : id < 4294967296) (A : Option Addr) (n c : Nat) (B : Option Addr) (rn rc : Nat) (rest : List UInt8) (cut : Int) (w : World) (hT : Tabs w) (hA : (∃ l : List Rc, l.length = n ∧ (∀ y ∈ l, y.Ok) ∧ Row w w.heap.size A (n * 6) (rflat l))) (hn : n ≤ c) (hc : c ≤ maxLen)
    (hB : Row w w.heap.size B rn (bvs rest)) (hrn : rn ≤ rc) (hrc : rc ≤ maxLen) (hcut : -9223372036854775808 ≤ cut ∧ cut ≤ 9223372036854775807) :
    Calls Tryd.prog 4 #[.int .u32 (id : Int), .slice A n c, .slice B rn rc, .int .i64 cut] w fun e w' => e = .returned (.bool true) ∧ Below w.heap.size w w' := by
  obtain ⟨l, hl, hok, hR⟩ := hA
  obtain ⟨hcut1, hcut2⟩ := hcut
  have HT := Lib.hid hT
  have HF := Lib.hid F
  have HBEG := Lib.hid (segbegun_any F w hT)
  have CG : Hid (∀ W, Below w.heap.size w W → Calls Tryd.prog 15 #[.slice A n c, .int .u32 (id : Int)] W fun e w' => ∃ v, e = .returned v ∧ ∃ g, Rs W w' v g ∧ g.length ≤ 5 ∧ ∀ x ∈ g, x.Good ∧ x.tenant = id) := fun W hW =>
    group_any A n c id l W hid ((hR.below hW).more hW.size) hl hok hn hc
  have CS : Hid (∀ W, Calls Tryd.prog 17 #[.slice B rn rc, .int .i64 40] W fun e w' => e = .returned (.slice B (min rn 40) rc) ∧ W = w') := fun W => Com.short_any B rn rc 40 W hrn hrc
  have HBR := Lib.hid hB
  have hz := zeroRec
  clear F hT hR hl hok hc hB
  go_enter Tryd.func4, Tryd.ntmps4
  go_upto_region 5 with (first
    | (go_at_call 7; refine HBEG.out.mono ?_; rintro e w1 ⟨rfl, hb1⟩; have HB1 := Lib.hid hb1; clear hb1)
    | (go_at_call 15; refine (CG.out _ HB1.out).mono ?_; rintro e w2 ⟨v2, rfl, g, hs2, hg5, hgood⟩))
  have HB2 : Hid (Below w.heap.size w w2) := HB1.out.trans (hs2.below.mono HB1.out.size)
  obtain ⟨A2, c2, rfl, hgc, hc2, hR2⟩ := own_row hs2.row
  have HR2 := Lib.hid hR2
  have HG := Lib.hid hgood
  have hcm2 : c2 ≤ 9223372036854775807 := by unfold maxLen at hc2; exact hc2
  clear hs2 hR2 hgood hc2 CG HBEG HB1
  go_upto_region 7 with fail
  go_loopw [11, 12] (fun v i wr => ∃ (p : Nat) (bs : List UInt8), i = .int .i64 (p : Int) ∧ p ≤ g.length ∧ bs.length ≤ p * 239 ∧ Hid (Bf w2 wr v bs)) (fun _ i _ => g.length - (RowKit.intOf i).toNat)
  case atStart => exact ⟨0, [], rfl, Nat.zero_le _, Nat.zero_le _, Bf.nil w2⟩
  case round =>
    obtain ⟨p, bs, rfl, hp, hbl, HBF⟩ := hrel
    by_cases hlt : p < g.length
    · obtain ⟨b, o, rfl, hb, _⟩ := HR2.out.2 (by omega)
      obtain ⟨x, hx⟩ : ∃ x, g[p]? = some x := ⟨g[p]'hlt, List.getElem?_eq_getElem _⟩
      obtain ⟨⟨hxm, hxf, hxl⟩, _⟩ := HG.out x (List.mem_of_getElem? hx)
      have HIT : Hid (wr.rangeAt b (o + p * 6) x.vals.toList) := rec_item (HR2.out.below HBF.out.below) p x hx
      have CE : Hid (∀ W, Calls Tryd.prog 16 #[.agg x.vals] W fun e w' => ∃ u, e = .returned u ∧ w'.ownsRow W.heap.size 5 1 u (enc x).length (bvs (enc x)) ∧ Below W.heap.size W w') := fun W => refencode_any x W hxf (by unfold maxLen; omega)
      have hel : (enc x).length ≤ 239 := by rw [enc_length x hxm]; omega
      obtain ⟨ex, hex⟩ : ∃ ex, ex = enc x := ⟨_, rfl⟩
      rw [← hex] at CE hel
      have hll3 : bs.length + ex.length ≤ 1000000 := by omega
      clear hex hx hxm hxf hxl
      go_wp2_with (first
        | (refine load_recM HIT.out rfl (.tmp 35) rfl rfl ?_)
        | (go_at_call 16; refine (CE.out _).mono ?_; rintro e w5 ⟨u5, rfl, ho5, hb5⟩; obtain ⟨A5, c5, rfl, _, _⟩ := own_form ho5; have HR5 := Lib.hid (Row.own ho5); have HBF5 := Lib.hid (HBF.out.all hb5); clear ho5 hb5)
        | (at_builtin; refine bf_append HBF5.out rfl (.tmp 32) (.tmp 37) rfl rfl w5.heap.size A5 ex.length c5 ex rfl HR5.out hll3 ?_; intro v6 w6 HBF6))
      go_roundw
      case rel => exact ⟨p + 1, bs ++ ex, by go_num, by omega, by rw [List.length_append]; omega, HBF6⟩
      case measure => (simp [RowKit.intOf]; omega)
    · obtain rfl : p = g.length := by omega
      have hbl2 : bs.length ≤ 1195 := by omega
      have HBr : Hid (Below w.heap.size w wr) := HB2.out.trans (HBF.out.below.mono HB2.out.size)
      have HJR : Hid (Row wr w.heap.size B (min rn 40) (bvs (rest.take 40))) := Com.short_row HBr.out HBR.out
      have hll : bs.length + min rn 40 ≤ 1000000 := by omega
      go_upto_region 11 with (first
        | (go_at_call 17; refine (CS.out _).mono ?_; rintro e w7 ⟨rfl, rfl⟩)
        | (at_builtin; refine bf_append HBF.out rfl (.tmp 39) (.tmp 41) rfl rfl w.heap.size B (min rn 40) rc (rest.take 40) rfl HJR.out hll ?_; intro v8 w8 HBF8))
      obtain ⟨A4, c4, rfl, hnc4, hc4, hR4⟩ := HBF8.out.form
      have hN8 : (bs ++ rest.take 40).length ≤ 1300 := by rw [List.length_append, HJR.out.size]; omega
      have HB8 : Hid (Below w.heap.size w w8) := HB2.out.trans (HBF8.out.below.mono HB2.out.size)
      obtain ⟨bt, hbt⟩ : ∃ bt, bt = bs ++ rest.take 40 := ⟨_, rfl⟩
      obtain ⟨N8, hN8'⟩ : ∃ N8, N8 = bt.length := ⟨_, rfl⟩
      rw [← hbt, ← hN8'] at hnc4 hN8 hR4
      rw [← hbt, ← hN8']
      have HR4 := Lib.hid hR4
      have hcm4 : c4 ≤ 9223372036854775807 := by unfold maxLen at hc4; exact hc4
      obtain ⟨t, ht⟩ : ∃ t, t = decide (0 < cut ∧ cut ≤ (N8 : Int)) := ⟨_, rfl⟩
      have HTT := Lib.hid ht
      have HW8 := Lib.hid (rfl : w8 = w8)
      clear ht hbt hN8' hR4 HBF8 HJR HBF HBr hll hbl2 hbl
      go_cut [50] (fun v w' => v = .bool t ∧ w8 = w')
      case first =>
        by_cases h1 : 0 < cut
        · by_cases h2 : cut ≤ (N8 : Int)
          · go_wp2_with fail
            go_meet
            case rel => exact ⟨by rw [HTT.out, decide_eq_true ⟨h1, h2⟩], rfl⟩
          · go_wp2_with fail
            go_meet
            case rel => exact ⟨by rw [HTT.out, decide_eq_false (fun h => by omega)], rfl⟩
        · go_wp2_with fail
          go_meet
          case rel => exact ⟨by rw [HTT.out, decide_eq_false (fun h => by omega)], rfl⟩
      case rest =>
      obtain ⟨rfl, rfl⟩ := hcut
      go_upto_if 50 with fail
      go_cut [11] (fun v w' => ∃ (N : Nat) (b : List UInt8), v = .slice A4 N c4 ∧ N ≤ 1300 ∧ N ≤ c4 ∧ Hid (Row w8 w8.heap.size A4 N (bvs b)) ∧ w8 = w')
      case first =>
        by_cases hk : 0 < cut ∧ cut ≤ (N8 : Int)
        · obtain rfl : t = true := by rw [HTT.out, decide_eq_true hk]
          obtain ⟨k1, k2⟩ := hk
          obtain ⟨K, rfl⟩ : ∃ K : Nat, cut = K := ⟨cut.toNat, by omega⟩
          have HR9 : Hid (Row w8 w8.heap.size A4 (N8 - K) (bvs (bt.take (N8 - K)))) := by
            have := HR4.out.take (k := N8 - K) (by omega)
            rw [bvs_take] at this
            exact this
          have e1 : (N8 : Int) - (K : Int) = ((N8 - K : Nat) : Int) := by omega
          have hk3 : N8 - K ≤ 1300 := by omega
          have hk4 : N8 - K ≤ c4 := by omega
          obtain ⟨NK, hNK⟩ : ∃ NK, NK = N8 - K := ⟨_, rfl⟩
          rw [← hNK] at HR9 e1 hk3 hk4
          clear hNK
          go_wp2_with fail
          go_meet
          case rel => exact ⟨NK, _, rfl, hk3, hk4, HR9, rfl⟩
        · obtain rfl : t = false := by rw [HTT.out, decide_eq_false hk]
          go_wp2_with fail
          go_meet
          case rel => exact ⟨N8, bt, rfl, hN8, hnc4, HR4, rfl⟩
      case rest =>
      obtain ⟨N, b, rfl, hN, hNc, HRB, rfl⟩ := hcut
      clear HR4 HTT HW8 hN8 hnc4 hcut1 hcut2
      have hlb := HRB.out.size
      have HLB := Lib.hid hlb
      have CN := Lib.hid (new_held 1048576 w8)
      rw [show room 1048576 = 1048576 by decide] at CN
      have HT8 := Lib.hid (Tabs.below HT.out HB8.out rfl)
      have CM : Hid (∀ W, Below w8.heap.size w8 W → Calls Tryd.prog 19 #[.int .u32 (id : Int), .int .i64 2] W fun e w' => e = .returned (.string (str (segName id 2))) ∧ Below W.heap.size W w') := fun W hW => HF.out.name id 2 W HT8.out hW hid (by decide)
      obtain ⟨nm, hnm⟩ : ∃ nm, nm = str (segName id 2) := ⟨_, rfl⟩
      have hnl : nm.size ≤ maxLen := by
        rw [hnm, str_size]
        have := segName_length hid (show 2 ≤ 1099511627776 by decide)
        unfold maxLen
        omega
      have hng : goodName nm.data.toList = true := by rw [hnm]; exact segName_good hid (by decide)
      have hnn : nm.data.toList = segName id 2 := by rw [hnm]; rfl
      rw [← hnm] at CM
      have HNG := Lib.hid hng
      have HNL := Lib.hid hnl
      have HNN := Lib.hid hnn
      clear hng hnm hnl hnn hlb
      go_upto_region 14 with (go_at_call 8; refine CN.out.mono ?_; rintro e w10 ⟨own, f, rfl, hd10⟩; have HD10 := Lib.hid hd10; clear hd10)
      go_upto_region 15 with (first
        | (go_at_call 19; refine (CM.out _ HD10.out.below).mono ?_; rintro e w11 ⟨rfl, hb11⟩; have HD11 := Lib.hid (HD10.out.all hb11); have CCR := Lib.hid (create_go nm HD11.out (St.new 1048576) HNL.out (by decide) HNG.out (by decide) (fun p hp => by simp at hp)); clear hb11)
        | (go_at_call 18; refine CCR.out.mono ?_; rintro e w12 ⟨own12, g12, d12, rfl, hd12, hst12, _, hstep12⟩; have HD12 := Lib.hid hd12; have HST12 := Lib.hid hst12; clear hd12 hst12 hstep12))
      have hN12 : dput nm.data.toList g12 (ddel [] []) = [(segName id 2, g12)] := by rw [HNN.out]; rfl
      have HST := HST12.out
      rw [hN12] at HST
      have hget : dget (segName id 2) [(segName id 2, g12)] = some g12 := by simp [dget]
      have HSTT := Lib.hid HST
      have HGET := Lib.hid hget
      clear HST hN12 hget HST12 HD10 HD11 CN CCR
      go_upto_region 16 with (first
        | (go_at_call 19; refine (CM.out _ HD12.out.below).mono ?_; rintro e w13 ⟨rfl, hb13⟩
           have HD13 := Lib.hid (HD12.out.all hb13)
           have CWR := Lib.hid (write_go nm 0 HD13.out HSTT.out (fun p hp => by simp at hp) HNL.out (by decide) (by rw [HNN.out]; exact HGET.out) (Nat.zero_le _) (HD13.out.elder HRB.out) hNc hc4 (by omega) (by
             have hh := HSTT.out.head
             show ((((d12.fl g12).now.length + 0 : Nat)) : Int) + ((0 : Nat) + b.length - (0 : Int)) ≤ 1048576
             rw [hh, HLB.out]
             show (((0 + 0 : Nat)) : Int) + ((0 : Nat) + (N : Int) - 0) ≤ 1048576
             omega))
           clear hb13)
        | (go_at_call 20; refine CWR.out.mono ?_; rintro e w14 ⟨own14, L, d14, rfl, _, hd14, hst14, hstep14⟩; have HD14 := Lib.hid hd14; have HST14 := Lib.hid hst14; clear hd14 hst14 hstep14))
      have HFB := Lib.hid (HD14.out.elder HRB.out)
      have COP := Lib.hid (HF.out.open_ (id := id) (num := 2) HT8.out HD14.out HST14.out rfl hid (by decide) (by decide))
      have hput : (putAt emptyFl.now 0 b) = b := putAt_start b
      rw [hput] at COP
      clear CWR hput
      go_upto_region 17 with (go_at_call 21; refine COP.out.mono ?_; rintro e w16 ⟨own16, sg, K16, rfl, hK16, hs16, hf16⟩)
      have HB16 := Lib.hid (free_fr HFB.out hf16.fr)
      have HS16 := Lib.hid hs16
      have CSZ : Hid (Calls Tryd.prog 13 #[.pointer (some ⟨sg, 0, none⟩)] w16 fun e w' => e = .returned (.int .i64 (N : Int)) ∧ Below w16.heap.size w16 w') := by
        have h : Calls Tryd.prog 13 #[.pointer (some ⟨sg, 0, none⟩)] w16 fun e w' => e = .returned (.int .i64 (b.length : Int)) ∧ Below w16.heap.size w16 w' := HF.out.size hs16
        rw [HLB.out] at h
        exact h
      have ep : ptr sg = .pointer (some ⟨sg, 0, none⟩) := rfl
      rw [ep]
      clear COP hs16 hf16 HFB ep
      go_upto_region 19 with (go_at_call 13; refine CSZ.out.mono ?_; rintro e w17 ⟨rfl, hb17⟩; have HS17 := Lib.hid (HF.out.all HS16.out hb17); have HB17 := Lib.hid (free_fr HB16.out (Fr.of_below (own := own16) hb17)); clear hb17)
      have CF := Lib.hid (reffront_any A4 N c4 b w17 (Free.row HB17.out) hNc hc4 (by omega))
      have hFc := front_count' b
      obtain ⟨Fr0, hFr0⟩ : ∃ Fr0, Fr0 = frontFrom 0 b := ⟨_, rfl⟩
      obtain ⟨E, hE⟩ : ∃ E, E = endOf 0 Fr0 := ⟨_, rfl⟩
      rw [← hFr0, ← hE] at CF
      rw [← hFr0, HLB.out] at hFc
      have HFF := Lib.hid hFr0
      have HEE := Lib.hid hE
      clear hFr0 hE CSZ
      go_upto_region 22 with (go_at_call 22; refine CF.out.mono ?_; rintro e w19 ⟨v19, rfl, h19⟩)
      obtain ⟨A16, c16, rfl, hn16, hc16, hr16⟩ := h19.form
      have HR16 := Lib.hid hr16
      have HS19 := Lib.hid (HF.out.all HS17.out h19.below)
      have HB19 := Lib.hid (free_fr HB17.out (Fr.of_below (own := own16) h19.below))
      have hcm16 : c16 ≤ 9223372036854775807 := by unfold maxLen at hc16; exact hc16
      clear CF h19 hr16 hc16
      go_loopw [17, 18, 19] (fun nv v iv wr => ∃ (i : Nat), iv = .int .i64 (i : Int) ∧ nv = .int .i64 (E : Int) ∧ i ≤ Fr0.length ∧ Hid (Rec.Fd w19 54 wr v (Fr0.take i)) ∧ Hid (ownOf id Fr0 = Fr0.take i ++ ownOf id (Fr0.drop i))) (fun _ _ iv _ => Fr0.length - (RowKit.intOf iv).toNat)
      case atStart => exact ⟨0, rfl, rfl, Nat.zero_le _, by rw [List.take_zero]; exact Rec.Fd.nil w19 _, by show _ = _; rw [List.take_zero, List.drop_zero, List.nil_append]⟩
      case round =>
        obtain ⟨i, rfl, rfl, hi, HWT, HOT⟩ := hrel
        by_cases hlt : i < Fr0.length
        · obtain ⟨q, hq⟩ : ∃ q, Fr0[i]? = some q := ⟨Fr0[i]'hlt, List.getElem?_eq_getElem _⟩
          obtain ⟨b16, o16, rfl, _, _⟩ := HR16.out.2 (by omega)
          have hit := found_item (HR16.out.below HWT.out.below) i q hq
          have htn := (range_rec (found_rec hit).2).2.1
          obtain ⟨hiq, eq'⟩ := List.getElem?_eq_some_iff.1 hq
          have hdr : Fr0.drop i = q :: Fr0.drop (i + 1) := by rw [List.drop_eq_getElem_cons hiq, eq']
          by_cases hten : q.2.tenant = id
          · have HO2 : Hid (ownOf id Fr0 = Fr0.take (i + 1) ++ ownOf id (Fr0.drop (i + 1))) := by
              have h := HOT.out
              rw [hdr, ownOf_cons_yes hten] at h
              show _ = _
              rw [h, ← take_next hq, List.append_assoc]
              rfl
            have e2 : ((q.2.tenant : Int) != (id : Int)) = false := by rw [hten]; simp
            have HIT := Lib.hid hit
            have HTN := Lib.hid (take_next hq)
            have hl6 : (Fr0.take i).length ≤ 100000000 := by rw [List.length_take]; omega
            have HW2 := Lib.hid (HWT.out.all (below_alloc wr (.cells (fcells q).toArray 54)))
            have HONE := Lib.hid (one_cells wr 54 (0, 0) q (fcells q).toArray rfl)
            have HBS := Lib.hid (slice_ref q.1 q.2)
            obtain ⟨fc, hfc⟩ : ∃ fc, fc = (fcells q).toArray := ⟨_, rfl⟩
            have hfc' : fc = (fcells (q.1, q.2)).toArray := hfc
            have HFC := Lib.hid hfc
            rw [← hfc] at HW2 HONE
            rw [← hfc'] at HBS
            clear hit hdr hten hq hiq eq' hfc hfc'
            go_wp2_with (first
              | (refine wpList_load_mid rfl 54 (.tmp 104) rfl b16 (o16 + i * 7) rfl (fcells q) _ HIT.out Tryd.underlying54 rfl ref_size ?_; rw [← HFC.out])
              | (refine build_one rfl 50 54 (.tmp 105) rfl (some 106) rfl Tryd.underlying50 (.agg fc) rfl fc HBS.out ?_)
              | (at_builtin; refine fd_append HW2.out 50 _ 64 Tryd.underlying50 found_info rfl (by omega) rfl (.tmp 101) (.tmp 106) rfl rfl wr.heap.size 1 q rfl HONE.out hl6 ?_; intro v4 w4 HF5))
            go_roundw
            case rel => exact ⟨i + 1, by go_num, rfl, by omega, by rw [← HTN.out]; exact HF5, HO2⟩
            case measure => (simp [RowKit.intOf]; omega)
          · have HOWN : Hid (ownOf id (frontFrom 0 b) = Fr0.take i) := by
              have h := HOT.out
              rw [hdr, ownOf_cons_no hten, List.append_nil, HFF.out] at h
              show _ = _
              rw [h, HFF.out]
            have e2 : ((q.2.tenant : Int) != (id : Int)) = true := bne_iff_ne.2 (by omega)
            have HNEQ : Hid (ownOf id (frontFrom 0 b) ≠ frontFrom 0 b) := fun e => by
              have h := HOWN.out
              rw [e, ← HFF.out] at h
              have h2 := congrArg List.length h
              rw [List.length_take] at h2
              omega
            clear hit hdr hten hq hiq eq'
            have hOW : ownOf id (frontFrom 0 b) = Fr0.take i := HOWN.out
            obtain ⟨A18, c18, rfl, hn18, hc18, hfr18⟩ := fd_free (HF.out.top HS19.out) HWT.out
            have hlen : (Fr0.take i).length ≤ 1300 := by rw [List.length_take]; omega
            have hSGr := HF.out.all HS19.out HWT.out.below
            have CSM0 := same_any HF.out HT8.out hSGr (n := (Fr0.take i).length) (c := c18) (A := A18) (by show (ownOf id (frontFrom 0 b)).length = _; rw [hOW]) (by omega) (by show Free own16 wr A18 _ (flat (ownOf id (frontFrom 0 b))); rw [hOW]; exact hfr18) hn18 hc18 (by show K16 + 8 * ((Fr0.take i).length + 1) + 8 ≤ 1073741824; omega)
            obtain ⟨nW, hnW⟩ : ∃ nW, nW = (Fr0.take i).length := ⟨_, rfl⟩
            rw [← hnW] at CSM0 hlen
            rw [← hnW]
            have CSM := Lib.hid CSM0
            have HBr := Lib.hid (free_fr HB19.out (Fr.of_below (own := own16) HWT.out.below))
            clear CSM0 hSGr hOW hfr18 hn18 hnW
            go_upto_region 29 with (go_at_call 23; refine CSM.out.mono ?_; rintro e w27 ⟨rfl, own27, K27, hK27, hs27, hf27⟩; have HS27 := Lib.hid hs27; have HK27 := Lib.hid hK27; clear hs27 hf27 hK27)
            clear CSM
            have hK27' : K27 + 8 ≤ 1073741824 := by have h : K27 ≤ K16 + 8 * (nW + 1) := HK27.out; omega
            have hFr : Free own27 (w27.alloc (.cells (rB id).vals 33)) (some ⟨w27.heap.size, 0, none⟩) (1 * 6) (rflat [rB id]) := free_new (HF.out.top HS27.out) 33 (rB id).vals
            have hSG28 := HF.out.all HS27.out (below_alloc w27 (.cells (rB id).vals 33))
            have CA := Lib.hid (HF.out.append_other (l := [rB id]) (n := 1) (c := 1) HT8.out hSG28 HNEQ.out (rB_fit id hid) rfl (by decide) (by decide) (by decide) (by decide) hFr hK27')
            clear hFr hSG28
            go_upto_region 30 with (go_at_call 12; refine CA.out.mono ?_; rintro e w29 ⟨u29, k29, rfl, hb29⟩; have HB29 := Lib.hid hb29; clear hb29)
            have hneg : ((-1 : Int) == (N : Int)) = false := beq_eq_false_iff_ne.2 (by omega)
            by_cases h4 : k29 = 4
            · have e4 : (k29 == 4) = true := beq_iff_eq.2 h4
              clear h4
              go_wp2_with fail
              go_ret
              exact ⟨rfl, HB8.out.trans (HB29.out.mono HB8.out.size)⟩
            · have e4 : (k29 == 4) = false := beq_eq_false_iff_ne.2 h4
              clear h4
              go_wp2_with fail
              go_ret
              exact ⟨rfl, HB8.out.trans (HB29.out.mono HB8.out.size)⟩
        · have hiF : i = Fr0.length := by omega
          have HOWN : Hid (ownOf id (frontFrom 0 b) = Fr0.take i) := by
            have h := HOT.out
            rw [List.drop_eq_nil_of_le (by omega)] at h
            show _ = _
            rw [← HFF.out, h]
            show Fr0.take i ++ [] = _
            rw [List.append_nil]
          have HIF := Lib.hid hiF
          clear hiF
          have hOW : ownOf id (frontFrom 0 b) = Fr0.take i := HOWN.out
          obtain ⟨A18, c18, rfl, hn18, hc18, hfr18⟩ := fd_free (HF.out.top HS19.out) HWT.out
          have hlen : (Fr0.take i).length ≤ 1300 := by rw [List.length_take]; omega
          have hSGr := HF.out.all HS19.out HWT.out.below
          have CSM0 := same_any HF.out HT8.out hSGr (n := (Fr0.take i).length) (c := c18) (A := A18) (by show (ownOf id (frontFrom 0 b)).length = _; rw [hOW]) (by omega) (by show Free own16 wr A18 _ (flat (ownOf id (frontFrom 0 b))); rw [hOW]; exact hfr18) hn18 hc18 (by show K16 + 8 * ((Fr0.take i).length + 1) + 8 ≤ 1073741824; omega)
          obtain ⟨nW, hnW⟩ : ∃ nW, nW = (Fr0.take i).length := ⟨_, rfl⟩
          rw [← hnW] at CSM0 hlen
          rw [← hnW]
          have CSM := Lib.hid CSM0
          have HBr := Lib.hid (free_fr HB19.out (Fr.of_below (own := own16) HWT.out.below))
          clear CSM0 hSGr hOW hfr18 hn18 hnW
          go_upto_region 29 with (go_at_call 23; refine CSM.out.mono ?_; rintro e w27 ⟨rfl, own27, K27, hK27, hs27, hf27⟩; have HS27 := Lib.hid hs27; have HK27 := Lib.hid hK27; clear hs27 hf27 hK27)
          clear CSM
          have hK27' : K27 + 8 ≤ 1073741824 := by have h : K27 ≤ K16 + 8 * (nW + 1) := HK27.out; omega
          have hFr : Free own27 (w27.alloc (.cells (rB id).vals 33)) (some ⟨w27.heap.size, 0, none⟩) (1 * 6) (rflat [rB id]) := free_new (HF.out.top HS27.out) 33 (rB id).vals
          have hSG28 := HF.out.all HS27.out (below_alloc w27 (.cells (rB id).vals 33))
          have hiF := HIF.out
          by_cases hEN : E = N
          · have hall := front_cat_all b b.length 0 (by omega) (Nat.zero_le _) (by rw [← HFF.out, ← HEE.out, hEN, HLB.out])
            obtain ⟨q1, q2⟩ := hall
            rw [List.drop_zero] at q1
            have hfit0 : Fit id ((frontFrom 0 b).map (·.2)) := fun x hx => by
              obtain ⟨q, hq, rfl⟩ := List.mem_map.1 hx
              have ht := (own_mem (id := id) (l := frontFrom 0 b) (q := q) (by rw [HOWN.out, hiF, List.take_length]; rw [← HFF.out] at hq; exact hq)).2
              exact ⟨(q2 q hq).1, (q2 q hq).2, ht⟩
            have CA := Lib.hid (HF.out.append_ok (g0 := (frontFrom 0 b).map (·.2)) (l := [rB id]) (n := 1) (c := 1) HT8.out hSG28 q1 hfit0 (rB_fit id hid) rfl (by decide) (by decide) (by decide) (by decide) hFr (by
              rw [cat_append, ← q1, List.length_append, HLB.out]
              have h39 : (cat [rB id]).length = 39 := by
                show (enc (rB id) ++ []).length = 39
                rw [List.append_nil, enc_length (rB id) (rB_fit id hid (rB id) (by simp)).1]
                rfl
              rw [h39]
              show ((N + 39 : Nat) : Int) ≤ 1048576
              omega) hK27')
            have e9 : ((E : Int) == (N : Int)) = true := beq_iff_eq.2 (by omega)
            clear hFr hSG28 q1 q2 hfit0 hEN
            go_wp2_with (go_at_call 12; refine CA.out.mono ?_; rintro e w29 ⟨own29, P29, cp29, L29, K29, rfl, _, _, _, _, hs29, _⟩; have HB29 := Lib.hid (HF.out.below hs29); clear hs29)
            go_ret
            exact ⟨rfl, HB8.out.trans (HB29.out.mono HB8.out.size)⟩
          · have CA := Lib.hid (HF.out.append_corrupt (l := [rB id]) (n := 1) (c := 1) HT8.out hSG28 (.inl (by
              show endOf 0 (frontFrom 0 b) ≠ b.length
              rw [← HFF.out, ← HEE.out, HLB.out]
              exact hEN)) (rB_fit id hid) rfl (by decide) (by decide) (by decide) (by decide) hFr hK27')
            have e9 : ((E : Int) == (N : Int)) = false := beq_eq_false_iff_ne.2 (by omega)
            clear hFr hSG28 hEN
            go_wp2_with (go_at_call 12; refine CA.out.mono ?_; rintro e w29 ⟨own29, P29, cp29, K29, rfl, _, hs29, _⟩; have HB29 := Lib.hid (HF.out.below hs29); clear hs29)
            go_ret
            exact ⟨rfl, HB8.out.trans (HB29.out.mono HB8.out.size)⟩
end Go.Proofs.YtkdnfikaodkhnaaDoor.Seg
