/-
  Texts one behind the other: SegNoneWalk, SegLaws, SegTable, SegFailsWalk.
-/
import Derived.Stop.LaidErr
import Derived.Test.YtkdnfikaodkhnaaDoorG06
import Derived.Test.YtkdnfikaodkhnaaDoorG22
import Derived.Test.YtkdnfikaodkhnaaDoorG35
import Derived.Test.YtkdnfikaodkhnaaDoorG36
import Derived.Test.YtkdnfikaodkhnaaDoorG37
import Derived.Test.YtkdnfikaodkhnaaDoorG38
/-
  Proved: SegmentNone returns true where a segment keeps its face.
-/
namespace Go.Proofs.YtkdnfikaodkhnaaDoor.Seg
open Go.RowKit Go.Proofs.YtkdnfikaodkhnaaDoor.Disk Go.Proofs.YtkdnfikaodkhnaaDoor.Rec
set_option linter.unusedVariables false
set_option linter.unusedSimpArgs false

set_option maxRecDepth 100000 in
set_option maxHeartbeats 8000000 in
theorem segmentNone_walk {SG : Own → World → World → Sv → Prop} (F : Face SG) (w : World) (hT : Tabs w) :
    Calls Tryd.prog 6 #[] w fun e w' => e = .returned (.bool true) ∧ Below w.heap.size w w' := by
  have HT := Lib.hid hT
  have HF := Lib.hid F
  have hz := zeroRec
  have CN := Lib.hid (new_held 1000 w)
  rw [show room 1000 = 1000 by decide] at CN
  clear F hT
  go_enter Tryd.func6, Tryd.ntmps6
  go_upto_region 3 with (go_at_call 8; refine CN.out.mono ?_; rintro e w2 ⟨own2, f, rfl, hd2⟩)
  have CC := Lib.hid (HF.out.create_range (id := 1) (num := -1) HT.out hd2 (St.new 1000) (by decide) (.inl (by decide)) (by decide) (by decide))
  have ef : (.pointer (some ⟨f, 0, none⟩) : Value) = ptr f := rfl
  clear CN hd2
  go_upto_region 4 with (go_at_call 9; refine CC.out.mono ?_; rintro e w3 ⟨own3, d3, K3, u3, rfl, hK3, hd3, hs3, _⟩)
  have CO := Lib.hid (HF.out.open_none (id := 1) (num := 9) HT.out hd3 hs3 (by decide) (by decide) (by omega))
  clear CC hd3 hs3
  go_upto_region 5 with (go_at_call 21; refine CO.out.mono ?_; rintro e w4 ⟨own4, d4, K4, u4, rfl, hK4, hd4, hs4, _⟩)
  have C5 := Lib.hid (HF.out.create (id := 1) (num := 5) HT.out hd4 hs4 (by decide) (by decide) (by omega))
  clear CO hd4 hs4
  go_upto_region 6 with (go_at_call 9; refine C5.out.mono ?_; rintro e w5 ⟨own5, sg, g, K5, rfl, hK5, hs5, _⟩)
  have C6 := Lib.hid (HF.out.create_exists HT.out hs5 (show 1 < 4294967296 by decide) (show 5 ≤ 1099511627776 by decide) (show K5 + 8 ≤ 1073741824 by omega))
  clear C5 hs5
  go_upto_region 7 with (go_at_call 9; refine C6.out.mono ?_; rintro e w6 ⟨u6, rfl, hb6⟩)
  have HB6 := Lib.hid hb6
  clear C6 hb6
  go_upto_region 8 with (go_at_call 12; refine (HF.out.nil_append _ _ _ _).mono ?_; rintro e w7 ⟨u7, rfl, hb7⟩; have HB7 := Lib.hid (HB6.out.trans ((below_alloc w6 _).mono HB6.out.size |>.trans (hb7.mono (Nat.le_trans HB6.out.size (below_alloc w6 _).size)))); clear hb7)
  go_upto_region 9 with (first
    | (go_at_call 25; refine (HF.out.nil_read _ _).mono ?_; rintro e w8 ⟨z8, rfl, hb8⟩; have HB8 := Lib.hid (HB7.out.trans (hb8.mono HB7.out.size)); clear hb8)
    | (refine store_recN (zero_new w8) rfl rfl (.tmp 11) (.tmp 42) rfl rfl z8 rfl rfl ?_; intro w9 X9 G9))
  have HB9 : Hid (Below w.heap.size w w9) := HB8.out.trans ((below_only (below_alloc w8 _) G9.out (Nat.le_refl _) (by simp)).mono HB8.out.size)
  clear X9 G9
  go_upto_region 10 with (go_at_call 14; refine (HF.out.nil_records _).mono ?_; rintro e w10 ⟨A10, c10, rfl, hb10⟩; have HB10 := Lib.hid (HB9.out.trans (hb10.mono HB9.out.size)); clear hb10)
  have CB := Lib.hid (segbegun_any HF.out w10 (Tabs.below HT.out HB10.out rfl))
  have CM := Lib.hid (fun W => HF.out.name_none 1 (-1) W (by decide) (.inl (by decide)) (by decide))
  go_wp2_with (first
    | (go_at_call 7; refine CB.out.mono ?_; rintro e w11 ⟨rfl, hb11⟩; have HB11 := Lib.hid (HB10.out.trans (hb11.mono HB10.out.size)); clear hb11)
    | (go_at_call 26; refine (HF.out.nil_sync _).mono ?_; rintro e w12 ⟨rfl, hb12⟩; have HB12 := Lib.hid (HB11.out.trans (hb12.mono HB11.out.size)); clear hb12)
    | (go_at_call 13; refine (HF.out.nil_size _).mono ?_; rintro e w13 ⟨rfl, hb13⟩; have HB13 := Lib.hid (HB12.out.trans (hb13.mono HB12.out.size)); clear hb13)
    | (go_at_call 19; refine (CM.out _).mono ?_; rintro e w14 ⟨rfl, hb14⟩; have HB14 := Lib.hid (HB13.out.trans (hb14.mono HB13.out.size)); clear hb14))
  go_ret
  exact ⟨rfl, HB14.out⟩
end Go.Proofs.YtkdnfikaodkhnaaDoor.Seg
/-
  Proved: what the laws of layer 8 return over the landed package.
-/
namespace Go.Proofs.YtkdnfikaodkhnaaDoor.Seg
open Go.RowKit Go.Proofs.YtkdnfikaodkhnaaDoor.Disk Go.Proofs.YtkdnfikaodkhnaaDoor.Rec
set_option linter.unusedVariables false

theorem u32_nat {z : Int} (h : (Lit.int .u32 z).wf = true) : ∃ n : Nat, z = (n : Int) ∧ n < 4294967296 := by
  simp [Lit.wf, IntKind.bits, IntKind.signed, IntKind.min, IntKind.max] at h
  exact ⟨z.toNat, by omega, by omega⟩
theorem segmentBad_go (z : Int) (A : Option Addr) (n c : Nat) (w : World) (hT : Tabs w) (hz : (Lit.int .u32 z).wf = true) (hA : (∃ l : List Rc, l.length = n ∧ (∀ y ∈ l, y.Ok) ∧ Row w w.heap.size A (n * 6) (rflat l))) (hn : n ≤ c) (hc : c ≤ maxLen) :
    Calls Tryd.prog 3 #[.int .u32 z, .slice A n c] w fun e w' => e = .returned (.bool true) ∧ Below w.heap.size w w' := by
  obtain ⟨id, rfl, hid⟩ := u32_nat hz
  exact segmentBad_walk landed_face id hid A n c w hT hA hn hc (segbegun_any landed_face w hT)
theorem segmentAny_go (z : Int) (A : Option Addr) (n c : Nat) (B : Option Addr) (rn rc : Nat) (rest : List UInt8) (cut : Int) (w : World) (hT : Tabs w) (hz : (Lit.int .u32 z).wf = true) (hA : (∃ l : List Rc, l.length = n ∧ (∀ y ∈ l, y.Ok) ∧ Row w w.heap.size A (n * 6) (rflat l))) (hn : n ≤ c) (hc : c ≤ maxLen)
    (hB : Row w w.heap.size B rn (bvs rest)) (hrn : rn ≤ rc) (hrc : rc ≤ maxLen) (hcut : -9223372036854775808 ≤ cut ∧ cut ≤ 9223372036854775807) :
    Calls Tryd.prog 4 #[.int .u32 z, .slice A n c, .slice B rn rc, .int .i64 cut] w fun e w' => e = .returned (.bool true) ∧ Below w.heap.size w w' := by
  obtain ⟨id, rfl, hid⟩ := u32_nat hz
  exact segmentAny_walk landed_face id hid A n c B rn rc rest cut w hT hA hn hc hB hrn hrc hcut
theorem segmentNone_go (w : World) (hT : Tabs w) : Calls Tryd.prog 6 #[] w fun e w' => e = .returned (.bool true) ∧ Below w.heap.size w w' := segmentNone_walk landed_face w hT
end Go.Proofs.YtkdnfikaodkhnaaDoor.Seg
/-
  Plain facts: the tables out of a row's list.
-/
namespace Go.Proofs.YtkdnfikaodkhnaaDoor.Seg
open Go.RowKit
set_option linter.unusedVariables false

theorem g_tens : Tryd.prog.globalNamed "internal/strconv.uint64pow10" = some 0 := by kernel_rfl
theorem t_tens : (Tryd.prog.globals[0]?).map (·.type) = some 123 := by kernel_rfl
theorem c_tens : Tryd.prog.cellsOf 123 = 20 := by kernel_rfl
theorem c_u64 : Tryd.prog.cellsOf 31 = 1 := by kernel_rfl
theorem tens_data {H : Type} : (Rows.laid_internal_strconv_uint64pow10 : DataW H) = Lib.tabData .u64 Lib.pow10Tab := by
  unfold Rows.laid_internal_strconv_uint64pow10 Lib.tabData Lib.pow10Tab
  rfl
/-- What a row's list says of the tables. -/
theorem tabs_of {W : World} {a b : String × DataW Unit} (h : laidMet Tryd.prog [a, b, ("internal/strconv.uint64pow10", Rows.laid_internal_strconv_uint64pow10), ("stillroom/crc.turned", Rows.laid_stillroom_crc_turned)] W) : Tabs W := by
  have h2 := laidMet.tail (laidMet.tail h)
  refine ⟨Crc.turned_of (laidMet.tail h2), ?_⟩
  rw [tens_data] at h2
  exact Lib.tabIs_of_head g_tens t_tens Tryd.underlying123 Tryd.underlying31 c_u64 c_tens h2
end Go.Proofs.YtkdnfikaodkhnaaDoor.Seg
/-
  Proved: SegmentFails returns true, whatever it is handed, where a segment keeps its face, also on a disk of which a call is to fail.
-/
namespace Go.Proofs.YtkdnfikaodkhnaaDoor.Seg
open Go.RowKit Go.Proofs.YtkdnfikaodkhnaaDoor.Disk Go.Proofs.YtkdnfikaodkhnaaDoor.Rec
set_option linter.unusedVariables false
set_option linter.unusedSimpArgs false

/-- A segment on a disk whose call behind so many others is to fail. -/
structure Armed (SG : Own → World → World → Sv → Prop) (SF : Own → World → World → Sv → Nat → Prop) : Prop where
  all : ∀ {own : Own} {w0 w w' : World} {v : Sv} {k : Nat}, SF own w0 w v k → Below w.heap.size w w' → SF own w0 w' v k
  top : ∀ {own : Own} {w0 w : World} {v : Sv} {k : Nat}, SF own w0 w v k → ∀ b p, own b = some p → b < w.heap.size
  below : ∀ {own : Own} {w0 w : World} {v : Sv} {k : Nat}, SF own w0 w v k → Below w0.heap.size w0 w
  arm : ∀ {own : Own} {w0 w : World} {v : Sv} (n : Nat), SG own w0 w v → n ≤ 1000 → Calls Tryd.prog 24 #[ptr v.f, .int .i64 (n : Int)] w fun e w' => ∃ own', e = .returned undef ∧ SF own' w0 w' v n ∧ Fr own own' w w'
  ok : ∀ {own : Own} {w0 w : World} {v : Sv} {k : Nat} {A : Option Addr} {n c : Nat} {g0 l : List Rc}, Tabs w0 → SF own w0 w v (k + 1) → v.x.now = cat g0 → Fit v.id g0 → Fit v.id l → l.length = n → 0 < n → n ≤ 1000 → n ≤ c → c ≤ maxLen → Free own w A (n * 6) (rflat l) →
    ((cat (g0 ++ l)).length : Int) ≤ v.rm → v.K + 8 ≤ 1073741824 →
    Calls Tryd.prog 12 #[ptr v.sg, .slice A n c] w fun e w' => ∃ own' u L K', e = .returned (.tuple #[u, .int .i64 0]) ∧ K' ≤ v.K + 8 ∧ SF own' w0 w' { v with x := ⟨cat (g0 ++ l), v.x.was, L⟩, K := K' } k ∧ Fr own own' w w'
  io : ∀ {own : Own} {w0 w : World} {v : Sv} {A : Option Addr} {n c : Nat} {g0 l : List Rc}, Tabs w0 → SF own w0 w v 0 → v.x.now = cat g0 → Fit v.id g0 → Fit v.id l → l.length = n → 0 < n → n ≤ 1000 → n ≤ c → c ≤ maxLen → Free own w A (n * 6) (rflat l) → ((cat (g0 ++ l)).length : Int) ≤ v.rm → v.K + 8 ≤ 1073741824 →
    Calls Tryd.prog 12 #[ptr v.sg, .slice A n c] w fun e w' => ∃ own' u K', e = .returned (.tuple #[u, .int .i64 3]) ∧ K' ≤ v.K + 8 ∧ SG own' w0 w' { v with K := K' } ∧ Fr own own' w w'
  records : ∀ {own : Own} {w0 w : World} {v : Sv} {k : Nat}, Tabs w0 → SF own w0 w v k → v.K + 8 ≤ 1073741824 →
    Calls Tryd.prog 14 #[ptr v.sg] w fun e w' => ∃ own' A c K', e = .returned (.slice A (ownOf v.id (frontFrom 0 v.x.now)).length c) ∧ SF own' w0 w' { v with K := K' } k
  size : ∀ {own : Own} {w0 w : World} {v : Sv} {k : Nat}, SF own w0 w v k → Calls Tryd.prog 13 #[ptr v.sg] w fun e w' => e = .returned (.int .i64 (v.x.now.length : Int)) ∧ Below w.heap.size w w'
def rF (id i : Nat) : Rc := ⟨2, id, 0, 0, i, []⟩
theorem rF_fit {id i : Nat} (h : id < 4294967296) (hi : i ≤ 1000) : Fit id [rF id i] := by
  intro x hx
  obtain rfl := List.mem_singleton.1 hx
  exact ⟨⟨by show (1 : Int) ≤ 2; decide, by show (2 : Int) ≤ 4; decide, Nat.zero_le _, Nat.zero_le _, by show i ≤ _; omega, Nat.zero_le _⟩, ⟨h, by show 0 < _; decide, by show 0 < _; decide, by show i < _; omega⟩, rfl⟩
theorem bare_len {h : List Rc} (k : ∀ x ∈ h, x.May ∧ x.body = []) : (cat h).length = h.length * 39 := by
  induction h with
  | nil => rfl
  | cons x h ih =>
    rw [cat_cons, List.length_append, enc_length x (k x (by simp)).1, (k x (by simp)).2, List.length_cons, ih (fun y hy => k y (by simp [hy]))]
    simp
    omega
theorem bare_own {id : Nat} {h : List Rc} (hf : Fit id h) : (ownOf id (frontFrom 0 (cat h))).length = h.length := by
  have hg : AllGood h := fun x hx => ⟨(hf x hx).1, (hf x hx).2.1⟩
  rw [(front_whole hg).1, ownOf_all (places_tenant (fun x hx => (hf x hx).2.2) 0), places_length]
set_option maxRecDepth 100000 in
set_option maxHeartbeats 8000000 in
theorem segmentFails_walk {SG : Own → World → World → Sv → Prop} {SF : Own → World → World → Sv → Nat → Prop} (F : Face SG) (R : Armed SG SF) (id : Nat) (hid : id < 4294967296) (n0 m0 : Int) (w : World) (hT : Tabs w) :
    Calls Tryd.prog 5 #[.int .u32 (id : Int), .int .i64 n0, .int .i64 m0] w fun e w' => e = .returned (.bool true) ∧ Below w.heap.size w w' := by
  have HT := Lib.hid hT
  have HF := Lib.hid F
  have HR := Lib.hid R
  have HBEG := Lib.hid (segbegun_any F w hT)
  clear F R hT
  by_cases hbad : n0 < 1 ∨ 15 < n0 ∨ m0 < 0 ∨ 15 < m0
  · go_enter Tryd.func5, Tryd.ntmps5
    go_upto_region 4 with (go_at_call 7; refine HBEG.out.mono ?_; rintro e w1 ⟨rfl, hb1⟩; have HB1 := Lib.hid hb1; clear hb1)
    by_cases h1 : n0 < 1
    · go_wp2_with fail
      go_ret
      exact ⟨rfl, HB1.out⟩
    by_cases h2 : 15 < n0
    · go_wp2_with fail
      go_ret
      exact ⟨rfl, HB1.out⟩
    by_cases h3 : m0 < 0
    · go_wp2_with fail
      go_ret
      exact ⟨rfl, HB1.out⟩
    have h4 : 15 < m0 := by omega
    go_wp2_with fail
    go_ret
    exact ⟨rfl, HB1.out⟩
  obtain ⟨n, rfl⟩ : ∃ n : Nat, n0 = n := ⟨n0.toNat, by omega⟩
  obtain ⟨m, rfl⟩ : ∃ m : Nat, m0 = m := ⟨m0.toNat, by omega⟩
  have hn15 : n ≤ 15 := by omega
  have hm15 : m ≤ 15 := by omega
  have q1 : ¬ (n : Int) < 1 := by omega
  have q2 : ¬ 15 < (n : Int) := by omega
  have q4 : ¬ 15 < (m : Int) := by omega
  clear hbad
  have hz := zeroRec
  go_enter Tryd.func5, Tryd.ntmps5
  go_upto_region 6 with (go_at_call 7; refine HBEG.out.mono ?_; rintro e w1 ⟨rfl, hb1⟩; have HB1 := Lib.hid hb1; clear hb1)
  have CN := Lib.hid (new_held 1048576 w1)
  rw [show room 1048576 = 1048576 by decide] at CN
  have HT1 := Lib.hid (Tabs.below HT.out HB1.out rfl)
  go_upto_region 7 with (go_at_call 8; refine CN.out.mono ?_; rintro e w2 ⟨own2, f, rfl, hd2⟩)
  have CC := Lib.hid (HF.out.create (id := id) (num := 1) HT1.out hd2 (St.new 1048576) hid (by decide) (by decide))
  clear CN hd2
  go_upto_region 10 with (go_at_call 9; refine CC.out.mono ?_; rintro e w3 ⟨own3, sg, g, K3, rfl, hK3, hs3, hf3⟩)
  have CA := Lib.hid (HR.out.arm m hs3 (by omega))
  have ep : ptr sg = .pointer (some ⟨sg, 0, none⟩) := rfl
  rw [ep]
  clear CC hs3 hf3
  go_upto_region 13 with (go_at_call 24; refine CA.out.mono ?_; rintro e w4 ⟨own4, rfl, hs4, _⟩)
  have HS4 := Lib.hid hs4
  clear CA hs4 q1 q2 q4
  obtain ⟨V, hV⟩ : ∃ V : Fl → Nat → Sv, V = fun x K => ⟨f, sg, id, 1, 1048576, [(segName id 1, g)], [(segName id 1, g)], [], g, x, K⟩ := ⟨_, rfl⟩
  have HV := Lib.hid hV
  have HS4' : Hid (SF own4 w1 w4 (V emptyFl K3) m) := by rw [hV]; exact HS4.out
  clear HS4 hV
  go_loopw [11, 12] (fun kv iv wr => ∃ (i k K' : Nat) (own' : Own) (h : List Rc) (x : Fl), iv = .int .i64 (i : Int) ∧ kv = .int .i64 (k : Int) ∧ i ≤ n ∧ h.length = k ∧ k ≤ i ∧ K' ≤ 8 + 8 * i ∧ Hid (x.now = cat h) ∧ Hid (Fit id h ∧ ∀ y ∈ h, y.body = []) ∧
    Hid ((i ≤ m ∧ SF own' w1 wr (V x K') (m - i)) ∨ (m < i ∧ SG own' w1 wr (V x K'))) ∧ Hid (i ≤ m → k = i) ) (fun _ iv _ => n - (RowKit.intOf iv).toNat)
  case atStart => exact ⟨0, 0, K3, own4, [], emptyFl, rfl, rfl, Nat.zero_le _, rfl, Nat.le_refl _, by omega, rfl, ⟨fun x hx => by simp at hx, fun y hy => by simp at hy⟩, .inl ⟨Nat.zero_le _, HS4'.out⟩, fun _ => rfl⟩
  case round =>
    obtain ⟨i, k, K', own', h, x, rfl, rfl, hi, hhk, hki, hK', HX, HFIT, HST, HKI⟩ := hrel
    by_cases hlt : i < n
    · have hw1 : IntKind.u64.wrap (i : Int) = (i : Int) := by simp [IntKind.wrap, IntKind.bits, IntKind.signed]; omega
      have hfit := HFIT.out.1
      have hbare := HFIT.out.2
      have hrf := rF_fit (id := id) (i := i) hid (by omega)
      have hall : ∀ y ∈ h ++ [rF id i], y.May ∧ y.body = [] := fun y hy => by
        rcases List.mem_append.1 hy with hy | hy
        · exact ⟨(hfit y hy).1, hbare y hy⟩
        · obtain rfl := List.mem_singleton.1 hy
          exact ⟨(hrf _ (by simp)).1, rfl⟩
      have hlen : ((cat (h ++ [rF id i])).length : Int) ≤ 1048576 := by
        rw [bare_len hall, List.length_append]
        show (((h.length + 1) * 39 : Nat) : Int) ≤ 1048576
        omega
      have HF2 : Hid (Fit id (h ++ [rF id i]) ∧ ∀ y ∈ h ++ [rF id i], y.body = []) := ⟨fun y hy => by
        rcases List.mem_append.1 hy with hy | hy
        · exact hfit y hy
        · exact hrf y hy, fun y hy => (hall y hy).2⟩
      have hK2 : K' + 8 ≤ 1073741824 := by omega
      rcases HST.out with ⟨him, hsf⟩ | ⟨him, hsg⟩
      · rw [HV.out] at hsf
        have hFr : Free own' (wr.alloc (.cells (rF id i).vals 33)) (some ⟨wr.heap.size, 0, none⟩) (1 * 6) (rflat [rF id i]) := free_new (HR.out.top hsf) 33 (rF id i).vals
        have hsf2 := HR.out.all hsf (below_alloc wr (.cells (rF id i).vals 33))
        by_cases hem : i = m
        · have e0 : m - i = 0 := by omega
          rw [e0] at hsf2
          have CA := Lib.hid (HR.out.io (g0 := h) (l := [rF id i]) (n := 1) (c := 1) HT1.out hsf2 HX.out hfit hrf rfl (by decide) (by decide) (by decide) (by decide) hFr hlen hK2)
          have d1 : ((i : Int) == (m : Int)) = true := beq_iff_eq.2 (by omega)
          have HEM := Lib.hid hem
          clear hsf hsf2 hFr hfit hbare hrf hall hlen hem e0 him
          go_wp2_with (go_at_call 12; refine CA.out.mono ?_; rintro e w6 ⟨own6, u6, K6, rfl, hK6, hs6, _⟩; have HS6 : Hid (SG own6 w1 w6 (V x K6)) := (by show SG own6 w1 w6 (V x K6); rw [HV.out]; exact hs6); have hK6' : K6 ≤ K' + 8 := hK6; clear hs6 hK6)
          go_roundw
          case rel => exact ⟨i + 1, k, K6, own6, h, x, by go_num, rfl, by omega, hhk, by omega, by omega, HX, HFIT, .inr ⟨by have := HEM.out; omega, HS6.out⟩, fun hh => by have := HEM.out; omega⟩
          case measure => (simp [RowKit.intOf]; omega)
        · have e0 : m - i = (m - (i + 1)) + 1 := by omega
          rw [e0] at hsf2
          have CA := Lib.hid (HR.out.ok (g0 := h) (l := [rF id i]) (n := 1) (c := 1) HT1.out hsf2 HX.out hfit hrf rfl (by decide) (by decide) (by decide) (by decide) hFr hlen hK2)
          have d1 : ((i : Int) == (m : Int)) = false := beq_eq_false_iff_ne.2 (by omega)
          have him2 : i + 1 ≤ m := by omega
          have HIM := Lib.hid him2
          clear hsf hsf2 hFr hfit hbare hrf hall hlen hem e0 him him2
          go_wp2_with (go_at_call 12; refine CA.out.mono ?_; rintro e w6 ⟨own6, u6, L6, K6, rfl, hK6, hs6, _⟩; have HS6 : Hid (SF own6 w1 w6 (V ⟨cat (h ++ [rF id i]), x.was, L6⟩ K6) (m - (i + 1))) := (by show SF own6 w1 w6 (V _ K6) _; rw [HV.out]; exact hs6); have hK6' : K6 ≤ K' + 8 := hK6; clear hs6 hK6)
          go_roundw
          case rel => exact ⟨i + 1, k + 1, K6, own6, h ++ [rF id i], ⟨cat (h ++ [rF id i]), x.was, L6⟩, by go_num, by go_num, by omega, by rw [List.length_append]; show h.length + 1 = k + 1; omega, by omega, by omega, rfl, HF2, .inl ⟨HIM.out, HS6.out⟩, fun hh => by have := HKI.out (by omega); omega⟩
          case measure => (simp [RowKit.intOf]; omega)
      · rw [HV.out] at hsg
        have hFr : Free own' (wr.alloc (.cells (rF id i).vals 33)) (some ⟨wr.heap.size, 0, none⟩) (1 * 6) (rflat [rF id i]) := free_new (HF.out.top hsg) 33 (rF id i).vals
        have hsg2 := HF.out.all hsg (below_alloc wr (.cells (rF id i).vals 33))
        have CA := Lib.hid (HF.out.append_ok (g0 := h) (l := [rF id i]) (n := 1) (c := 1) HT1.out hsg2 HX.out hfit hrf rfl (by decide) (by decide) (by decide) (by decide) hFr hlen hK2)
        have d1 : ((i : Int) == (m : Int)) = false := beq_eq_false_iff_ne.2 (by omega)
        have HIM := Lib.hid him
        clear hsg hsg2 hFr hfit hbare hrf hall hlen him
        go_wp2_with (go_at_call 12; refine CA.out.mono ?_; rintro e w6 ⟨own6, P6, cp6, L6, K6, rfl, _, _, _, hK6, hs6, _⟩; have HS6 : Hid (SG own6 w1 w6 (V ⟨cat (h ++ [rF id i]), x.was, L6⟩ K6)) := (by show SG own6 w1 w6 (V _ K6); rw [HV.out]; exact hs6); have hK6' : K6 ≤ K' + 8 := hK6; clear hs6 hK6)
        go_roundw
        case rel => exact ⟨i + 1, k + 1, K6, own6, h ++ [rF id i], ⟨cat (h ++ [rF id i]), x.was, L6⟩, by go_num, by go_num, by omega, by rw [List.length_append]; show h.length + 1 = k + 1; omega, by omega, by omega, rfl, HF2, .inr ⟨by have := HIM.out; omega, HS6.out⟩, fun hh => by have := HIM.out; omega⟩
        case measure => (simp [RowKit.intOf]; omega)
    · obtain rfl : i = n := by omega
      have hfit := HFIT.out.1
      have hcount : (ownOf id (frontFrom 0 x.now)).length = k := by rw [HX.out, bare_own hfit, hhk]
      have hsize : x.now.length = k * 39 := by rw [HX.out, bare_len (fun y hy => ⟨(hfit y hy).1, HFIT.out.2 y hy⟩), hhk]
      have hmul : IntKind.i64.wrap ((k : Int) * 39) = (k : Int) * 39 := by simp [IntKind.wrap, IntKind.bits, IntKind.signed]; omega
      rcases HST.out with ⟨him, hsf⟩ | ⟨him, hsg⟩
      · rw [HV.out] at hsf
        have CR : Hid (Calls Tryd.prog 14 #[.pointer (some ⟨sg, 0, none⟩)] wr fun e w' => ∃ own5 A c K5, e = .returned (.slice A k c) ∧ SF own5 w1 w' ⟨f, sg, id, 1, 1048576, [(segName id 1, g)], [(segName id 1, g)], [], g, x, K5⟩ (m - i)) := by
          refine (HR.out.records HT1.out hsf (by show K' + 8 ≤ _; omega)).mono ?_
          rintro e w' ⟨own5, A, c, K5, rfl, hs⟩
          refine ⟨own5, A, c, K5, ?_, hs⟩
          show Ending.returned (.slice A (ownOf id (frontFrom 0 x.now)).length c) = _
          rw [hcount]
        have CS : Hid (∀ own5 K5 W, SF own5 w1 W ⟨f, sg, id, 1, 1048576, [(segName id 1, g)], [(segName id 1, g)], [], g, x, K5⟩ (m - i) → Calls Tryd.prog 13 #[.pointer (some ⟨sg, 0, none⟩)] W fun e w' => e = .returned (.int .i64 ((k : Int) * 39)) ∧ Below w1.heap.size w1 w') := fun own5 K5 W hs => by
          refine (HR.out.size hs).mono ?_
          rintro e w' ⟨rfl, hb⟩
          refine ⟨?_, (HR.out.below hs).trans (hb.mono (HR.out.below hs).size)⟩
          show Ending.returned (.int .i64 (x.now.length : Int)) = _
          rw [hsize]
          simp
        clear hsf hcount hsize hfit him
        go_wp2_with (first
          | (go_at_call 14; refine CR.out.mono ?_; rintro e w8 ⟨own8, A8, c8, K8, rfl, hs8⟩; have HS8 := Lib.hid hs8; clear hs8)
          | (go_at_call 13; refine (CS.out _ _ _ HS8.out).mono ?_; rintro e w9 ⟨rfl, hb9⟩; have HB9 := Lib.hid hb9; clear hb9))
        go_ret
        exact ⟨rfl, HB1.out.trans (HB9.out.mono HB1.out.size)⟩
      · rw [HV.out] at hsg
        have CR : Hid (Calls Tryd.prog 14 #[.pointer (some ⟨sg, 0, none⟩)] wr fun e w' => ∃ own5 A c K5, e = .returned (.slice A k c) ∧ SG own5 w1 w' ⟨f, sg, id, 1, 1048576, [(segName id 1, g)], [(segName id 1, g)], [], g, x, K5⟩) := by
          refine (HF.out.records HT1.out hsg (by show K' + 8 ≤ _; omega)).mono ?_
          rintro e w' ⟨own5, A, c, K5, rfl, _, _, _, _, hs, _⟩
          refine ⟨own5, A, c, K5, ?_, hs⟩
          show Ending.returned (.slice A (ownOf id (frontFrom 0 x.now)).length c) = _
          rw [hcount]
        have CS : Hid (∀ own5 K5 W, SG own5 w1 W ⟨f, sg, id, 1, 1048576, [(segName id 1, g)], [(segName id 1, g)], [], g, x, K5⟩ → Calls Tryd.prog 13 #[.pointer (some ⟨sg, 0, none⟩)] W fun e w' => e = .returned (.int .i64 ((k : Int) * 39)) ∧ Below w1.heap.size w1 w') := fun own5 K5 W hs => by
          refine (HF.out.size hs).mono ?_
          rintro e w' ⟨rfl, hb⟩
          refine ⟨?_, (HF.out.below hs).trans (hb.mono (HF.out.below hs).size)⟩
          show Ending.returned (.int .i64 (x.now.length : Int)) = _
          rw [hsize]
          simp
        clear hsg hcount hsize hfit him
        go_wp2_with (first
          | (go_at_call 14; refine CR.out.mono ?_; rintro e w8 ⟨own8, A8, c8, K8, rfl, hs8⟩; have HS8 := Lib.hid hs8; clear hs8)
          | (go_at_call 13; refine (CS.out _ _ _ HS8.out).mono ?_; rintro e w9 ⟨rfl, hb9⟩; have HB9 := Lib.hid hb9; clear hb9))
        go_ret
        exact ⟨rfl, HB1.out.trans (HB9.out.mono HB1.out.size)⟩
end Go.Proofs.YtkdnfikaodkhnaaDoor.Seg
