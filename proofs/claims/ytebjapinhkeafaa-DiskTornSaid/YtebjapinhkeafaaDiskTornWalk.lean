/-
  Proved: what 'stillroom/stillroomlaw5.DiskTorn' returns.
-/
import Derived.Test.YtebjapinhkeafaaDiskSteps
import Derived.Test.YtebjapinhkeafaaShort
namespace Go.Proofs.Ytebjapinhkeafaa.Disk
open Go.RowKit Go.Maps
set_option linter.unusedVariables false
set_option linter.unusedSimpArgs false

def tornOld (n : Nat) : List UInt8 := (List.range n).map fun i => UInt8.ofNat (i % 7 + 1)
theorem tornOld_length (n : Nat) : (tornOld n).length = n := by simp [tornOld]
theorem tornOld_get {n i : Nat} (h : i < n) : ((tornOld n).getD i 0).toNat = i % 7 + 1 := by
  rw [List.getD_eq_getElem?_getD, tornOld, List.getElem?_map, List.getElem?_range h]
  show (UInt8.ofNat (i % 7 + 1)).toNat = _
  rw [UInt8.toNat_ofNat']
  omega
/-- Bytes under way: the first i are laid. -/
def laid (xs : List UInt8) (i : Nat) : List UInt8 := xs.take i ++ List.replicate (xs.length - i) 0
theorem laid_length (xs : List UInt8) {i : Nat} (h : i ≤ xs.length) : (laid xs i).length = xs.length := by
  simp [laid]
  omega
theorem laid_none (xs : List UInt8) : laid xs 0 = List.replicate xs.length 0 := by simp [laid]
theorem laid_all (xs : List UInt8) : laid xs xs.length = xs := by simp [laid]
theorem laid_put (xs : List UInt8) {i : Nat} (h : i < xs.length) : (bvs (laid xs i)).toArray.setIfInBounds i (.int .u8 ((xs.getD i 0).toNat : Int)) = (bvs (laid xs (i + 1))).toArray := by
  have hl : (bvs (xs.take i)).length = i := by rw [bvs_length, List.length_take]; omega
  apply Array.ext'
  rw [Array.toList_setIfInBounds]
  show (bvs (xs.take i ++ List.replicate (xs.length - i) 0)).set i _ = bvs (xs.take (i + 1) ++ List.replicate (xs.length - (i + 1)) 0)
  rw [← bvs_append, ← bvs_append, List.set_append_right _ _ (by omega), hl, Nat.sub_self]
  obtain ⟨q, hq⟩ : ∃ q, xs.length - i = q + 1 := ⟨xs.length - i - 1, by omega⟩
  have e : bvs (xs.take (i + 1)) = bvs (xs.take i) ++ [Value.int .u8 ((xs.getD i 0).toNat : Int)] := by
    rw [List.getD_eq_getElem?_getD, List.take_add_one, List.getElem?_eq_getElem h, ← bvs_append]
    rfl
  have e2 : bvs (List.replicate (q + 1) 0) = Value.int .u8 0 :: bvs (List.replicate q 0) := rfl
  rw [hq, e2, List.set_cons_zero, show xs.length - (i + 1) = q by omega, e, List.append_assoc]
  rfl
theorem laid_made (xs : List UInt8) : (madeCells #[Value.int .u8 0] xs.length) = (bvs (laid xs 0)).toArray := by
  rw [laid_none]
  apply Array.ext'
  rw [toList_madeCells_one]
  simp only [bvs, List.map_replicate]
  rfl
/-! What a byte is behind the crash. -/
theorem secs_getD {L : Secs} {a k j : Nat} (h : L.map (·.1) = List.range' a k) (hj : j < k) : (L.map (·.1)).getD j 0 = a + j := by
  rw [h, List.getD_eq_getElem?_getD, List.getElem?_range' hj]
  simp
theorem parts_getD {n j : Nat} (keep : List Bool) (torn : Int) (hj : j < n) : (partsFor 0 n keep torn).getD j 0 = partOf j keep torn := by
  rw [partsFor, List.getD_eq_getElem?_getD, List.getElem?_map, List.getElem?_range hj]
  simp
theorem torn_byte {old bb : List UInt8} {aa : Nat} {L : Secs} (hok : (Fl.mk (putAt old aa bb) old L).Ok) (hL : L.map (·.1) = List.range' (aa / 64) (sectors aa bb.length)) (ha : aa ≤ old.length) (keep : List Bool) (torn : Int) {X : List UInt8}
    (hX : X = (Fl.mk (putAt old aa bb) old L).crash (partsFor 0 L.length keep torn)) {i : Nat} (hi : i < X.length) :
    (∀ j, i / 64 = aa / 64 + j → j < sectors aa bb.length → i % 64 < partOf j keep torn → X.getD i 0 = (putAt old aa bb).getD i 0) ∧
    (∀ j, i / 64 = aa / 64 + j → j < sectors aa bb.length → partOf j keep torn ≤ i % 64 → X.getD i 0 = old.getD i 0) ∧
    ((i / 64 < aa / 64 ∨ aa / 64 + sectors aa bb.length ≤ i / 64) → i < old.length ∧ X.getD i 0 = old.getD i 0) := by
  have hLl : L.length = sectors aa bb.length := by
    have := congrArg List.length hL
    rwa [List.length_map, List.length_range'] at this
  have hp : ∀ i, (partsFor 0 L.length keep torn).getD i 0 ≤ 64 := partsFor_le _ _ _ _
  obtain ⟨h1, h2, h3⟩ := Fl.crash_length hok hp
  rw [← hX] at h1
  have hg := Fl.crash_get hok hp (i := i) (by omega)
  rw [← hX, hLl] at hg
  dsimp only at hg
  have hlen : (putAt old aa bb).length = max old.length (aa + bb.length) := putAt_length _ _ _ ha
  have hi' : i < max old.length (aa + bb.length) := by
    have h3' : (Fl.mk (putAt old aa bb) old L).crashLen (partsFor 0 L.length keep torn) ≤ (putAt old aa bb).length := h3
    omega
  refine ⟨fun j h4 h5 h6 => ?_, fun j h4 h5 h6 => ?_, fun h4 => ?_⟩
  · rw [if_neg] at hg
    · rw [List.getD_eq_getElem?_getD, hg, ← List.getD_eq_getElem?_getD]
    · rintro ⟨j', k1, k2, k3⟩
      rw [secs_getD hL k1] at k2
      have : j' = j := by omega
      subst this
      rw [← hLl, parts_getD keep torn (by omega)] at k3
      omega
  · rw [if_pos ⟨j, h5, by rw [secs_getD hL h5]; omega, by rw [← hLl, parts_getD keep torn (by omega)]; exact h6⟩] at hg
    rw [List.getD_eq_getElem?_getD, hg]
    rfl
  · rw [if_neg] at hg
    · have hnt : ¬ (aa ≤ i ∧ i < aa + bb.length) := by
        intro hh
        have ht := touches_of hh
        unfold touches at ht
        rw [Bool.and_eq_true, decide_eq_true_eq, decide_eq_true_eq] at ht
        omega
      refine ⟨by omega, ?_⟩
      rw [List.getD_eq_getElem?_getD, hg, putAt_get _ _ _ ha, if_neg hnt, ← List.getD_eq_getElem?_getD]
    · rintro ⟨j', k1, k2, k3⟩
      rw [secs_getD hL k1] at k2
      omega
theorem laid_get (xs : List UInt8) {i : Nat} (h : i < xs.length) : (bvs (laid xs i))[i]? = some (.int .u8 0) := by
  have hl : (bvs (xs.take i)).length = i := by rw [bvs_length, List.length_take]; omega
  rw [laid, ← bvs_append, List.getElem?_append_right (by omega), hl, Nat.sub_self]
  obtain ⟨q, hq⟩ : ∃ q, xs.length - i = q + 1 := ⟨xs.length - i - 1, by omega⟩
  rw [hq]
  rfl
set_option maxRecDepth 100000 in
set_option maxHeartbeats 10000000 in
theorem diskTorn_walk (n a : Int) (A : Option Addr) (m c : Nat) (bs : List UInt8) (P : Option Addr) (mk ck : Nat) (keep : List Bool) (torn : Int) (w : World) (hn : -9223372036854775808 ≤ n ∧ n ≤ 9223372036854775807) (ha : -9223372036854775808 ≤ a ∧ a ≤ 9223372036854775807)
    (hA : Row w w.heap.size A m (bvs bs)) (hm : m ≤ c) (hc : c ≤ maxLen) (hP : Row w w.heap.size P mk (lvs keep)) (hmk : mk ≤ ck) (hck : ck ≤ maxLen) (ht : -9223372036854775808 ≤ torn ∧ torn ≤ 9223372036854775807) :
    Calls Try.prog 3 #[.int .i64 n, .int .i64 a, .slice A m c, .slice P mk ck, .int .i64 torn] w fun e w' => e = .returned (.bool true) ∧ Below w.heap.size w w' := by
  obtain ⟨hn1, hn2⟩ := hn
  obtain ⟨ha1, ha2⟩ := ha
  obtain ⟨ht1, ht2⟩ := ht
  have hmkl : mk ≤ 9223372036854775807 := by unfold maxLen at hck; omega
  have HC := Lib.hid hc
  have HA := Lib.hid hA
  have HP := Lib.hid hP
  clear hA hP hc
  go_enter Try.func3, Try.ntmps3
  go_wp2_with fail
  refine (begun_any w).mono ?_
  rintro e w1 ⟨rfl, hb1⟩
  have HB1 := Lib.hid hb1
  clear hb1
  by_cases g1 : n < 0
  · go_wp2_with fail
    go_ret
    exact ⟨rfl, HB1.out⟩
  by_cases g2 : 600 < n
  · go_wp2_with fail
    go_ret
    exact ⟨rfl, HB1.out⟩
  by_cases g3 : a < 0
  · go_wp2_with fail
    go_ret
    exact ⟨rfl, HB1.out⟩
  by_cases g4 : n < a
  · go_wp2_with fail
    go_ret
    exact ⟨rfl, HB1.out⟩
  by_cases g5 : 60 < mk
  · go_wp2_with fail
    go_ret
    exact ⟨rfl, HB1.out⟩
  obtain ⟨nn, rfl⟩ : ∃ nn : Nat, n = (nn : Int) := ⟨n.toNat, by omega⟩
  obtain ⟨aa, rfl⟩ : ∃ aa : Nat, a = (aa : Int) := ⟨a.toNat, by omega⟩
  have hnn : nn ≤ 600 := by omega
  have haa : aa ≤ nn := by omega
  have hk60 : mk ≤ 60 := by omega
  clear g1 g2 g3 g4 g5 hn1 hn2 ha1 ha2
  go_wp2_with fail
  refine (Com.short_any A m c 400 w1 hm HC.out).mono ?_
  rintro e w' ⟨rfl, rfl⟩
  obtain ⟨mm, hmm⟩ : ∃ mm, mm = min m 400 := ⟨_, rfl⟩
  obtain ⟨bb, hbb⟩ : ∃ bb, bb = bs.take 400 := ⟨_, rfl⟩
  have RB : Hid (Row w1 w1.heap.size A mm (bvs bb)) := by
    show Row _ _ _ _ _
    rw [hmm, hbb]
    exact (Com.short_row HB1.out HA.out).more HB1.out.size
  have RP : Hid (Row w1 w1.heap.size P mk (lvs keep)) := (HP.out.below HB1.out).more HB1.out.size
  have hbl : bb.length = mm := by
    have h1 := RB.out.size
    exact h1
  have hm4 : mm ≤ 400 := by omega
  have hmc : mm ≤ c := by omega
  rw [← hmm]
  clear hmm hbb HA
  go_wp2_with fail
  have CN := new_held 2000 w1
  rw [show room 2000 = 2000 by decide] at CN
  refine CN.mono ?_
  rintro e w2 ⟨own2, f, rfl, h2⟩
  have H2 := Lib.hid h2
  clear h2 CN
  have hmake : ∀ w, (Instr.makeSlice 22 (.int .i64 (nn : Int)) (.int .i64 (nn : Int))).run Try.prog w = .ok (.slice (some ⟨w.heap.size, 0, none⟩) nn nn) (w.alloc (.cells (bvs (laid (tornOld nn) 0)).toArray 5)) := by
    intro w
    rw [← laid_made, tornOld_length]
    exact Go.run_make_row' (P := Try.prog) 22 5 (.int .u8 0) 1 Try.underlying22 (by kernel_rfl) rfl .i64 .i64 nn (by omega) (by omega) w
  go_wp2_with fail
  clear hmake
  obtain ⟨w3, hw3⟩ : ∃ w3, w3 = w2.alloc (.cells (bvs (laid (tornOld nn) 0)).toArray 5) := ⟨_, rfl⟩
  have X3 : Hid (Blk w3 w2.heap.size 5 (bvs (laid (tornOld nn) 0)).toArray) := by rw [hw3]; exact Blk.new _ _ _
  have B3 : Hid (Below w2.heap.size w2 w3) := by rw [hw3]; exact (Below.refl _ _).alloc (Nat.le_refl _) _
  rw [← hw3]
  clear hw3
  go_loopw [14] (fun y wr => ∃ i : Nat, y = .int .i64 (i : Int) ∧ i ≤ nn ∧ Hid (Blk wr w2.heap.size 5 (bvs (laid (tornOld nn) i)).toArray) ∧ Hid (Below w2.heap.size w2 wr)) (fun y _ => nn - (RowKit.intOf y).toNat)
  case atStart => exact ⟨0, rfl, Nat.zero_le _, X3, B3⟩
  case round =>
    obtain ⟨i, rfl, hi, XJ, BJ⟩ := hrel
    by_cases hlt : i < nn
    · have hin : (i : Int) < (nn : Int) := by omega
      have hil : i < (tornOld nn).length := by rw [tornOld_length]; exact hlt
      have xc : wr.cell? ⟨w2.heap.size, i, none⟩ = some (.int .u8 0) := by rw [XJ.out.cell, List.getElem?_toArray]; exact laid_get _ hil
      have xf := XJ.out.free i
      have hmod : ((i : Int)).tmod 7 = ((i % 7 : Nat) : Int) := by rw [Int.tmod_eq_emod_of_nonneg (by omega)]; omega
      have hput := XJ.out.put i (.int .u8 (((tornOld nn).getD i 0).toNat : Int))
      rw [laid_put _ hil, tornOld_get hlt] at hput
      have HPUT := Lib.hid hput
      clear hput
      go_wp2_with fail
      have hv : (i : Int) % 7 + 1 = ((i % 7 + 1 : Nat) : Int) := by omega
      refine ⟨⟨i + 1, by go_num, by omega, ?_, below_only BJ.out (only_setCell _ _ _) (Nat.le_refl _) BJ.out.size⟩, by simp [RowKit.intOf]; omega⟩
      rw [hv]
      exact HPUT.out
    · obtain rfl : i = nn := by omega
      have FO : Hid (Free own2 wr (some ⟨w2.heap.size, 0, none⟩) i (bvs (tornOld i))) := by
        refine H2.out.younger ?_ (fun _ ad had => by injection had with had; rw [← had]; exact Nat.le_refl _)
        have hX := XJ.out.row
        have e0 : laid (tornOld i) i = tornOld i := by
          have := laid_all (tornOld i)
          rwa [tornOld_length] at this
        have e1 : (bvs (laid (tornOld i) i)).toArray.size = i := by rw [List.size_toArray, bvs_length, e0, tornOld_length]
        rw [e1] at hX
        rw [e0] at hX
        exact hX
      have H3 := Lib.hid (H2.out.all BJ.out)
      have ho : (tornOld i).length = i := tornOld_length i
      have HGET : Hid (∀ j, j < i → (tornOld i).getD j 0 = (tornOld i).getD j 0) := fun _ _ => rfl
      generalize tornOld i = old at *
      clear XJ BJ X3 B3 HGET
      go_wp2_with fail
      refine (create_go sA H3.out (St.new 2000) (by decide) (by omega) (by decide) (by decide) (by simp)).mono ?_
      rintro e w4 ⟨own4, g, d4, rfl, h4, s4, _, t4⟩
      have H4 := Lib.hid h4
      have S4 : Hid (St d4 2000 [(nmA, g)] [] [⟨noName, sA, some g⟩] [(g, emptyFl)]) := s4
      have F4 := Lib.hid (FO.out.step t4)
      clear h4 s4 t4 FO H3
      go_wp2_with fail
      refine (write_go sA 0 H4.out S4.out (by simp) (by decide) (by omega) (by rfl) (Nat.le_refl _) F4.out (Nat.le_refl _) (by unfold maxLen; omega) (by omega) (by
        show (((d4.fl g).now.length + 0 : Nat) : Int) + _ ≤ 2000
        rw [S4.out.head, ho]
        show (0 : Int) + (0 + i - 0) ≤ 2000
        omega)).mono ?_
      rintro e w5 ⟨own5, L5, d5, rfl, _, h5, s5, t5⟩
      have H5 := Lib.hid h5
      have S5 : Hid (St d5 2000 [(nmA, g)] [] [⟨noName, sA, some g⟩] [(g, ⟨old, [], L5⟩)]) := by
        have e0 : putAt emptyFl.now 0 old = old := putAt_start old
        rw [e0] at s5
        exact s5
      have F5 := Lib.hid (F4.out.step t5)
      clear h5 s5 t5 F4 H4 S4
      go_wp2_with fail
      refine (sync_go sA H5.out S5.out (by simp) (by decide) (by omega) (by rfl)).mono ?_
      rintro e w6 ⟨own6, d6, rfl, h6, s6, t6⟩
      have H6 := Lib.hid h6
      have S6 := Lib.hid s6
      have F6 := Lib.hid (F5.out.step t6)
      clear h6 s6 t6 F5 H5 S5
      go_wp2_with fail
      refine (syncDir_go H6.out S6.out (by omega)).mono ?_
      rintro e w7 ⟨own7, d7, rfl, h7, s7, t7⟩
      have H7 := Lib.hid h7
      have S7 : Hid (St d7 2000 [(nmA, g)] [(nmA, g)] [] [(g, ⟨old, old, []⟩)]) := s7
      have F7 := Lib.hid (F6.out.step t7)
      clear h7 s7 t7 F6 H6 S6
      go_wp2_with fail
      refine (write_go sA aa H7.out S7.out (by simp) (by decide) (by omega) (by rfl) (by rw [ho]; exact haa) (H7.out.elder RB.out) hmc HC.out (by omega) (by
        show (((d7.fl g).now.length + 0 : Nat) : Int) + _ ≤ 2000
        rw [S7.out.head, ho, hbl]
        omega)).mono ?_
      rintro e w8 ⟨own8, L, d8, rfl, hL, h8, s8, t8⟩
      have H8 := Lib.hid h8
      have S8 := Lib.hid s8
      have F8 := Lib.hid (F7.out.step t8)
      obtain ⟨now, hnow⟩ : ∃ now, now = putAt old aa bb := ⟨_, rfl⟩
      have l8 : d8.look nmA = some ⟨now, old, L⟩ := by rw [hnow]; exact s8.look rfl
      have HOK := Lib.hid (h8.ok l8)
      have HLS := Lib.hid (touched HOK.out.rising hL)
      obtain ⟨NL, hNL⟩ : ∃ NL, now.length = NL := ⟨_, rfl⟩
      have hnl : now.length = max i (aa + mm) := by rw [hnow, putAt_length _ _ _ (by rw [ho]; exact haa), ho, hbl]
      have hN1 : i ≤ NL := by omega
      have hN2 : NL ≤ 1000 := by omega
      have CS8 := size_look sA h8 (by decide) l8
      dsimp only at CS8
      rw [hNL] at CS8
      have HNL := Lib.hid hNL
      have HCS8 := Lib.hid CS8
      have L8 := Lib.hid l8
      have HNOW := Lib.hid hnow
      clear h8 s8 t8 F7 H7 S7 hL l8 hnow hNL hnl CS8
      go_wp2_with fail
      refine HCS8.out.mono ?_
      rintro e w' ⟨rfl, hww⟩
      obtain rfl := hww.symm
      clear HCS8 hww
      have CR8 := Lib.hid (read_look sA 0 NL H8.out (by decide) L8.out (by show 0 + NL ≤ now.length; rw [HNL.out]; omega) (by omega))
      go_wp2_with fail
      refine CR8.out.mono ?_
      rintro e w9 ⟨vn, rfl, hr9, h9, t9⟩
      obtain ⟨An, cn, rfl, hcn, hcnm⟩ := own_form hr9
      have e9 : (now.drop 0).take NL = now := by rw [List.drop_zero, ← HNL.out, List.take_length]
      rw [e9] at hr9
      have N9 := Lib.hid (H8.out.answer hr9)
      have H9 := Lib.hid h9
      have F9 := Lib.hid (F8.out.step t9)
      clear hr9 h9 t9 CR8 F8 H8
      go_wp2_with fail
      refine (crash_go (c := ck) 0 torn H9.out (H9.out.elder RP.out).row (Nat.le_refl _) (by omega)).mono ?_
      rintro e wa ⟨owna, fa, da, rfl, _, ha, ca, _, sa, ba⟩
      have HA := Lib.hid ha
      have NA := Lib.hid (N9.out.keep sa ba)
      have FA := Lib.hid (F9.out.keep sa ba)
      have hNL := HNL.out
      obtain ⟨X, hX⟩ : ∃ X, X = (Fl.mk now old L).crash (partsFor 0 L.length keep torn) := ⟨_, rfl⟩
      have la : da.look nmA = some ⟨X, X, []⟩ := by
        rw [ca.look]
        have e1 : (d8.read NL).crashDir 0 = [(nmA, g)] := S8.out.crashDir 0
        have e2 : (d8.read NL).fl g = ⟨now, old, L⟩ := by rw [HNOW.out]; exact S8.out.head
        rw [e1, crash_one, e2, ← hX]
        rfl
      have HTB : Hid (∀ j, j < X.length → _) := fun j hj => torn_byte (by rw [← HNOW.out]; exact HOK.out) HLS.out (by rw [ho]; exact haa) keep torn (by rw [← HNOW.out]; exact hX) hj
      have hXl : old.length ≤ X.length ∧ X.length ≤ now.length := by
        obtain ⟨k1, k2, k3⟩ := Fl.crash_length HOK.out (partsFor_le 0 L.length keep torn)
        rw [← hX] at k1
        have k2' : old.length ≤ _ := k2
        have k3' : _ ≤ now.length := k3
        exact ⟨by omega, by omega⟩
      rw [← HNOW.out, ho, hbl] at HTB
      rw [ho, hNL] at hXl
      obtain ⟨hX1, hX2⟩ := hXl
      have CSA := size_look sA ha (by decide) la
      obtain ⟨XL, hXL⟩ : ∃ XL, X.length = XL := ⟨_, rfl⟩
      dsimp only at CSA
      rw [hXL] at CSA hX1 hX2
      have HCSA := Lib.hid CSA
      have CRA := Lib.hid (read_look sA 0 XL ha (by decide) la (by show 0 + XL ≤ X.length; rw [hXL]; omega) (by omega))
      have HXL := Lib.hid hXL
      clear ha ca sa ba la hX N9 F9 H9 S8 L8 HOK HLS HNOW hNL hXL CSA
      go_wp2_with fail
      refine HCSA.out.mono ?_
      rintro e w' ⟨rfl, hww⟩
      obtain rfl := hww.symm
      clear HCSA hww
      go_wp2_with fail
      refine CRA.out.mono ?_
      rintro e wz ⟨vx, rfl, hrx, hz, tz⟩
      obtain ⟨Ax, cx, rfl, hcx, hcxm⟩ := own_form hrx
      have ex : (X.drop 0).take XL = X := by rw [List.drop_zero, ← HXL.out, List.take_length]
      rw [ex] at hrx
      have XZ := Lib.hid (HA.out.answer hrx)
      have HZ := Lib.hid hz
      have FZ := Lib.hid (FA.out.step tz)
      have NZ := Lib.hid (NA.out.step tz)
      have KZ := Lib.hid (hz.row RP.out)
      clear hrx hz tz FA NA CRA HA
      have hEnd : Hid (Below w.heap.size w wz) := HB1.out.trans (HZ.out.below.mono HB1.out.size)
      have hF : (aa : Int) / 64 = ((aa / 64 : Nat) : Int) := by omega
      obtain ⟨F, hFF⟩ : ∃ F, aa / 64 = F := ⟨_, rfl⟩
      rw [hFF] at hF HTB
      obtain ⟨la, hla⟩ : ∃ la : Int, ((aa : Int) + (mm : Int) - 1).tdiv 64 = la := ⟨_, rfl⟩
      have HLA : Hid (0 < mm → la = (((aa + mm - 1) / 64 : Nat) : Int)) := by
        show 0 < mm → _
        intro h0
        rw [← hla, Int.tdiv_eq_ediv_of_nonneg (by omega)]
        omega
      have hla1 : -1 ≤ la ∧ la ≤ 1000 := by
        rw [← hla]
        by_cases h0 : 1 ≤ (aa : Int) + (mm : Int)
        · rw [Int.tdiv_eq_ediv_of_nonneg (by omega)]
          omega
        · have e : (aa : Int) + (mm : Int) - 1 = -1 := by omega
          rw [e]
          decide
      obtain ⟨hla2, hla3⟩ := hla1
      have hFb : F ≤ 1000 := by omega
      have HFF := Lib.hid hFF
      clear hFF
      have hx1' : ¬ XL < i := by omega
      have hx2' : ¬ NL < XL := by omega
      have hx3' : ¬ (XL : Int) < (i : Int) := by omega
      have hx4' : ¬ (NL : Int) < (XL : Int) := by omega
      go_wp2_with fail
      clear hF hla
      go_loopw [22] (fun y wr => ∃ q : Nat, y = .int .i64 (q : Int) ∧ q ≤ XL ∧ Hid (wr = wz)) (fun y _ => XL - (RowKit.intOf y).toNat)
      case atStart => exact ⟨0, rfl, Nat.zero_le _, Lib.hid rfl⟩
      case round =>
        obtain ⟨q, rfl, hq, HW⟩ := hrel
        have hWW := HW.out
        by_cases hlt : q < XL
        · have hqx : (q : Int) < (XL : Int) := by omega
          obtain ⟨hc1, hc2, hc3⟩ := HTB.out q (by rw [HXL.out]; exact hlt)
          obtain ⟨bx, ox, rfl, hbx, hcx⟩ := XZ.out.row.byte (by omega)
          obtain ⟨bn, on, rfl, hbn, hcn'⟩ := NZ.out.row.byte (by omega)
          have qx : ∀ v, X.getD q 0 = v → wr.cell? ⟨bx, ox + q, none⟩ = some (.int .u8 (v.toNat : Int)) := fun v hv => by rw [← hv, hWW]; exact hcx q hlt
          have qn : wr.cell? ⟨bn, on + q, none⟩ = some (.int .u8 ((now.getD q 0).toNat : Int)) := by rw [hWW]; exact hcn' q (by omega)
          have qo : q < i → wr.cell? ⟨w2.heap.size, q, none⟩ = some (.int .u8 ((old.getD q 0).toNat : Int)) := by
            intro hh
            obtain ⟨b, o, e, _, hco⟩ := FZ.out.row.byte (by omega)
            injection e with e
            injection e with e1 e2 e3
            subst e1 e2
            have := hco q hh
            rw [hWW]
            rwa [Nat.zero_add] at this
          clear hcx hcn'
          have hs : (q : Int) / 64 = ((q / 64 : Nat) : Int) := by omega
          have hr : (q : Int) % 64 = ((q % 64 : Nat) : Int) := by omega
          obtain ⟨s, hss⟩ : ∃ s, q / 64 = s := ⟨_, rfl⟩
          obtain ⟨r, hrr⟩ : ∃ r, q % 64 = r := ⟨_, rfl⟩
          rw [hss] at hs hc1 hc2 hc3
          rw [hrr] at hr hc1 hc2
          have hsr : q = 64 * s + r ∧ r < 64 := by omega
          have hsb : s ≤ 1000 := by omega
          obtain ⟨hsr1, hsr2⟩ := hsr
          have HSR := Lib.hid hsr1
          clear hsr1 hss hrr
          by_cases hm0 : mm = 0
          · have HCL : s < F ∨ F + sectors aa mm ≤ s := by rw [hm0, sectors, if_pos rfl]; omega
            have hm0' : ¬ ((0 : Int) < (mm : Int)) := by omega
            have h3 := hc3 HCL
            have q1 := qx _ h3.2
            have hqi : q < i := by have := h3.1; omega
            have q2 := qo hqi
            have hqi' : (q : Int) < (i : Int) := by omega
            
            obtain ⟨vn, hvn⟩ : ∃ v : Int, ((now.getD q 0).toNat : Int) = v := ⟨_, rfl⟩
            obtain ⟨vo, hvo⟩ : ∃ v : Int, ((old.getD q 0).toNat : Int) = v := ⟨_, rfl⟩
            rw [hvn] at qn
            rw [hvo] at q2
            rw [hvo] at q1
            clear qx qo hvn hvo hWW
            go_wp2_with fail
            first | exact ⟨⟨q + 1, by go_num, by omega, HW⟩, by simp [RowKit.intOf]; omega⟩ | exact ⟨⟨q + 1, by omega, by omega⟩, by simp [RowKit.intOf]; omega⟩ | (go_roundw; (case rel => exact ⟨q + 1, by go_num, by omega, HW⟩); (case measure => simp [RowKit.intOf]; omega))
          · have hm0' : (0 : Int) < (mm : Int) := by omega
            have hlv := HLA.out (by omega)
            have hN : sectors aa mm = (aa + mm - 1) / 64 - F + 1 := by rw [sectors, if_neg hm0, HFF.out]
            have hFL : F ≤ (aa + mm - 1) / 64 := by have := HFF.out; omega
            have hlb : (aa + mm - 1) / 64 ≤ 1000 := by omega
            generalize sectors aa mm = N at *
            generalize (aa + mm - 1) / 64 = lan at *
            subst hlv
            have HN := Lib.hid hN
            clear hN hm0
            by_cases hsF : s < F
            · have HCL : s < F ∨ F + N ≤ s := .inl hsF
              have hsF' : ¬ ((F : Int) ≤ (s : Int)) := by omega
              have h3 := hc3 HCL
              have q1 := qx _ h3.2
              have hqi : q < i := by have := h3.1; omega
              have q2 := qo hqi
              have hqi' : (q : Int) < (i : Int) := by omega
              
              obtain ⟨vn, hvn⟩ : ∃ v : Int, ((now.getD q 0).toNat : Int) = v := ⟨_, rfl⟩
              obtain ⟨vo, hvo⟩ : ∃ v : Int, ((old.getD q 0).toNat : Int) = v := ⟨_, rfl⟩
              rw [hvn] at qn
              rw [hvo] at q2
              rw [hvo] at q1
              clear qx qo hvn hvo hWW
              go_wp2_with fail
              first | exact ⟨⟨q + 1, by go_num, by omega, HW⟩, by simp [RowKit.intOf]; omega⟩ | exact ⟨⟨q + 1, by omega, by omega⟩, by simp [RowKit.intOf]; omega⟩ | (go_roundw; (case rel => exact ⟨q + 1, by go_num, by omega, HW⟩); (case measure => simp [RowKit.intOf]; omega))
            · have hsF' : (F : Int) ≤ (s : Int) := by omega
              by_cases hsL : lan < s
              · have HCL : s < F ∨ F + N ≤ s := .inr (by have := HN.out; omega)
                have hsL' : ¬ ((s : Int) ≤ (lan : Int)) := by omega
                have h3 := hc3 HCL
                have q1 := qx _ h3.2
                have hqi : q < i := by have := h3.1; omega
                have q2 := qo hqi
                have hqi' : (q : Int) < (i : Int) := by omega
                
                obtain ⟨vn, hvn⟩ : ∃ v : Int, ((now.getD q 0).toNat : Int) = v := ⟨_, rfl⟩
                obtain ⟨vo, hvo⟩ : ∃ v : Int, ((old.getD q 0).toNat : Int) = v := ⟨_, rfl⟩
                rw [hvn] at qn
                rw [hvo] at q2
                rw [hvo] at q1
                clear qx qo hvn hvo hWW
                go_wp2_with fail
                first | exact ⟨⟨q + 1, by go_num, by omega, HW⟩, by simp [RowKit.intOf]; omega⟩ | exact ⟨⟨q + 1, by omega, by omega⟩, by simp [RowKit.intOf]; omega⟩ | (go_roundw; (case rel => exact ⟨q + 1, by go_num, by omega, HW⟩); (case measure => simp [RowKit.intOf]; omega))
              · have hsL' : (s : Int) ≤ (lan : Int) := by omega
                obtain ⟨j, hqj⟩ : ∃ j, s = F + j := ⟨s - F, by omega⟩
                have hjN : j < N := by have := HN.out; omega
                have hjb : j ≤ 1000 := by omega
                have hkj : (s : Int) - (F : Int) = (j : Int) := by omega
                have hd1 := hc1 j hqj hjN
                have hd2 := hc2 j hqj hjN
                have HQJ := Lib.hid hqj
                clear hc1 hc2 hc3 hqj hjN HN
                by_cases htj : (j : Int) = torn
                · have hp : partOf j keep torn = 32 := if_pos htj
                  rw [hp] at hd1 hd2
                  by_cases hr32 : r < 32
                  · have hr32' : (r : Int) < 32 := by omega
                    have hx := hd1 hr32
                    have q1 := qx _ hx
                    by_cases hqi : q < i
                    · have q2 := qo hqi
                      have hqi' : (q : Int) < (i : Int) := by omega
                      obtain ⟨vn, hvn⟩ : ∃ v : Int, ((now.getD q 0).toNat : Int) = v := ⟨_, rfl⟩
                      obtain ⟨vo, hvo⟩ : ∃ v : Int, ((old.getD q 0).toNat : Int) = v := ⟨_, rfl⟩
                      rw [hvn] at qn
                      rw [hvo] at q2
                      rw [hvn] at q1
                      clear qx qo hvn hvo hWW
                      go_wp2_with fail
                      first | exact ⟨⟨q + 1, by go_num, by omega, HW⟩, by simp [RowKit.intOf]; omega⟩ | exact ⟨⟨q + 1, by omega, by omega⟩, by simp [RowKit.intOf]; omega⟩ | (go_roundw; (case rel => exact ⟨q + 1, by go_num, by omega, HW⟩); (case measure => simp [RowKit.intOf]; omega))
                    · have hqi' : ¬ (q : Int) < (i : Int) := by omega
                      obtain ⟨vn, hvn⟩ : ∃ v : Int, ((now.getD q 0).toNat : Int) = v := ⟨_, rfl⟩
                      obtain ⟨vo, hvo⟩ : ∃ v : Int, ((old.getD q 0).toNat : Int) = v := ⟨_, rfl⟩
                      rw [hvn] at qn
                      rw [hvn] at q1
                      clear qx qo hvn hvo hWW
                      go_wp2_with fail
                      first | exact ⟨⟨q + 1, by go_num, by omega, HW⟩, by simp [RowKit.intOf]; omega⟩ | exact ⟨⟨q + 1, by omega, by omega⟩, by simp [RowKit.intOf]; omega⟩ | (go_roundw; (case rel => exact ⟨q + 1, by go_num, by omega, HW⟩); (case measure => simp [RowKit.intOf]; omega))
                  · have hr32' : ¬ ((r : Int) < 32) := by omega
                    have hx := hd2 (by omega)
                    have q1 := qx _ hx
                    by_cases hqi : q < i
                    · have q2 := qo hqi
                      have hqi' : (q : Int) < (i : Int) := by omega
                      obtain ⟨vn, hvn⟩ : ∃ v : Int, ((now.getD q 0).toNat : Int) = v := ⟨_, rfl⟩
                      obtain ⟨vo, hvo⟩ : ∃ v : Int, ((old.getD q 0).toNat : Int) = v := ⟨_, rfl⟩
                      rw [hvn] at qn
                      rw [hvo] at q2
                      rw [hvo] at q1
                      clear qx qo hvn hvo hWW
                      go_wp2_with fail
                      first | exact ⟨⟨q + 1, by go_num, by omega, HW⟩, by simp [RowKit.intOf]; omega⟩ | exact ⟨⟨q + 1, by omega, by omega⟩, by simp [RowKit.intOf]; omega⟩ | (go_roundw; (case rel => exact ⟨q + 1, by go_num, by omega, HW⟩); (case measure => simp [RowKit.intOf]; omega))
                    · have hqi' : ¬ (q : Int) < (i : Int) := by omega
                      have e0 : old.getD q 0 = 0 := by rw [List.getD_eq_getElem?_getD, List.getElem?_eq_none (by omega)]; rfl
                      rw [e0] at q1
                      have q1' : wr.cell? ⟨bx, ox + q, none⟩ = some (.int .u8 0) := q1
                      clear q1
                      obtain ⟨vn, hvn⟩ : ∃ v : Int, ((now.getD q 0).toNat : Int) = v := ⟨_, rfl⟩
                      obtain ⟨vo, hvo⟩ : ∃ v : Int, ((old.getD q 0).toNat : Int) = v := ⟨_, rfl⟩
                      rw [hvn] at qn
                      clear qx qo hvn hvo hWW
                      go_wp2_with fail
                      first | exact ⟨⟨q + 1, by go_num, by omega, HW⟩, by simp [RowKit.intOf]; omega⟩ | exact ⟨⟨q + 1, by omega, by omega⟩, by simp [RowKit.intOf]; omega⟩ | (go_roundw; (case rel => exact ⟨q + 1, by go_num, by omega, HW⟩); (case measure => simp [RowKit.intOf]; omega))
                · have hp : partOf j keep torn = if keep.getD j false = true then 64 else 0 := if_neg htj
                  rw [hp] at hd1 hd2
                  by_cases hjk : j < mk
                  · have hjk' : (j : Int) < (mk : Int) := by omega
                    obtain ⟨bk, ok, rfl, _, hck'⟩ := KZ.out.2 (by omega)
                    have hkl : keep.length = mk := by have := KZ.out.1; rwa [lvs_length] at this
                    have qk : wr.cell? ⟨bk, ok + j, none⟩ = some (.bool (keep.getD j false)) := by rw [hWW]; exact hck' j _ (by rw [lvs, List.getElem?_map, List.getD_eq_getElem?_getD, List.getElem?_eq_getElem (by omega)]; rfl)
                    clear hck'
                    cases hkv : keep.getD j false
                    · rw [hkv] at hd1 hd2 qk
                      have hx := hd2 (Nat.zero_le _)
                      have q1 := qx _ hx
                      by_cases hqi : q < i
                      · have q2 := qo hqi
                        have hqi' : (q : Int) < (i : Int) := by omega
                        obtain ⟨vn, hvn⟩ : ∃ v : Int, ((now.getD q 0).toNat : Int) = v := ⟨_, rfl⟩
                        obtain ⟨vo, hvo⟩ : ∃ v : Int, ((old.getD q 0).toNat : Int) = v := ⟨_, rfl⟩
                        rw [hvn] at qn
                        rw [hvo] at q2
                        rw [hvo] at q1
                        clear qx qo hvn hvo hWW
                        go_wp2_with fail
                        first | exact ⟨⟨q + 1, by go_num, by omega, HW⟩, by simp [RowKit.intOf]; omega⟩ | exact ⟨⟨q + 1, by omega, by omega⟩, by simp [RowKit.intOf]; omega⟩ | (go_roundw; (case rel => exact ⟨q + 1, by go_num, by omega, HW⟩); (case measure => simp [RowKit.intOf]; omega))
                      · have hqi' : ¬ (q : Int) < (i : Int) := by omega
                        have e0 : old.getD q 0 = 0 := by rw [List.getD_eq_getElem?_getD, List.getElem?_eq_none (by omega)]; rfl
                        rw [e0] at q1
                        have q1' : wr.cell? ⟨bx, ox + q, none⟩ = some (.int .u8 0) := q1
                        clear q1
                        obtain ⟨vn, hvn⟩ : ∃ v : Int, ((now.getD q 0).toNat : Int) = v := ⟨_, rfl⟩
                        obtain ⟨vo, hvo⟩ : ∃ v : Int, ((old.getD q 0).toNat : Int) = v := ⟨_, rfl⟩
                        rw [hvn] at qn
                        clear qx qo hvn hvo hWW
                        go_wp2_with fail
                        first | exact ⟨⟨q + 1, by go_num, by omega, HW⟩, by simp [RowKit.intOf]; omega⟩ | exact ⟨⟨q + 1, by omega, by omega⟩, by simp [RowKit.intOf]; omega⟩ | (go_roundw; (case rel => exact ⟨q + 1, by go_num, by omega, HW⟩); (case measure => simp [RowKit.intOf]; omega))
                    · rw [hkv] at hd1 hd2 qk
                      have hx := hd1 hsr2
                      have q1 := qx _ hx
                      by_cases hqi : q < i
                      · have q2 := qo hqi
                        have hqi' : (q : Int) < (i : Int) := by omega
                        obtain ⟨vn, hvn⟩ : ∃ v : Int, ((now.getD q 0).toNat : Int) = v := ⟨_, rfl⟩
                        obtain ⟨vo, hvo⟩ : ∃ v : Int, ((old.getD q 0).toNat : Int) = v := ⟨_, rfl⟩
                        rw [hvn] at qn
                        rw [hvo] at q2
                        rw [hvn] at q1
                        clear qx qo hvn hvo hWW
                        go_wp2_with fail
                        first | exact ⟨⟨q + 1, by go_num, by omega, HW⟩, by simp [RowKit.intOf]; omega⟩ | exact ⟨⟨q + 1, by omega, by omega⟩, by simp [RowKit.intOf]; omega⟩ | (go_roundw; (case rel => exact ⟨q + 1, by go_num, by omega, HW⟩); (case measure => simp [RowKit.intOf]; omega))
                      · have hqi' : ¬ (q : Int) < (i : Int) := by omega
                        obtain ⟨vn, hvn⟩ : ∃ v : Int, ((now.getD q 0).toNat : Int) = v := ⟨_, rfl⟩
                        obtain ⟨vo, hvo⟩ : ∃ v : Int, ((old.getD q 0).toNat : Int) = v := ⟨_, rfl⟩
                        rw [hvn] at qn
                        rw [hvn] at q1
                        clear qx qo hvn hvo hWW
                        go_wp2_with fail
                        first | exact ⟨⟨q + 1, by go_num, by omega, HW⟩, by simp [RowKit.intOf]; omega⟩ | exact ⟨⟨q + 1, by omega, by omega⟩, by simp [RowKit.intOf]; omega⟩ | (go_roundw; (case rel => exact ⟨q + 1, by go_num, by omega, HW⟩); (case measure => simp [RowKit.intOf]; omega))
                  · have hjk' : ¬ ((j : Int) < (mk : Int)) := by omega
                    have hkl : keep.length = mk := by have := KZ.out.1; rwa [lvs_length] at this
                    have hkv : keep.getD j false = false := by rw [List.getD_eq_getElem?_getD, List.getElem?_eq_none (by omega)]; rfl
                    rw [hkv] at hd1 hd2
                    have hx := hd2 (Nat.zero_le _)
                    have q1 := qx _ hx
                    by_cases hqi : q < i
                    · have q2 := qo hqi
                      have hqi' : (q : Int) < (i : Int) := by omega
                      obtain ⟨vn, hvn⟩ : ∃ v : Int, ((now.getD q 0).toNat : Int) = v := ⟨_, rfl⟩
                      obtain ⟨vo, hvo⟩ : ∃ v : Int, ((old.getD q 0).toNat : Int) = v := ⟨_, rfl⟩
                      rw [hvn] at qn
                      rw [hvo] at q2
                      rw [hvo] at q1
                      clear qx qo hvn hvo hWW
                      go_wp2_with fail
                      first | exact ⟨⟨q + 1, by go_num, by omega, HW⟩, by simp [RowKit.intOf]; omega⟩ | exact ⟨⟨q + 1, by omega, by omega⟩, by simp [RowKit.intOf]; omega⟩ | (go_roundw; (case rel => exact ⟨q + 1, by go_num, by omega, HW⟩); (case measure => simp [RowKit.intOf]; omega))
                    · have hqi' : ¬ (q : Int) < (i : Int) := by omega
                      have e0 : old.getD q 0 = 0 := by rw [List.getD_eq_getElem?_getD, List.getElem?_eq_none (by omega)]; rfl
                      rw [e0] at q1
                      have q1' : wr.cell? ⟨bx, ox + q, none⟩ = some (.int .u8 0) := q1
                      clear q1
                      obtain ⟨vn, hvn⟩ : ∃ v : Int, ((now.getD q 0).toNat : Int) = v := ⟨_, rfl⟩
                      obtain ⟨vo, hvo⟩ : ∃ v : Int, ((old.getD q 0).toNat : Int) = v := ⟨_, rfl⟩
                      rw [hvn] at qn
                      clear qx qo hvn hvo hWW
                      go_wp2_with fail
                      first | exact ⟨⟨q + 1, by go_num, by omega, HW⟩, by simp [RowKit.intOf]; omega⟩ | exact ⟨⟨q + 1, by omega, by omega⟩, by simp [RowKit.intOf]; omega⟩ | (go_roundw; (case rel => exact ⟨q + 1, by go_num, by omega, HW⟩); (case measure => simp [RowKit.intOf]; omega))
        · obtain rfl : q = XL := by omega
          go_wp2_with fail
          go_ret
          exact ⟨rfl, by first | exact hEnd.out | (rw [hWW]; exact hEnd.out)⟩
end Go.Proofs.Ytebjapinhkeafaa.Disk
