/-
  Proved: the walk of CrcBurst of package stillroomlaw1: it returns true and changes nothing that was there.
  Conditions: the slices read as bytes; the table crc.turned holds its sixteen words.
-/
import Derived.Test.YtflikfgcbhfcbaaDoorCrcBase
import Derived.RegionTactic
import Derived.BigRegion
import Derived.Deep.QuietTactic
import Derived.BigQuiet
namespace Go.Proofs.YtflikfgcbhfcbaaDoor.Crc
open Go.RowKit

/-- A byte of the text that was changed: k bytes from place p on. -/
def patchAt (bs xs : List UInt8) (p k j : Nat) : UInt8 := if p ≤ j ∧ j < p + k then bs.getD j 0 ^^^ xs.getD (j - p) 0 else bs.getD j 0
def patch (bs xs : List UInt8) (p k : Nat) : List UInt8 := (List.range bs.length).map (patchAt bs xs p k)
theorem patch_get (bs xs : List UInt8) (p k j : Nat) (h : j < bs.length) : (patch bs xs p k)[j]? = some (patchAt bs xs p k j) := by
  rw [patch, List.getElem?_map, List.getElem?_range h]; rfl
theorem patch_length (bs xs : List UInt8) (p k : Nat) : (patch bs xs p k).length = bs.length := by simp [patch]
theorem get_getD {l : List UInt8} {j : Nat} (h : j < l.length) : l[j]? = some (l.getD j 0) := by
  rw [List.getD_eq_getElem?_getD, List.getElem?_eq_getElem h]; rfl
theorem xor_same {a b : UInt8} (h : a = a ^^^ b) : b = 0 := by
  have : a ^^^ a = a ^^^ (a ^^^ b) := by rw [← h]
  rw [UInt8.xor_self, ← UInt8.xor_assoc, UInt8.xor_self, UInt8.zero_xor] at this
  exact this.symm
theorem patch_sum {bs xs : List UInt8} {p : Nat} (h4 : xs.length ≤ 4) (hp : p + xs.length ≤ bs.length) (h : sum bs = sum (patch bs xs p xs.length)) : ∀ i, i < xs.length → xs.getD i 0 = 0 := by
  obtain ⟨P, hP⟩ : ∃ P, P = patch bs xs p xs.length := ⟨_, rfl⟩
  have hl : P.length = bs.length := by rw [hP, patch_length]
  have cut3 : ∀ l : List UInt8, l = l.take p ++ (l.drop p).take xs.length ++ l.drop (p + xs.length) := by
    intro l
    rw [List.append_assoc, ← List.drop_drop, List.take_append_drop, List.take_append_drop]
  have e1 : P.take p = bs.take p := by
    apply List.ext_getElem?
    intro j
    rw [List.getElem?_take, List.getElem?_take]
    split
    · rw [hP, patch_get _ _ _ _ _ (by omega), get_getD (by omega), patchAt, if_neg (by omega)]
    · rfl
  have e2 : P.drop (p + xs.length) = bs.drop (p + xs.length) := by
    apply List.ext_getElem?
    intro j
    rw [List.getElem?_drop, List.getElem?_drop]
    by_cases hj : p + xs.length + j < bs.length
    · rw [hP, patch_get _ _ _ _ _ hj, get_getD hj, patchAt, if_neg (by omega)]
    · rw [List.getElem?_eq_none (by omega), List.getElem?_eq_none (by omega)]
  have hm := burst (pre := bs.take p) (mid := (bs.drop p).take xs.length) (mid' := (P.drop p).take xs.length) (post := bs.drop (p + xs.length))
    (by simp [hl]) (by simp; omega) (by rw [← cut3 bs, ← e1, ← e2, ← cut3 P, h, hP])
  intro i hi
  have := congrArg (fun l : List UInt8 => l[i]?) hm
  simp only [List.getElem?_take, List.getElem?_drop, hi, if_true] at this
  rw [hP, patch_get _ _ _ _ _ (by omega), get_getD (by omega), patchAt, if_pos (by omega)] at this
  injection this with this
  rw [show p + i - p = i by omega] at this
  exact xor_same this
/-- Is one of the first k bytes no nought? -/
def someOf (xs : List UInt8) (k : Nat) : Bool := (xs.take k).any (fun c => c != 0)
theorem someOf_snoc (xs : List UInt8) (k : Nat) (h : k < xs.length) : someOf xs (k + 1) = (someOf xs k || (xs.getD k 0 != 0)) := by
  unfold someOf; rw [getD_snoc xs k h, List.any_append]; simp
theorem someOf_none {xs : List UInt8} (h : ∀ i, i < xs.length → xs.getD i 0 = 0) : someOf xs xs.length = false := by
  unfold someOf
  rw [List.take_length, List.any_eq_false]
  intro c hc
  obtain ⟨i, hi, rfl⟩ := List.getElem_of_mem hc
  have := h i hi
  rw [List.getD_eq_getElem?_getD, List.getElem?_eq_getElem hi] at this
  simpa using this

set_option maxHeartbeats 400000 in
theorem crcBurst_walk (A : Option Addr) (n c : Nat) (es : List UInt8) (pl : Int) (B : Option Addr) (m d : Nat) (fs : List UInt8) (w : World) (hT : Turned w)
    (hA : Row w w.heap.size A n (bvs es)) (hn : n ≤ c) (hc : c ≤ maxLen) (hpl : -9223372036854775808 ≤ pl ∧ pl ≤ 9223372036854775807) (hB : Row w w.heap.size B m (bvs fs)) (hm : m ≤ d) (hd : d ≤ maxLen) :
    Calls Tryd.prog 5 #[.slice A n c, .int .i64 pl, .slice B m d] w fun e w' => e = .returned (.bool true) ∧ Below w.heap.size w w' := by
  go_enter Tryd.func5, Tryd.ntmps5
  go_wp2_with fail
  refine (begun_any w hT).mono ?_
  rintro e w1 ⟨rfl, hb1⟩
  go_wp2_with fail
  refine (short_any A n c 200 w1 hn hc).mono ?_
  rintro e w2 ⟨rfl, rfl⟩
  go_wp2_with fail
  refine (short_any B m d 4 w1 hm hd).mono ?_
  rintro e w2 ⟨rfl, rfl⟩
  have HT := Lib.hid (hT.below hb1)
  have HA := Lib.hid (short_row (m := 200) hb1 hA)
  have HB := Lib.hid (short_row (m := 4) hb1 hB)
  have hN : min n 200 ≤ 200 := Nat.min_le_right _ _
  have hM : min m 4 ≤ 4 := Nat.min_le_right _ _
  have hNc : min n 200 ≤ c := by omega
  have hMd : min m 4 ≤ d := by omega
  generalize min n 200 = N at *
  generalize min m 4 = M at *
  generalize es.take 200 = bs at *
  generalize fs.take 4 = xs at *
  have HW := Lib.hid hb1
  have HL := Lib.hid HB.out.size
  clear hT hA hn hc hB hm hd hb1
  go_wp2_with fail
  go_loop [8, 9] (fun s i => ∃ k : Nat, ∃ b : Bool, k ≤ M ∧ Hid (b = someOf xs k) ∧ s = .bool b ∧ i = .int .i64 k) (fun _ i => M - (intOf i).toNat)
  case atStart => exact ⟨0, false, Nat.zero_le _, rfl, rfl, rfl⟩
  case round =>
    obtain ⟨k, b, hk, HS, rfl, rfl⟩ := hrel
    by_cases hlt : k < M
    · obtain ⟨b1, o1, rfl, _, q1⟩ := HB.out.byte (by omega)
      have f1 := q1 k hlt
      have HN := Lib.hid (someOf_snoc xs k (by rw [HL.out]; exact hlt))
      obtain ⟨x, HX⟩ : ∃ x, Hid (x = xs.getD k 0) := ⟨_, rfl⟩
      rw [← HX.out] at f1 HN
      clear q1
      cases b
      · by_cases h0 : x = 0
        · have ht : ((x.toNat : Int) != 0) = false := by rw [h0]; rfl
          have H0 := Lib.hid h0
          clear h0
          go_wp2_with fail
          go_round
          case rel => exact ⟨k + 1, false, by omega, by show false = someOf xs (k + 1); rw [HN.out, ← HS.out, H0.out]; rfl, rfl, by go_num⟩
          case measure => simp [intOf]; omega
        · have ht : ((x.toNat : Int) != 0) = true := by
            rw [bne_iff_ne]
            intro h
            exact h0 (UInt8.toNat.inj (by simpa using h))
          have H0 := Lib.hid h0
          clear h0
          go_wp2_with fail
          go_round
          case rel => exact ⟨k + 1, true, by omega, by show true = someOf xs (k + 1); rw [HN.out, ← HS.out]; simp [H0.out], rfl, by go_num⟩
          case measure => simp [intOf]; omega
      · go_wp2_with fail
        go_round
        case rel => exact ⟨k + 1, true, by omega, by show true = someOf xs (k + 1); rw [HN.out, ← HS.out]; rfl, rfl, by go_num⟩
        case measure => simp [intOf]; omega
    · obtain rfl : k = M := by omega
      obtain ⟨p1, p2⟩ := hpl
      by_cases h1 : pl < 0
      · go_wp2_with fail
        go_ret
        exact ⟨rfl, HW.out⟩
      by_cases h2 : (N : Int) - (k : Int) < pl
      · go_wp2_with fail
        go_ret
        exact ⟨rfl, HW.out⟩
      cases b
      · go_wp2_with fail
        go_ret
        exact ⟨rfl, HW.out⟩
      obtain ⟨p, rfl⟩ := Int.eq_ofNat_of_zero_le (Int.not_lt.1 h1)
      have hp : p + k ≤ N := by omega
      have hd0 : decide ((p : Int) < 0) = false := by simp
      clear h1 p1 p2
      go_wp2_with (first
        | (at_builtin
           refine wpList_append_reads rfl (.const (.slice none 0 0)) (.tmp 48) _ rfl w1.heap.size 5 (.int .u8 0) 1 Tryd.underlying22 byte_info rfl (.slice none 0 0) 0 [] rfl (World.ownsRow_nil _ _ _ _) w1.heap.size A N c (bvs bs) rfl HA.out (bvs_one _) (by simp only [maxLen]; omega) (by omega) (Nat.le_refl _) ?_
           intro v1 w2 ho1 hg1))
      have hb2 : Below w1.heap.size w1 w2 := own_below (World.ownsRow_nil w1 w1.heap.size 5 1) (Below.refl _ _) (Nat.le_refl _) (Nat.le_refl _) hg1
      rw [Nat.zero_add, List.nil_append] at ho1
      have hkpos : 0 < k := by
        rcases Nat.eq_zero_or_pos k with h0 | h0
        · subst h0
          have h9 := HS.out
          simp [someOf] at h9
        · exact h0
      obtain ⟨g, cap, cur, rfl, hgb, hgh, hcap, hcm, hcs, hct⟩ := own_block ho1 (by omega)
      have hLA := HA.out.size
      have hcur : ∀ i, i < N → cur[i]? = some (bv (bs.getD i 0)) := by
        intro i hi
        have := congrArg (fun l : List Value => l[i]?) hct
        simp only [List.getElem?_take, hi, if_true, Array.getElem?_toList] at this
        rw [this, bvs, List.getElem?_map, get_getD (by omega)]
        rfl
      have HC := Lib.hid (⟨hgb, hgh, hcs, hcur, hb2⟩ : w1.heap.size ≤ g ∧ Blk w2 g 5 cur ∧ cur.size = cap ∧ (∀ i, i < N → cur[i]? = some (bv (bs.getD i 0))) ∧ Below w1.heap.size w1 w2)
      have HLA := Lib.hid hLA
      have hcap9 : cap ≤ 9223372036854775807 := by unfold maxLen at hcm; exact hcm
      clear hct hcs hgh hgb hb2 hcur hLA ho1 hg1 hcm
      go_loopw [11] (fun i wr => ∃ j : Nat, ∃ arr : Array Value, j ≤ k ∧ i = .int .i64 j ∧ Hid (Blk wr g 5 arr ∧ arr.size = cap ∧ (∀ i, i < N → arr[i]? = some (bv (patchAt bs xs p j i))) ∧ Below w1.heap.size w1 wr)) (fun i _ => k - (intOf i).toNat)
      case atStart => exact ⟨0, cur, Nat.zero_le _, rfl, HC.out.2.1, HC.out.2.2.1, fun i hi => by rw [patchAt, if_neg (by omega)]; exact HC.out.2.2.2.1 i hi, HC.out.2.2.2.2⟩
      case round =>
        obtain ⟨j, arr, hj, rfl, HI⟩ := hrel
        by_cases hjk : j < k
        · obtain ⟨b1, o1, rfl, _, q1⟩ := HB.out.byte (by omega)
          have hbl := HI.out.2.2.2
          have f1 : wr.cell? ⟨b1, o1 + j, none⟩ = some (.int .u8 ((xs.getD j 0).toNat : Int)) := (hbl.cell (by assumption)).trans (q1 j hjk)
          have f2 : wr.cell? ⟨g, p + j, none⟩ = some (.int .u8 ((bs.getD (p + j) 0).toNat : Int)) := by
            rw [HI.out.1.cell, HI.out.2.2.1 (p + j) (by omega), patchAt, if_neg (by omega)]; rfl
          have f3 : wr.frozen? ⟨g, p + j, none⟩ = false := HI.out.1.free _
          obtain ⟨x, HX⟩ : ∃ x, Hid (x = xs.getD j 0) := ⟨_, rfl⟩
          obtain ⟨y, HY⟩ : ∃ y, Hid (y = bs.getD (p + j) 0) := ⟨_, rfl⟩
          rw [← HX.out] at f1
          rw [← HY.out] at f2
          obtain ⟨u, HU⟩ : ∃ u, Hid (u = y ^^^ x) := ⟨_, rfl⟩
          have g1 : bits .xor .u8 (y.toNat : Int) (x.toNat : Int) = (u.toNat : Int) := by rw [HU.out, u8_xor_nat _ _ y.toNat_lt x.toNat_lt, UInt8.toNat_xor]
          have hij : p + j < arr.size := by rw [HI.out.2.1]; omega
          have HIJ := Lib.hid hij
          clear hbl q1 hij
          go_wp2_with fail
          go_region
          go_wp2_with fail
          go_roundw
          case rel =>
            refine ⟨j + 1, arr.setIfInBounds (p + j) (bv u), by omega, by go_num, ?_⟩
            obtain ⟨i1, i2, i3, i4⟩ := HI.out
            refine ⟨i1.put (p + j) _, by simp [i2], fun i hi => ?_, i4.drew.setCell HC.out.1 _⟩
            by_cases hji : p + j = i
            · subst hji
              rw [Array.getElem?_setIfInBounds_self_of_lt HIJ.out, patchAt, if_pos (by omega), HU.out, HX.out, HY.out, show p + j - p = j by omega]
            · rw [Array.getElem?_setIfInBounds_ne hji, i3 i hi]
              unfold patchAt
              by_cases hin : p ≤ i ∧ i < p + j
              · rw [if_pos hin, if_pos (by omega)]
              · rw [if_neg hin, if_neg (by omega)]
          case measure => simp [intOf]; omega
        · obtain rfl : j = k := by omega
          obtain ⟨i1, i2, i3, i4⟩ := HI.out
          have hda : arr.toList.take N = bvs (patch bs xs p j) := by
            apply List.ext_getElem?
            intro i
            rw [List.getElem?_take, Array.getElem?_toList]
            split
            · rw [i3 i (by omega), bvs, List.getElem?_map, patch_get _ _ _ _ _ (by rw [HLA.out]; omega)]
              rfl
            · rw [List.getElem?_eq_none (by rw [bvs_length, patch_length, HLA.out]; omega)]
          have hdr := i1.row.take (k := N) (by omega)
          rw [hda] at hdr
          have hT' := HT.out.below i4
          have ha := (HA.out.below i4).more i4.size
          have hNm : N ≤ maxLen := Nat.le_trans hN (by decide)
          have c1 := sum_any A N c bs wr hT' ha hNm
          have c2 := sum_any _ N cap (patch bs xs p j) wr hT' hdr hNm
          have hne : sum bs ≠ sum (patch bs xs p j) := by
            intro h
            have hxl := HL.out
            subst hxl
            have h9 := HS.out
            rw [someOf_none (patch_sum hM (by rw [HLA.out]; exact hp) h)] at h9
            cases h9
          generalize sum bs = S1 at *
          generalize sum (patch bs xs p j) = S2 at *
          have hb : ((S1.toNat : Int) != (S2.toNat : Int)) = true := by
            rw [bne_iff_ne]
            intro h
            exact hne (BitVec.eq_of_toNat_eq (by omega))
          have C1 := Lib.hid c1
          have C2 := Lib.hid c2
          have HE := Lib.hid (HW.out.trans (i4.mono HW.out.size))
          clear c1 c2 hne hda hdr hT' ha i1 i2 i3 i4 HI HT HA HB
          go_wp2_with fail
          refine C1.out.mono ?_
          rintro e w4 ⟨rfl, rfl⟩
          go_wp2_with fail
          refine C2.out.mono ?_
          rintro e w4 ⟨rfl, rfl⟩
          go_wp2_with fail
          go_ret
          exact ⟨rfl, HE.out⟩
end Go.Proofs.YtflikfgcbhfcbaaDoor.Crc
