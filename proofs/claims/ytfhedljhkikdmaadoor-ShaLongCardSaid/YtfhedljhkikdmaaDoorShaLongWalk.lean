/-
  Proved: the walk of ShaLong of package stillroomlaw2: it returns true and changes nothing that was there.
  Conditions: the numbers lie in their types; the tables sha.start and sha.rounds hold their words.
-/
import Derived.Test.YtfhedljhkikdmaaDoorShaNoneWalk
import Derived.Test.YtfhedljhkikdmaaDoorRefAll
namespace Go.Proofs.YtfhedljhkikdmaaDoor.Sha
open Go.RowKit

theorem bvs_made (n : Nat) : madeCells #[Value.int .u8 0] n = (bvs (List.replicate n 0)).toArray := by
  apply Array.ext'
  rw [toList_madeCells_one]
  simp [bvs, bv]
theorem bvs_set (l : List UInt8) (i : Nat) (c : UInt8) : (bvs l).toArray.setIfInBounds i (bv c) = (bvs (l.set i c)).toArray := by
  simp [bvs]
theorem byte_value {x : Int} (h0 : 0 ≤ x) (h1 : x ≤ 255) : ∃ c : UInt8, Value.int .u8 x = bv c := by
  refine ⟨UInt8.ofNat x.toNat, ?_⟩
  rw [bv, UInt8.toNat_ofNat']
  congr 1
  have : x.toNat % 2 ^ 8 = x.toNat := Nat.mod_eq_of_lt (by omega)
  rw [this]
  omega
theorem blk_row_u8 {w : World} {g : Nat} {t : TypeId} {l : List UInt8} {n : Nat} (h : Blk w g t (bvs l).toArray) (hn : l.length = n) : Row w w.heap.size (some ⟨g, 0, none⟩) n (bvs l) := by
  have e : (bvs l).toArray.size = n := by rw [List.size_toArray, bvs_length, hn]
  rw [← e]
  exact h.row

set_option maxHeartbeats 1000000 in
theorem shaLong_walk (n x : Int) (w : World) (hT : Tables w) (hn : -9223372036854775808 ≤ n ∧ n ≤ 9223372036854775807) (hx : (Lit.int .u8 x).wf = true) :
    Calls Tryd.prog 6 #[.int .i64 n, .int .u8 x] w fun e w' => e = .returned (.bool true) ∧ Below w.heap.size w w' := by
  obtain ⟨hn1, hn2⟩ := hn
  have hx0 : 0 ≤ x ∧ x ≤ 255 := bounds_u8 hx
  obtain ⟨hx1, hx2⟩ := hx0
  have hgd := eq_guard
  obtain ⟨i8, hi8, hz8⟩ := Option.map_eq_some_iff.1 u8_info'
  simp only [Prod.mk.injEq] at hz8
  have HI8 := Lib.hid hi8
  have HZ8 := Lib.hid hz8
  have HT := Lib.hid hT
  clear hT hx hi8 hz8
  go_enter Tryd.func6, Tryd.ntmps6
  go_wp2_with fail
  refine (begun_any w HT.out).mono ?_
  rintro e w1 ⟨rfl, hb1⟩
  have HB1 := Lib.hid hb1
  have hz1 := hb1.size
  clear hb1
  by_cases h0 : n < 0
  · go_wp2_with fail
    go_ret
    exact ⟨rfl, HB1.out⟩
  · by_cases h3 : 300 < n
    · go_wp2_with fail
      go_ret
      exact ⟨rfl, HB1.out⟩
    · obtain ⟨N, rfl⟩ : ∃ N : Nat, n = (N : Int) := ⟨n.toNat, by omega⟩
      have HBY : Hid (i8.bytes * N ≤ 281474976710656) := by
        show _ ≤ _
        rw [HZ8.out.2.2]
        omega
      have HM : Hid (N ≤ maxLen) := by show N ≤ maxLen; unfold maxLen; omega
      go_wp2_with (at_make; refine wpList_make_row _ rfl _ _ 22 rfl 5 i8 (.int .u8 0) Tryd.underlying22 HI8.out HZ8.out.1 HZ8.out.2.1 rfl .i64 .i64 N rfl rfl HBY.out (by omega) ?_)
      rw [bvs_made]
      have hst : Hid (Blk (w1.alloc (.cells (bvs (List.replicate N 0)).toArray 5)) w1.heap.size 5 (bvs (List.replicate N 0)).toArray ∧ Below w.heap.size w (w1.alloc (.cells (bvs (List.replicate N 0)).toArray 5))) := ⟨heap_alloc_new w1 _, HB1.out.alloc HB1.out.size _⟩
      go_loopw [7] (fun i wr => ∃ k : Nat, k ≤ N ∧ i = .int .i64 (k : Int) ∧ Hid (∃ l : List UInt8, l.length = N ∧ Blk wr w1.heap.size 5 (bvs l).toArray ∧ Below w.heap.size w wr)) (fun i _ => N - (intOf i).toNat)
      case atStart => exact ⟨0, Nat.zero_le _, rfl, _, by simp, hst.out.1, hst.out.2⟩
      case round =>
        clear hst
        obtain ⟨k, hk, rfl, HI⟩ := hrel
        obtain ⟨l, hl, hbk, hbw⟩ := HI.out
        by_cases hlt : k < N
        · obtain ⟨v0, f0⟩ : ∃ v0, wr.cell? ⟨w1.heap.size, k, none⟩ = some v0 := ⟨_, (hbk.cell k).trans (Array.getElem?_eq_getElem (by rw [List.size_toArray, bvs_length]; omega))⟩
          have f1 : wr.frozen? ⟨w1.heap.size, k, none⟩ = false := hbk.free k
          have HL := Lib.hid hl
          have HK := Lib.hid hbk
          have HW := Lib.hid hbw
          clear HI hl hbk hbw
          go_wp2_with fail
          go_roundw
          case rel =>
            obtain ⟨cx, hcx⟩ := byte_value hx1 hx2
            refine ⟨k + 1, by omega, by go_num, l.set k cx, by rw [List.length_set]; exact HL.out, ?_, HW.out.setCell hz1 _⟩
            rw [← bvs_set, hcx]
            exact HK.out.put k _
          case measure => simp [intOf]; omega
        · obtain rfl : k = N := by omega
          obtain ⟨res, hres⟩ : ∃ res, res = (bvs (digest l)).toArray := ⟨_, rfl⟩
          have heq := eq_same hres (digest_length _)
          have hrow := blk_row_u8 hbk hl
          have HR := Lib.hid hrow
          have HW := Lib.hid hbw
          have HRES := Lib.hid hres
          clear HI hl hbk hbw hrow hres
          go_wp2_with fail
          refine (sum_any _ k k l wr (HT.out.all HW.out) HR.out (Nat.le_refl _) HM.out (by omega)).mono ?_
          rintro e w4 ⟨rfl, hb4⟩
          rw [← HRES.out]
          have HW4 := Lib.hid (HW.out.trans (hb4.mono HW.out.size))
          have HR4 := Lib.hid ((HR.out.below hb4).more hb4.size)
          clear hb4
          go_wp2_with fail
          refine (refdig_any _ k k l w4 HR4.out (by omega)).mono ?_
          rintro e w5 ⟨rfl, hb5⟩
          rw [← HRES.out]
          have HW5 := Lib.hid (HW4.out.trans (hb5.mono HW4.out.size))
          clear hb5
          go_wp2_with fail
          go_ret
          exact ⟨rfl, HW5.out⟩
end Go.Proofs.YtfhedljhkikdmaaDoor.Sha
