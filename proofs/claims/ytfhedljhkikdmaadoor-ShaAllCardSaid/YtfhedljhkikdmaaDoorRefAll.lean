/-
  Proved: what Digest of package stillroomref1 returns: SHA-256 by its other road, the digest of ShaMath.
  Conditions: the slice reads as bytes; fewer than 2 to the 45th of them.
-/
import Derived.Test.YtfhedljhkikdmaaDoorRefDigest
import Derived.Test.YtfhedljhkikdmaaDoorRefRoot
import Derived.Test.YtfhedljhkikdmaaDoorRefPrime
import Derived.Test.YtfhedljhkikdmaaDoorRefConst
namespace Go.Proofs.YtfhedljhkikdmaaDoor.Sha
open Go.RowKit

def zero8 : Array Value := #[Value.int .u32 0, Value.int .u32 0, Value.int .u32 0, Value.int .u32 0, Value.int .u32 0, Value.int .u32 0, Value.int .u32 0, Value.int .u32 0]
theorem zero_8 (w : World) : (zeroValue 40).run Tryd.prog w = .ok (.agg zero8) w := by kernel_rfl
theorem zero8_size : zero8.size = 8 := by kernel_rfl
theorem row_i64 {w : World} {B n : Nat} {A : Option Addr} {xs : List Nat} (h : Row w B A n (pvs xs)) (hn : 0 < n) :
    ∃ b o, A = some ⟨b, o, none⟩ ∧ b < B ∧ ∀ j, j < n → w.cell? ⟨b, o + j, none⟩ = some (.int .i64 ((xs.getD j 0 : Nat) : Int)) := by
  obtain ⟨b, o, hA, hb, hc⟩ := h.2 hn
  have hl : xs.length = n := by have := h.1; rwa [pvs_length] at this
  refine ⟨b, o, hA, hb, fun j hj => hc j _ ?_⟩
  rw [pvs, List.getElem?_map, List.getD_eq_getElem?_getD, List.getElem?_eq_getElem (by omega)]
  rfl
theorem third_any (n : Nat) (w : World) (hn : n < 512) :
    Calls Tryd.prog 18 #[.int .i64 (n : Int), .int .i64 3] w fun e w' => (∃ r : Nat, e = .returned (.int .u32 ((r % 4294967296 : Nat) : Int)) ∧ isRoot r n 3) ∧ Below w.heap.size w w' := root_any n 3 w hn (by omega) (by omega)
theorem second_any (n : Nat) (w : World) (hn : n < 512) :
    Calls Tryd.prog 18 #[.int .i64 (n : Int), .int .i64 2] w fun e w' => (∃ r : Nat, e = .returned (.int .u32 ((r % 4294967296 : Nat) : Int)) ∧ isRoot r n 2) ∧ Below w.heap.size w w' := root_any n 2 w hn (by omega) (by omega)
theorem prime_lt (j : Nat) : (primes 312).getD j 0 < 512 := by
  rw [List.getD_eq_getElem?_getD]
  by_cases hj : j < (primes 312).length
  · rw [List.getElem?_eq_getElem hj]
    have := primes_lt _ (List.getElem_mem hj)
    simp
    omega
  · rw [List.getElem?_eq_none (by omega)]; decide

/-- How far the tables are filled. -/
def Filled (B : Nat) (w1 : World) (i : Nat) (wr : World) (ks ss : Array Value) : Prop :=
  Blk wr B 46 ks ∧ ks.size = 64 ∧ (∀ j, j < i → j < 64 → ks[j]? = some (.int .u32 ((k32 j).toNat : Int))) ∧
  Blk wr (B + 1) 40 ss ∧ ss.size = 8 ∧ (∀ j, j < i → j < 8 → ss[j]? = some (.int .u32 ((start.list.getD j 0).toNat : Int))) ∧ Below B w1 wr
theorem filled_k {ks : Array Value} (h : ks.size = 64) (hk : ∀ j, j < 64 → j < 64 → ks[j]? = some (.int .u32 ((k32 j).toNat : Int))) : ks = kCells := by
  refine Array.ext_getElem? fun j => ?_
  by_cases hj : j < 64
  · rw [hk j hj hj, kCells_get j hj]
  · rw [Array.getElem?_eq_none (by omega), Array.getElem?_eq_none (by rw [kCells_size]; omega)]
theorem filled_s {ss : Array Value} (h : ss.size = 8) (hs : ∀ j, j < 64 → j < 8 → ss[j]? = some (.int .u32 ((start.list.getD j 0).toNat : Int))) : ss = (uvs start.list).toArray := by
  refine Array.ext_getElem? fun j => ?_
  by_cases hj : j < 8
  · rw [hs j (by omega) hj, List.getElem?_toArray]
    exact (uvs_get (l := start.list) hj).symm
  · rw [Array.getElem?_eq_none (by omega), List.getElem?_toArray, List.getElem?_eq_none (by rw [uvs_length, St.list_length]; omega)]

set_option maxHeartbeats 1000000 in
theorem refdig_any (A : Option Addr) (n c : Nat) (bs : List UInt8) (w : World) (hR : Row w w.heap.size A n (bvs bs)) (hl : n < 35184372088832) :
    Calls Tryd.prog 11 #[.slice A n c] w fun e w' => e = .returned (.agg (bvs (digest bs)).toArray) ∧ Below w.heap.size w w' := by
  have hzero' := zero_sum
  have hzero64 := zero_64
  have hzero8 := zero_8
  have HR := Lib.hid hR
  clear hR
  go_enter Tryd.func11, Tryd.ntmps11
  go_wp2_with fail
  have HS0 : Hid (Blk (w.alloc (.cells zeroSum 25)) w.heap.size 25 zeroSum) := heap_alloc_new w _
  have HB0 : Hid (Below w.heap.size w (w.alloc (.cells zeroSum 25))) := (Below.refl _ _).alloc (Nat.le_refl _) _
  have HZ0 : Hid ((w.alloc (.cells zeroSum 25)).heap.size = w.heap.size + 1) := by show _ = _; simp
  refine (first_any _).mono ?_
  rintro e w1 ⟨u1, rfl, ho1, hb1⟩
  have hz0 := HZ0.out
  rw [hz0] at ho1 hb1
  obtain ⟨A1, c1, rfl, hc1, _⟩ := own_form ho1
  obtain ⟨bp, op, rfl, hbp, hcp⟩ := row_i64 (Row.own ho1) (by omega)
  have hs1 : Blk w1 w.heap.size 25 zeroSum := (hb1.block _ (by omega)).trans HS0.out
  have hb : Below w.heap.size w w1 := HB0.out.trans (hb1.mono (by omega))
  have hz1 : w.heap.size + 1 ≤ w1.heap.size := by have := hb1.size; omega
  have HS1 := Lib.hid hs1
  have HB1 := Lib.hid hb
  have HCP := Lib.hid hcp
  have HSTART : Hid (Filled w1.heap.size w1 0 ((w1.alloc (.cells zero64 46)).alloc (.cells zero8 40)) zero64 zero8) := by
    refine ⟨heap_alloc2_old _ _ _, zero64_size, fun j hj => by omega, ?_, zero8_size, fun j hj => by omega, ((Below.refl _ _).alloc (Nat.le_refl _) _).alloc (by simp) _⟩
    have h := heap_alloc_new (w1.alloc (.cells zero64 46)) (.cells zero8 40)
    have e : (w1.alloc (.cells zero64 46)).heap.size = w1.heap.size + 1 := by simp
    rw [e] at h
    exact h
  clear ho1 hb1 hcp hs1 hb HS0 HB0 HZ0
  go_wp2_with fail
  go_loopw [6] (fun i wr => ∃ k : Nat, k ≤ 64 ∧ i = .int .i64 (k : Int) ∧ Hid (∃ ks ss, Filled w1.heap.size w1 k wr ks ss)) (fun i _ => 64 - (intOf i).toNat)
  case atStart => exact ⟨0, by omega, rfl, _, _, HSTART.out⟩
  case round =>
    clear HSTART
    obtain ⟨k, hk, rfl, HI⟩ := hrel
    obtain ⟨ks, ss, i1, i2, i3, i4, i5, i6, i7⟩ := HI.out
    by_cases hlt : k < 64
    · have fp : wr.cell? ⟨bp, op + k, none⟩ = some (.int .i64 (((primes 312).getD k 0 : Nat) : Int)) := (cell_same (i7.block bp hbp) _).trans (HCP.out k hlt)
      have HRT : Hid (∀ r, isRoot r ((primes 312).getD k 0) 3 → r % 4294967296 = (k32 k).toNat) := fun r h => root3_at hlt h
      have HRS : Hid (k < 8 → ∀ r, isRoot r ((primes 312).getD k 0) 2 → r % 4294967296 = (start.list.getD k 0).toNat) := fun h8 r h => root2_at h8 h
      have hpl := prime_lt k
      generalize (primes 312).getD k 0 = p at *
      have HI1 := Lib.hid i1
      have HI2 := Lib.hid i2
      have HI3 := Lib.hid i3
      have HI4 := Lib.hid i4
      have HI5 := Lib.hid i5
      have HI6 := Lib.hid i6
      have HI7 := Lib.hid i7
      clear i1 i2 i3 i4 i5 i6 i7 HI HCP
      go_wp2_with fail
      refine (third_any p wr hpl).mono ?_
      rintro e w3 ⟨⟨r, rfl, hr⟩, hb3⟩
      rw [HRT.out r hr]
      have hB : w1.heap.size + 1 < wr.heap.size := blk_lt HI4.out
      have j1 : Blk w3 w1.heap.size 46 ks := (hb3.block _ (by omega)).trans HI1.out
      have j4 : Blk w3 (w1.heap.size + 1) 40 ss := (hb3.block _ (by omega)).trans HI4.out
      have j7 : Below w1.heap.size w1 w3 := HI7.out.trans (hb3.mono (by omega))
      have hsz : k < ks.size := by rw [HI2.out]; exact hlt
      obtain ⟨v0, f0⟩ : ∃ v0, w3.cell? ⟨w1.heap.size, k, none⟩ = some v0 := ⟨_, (j1.cell k).trans (Array.getElem?_eq_getElem hsz)⟩
      have f1 : w3.frozen? ⟨w1.heap.size, k, none⟩ = false := j1.free k
      have fp3 : w3.cell? ⟨bp, op + k, none⟩ = some (.int .i64 (p : Int)) := (cell_same (hb3.block bp (by omega)) _).trans fp
      have J1 := Lib.hid j1
      have J4 := Lib.hid j4
      have J7 := Lib.hid j7
      have HSZ := Lib.hid hsz
      clear hr hb3 j1 j4 j7 hsz HI1 HI4 HI7 fp HRT
      by_cases h8 : k < 8
      · have hB3 : w1.heap.size + 1 < w3.heap.size := blk_lt J4.out
        have K1 : Hid (Blk (w3.setCell ⟨w1.heap.size, k, none⟩ (.int .u32 ((k32 k).toNat : Int))) w1.heap.size 46 (ks.setIfInBounds k (.int .u32 ((k32 k).toNat : Int)))) := J1.out.put k _
        have K4 : Hid (Blk (w3.setCell ⟨w1.heap.size, k, none⟩ (.int .u32 ((k32 k).toNat : Int))) (w1.heap.size + 1) 40 ss) := (Below.heap_setCell _ _ _ _ (by simp)).trans J4.out
        have K7 : Hid (Below w1.heap.size w1 (w3.setCell ⟨w1.heap.size, k, none⟩ (.int .u32 ((k32 k).toNat : Int)))) := J7.out.setCell (Nat.le_refl _) _
        have KZ : Hid ((w3.setCell ⟨w1.heap.size, k, none⟩ (.int .u32 ((k32 k).toNat : Int))).heap.size = w3.heap.size) := by show _ = _; simp [World.setCell]
        clear J1 J4 J7
        go_wp2_with fail
        generalize w3.setCell ⟨w1.heap.size, k, none⟩ (.int .u32 ((k32 k).toNat : Int)) = wk at *
        refine (second_any p wk hpl).mono ?_
        rintro e w4 ⟨⟨r2, rfl, hr2⟩, hb4⟩
        rw [HRS.out h8 r2 hr2]
        have hkz := KZ.out
        have j1 : Blk w4 w1.heap.size 46 (ks.setIfInBounds k (.int .u32 ((k32 k).toNat : Int))) := (hb4.block _ (by omega)).trans K1.out
        have j4 : Blk w4 (w1.heap.size + 1) 40 ss := (hb4.block _ (by omega)).trans K4.out
        have j7 : Below w1.heap.size w1 w4 := K7.out.trans (hb4.mono (by omega))
        have hss : k < ss.size := by rw [HI5.out]; exact h8
        obtain ⟨v1, f2⟩ : ∃ v1, w4.cell? ⟨w1.heap.size + 1, k, none⟩ = some v1 := ⟨_, (j4.cell k).trans (Array.getElem?_eq_getElem hss)⟩
        have f3 : w4.frozen? ⟨w1.heap.size + 1, k, none⟩ = false := j4.free k
        have J1 := Lib.hid j1
        have J4 := Lib.hid j4
        have J7 := Lib.hid j7
        have HSS := Lib.hid hss
        clear hr2 hb4 j1 j4 j7 hss K1 K4 K7 KZ HRS f0 f1 fp3
        go_wp2_with fail
        go_roundw
        case rel =>
          refine ⟨k + 1, by omega, by go_num, ks.setIfInBounds k (.int .u32 ((k32 k).toNat : Int)), ss.setIfInBounds k (.int .u32 ((start.list.getD k 0).toNat : Int)), ?_, by simp [HI2.out], fun j hj h64 => ?_, J4.out.put k _, by simp [HI5.out], fun j hj hj8 => ?_, J7.out.setCell (by simp) _⟩
          · exact (Below.heap_setCell _ _ _ _ (by simp)).trans J1.out
          · by_cases hjk : j = k
            · subst hjk
              rw [Array.getElem?_setIfInBounds_self_of_lt HSZ.out]
            · rw [Array.getElem?_setIfInBounds_ne (by omega)]
              exact HI3.out j (by omega) h64
          · by_cases hjk : j = k
            · subst hjk
              rw [Array.getElem?_setIfInBounds_self_of_lt HSS.out]
            · rw [Array.getElem?_setIfInBounds_ne (by omega)]
              exact HI6.out j (by omega) hj8
        case measure => simp [intOf]; omega
      · go_wp2_with fail
        go_roundw
        case rel =>
          refine ⟨k + 1, by omega, by go_num, ks.setIfInBounds k (.int .u32 ((k32 k).toNat : Int)), ss, J1.out.put k _, by simp [HI2.out], fun j hj h64 => ?_, ?_, HI5.out, fun j hj hj8 => HI6.out j (by omega) hj8, J7.out.setCell (Nat.le_refl _) _⟩
          · by_cases hjk : j = k
            · subst hjk
              rw [Array.getElem?_setIfInBounds_self_of_lt HSZ.out]
            · rw [Array.getElem?_setIfInBounds_ne (by omega)]
              exact HI3.out j (by omega) h64
          · exact (Below.heap_setCell _ _ _ _ (by simp)).trans J4.out
        case measure => simp [intOf]; omega
    · obtain rfl : k = 64 := by omega
      have ek := filled_k i2 i3
      have es := filled_s i5 i6
      subst ek es
      obtain ⟨st, hst⟩ : ∃ st, st = (uvs start.list).toArray := ⟨_, rfl⟩
      rw [← hst] at i4
      have hst8 : st.size = 8 := by rw [hst]; simp [uvs, St.list]
      have hbw : Below w.heap.size w wr := HB1.out.trans (i7.mono (by omega))
      have hrr : Row wr wr.heap.size A n (bvs bs) := (HR.out.below hbw).more hbw.size
      have hDG : Calls Tryd.prog 19 #[.slice A n c, .agg kCells, .agg st] wr fun e w' => e = .returned (.agg (bvs (digest bs)).toArray) ∧ Below wr.heap.size wr w' := by
        rw [hst]
        exact refdigest_any A n c bs wr hrr hl
      have hsw : Blk wr w.heap.size 25 zeroSum := (i7.block _ (by omega)).trans HS1.out
      obtain ⟨res, hres⟩ : ∃ res, res = (bvs (digest bs)).toArray := ⟨_, rfl⟩
      have hr32 : res.size = 32 := by rw [hres, List.size_toArray, bvs_length]; rfl
      have hr1 : res.all (·.oneCell') = true := by
        rw [hres, Array.all_eq_true_iff_forall_mem]
        intro v hv
        exact bvs_one _ v (by simpa using hv)
      rw [← hres] at hDG
      have HI1 := Lib.hid i1
      have HI4 := Lib.hid i4
      have HBW := Lib.hid hbw
      have HDG := Lib.hid hDG
      have HSW := Lib.hid hsw
      have HST8 := Lib.hid hst8
      have HRES := Lib.hid hres
      have HR32 := Lib.hid hr32
      have HR1 := Lib.hid hr1
      have hsz : w.heap.size < wr.heap.size := blk_lt hsw
      clear i1 i2 i3 i4 i5 i6 i7 HI HCP hst hst8 hbw hrr hDG hsw hres hr32 hr1 HR HB1 HS1
      go_wp2_with (first
        | (refine wpList_load_row rfl 46 (.tmp 4) rfl w1.heap.size rfl 46 kCells (0, 0) _ HI1.out Tryd.underlying46 rfl (by rw [kCells_size]; kernel_rfl) ?_)
        | (refine wpList_load_row rfl 40 (.tmp 5) rfl (w1.heap.size + 1) rfl 40 st (0, 0) _ HI4.out Tryd.underlying40 rfl (by rw [HST8.out]; kernel_rfl) ?_))
      refine HDG.out.mono ?_
      rintro e w5 ⟨rfl, hb5⟩
      have hs5 : Blk w5 w.heap.size 25 zeroSum := (hb5.block _ hsz).trans HSW.out
      have HS5 := Lib.hid hs5
      have HB5 := Lib.hid (HBW.out.trans (hb5.mono HBW.out.size))
      clear hb5 hs5
      go_wp2_with (refine wpList_store_blk rfl 25 (.tmp 2) (.tmp 31) rfl w.heap.size res rfl rfl 25 zeroSum HS5.out (by rw [HR32.out]; kernel_rfl) (by rw [HR32.out]; rfl) HR1.out ?_; intro w6 G5 G6)
      refine bodyPost_ret (v := .agg res) (results_cell_row rfl _ _ w.heap.size 25 _ (0, 0) _ rfl G5.out Tryd.underlying25 rfl (by rw [HR32.out]; kernel_rfl)) rfl ?_
      exact ⟨by rw [HRES.out], below_only HB5.out (only_hid G6) (Nat.le_refl _) HB5.out.size⟩
end Go.Proofs.YtfhedljhkikdmaaDoor.Sha
