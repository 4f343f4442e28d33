/-
  Proved: what times of package stillroomref1 returns: the digits of a product.
  Conditions: both slices read as digits of 16 bits; at most 100 each.
-/
import Derived.Test.YtfhedljhkikdmaaDoorRefDigits
namespace Go.Proofs.YtfhedljhkikdmaaDoor.Sha
open Go.RowKit

theorem uls_set (l : List Nat) (i v : Nat) : (uls l).toArray.setIfInBounds i (.int .u64 (v : Int)) = (uls (l.set i v)).toArray := by
  simp [uls]
theorem uls_made (n : Nat) : madeCells #[Value.int .u64 0] n = (uls (List.replicate n 0)).toArray := by
  apply Array.ext'
  rw [toList_madeCells_one]
  simp [uls]
theorem getD_lt {l : List Nat} (h : ∀ d ∈ l, d < 65536) (i : Nat) : l.getD i 0 < 65536 := by
  rw [List.getD_eq_getElem?_getD]
  by_cases hi : i < l.length
  · rw [List.getElem?_eq_getElem hi]; exact h _ (List.getElem_mem hi)
  · rw [List.getElem?_eq_none (by omega)]; decide
theorem getD_set_self (l : List Nat) (i v : Nat) (h : i < l.length) : (l.set i v).getD i 0 = v := by simp [h]
theorem getD_set_ne (l : List Nat) (i j v : Nat) (h : j ≠ i) : (l.set i v).getD j 0 = l.getD j 0 := by
  rw [List.getD_eq_getElem?_getD, List.getD_eq_getElem?_getD, List.getElem?_set_ne (by omega)]
theorem all_lt_of (l : List Nat) (h : ∀ j, j < l.length → l.getD j 0 < 65536) : ∀ d ∈ l, d < 65536 := by
  intro d hd
  obtain ⟨j, hj, rfl⟩ := List.getElem_of_mem hd
  have := h j hj
  rwa [List.getD_eq_getElem?_getD, List.getElem?_eq_getElem hj] at this
theorem row_u64 {w : World} {B n : Nat} {A : Option Addr} {xs : List Nat} (h : Row w B A n (uls xs)) (hn : 0 < n) :
    ∃ b o, A = some ⟨b, o, none⟩ ∧ b < B ∧ ∀ j, j < n → w.cell? ⟨b, o + j, none⟩ = some (.int .u64 ((xs.getD j 0 : Nat) : Int)) := by
  obtain ⟨b, o, hA, hb, hc⟩ := h.2 hn
  have hl : xs.length = n := by have := h.1; rwa [uls_length] at this
  exact ⟨b, o, hA, hb, fun j hj => hc j _ (uls_at xs j (by omega))⟩
theorem blk_u64 {w : World} {g : Nat} {t : TypeId} {l : List Nat} (h : Blk w g t (uls l).toArray) (j : Nat) (hj : j < l.length) : w.cell? ⟨g, j, none⟩ = some (.int .u64 ((l.getD j 0 : Nat) : Int)) := by
  rw [h.cell, List.getElem?_toArray, uls_at l j hj]

/-- The carry goes on: the product so far has room for it. -/
theorem carry_room {l : List Nat} {p L : Nat} (hp : p < l.length) (hv : val l < 65536 ^ L) (hc : 65536 ≤ l.getD p 0) : p + 1 < L + 1 := by
  have h := val_ge l p hp
  have h1 : 65536 ^ p * 65536 ≤ 65536 ^ p * l.getD p 0 := Nat.mul_le_mul_left _ hc
  rw [← Nat.pow_succ] at h1
  have h2 : 65536 ^ (p + 1) < 65536 ^ L := by omega
  have := (Nat.pow_lt_pow_iff_right (by decide : 1 < 65536)).1 h2
  omega
/-- A carry says nothing else of the value. -/
theorem carry_same {l : List Nat} {p : Nat} (hp : p + 1 < l.length) : val ((l.set (p + 1) (l.getD (p + 1) 0 + l.getD p 0 / 65536)).set p (l.getD p 0 % 65536)) = val l := by
  have h1 := val_set l (p + 1) (l.getD (p + 1) 0 + l.getD p 0 / 65536) hp
  have h2 := val_set (l.set (p + 1) (l.getD (p + 1) 0 + l.getD p 0 / 65536)) p (l.getD p 0 % 65536) (by rw [List.length_set]; omega)
  rw [getD_set_ne _ _ _ _ (by omega : p ≠ p + 1)] at h2
  have e : 65536 ^ p * l.getD p 0 = 65536 ^ p * (l.getD p 0 % 65536) + 65536 ^ (p + 1) * (l.getD p 0 / 65536) := by
    rw [Nat.pow_succ, Nat.mul_assoc, ← Nat.mul_add, Nat.mod_add_div]
  rw [Nat.mul_add] at h1
  omega
/-- A digit's product is added. -/
theorem add_prod {l xs ys : List Nat} {i k : Nat} (hl : i + k < l.length) (hk : k < ys.length)
    (hv : val l = val (xs.take i) * val ys + 65536 ^ i * xs.getD i 0 * val (ys.take k)) :
    val (l.set (i + k) (l.getD (i + k) 0 + xs.getD i 0 * ys.getD k 0)) = val (xs.take i) * val ys + 65536 ^ i * xs.getD i 0 * val (ys.take (k + 1)) := by
  have h1 := val_set l (i + k) (l.getD (i + k) 0 + xs.getD i 0 * ys.getD k 0) hl
  rw [val_take_succ ys k hk, Nat.mul_add, ← Nat.add_assoc, ← hv]
  have e : 65536 ^ i * xs.getD i 0 * (65536 ^ k * ys.getD k 0) = 65536 ^ (i + k) * (xs.getD i 0 * ys.getD k 0) := by
    rw [Nat.pow_add, Nat.mul_assoc, Nat.mul_left_comm (xs.getD i 0), ← Nat.mul_assoc]
  rw [e]
  rw [Nat.mul_add] at h1
  omega
theorem prod_bound {xs ys : List Nat} {i k : Nat} (hxs : ∀ d ∈ xs, d < 65536) (hys : ∀ d ∈ ys, d < 65536) (hi : i < xs.length) :
    val (xs.take i) * val ys + 65536 ^ i * xs.getD i 0 * val (ys.take k) < 65536 ^ (xs.length + ys.length) := by
  have h1 : val (ys.take k) ≤ val ys := by
    have := val_append (ys.take k) (ys.drop k)
    rw [List.take_append_drop] at this
    omega
  have h2 : val (xs.take (i + 1)) ≤ val xs := by
    have := val_append (xs.take (i + 1)) (xs.drop (i + 1))
    rw [List.take_append_drop] at this
    omega
  have h3 := val_lt xs hxs
  have h4 := val_lt ys hys
  have h5 : 65536 ^ i * xs.getD i 0 * val (ys.take k) ≤ 65536 ^ i * xs.getD i 0 * val ys := Nat.mul_le_mul_left _ h1
  have h6 : val (xs.take (i + 1)) * val ys ≤ val xs * val ys := Nat.mul_le_mul_right _ h2
  rw [val_take_succ xs i hi, Nat.add_mul] at h6
  have h7 : val xs * val ys < 65536 ^ xs.length * 65536 ^ ys.length := Nat.mul_lt_mul'' h3 h4
  rw [Nat.pow_add]
  omega
theorem row_done {xs ys : List Nat} {i : Nat} (hi : i < xs.length) : val (xs.take i) * val ys + 65536 ^ i * xs.getD i 0 * val (ys.take ys.length) = val (xs.take (i + 1)) * val ys := by
  rw [List.take_length, val_take_succ xs i hi, Nat.add_mul]

theorem cell_same {w w' : World} {g : Nat} (h : w'.heap[g]? = w.heap[g]?) (i : Nat) : w'.cell? ⟨g, i, none⟩ = w.cell? ⟨g, i, none⟩ := World.cell?_of_block (a := ⟨g, i, none⟩) h
/-- How far the product has come. -/
def Prod (w : World) (xs ys : List Nat) (i k : Nat) (wr : World) (zs : List Nat) : Prop :=
  Blk wr w.heap.size 42 (uls zs).toArray ∧ zs.length = xs.length + ys.length + 1 ∧ (∀ d ∈ zs, d < 65536) ∧ val zs = val (xs.take i) * val ys + 65536 ^ i * xs.getD i 0 * val (ys.take k) ∧ Below w.heap.size w wr

/-- The same, while a digit may be too great. -/
def Carry (w : World) (xs ys : List Nat) (i k p : Nat) (wr : World) (zs : List Nat) : Prop :=
  Blk wr w.heap.size 42 (uls zs).toArray ∧ zs.length = xs.length + ys.length + 1 ∧ (∀ j, j ≠ p → zs.getD j 0 < 65536) ∧ zs.getD p 0 < 8589934592 ∧ val zs = val (xs.take i) * val ys + 65536 ^ i * xs.getD i 0 * val (ys.take (k + 1)) ∧ Below w.heap.size w wr

set_option maxHeartbeats 1000000 in
theorem times_any (A : Option Addr) (m ca : Nat) (xs : List Nat) (B : Option Addr) (n cb : Nat) (ys : List Nat) (w : World)
    (hA : Row w w.heap.size A m (uls xs)) (hB : Row w w.heap.size B n (uls ys)) (hxs : ∀ d ∈ xs, d < 65536) (hys : ∀ d ∈ ys, d < 65536) (hm : m ≤ 100) (hn : n ≤ 100) :
    Calls Tryd.prog 33 #[.slice A m ca, .slice B n cb] w fun e w' => ∃ zs, e = .returned (.slice (some ⟨w.heap.size, 0, none⟩) (m + n + 1) (m + n + 1)) ∧ Blk w' w.heap.size 42 (uls zs).toArray ∧ zs.length = m + n + 1 ∧ (∀ d ∈ zs, d < 65536) ∧ val zs = val xs * val ys ∧ Below w.heap.size w w' := by
  have hlx : xs.length = m := by have := hA.1; rwa [uls_length] at this
  have hly : ys.length = n := by have := hB.1; rwa [uls_length] at this
  obtain ⟨i8, hi8, hz8⟩ := Option.map_eq_some_iff.1 u64_info
  simp only [Prod.mk.injEq] at hz8
  have HI8 := Lib.hid hi8
  have HZ8 := Lib.hid hz8
  have HA := Lib.hid hA
  have HB := Lib.hid hB
  have HLX := Lib.hid hlx
  have HLY := Lib.hid hly
  have HXS := Lib.hid hxs
  have HYS := Lib.hid hys
  have HC : Hid ((m : Int) + (n : Int) + 1 = ((m + n + 1 : Nat) : Int)) := by show _ = _; omega
  have HBY : Hid (i8.bytes * (m + n + 1) ≤ 281474976710656) := by
    show _ ≤ _
    rw [hz8.2.2]
    omega
  clear hA hB hlx hly hi8 hz8 hxs hys
  go_enter Tryd.func33, Tryd.ntmps33
  go_wp2_with (at_make; refine wpList_make_row _ rfl _ _ 62 rfl 42 i8 (.int .u64 0) Tryd.underlying62 HI8.out HZ8.out.1 HZ8.out.2.1 rfl .i64 .i64 (m + n + 1) (congrArg (Value.int .i64) HC.out) (congrArg (Value.int .i64) HC.out) HBY.out (by omega) ?_)
  rw [uls_made]
  have hw0 : Hid (Prod w xs ys 0 0 (w.alloc (.cells (uls (List.replicate (m + n + 1) 0)).toArray 42)) (List.replicate (m + n + 1) 0)) := by
    refine ⟨heap_alloc_new w _, by rw [HLX.out, HLY.out, List.length_replicate], fun d hd => by rw [(List.mem_replicate.1 hd).2]; decide, by rw [val_zeros]; simp [val], (Below.refl _ _).alloc (Nat.le_refl _) _⟩
  go_loopw [6] (fun i wr => ∃ k : Nat, k ≤ m ∧ i = .int .i64 (k : Int) ∧ Hid (∃ zs, Prod w xs ys k 0 wr zs)) (fun i _ => m - (intOf i).toNat)
  case atStart => exact ⟨0, Nat.zero_le _, rfl, _, hw0.out⟩
  case round =>
    clear hw0
    obtain ⟨i, hi, rfl, HI⟩ := hrel
    by_cases hlt : i < m
    · obtain ⟨bA, oA, rfl, hbA, hcA⟩ := row_u64 HA.out (by omega)
      have HCA := Lib.hid hcA
      clear hcA
      go_wp2_with fail
      go_loopw [7] (fun j wr => ∃ k : Nat, k ≤ n ∧ j = .int .i64 (k : Int) ∧ Hid (∃ zs, Prod w xs ys i k wr zs)) (fun j _ => n - (intOf j).toNat)
      case atStart => exact ⟨0, Nat.zero_le _, rfl, HI.out⟩
      case round =>
        clear HI
        obtain ⟨k, hk, rfl, HJ⟩ := hrel
        obtain ⟨zs, hz1, hz2, hz3, hz4, hz5⟩ := HJ.out
        by_cases hkt : k < n
        · obtain ⟨bB, oB, rfl, hbB, hcB⟩ := row_u64 HB.out (by omega)
          have hlz : i + k < zs.length := by rw [hz2, HLX.out, HLY.out]; omega
          have fA : wr.cell? ⟨bA, oA + i, none⟩ = some (.int .u64 ((xs.getD i 0 : Nat) : Int)) := (cell_same (hz5.block bA hbA) _).trans (HCA.out i hlt)
          have fB : wr.cell? ⟨bB, oB + k, none⟩ = some (.int .u64 ((ys.getD k 0 : Nat) : Int)) := (cell_same (hz5.block bB hbB) _).trans (hcB k hkt)
          have f0 : wr.cell? ⟨w.heap.size, i + k, none⟩ = some (.int .u64 ((zs.getD (i + k) 0 : Nat) : Int)) := blk_u64 hz1 _ hlz
          have f1 : wr.frozen? ⟨w.heap.size, i + k, none⟩ = false := hz1.free _
          have hx := getD_lt HXS.out i
          have hy := getD_lt HYS.out k
          have hz := getD_lt hz3 (i + k)
          have HADD := Lib.hid (add_prod hlz (by rw [HLY.out]; exact hkt) hz4)
          have HBND := Lib.hid (prod_bound (k := k + 1) HXS.out HYS.out (by rw [HLX.out]; exact hlt : i < xs.length))
          generalize hgx : xs.getD i 0 = x at *
          generalize hgy : ys.getD k 0 = y at *
          generalize hgz : zs.getD (i + k) 0 = z at *
          obtain ⟨q, hq⟩ : ∃ q, q = x * y := ⟨_, rfl⟩
          have hqi : (x : Int) * (y : Int) = (q : Int) := by rw [hq, Int.natCast_mul]
          have hql : q ≤ 4294836225 := by rw [hq]; exact Nat.mul_le_mul (Nat.le_of_lt_succ hx) (Nat.le_of_lt_succ hy)
          have HZ1 := Lib.hid hz1
          have HZ2 := Lib.hid hz2
          have HZ3 := Lib.hid hz3
          have HZ5 := Lib.hid hz5
          have HLZ := Lib.hid hlz
          have HQ := Lib.hid hq
          clear hz1 hz2 hz3 hz4 hz5 hlz hq HJ hcB
          go_wp2_with fail
          go_region
          go_wp2_with fail
          have hst : Hid (Carry w xs ys i k (i + k) (wr.setCell ⟨w.heap.size, i + k, none⟩ (.int .u64 ((z : Int) + (q : Int)))).drew (zs.set (i + k) (z + q))) := by
            refine ⟨?_, by rw [List.length_set]; exact HZ2.out, fun j hj => ?_, ?_, ?_, (HZ5.out.setCell (Nat.le_refl _) _).drew⟩
            · rw [← uls_set, Int.natCast_add]
              exact HZ1.out.put _ _
            · rw [getD_set_ne _ _ _ _ hj]
              exact getD_lt HZ3.out j
            · rw [getD_set_self _ _ _ HLZ.out]
              omega
            · rw [hgx, HQ.out]
              exact HADD.out
          clear hqi hql HZ1 HZ2 HZ3 HZ5 HADD fA fB f0 f1
          go_loopw [8] (fun p wr => ∃ e : Nat, e ≤ m + n ∧ p = .int .i64 (e : Int) ∧ Hid (∃ zs, Carry w xs ys i k e wr zs)) (fun p _ => m + n + 1 - (intOf p).toNat)
          case atStart => exact ⟨i + k, by omega, by simp, _, hst.out⟩
          case round =>
            clear hst HLZ hgz hz
            obtain ⟨e, he, rfl, HK⟩ := hrel
            obtain ⟨us, hu1, hu2, hu3, hu4, hu5, hu6⟩ := HK.out
            have hle : e < us.length := by rw [hu2, HLX.out, HLY.out]; omega
            have f0 : wr.cell? ⟨w.heap.size, e, none⟩ = some (.int .u64 ((us.getD e 0 : Nat) : Int)) := blk_u64 hu1 _ hle
            have f1 : wr.frozen? ⟨w.heap.size, e, none⟩ = false := hu1.free _
            by_cases hc : 65535 < us.getD e 0
            · have hroom := carry_room (L := xs.length + ys.length) hle (by rw [hu5, hgx]; exact HBND.out) (by omega)
              rw [hu2] at hle
              have hl1 : e + 1 < us.length := by omega
              have hr2 : e + 1 ≤ m + n := by have := HLX.out; have := HLY.out; omega
              have g0 : wr.cell? ⟨w.heap.size, e + 1, none⟩ = some (.int .u64 ((us.getD (e + 1) 0 : Nat) : Int)) := blk_u64 hu1 _ hl1
              have g1 : wr.frozen? ⟨w.heap.size, e + 1, none⟩ = false := hu1.free _
              have hd := hu3 (e + 1) (by omega)
              have HSAME := Lib.hid (carry_same (l := us) hl1)
              have HU1 := Lib.hid hu1
              have HU2 := Lib.hid hu2
              have HU3 := Lib.hid hu3
              have HU5 := Lib.hid hu5
              have HU6 := Lib.hid hu6
              have HL1 := Lib.hid hl1
              generalize hgc : us.getD e 0 = c at *
              generalize hgd : us.getD (e + 1) 0 = d at *
              clear hu1 hu2 hu3 hu5 hu6 HK hroom hle hl1
              go_wp2_with fail
              go_region
              go_wp2_with fail
              have e1 : (d : Int) + (c : Int) / 65536 = ((d + c / 65536 : Nat) : Int) := by omega
              have e2 : (c : Int) % 65536 = ((c % 65536 : Nat) : Int) := by omega
              have b1 := HU1.out.put (e + 1) (.int .u64 ((d + c / 65536 : Nat) : Int))
              rw [uls_set] at b1
              have b2 := b1.put e (.int .u64 ((c % 65536 : Nat) : Int))
              rw [uls_set] at b2
              refine ⟨⟨e + 1, hr2, by simp, (us.set (e + 1) (d + c / 65536)).set e (c % 65536), ?_, by rw [List.length_set, List.length_set]; exact HU2.out, fun j hj => ?_, ?_, HSAME.out.trans HU5.out, ((HU6.out.setCell (Nat.le_refl _) _).setCell (Nat.le_refl _) _).drew⟩, by simp [intOf]; omega⟩
              · rw [e1, e2]
                exact b2
              · by_cases hje : j = e
                · rw [hje, getD_set_self _ _ _ (by rw [List.length_set]; have := HL1.out; omega)]
                  exact Nat.mod_lt _ (by decide)
                · rw [getD_set_ne _ _ _ _ hje, getD_set_ne _ _ _ _ hj]
                  exact HU3.out j hje
              · rw [getD_set_ne _ _ _ _ (by omega), getD_set_self _ _ _ HL1.out]
                omega
            · have HK2 : Hid (Prod w xs ys i (k + 1) wr us) := ⟨hu1, hu2, all_lt_of us (fun j _ => by
                by_cases hje : j = e
                · rw [hje]; omega
                · exact hu3 j hje), hu5, hu6⟩
              clear hu1 hu2 hu3 hu5 hu6 HK hle
              generalize us.getD e 0 = c at *
              go_wp2_with fail
              go_roundw
              case rel => exact ⟨k + 1, by omega, by go_num, us, HK2.out⟩
              case measure => simp [intOf]; omega
        · obtain rfl : k = n := by omega
          have HK2 : Hid (Prod w xs ys (i + 1) 0 wr zs) := ⟨hz1, hz2, hz3, by
            rw [hz4, ← HLY.out, row_done (by rw [HLX.out]; exact hlt)]
            simp [val], hz5⟩
          clear hz1 hz2 hz3 hz4 hz5 HJ
          go_wp2_with fail
          go_roundw
          case rel => exact ⟨i + 1, by omega, by go_num, zs, HK2.out⟩
          case measure => simp [intOf]; omega
    · obtain rfl : i = m := by omega
      go_wp2_with fail
      go_ret
      obtain ⟨zs, hz1, hz2, hz3, hz4, hz5⟩ := HI.out
      refine ⟨zs, rfl, hz1, by rw [hz2, HLX.out, HLY.out], hz3, ?_, hz5⟩
      rw [hz4, ← HLX.out, List.take_length]
      simp [val]
end Go.Proofs.YtfhedljhkikdmaaDoor.Sha
