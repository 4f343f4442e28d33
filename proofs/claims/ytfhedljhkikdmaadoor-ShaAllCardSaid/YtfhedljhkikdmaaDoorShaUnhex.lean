/-
  Proved: what digitOf and Unhex of package sha return.
  Conditions: the text has at most 2 to the 47th bytes.
-/
import Derived.Test.YtfhedljhkikdmaaDoorShaHex
import Derived.Deep.OwnRows
namespace Go.Proofs.YtfhedljhkikdmaaDoor.Sha
open Go.RowKit

/-- Is a byte a digit, and which number it stands for. -/
def isDig (c : UInt8) : Bool := (48 ≤ c.toNat && c.toNat ≤ 57) || (97 ≤ c.toNat && c.toNat ≤ 102)
def dv (c : UInt8) : Nat := if 48 ≤ c.toNat ∧ c.toNat ≤ 57 then c.toNat - 48 else if 97 ≤ c.toNat ∧ c.toNat ≤ 102 then c.toNat - 87 else 0
theorem dv_lt (c : UInt8) : dv c < 16 := by
  unfold dv
  split
  · omega
  · split <;> omega
theorem digit_val (c : UInt8) (h : isDig c = true) : (48 ≤ c.toNat ∧ c.toNat ≤ 57 ∧ dv c = c.toNat - 48) ∨ (97 ≤ c.toNat ∧ c.toNat ≤ 102 ∧ dv c = c.toNat - 87) := by
  simp [isDig] at h
  unfold dv
  rcases h with h | h
  · exact .inl ⟨h.1, h.2, if_pos h⟩
  · exact .inr ⟨h.1, h.2, by rw [if_neg (by omega), if_pos h]⟩
theorem digitOf_yes (c : UInt8) (w : World) (h : isDig c = true) : Calls Tryd.prog 24 #[.int .u8 (c.toNat : Int)] w fun e w' => e = .returned (.tuple #[.int .u8 (dv c : Int), .bool true]) ∧ w = w' := by
  have hc := c.toNat_lt
  rcases digit_val c h with ⟨h1, h2, h3⟩ | ⟨h1, h2, h3⟩
  · have h1' : (48 : Int) ≤ (c.toNat : Int) := by omega
    have h2' : (c.toNat : Int) ≤ 57 := by omega
    have HV : Hid ((dv c : Int) = (c.toNat : Int) - 48) := by show _ = _; omega
    clear h h1 h2 h3
    go_enter Tryd.func24, Tryd.ntmps24
    go_wp2
    go_ret2
    exact ⟨by rw [HV.out]; rfl, rfl⟩
  · have h1' : (97 : Int) ≤ (c.toNat : Int) := by omega
    have h2' : (c.toNat : Int) ≤ 102 := by omega
    have HV : Hid ((dv c : Int) = (c.toNat : Int) - 97 + 10) := by show _ = _; omega
    clear h h1 h2 h3
    go_enter Tryd.func24, Tryd.ntmps24
    go_wp2
    go_ret2
    exact ⟨by rw [HV.out]; rfl, rfl⟩
theorem digitOf_no (c : UInt8) (w : World) (h : isDig c = false) : Calls Tryd.prog 24 #[.int .u8 (c.toNat : Int)] w fun e w' => e = .returned (.tuple #[.int .u8 0, .bool false]) ∧ w = w' := by
  have hc := c.toNat_lt
  have h3 : c.toNat < 48 ∨ (57 < c.toNat ∧ c.toNat < 97) ∨ 102 < c.toNat := by
    simp [isDig] at h
    omega
  rcases h3 with h1 | ⟨h1, h2⟩ | h1
  · have h1' : (c.toNat : Int) < 48 := by omega
    have h2' : (c.toNat : Int) < 97 := by omega
    clear h h1
    go_enter Tryd.func24, Tryd.ntmps24
    go_wp2
    go_ret2
    exact ⟨rfl, rfl⟩
  · have h1' : (57 : Int) < (c.toNat : Int) := by omega
    have h2' : (c.toNat : Int) < 97 := by omega
    clear h h1 h2
    go_enter Tryd.func24, Tryd.ntmps24
    go_wp2
    go_ret2
    exact ⟨rfl, rfl⟩
  · have h1' : (57 : Int) < (c.toNat : Int) := by omega
    have h2' : (102 : Int) < (c.toNat : Int) := by omega
    clear h h1
    go_enter Tryd.func24, Tryd.ntmps24
    go_wp2
    go_ret2
    exact ⟨rfl, rfl⟩

/-- The byte that two digits stand for. -/
def pairV (l : List UInt8) (i : Nat) : UInt8 := UInt8.ofNat (dv (l.getD (2 * i) 0) * 16 + dv (l.getD (2 * i + 1) 0))
def good (l : List UInt8) (i : Nat) : Bool := isDig (l.getD (2 * i) 0) && isDig (l.getD (2 * i + 1) 0)
/-- The bytes of which l is the digits, if there are any. -/
def unhexL (l : List UInt8) : Option (List UInt8) :=
  if l.length % 2 = 0 ∧ ((List.range (l.length / 2)).all fun i => good l i) = true then some ((List.range (l.length / 2)).map (pairV l)) else none
theorem index_string_at {P : Program} {T : TypeId} (ht : P.underlying T = some .string) (s : ByteArray) (k : IntKind) (v : Int) (i : Nat) (hv : v = (i : Int)) (hi : i < s.size) (w : World) :
    (Instr.index T (.string s) (.int k v)).run P w = .ok (.int .u8 ((s.data.toList.getD i 0).toNat : Int)) w := by
  subst hv
  rw [run_index_string w T s k (i : Int) ht, dif_pos ⟨by omega, by omega⟩]
  congr 3
  simp only [Int.toNat_natCast]
  have hd : i < s.data.toList.length := by simpa using hi
  rw [List.getD_eq_getElem?_getD, List.getElem?_eq_getElem hd]
  rfl
theorem or16 (a b : Nat) (ha : a < 16) (hb : b < 16) : bits .or .u8 ((a : Int) * 16) (b : Int) = ((UInt8.ofNat (a * 16 + b)).toNat : Int) := by
  rw [show (a : Int) * 16 = ((a * 2 ^ 4 : Nat) : Int) by omega, u8_or_nat _ _ (by omega) (by omega), mul_or _ _ 4 (by omega), UInt8.toNat_ofNat', Nat.mod_eq_of_lt (by omega)]

/-- What Unhex answers. -/
def Unhexed (w : World) (l : List UInt8) (e : Ending) (w' : World) : Prop :=
  (∀ bs, unhexL l = some bs → ∃ A n, e = .returned (.tuple #[.slice A n n, .bool true]) ∧ Row w' w'.heap.size A n (bvs bs) ∧ bs.length = n) ∧
  (unhexL l = none → e = .returned (.tuple #[.slice none 0 0, .bool false])) ∧ Below w.heap.size w w'
theorem unhexed_no {w w' : World} {l : List UInt8} (h : unhexL l = none) (hb : Below w.heap.size w w') : Unhexed w l (.returned (.tuple #[.slice none 0 0, .bool false])) w' :=
  ⟨(fun bs hbs => by (rw [h] at hbs; cases hbs)), (fun _ => rfl), hb⟩
theorem unhex_odd {l : List UInt8} (h : l.length % 2 ≠ 0) : unhexL l = none := if_neg fun hh => h hh.1
theorem unhex_bad {l : List UInt8} {k : Nat} (hk : k < l.length / 2) (h : good l k = false) : unhexL l = none := by
  refine if_neg fun hh => ?_
  have := List.all_eq_true.1 hh.2 k (List.mem_range.2 hk)
  rw [h] at this
  cases this

set_option maxHeartbeats 1000000 in
theorem unhex_any (s : ByteArray) (w : World) (hs : s.size ≤ 140737488355328) :
    Calls Tryd.prog 15 #[.string s] w (Unhexed w s.data.toList) := by
  have hl : s.data.toList.length = s.size := by simp
  by_cases hodd : s.size % 2 = 0
  · obtain ⟨M, hM⟩ : ∃ M, s.size = 2 * M := ⟨s.size / 2, by omega⟩
    have hm : (s.size : Int) / 2 = (M : Int) := by omega
    have hz : ((s.size : Int) % 2 != 0) = false := by simp; omega
    have hM2 : (M : Int) ≤ 140737488355328 := by omega
    have hmk := Go.run_make_row' (P := Tryd.prog) 22 5 (.int .u8 0) 1 Tryd.underlying22 (by kernel_rfl) rfl .i64 .i64 M (by omega) (by omega)
    obtain ⟨l, hll⟩ : ∃ l, l = s.data.toList := ⟨_, rfl⟩
    rw [← hll] at hl ⊢
    have HLL := Lib.hid hll
    have HL := Lib.hid hl
    have HM := Lib.hid hM
    clear hll hl hM
    go_enter Tryd.func15, Tryd.ntmps15
    go_wp2_with fail
    go_loopw [20] (fun i wr => ∃ (k : Nat) (arr : Array Value), k ≤ M ∧ i = .int .i64 k ∧ Hid (Blk wr w.heap.size 5 arr ∧ arr.size = M ∧ (∀ j, j < k → arr[j]? = some (bv (pairV l j))) ∧ (∀ j, j < k → good l j = true) ∧ Below w.heap.size w wr)) (fun i _ => M - (intOf i).toNat)
    case atStart => exact ⟨0, _, Nat.zero_le _, rfl, Blk.new _ _ _, size_madeCells _ _, fun j hj => absurd hj (by omega), fun j hj => absurd hj (by omega), (Below.refl _ _).alloc (Nat.le_refl _) _⟩
    case round =>
      obtain ⟨k, arr, hk, rfl, HI⟩ := hrel
      by_cases hlt : k < M
      · obtain ⟨x, HX⟩ : ∃ x, Hid (x = l.getD (2 * k) 0) := ⟨_, rfl⟩
        obtain ⟨y, HY⟩ : ∃ y, Hid (y = l.getD (2 * k + 1) 0) := ⟨_, rfl⟩
        have hix : ∀ w : World, (Instr.index 9 (.string s) (.int .i64 ((2 : Int) * (k : Int)))).run Tryd.prog w = .ok (.int .u8 (x.toNat : Int)) w := fun w => by
          rw [HX.out, HLL.out]; exact index_string_at Tryd.underlying9 s .i64 _ (2 * k) (by omega) (by have := HM.out; omega) w
        have hiy : ∀ w : World, (Instr.index 9 (.string s) (.int .i64 ((2 : Int) * (k : Int) + 1))).run Tryd.prog w = .ok (.int .u8 (y.toNat : Int)) w := fun w => by
          rw [HY.out, HLL.out]; exact index_string_at Tryd.underlying9 s .i64 _ (2 * k + 1) (by omega) (by have := HM.out; omega) w
        have hML : M = l.length / 2 := by have := HM.out; have := HL.out; omega
        have HML := Lib.hid hML
        clear hML
        by_cases hgx : isDig x = true
        · by_cases hgy : isDig y = true
          · have HGX := Lib.hid hgx
            have HGY := Lib.hid hgy
            have hsz : k < arr.size := by rw [HI.out.2.1]; exact hlt
            obtain ⟨v0, f1⟩ : ∃ v0, wr.cell? ⟨w.heap.size, k, none⟩ = some v0 := ⟨_, (HI.out.1.cell k).trans (Array.getElem?_eq_getElem hsz)⟩
            have f2 : wr.frozen? ⟨w.heap.size, k, none⟩ = false := HI.out.1.free k
            have HSZ := Lib.hid hsz
            have d1 : (dv x : Int) < 16 := by have := dv_lt x; omega
            have d2 : (dv y : Int) < 16 := by have := dv_lt y; omega
            clear hgx hgy hsz
            go_wp2_with fail
            refine (digitOf_yes x _ HGX.out).mono ?_
            rintro e w' ⟨rfl, rfl⟩
            go_wp2_with fail
            refine (digitOf_yes y _ HGY.out).mono ?_
            rintro e w' ⟨rfl, rfl⟩
            go_wp2_with fail
            go_roundw
            case rel =>
              obtain ⟨i1, i2, i3, i4, i5⟩ := HI.out
              rw [or16 _ _ (dv_lt x) (dv_lt y)]
              refine ⟨k + 1, arr.setIfInBounds k (bv (pairV l k)), by omega, by go_num, ?_, by simp [i2], fun j hj => ?_, fun j hj => ?_, i5.setCell (Nat.le_refl _) _⟩
              · have h := i1.put k (bv (pairV l k))
                rw [pairV, ← HX.out, ← HY.out] at h
                rw [pairV, ← HX.out, ← HY.out]
                exact h
              · by_cases hjk : j = k
                · subst hjk
                  rw [Array.getElem?_setIfInBounds_self_of_lt HSZ.out]
                · rw [Array.getElem?_setIfInBounds_ne (by omega)]
                  exact i3 j (by omega)
              · by_cases hjk : j = k
                · subst hjk
                  rw [good, ← HX.out, ← HY.out, HGX.out, HGY.out]
                  rfl
                · exact i4 j (by omega)
            case measure => simp [intOf]; omega
          · have HGX := Lib.hid hgx
            have HGY : Hid (isDig y = false) := by show _ = _; simpa using hgy
            have HU : Hid (unhexL l = none) := unhex_bad (k := k) (by rw [← HML.out]; exact hlt) (by rw [good, ← HX.out, ← HY.out, HGY.out, Bool.and_false])
            have HB := Lib.hid HI.out.2.2.2.2
            clear hgx hgy HI
            go_wp2_with fail
            refine (digitOf_yes x _ HGX.out).mono ?_
            rintro e w' ⟨rfl, rfl⟩
            go_wp2_with fail
            refine (digitOf_no y _ HGY.out).mono ?_
            rintro e w' ⟨rfl, rfl⟩
            go_wp2_with fail
            go_ret2
            exact unhexed_no HU.out HB.out
        · have HGX : Hid (isDig x = false) := by show _ = _; simpa using hgx
          have HU : Hid (unhexL l = none) := unhex_bad (k := k) (by rw [← HML.out]; exact hlt) (by rw [good, ← HX.out, HGX.out, Bool.false_and])
          have HB := Lib.hid HI.out.2.2.2.2
          by_cases hgy : isDig y = true
          · have HGY := Lib.hid hgy
            clear hgx hgy HI
            go_wp2_with fail
            refine (digitOf_no x _ HGX.out).mono ?_
            rintro e w' ⟨rfl, rfl⟩
            go_wp2_with fail
            refine (digitOf_yes y _ HGY.out).mono ?_
            rintro e w' ⟨rfl, rfl⟩
            go_wp2_with fail
            go_ret2
            exact unhexed_no HU.out HB.out
          · have HGY : Hid (isDig y = false) := by show _ = _; simpa using hgy
            clear hgx hgy HI
            go_wp2_with fail
            refine (digitOf_no x _ HGX.out).mono ?_
            rintro e w' ⟨rfl, rfl⟩
            go_wp2_with fail
            refine (digitOf_no y _ HGY.out).mono ?_
            rintro e w' ⟨rfl, rfl⟩
            go_wp2_with fail
            go_ret2
            exact unhexed_no HU.out HB.out
      · obtain rfl : k = M := by omega
        obtain ⟨i1, i2, i3, i4, i5⟩ := HI.out
        have HQ : Hid (Unhexed w l (.returned (.tuple #[.slice (some ⟨w.heap.size, 0, none⟩) k k, .bool true])) wr) := by
          have hk2 : l.length / 2 = k := by have := HM.out; have := HL.out; omega
          have hu : unhexL l = some ((List.range (l.length / 2)).map (pairV l)) := if_pos ⟨by have := HM.out; have := HL.out; omega, List.all_eq_true.2 fun j hj => i4 j (by rw [← hk2]; exact List.mem_range.1 hj)⟩
          refine ⟨fun bs hbs => ?_, fun hn => by (rw [hu] at hn; cases hn), i5⟩
          rw [hu] at hbs
          obtain rfl := Option.some.inj hbs
          refine ⟨_, k, rfl, ?_, by simp [hk2]⟩
          have ha : arr.toList = bvs ((List.range (l.length / 2)).map (pairV l)) := by
            apply List.ext_getElem?
            intro j
            rw [Array.getElem?_toList]
            by_cases hj : j < k
            · rw [i3 j hj, bvs, List.map_map, List.getElem?_map, List.getElem?_range (by omega)]
              rfl
            · rw [Array.getElem?_eq_none (by omega), List.getElem?_eq_none (by simp [bvs_length]; omega)]
          have hr := i1.row
          rw [i2, ha] at hr
          exact hr
        clear HI i1 i2 i3 i4 i5
        go_wp2_with fail
        go_ret2
        exact HQ.out
  · have hz : ((s.size : Int) % 2 != 0) = true := by simp; omega
    have HU : Hid (unhexL s.data.toList = none) := unhex_odd (by rw [hl]; exact hodd)
    clear hl
    go_enter Tryd.func15, Tryd.ntmps15
    go_wp2_with fail
    go_ret2
    exact unhexed_no HU.out (Below.refl _ _)
end Go.Proofs.YtfhedljhkikdmaaDoor.Sha
