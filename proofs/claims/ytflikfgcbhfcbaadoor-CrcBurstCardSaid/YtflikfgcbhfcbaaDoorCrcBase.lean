/-
  Proved: what the helpers begun and Short of package stillroomlaw1 return, and what a row's list says of the table crc.turned.
  Conditions: the slices read as bytes or ints; the table crc.turned holds its sixteen words.
-/
import Derived.Test.YtflikfgcbhfcbaaDoorCrcWalks
import Derived.Test.YtflikfgcbhfcbaaDoorOwn
import Derived.Lib.SlBytesConst
namespace Go.Proofs.YtflikfgcbhfcbaaDoor.Crc
open Go.RowKit

theorem Turned.below {w w' : World} (h : Turned w) (hb : Below w.heap.size w w') : Turned w' :=
  fun i hi => (hb.cell (World.block_lt_of_cell? w _ (h i hi))).trans (h i hi)

theorem g_turned : Tryd.prog.globalNamed "stillroom/crc.turned" = some 0 := by kernel_rfl
theorem t_turned : (Tryd.prog.globals[0]?).map (·.type) = some 35 := by kernel_rfl
theorem c_turned : Tryd.prog.cellsOf 35 = 16 := by kernel_rfl
theorem c_u32 : Tryd.prog.cellsOf 26 = 1 := by kernel_rfl
/-- What a row's list says of the table. -/
theorem turned_of {W : World} {rest : List (String × DataW Unit)} (h : laidMet Tryd.prog (("stillroom/crc.turned", Rows.laid_stillroom_crc_turned) :: rest) W) : Turned W := by
  have ht : Lib.TabIs Tryd.prog W "stillroom/crc.turned" .u32 (tab.map Int.ofNat) :=
    Lib.tabIs_of_head (rest := rest) g_turned t_turned Tryd.underlying35 Tryd.underlying26 c_u32 c_turned h
  intro i hi
  have := ht.cell g_turned i (by simp [tab]; omega)
  rw [this]
  have : tab.length = 16 := rfl
  simp [List.getD, List.getElem?_eq_getElem (l := tab) (i := i) (by omega)]

theorem short_any (A : Option Addr) (n c : Nat) (m : Nat) (w : World) (hn : n ≤ c) (_hc : c ≤ maxLen) :
    Calls Tryd.prog 8 #[.slice A n c, .int .i64 (m : Int)] w fun e w' => e = .returned (.slice A (min n m) c) ∧ w = w' := by
  unfold maxLen at _hc
  by_cases h : m < n
  · rw [Nat.min_eq_right (Nat.le_of_lt h)]
    go_enter Tryd.func8, Tryd.ntmps8
    go_wp2
    go_ret
    exact ⟨rfl, rfl⟩
  · rw [Nat.min_eq_left (by omega)]
    go_enter Tryd.func8, Tryd.ntmps8
    go_wp2
    go_ret
    exact ⟨rfl, rfl⟩
theorem row_nine (w : World) (t : TypeId) (fr : Nat × Nat) : Row (w.alloc (.cells #[.int .u8 49, .int .u8 50, .int .u8 51, .int .u8 52, .int .u8 53, .int .u8 54, .int .u8 55, .int .u8 56, .int .u8 57] t fr))
    (w.heap.size + 1) (some ⟨w.heap.size, 0, none⟩) 9 (bvs [49, 50, 51, 52, 53, 54, 55, 56, 57]) := Row.fresh w t fr _
theorem begun_any (w : World) (hT : Turned w) :
    Calls Tryd.prog 7 #[] w fun e w' => e = .returned (.bool true) ∧ Below w.heap.size w w' := by
  have hcv := fun (w : World) (C : Array Value) (n c : Nat) => Lib.run_convert_bytes_const (P := Tryd.prog) w 22 5 C n c Tryd.underlying22 Tryd.underlying5
  have hT1 : ∀ o, Turned (w.alloc o) := fun o => hT.below ((Below.refl _ _).alloc (Nat.le_refl _) o)
  have H1 := Lib.hid hT1
  have H2 := Lib.hid (row_nine w)
  have hsum : ((sum [49, 50, 51, 52, 53, 54, 55, 56, 57]).toNat : Int) = 3808858755 := by rw [sum_digits]; rfl
  have hnil : ((sum []).toNat : Int) = 0 := by rw [sum_nil]; rfl
  clear hT hT1
  go_enter Tryd.func7, Tryd.ntmps7
  go_wp2_with fail
  refine (sum_any _ 9 9 _ _ (H1.out _) ((H2.out 5 (9, 10)).more (by simp)) (by decide)).mono ?_
  rintro e w' ⟨rfl, rfl⟩
  go_wp2_with fail
  refine (sum_any none 0 0 [] _ (H1.out _) (Row.nil _ _) (by decide)).mono ?_
  rintro e w' ⟨rfl, rfl⟩
  go_wp2_with fail
  go_ret
  exact ⟨rfl, (Below.refl _ _).alloc (Nat.le_refl _) _⟩

theorem byte_info : (Tryd.prog.info? 5).map (fun i => (i.zero, i.size, i.bytes)) = some (some (.int .u8 0), 1, 1) := by kernel_rfl
/-- What is left of a slice behind 'Short', in the world behind 'begun'. -/
theorem short_row {w w1 : World} {A : Option Addr} {n m : Nat} {bs : List UInt8} (hb : Below w.heap.size w w1) (hR : Row w w.heap.size A n (bvs bs)) :
    Row w1 w1.heap.size A (min n m) (bvs (bs.take m)) := by
  have h := (((hR.below hb).more hb.size).take (k := min n m) (Nat.min_le_left _ _))
  rw [bvs_take] at h
  have hl := hR.size
  have : bs.take (min n m) = bs.take m := by
    rw [← hl, ← List.take_take, List.take_of_length_le]
    exact List.length_take_le' _ _
  rwa [this] at h
end Go.Proofs.YtflikfgcbhfcbaaDoor.Crc
