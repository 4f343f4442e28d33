/-
  Proved: what roomOf, New, begin, newFile, isNameByte, isName, sectorsOf and partOf of package disk return.
-/
import Derived.Test.YtebjapinhkeafaaDiskMem
import Derived.Lib.MinMax
import Derived.Lib.Hide
namespace Go.Proofs.Ytebjapinhkeafaa.Disk
open Go.RowKit Go.Maps
set_option linter.unusedVariables false
set_option linter.unusedSimpArgs false

def room (n : Int) : Int := min (max n 0) 4194304
theorem roomOf_any (n : Int) (w : World) : Calls Try.prog 30 #[.int .i64 n] w fun e w' => e = .returned (.int .i64 (room n)) ∧ w' = w := by
  go_enter Try.func30, Try.ntmps30
  go_wp2
  go_ret
  exact ⟨rfl, rfl⟩
theorem begin_nil (w : World) : Calls Try.prog 31 #[.pointer none] w fun e w' => e = .returned (.int .i64 1) ∧ w' = w := by
  go_enter Try.func31, Try.ntmps31
  go_wp2
  go_ret
  exact ⟨rfl, rfl⟩
def nameByte (c : UInt8) : Bool := (97 ≤ c.toNat && c.toNat ≤ 122) || (65 ≤ c.toNat && c.toNat ≤ 90) || (48 ≤ c.toNat && c.toNat ≤ 57) || c.toNat == 46
theorem isNameByte_any (c : UInt8) (w : World) : Calls Try.prog 44 #[.int .u8 (c.toNat : Int)] w fun e w' => e = .returned (.bool (nameByte c)) ∧ w' = w := by
  have hc : c.toNat < 256 := c.toNat_lt
  unfold nameByte
  generalize c.toNat = k at *
  go_enter Try.func44, Try.ntmps44
  go_wp2
  all_goals go_ret
  all_goals (refine ⟨congrArg (fun b => Ending.returned (Value.bool b)) ?_, rfl⟩; rw [Bool.eq_iff_iff]; simp; omega)
def sectors (a n : Nat) : Nat := if n = 0 then 0 else (a + n - 1) / 64 - a / 64 + 1
theorem sectorsOf_any (a n : Nat) (w : World) (ha : a ≤ 4194304) (hn : n ≤ 1099511627776) : Calls Try.prog 45 #[.int .i64 (a : Int), .int .i64 (n : Int)] w fun e w' => e = .returned (.int .i64 ((sectors a n : Nat) : Int)) ∧ w' = w := by
  by_cases h0 : n = 0
  · subst h0
    go_enter Try.func45, Try.ntmps45
    go_wp2
    go_ret
    exact ⟨rfl, rfl⟩
  · obtain ⟨S, hS⟩ : ∃ S, S = sectors a n := ⟨_, rfl⟩
    have hS' : Hid ((S : Int) = ((a : Int) + (n : Int) - 1) / 64 - (a : Int) / 64 + 1) := by
      show _ = _
      rw [hS, sectors, if_neg h0]
      omega
    rw [← hS]
    clear hS
    have h1 : ((n : Int) == 0) = false := by simp; omega
    go_enter Try.func45, Try.ntmps45
    go_wp2
    go_ret
    exact ⟨by rw [hS'.out]; rfl, rfl⟩
def partOf (i : Nat) (keep : List Bool) (torn : Int) : Nat := if (i : Int) = torn then 32 else if keep.getD i false = true then 64 else 0
def lvs (l : List Bool) : List Value := l.map Value.bool
theorem partOf_any (i : Nat) (A : Option Addr) (n c : Nat) (keep : List Bool) (torn : Int) (B : Nat) (w : World) (hR : Row w B A n (lvs keep)) :
    Calls Try.prog 41 #[.int .i64 (i : Int), .slice A n c, .int .i64 torn] w fun e w' => e = .returned (.int .i64 ((partOf i keep torn : Nat) : Int)) ∧ w' = w := by
  have hl : keep.length = n := by have := hR.1; rwa [lvs, List.length_map] at this
  by_cases ht : (i : Int) = torn
  · subst ht
    have hp : partOf i keep (i : Int) = 32 := if_pos rfl
    rw [hp]
    clear hR hp
    go_enter Try.func41, Try.ntmps41
    go_wp2
    go_ret
    exact ⟨rfl, rfl⟩
  · have h1 : ((i : Int) == torn) = false := by simp [ht]
    by_cases hin : i < n
    · obtain ⟨b, o, rfl, _, hcell⟩ := hR.2 (by omega)
      have hb := hcell i (.bool (keep.getD i false)) (by rw [lvs, List.getElem?_map, List.getD_eq_getElem?_getD, List.getElem?_eq_getElem (by omega)]; rfl)
      have hp : partOf i keep torn = if keep.getD i false = true then 64 else 0 := if_neg ht
      rw [hp]
      generalize keep.getD i false = x at *
      clear hR hp hcell
      cases x
      · go_enter Try.func41, Try.ntmps41
        go_wp2
        go_ret
        exact ⟨rfl, rfl⟩
      · go_enter Try.func41, Try.ntmps41
        go_wp2
        go_ret
        exact ⟨rfl, rfl⟩
    · have hp : partOf i keep torn = 0 := by
        rw [partOf, if_neg ht, List.getD_eq_getElem?_getD, List.getElem?_eq_none (by omega)]
        rfl
      rw [hp]
      clear hR hp
      go_enter Try.func41, Try.ntmps41
      go_wp2
      go_ret
      exact ⟨rfl, rfl⟩
/-- A name that may be. -/
def goodName (n : List UInt8) : Bool := decide (0 < n.length) && decide (n.length ≤ 32) && n.all nameByte
theorem index_string_at {P : Program} {T : TypeId} (ht : P.underlying T = some .string) (s : ByteArray) (k : IntKind) (v : Int) (i : Nat) (hv : v = (i : Int)) (hi : i < s.size) (w : World) :
    (Instr.index T (.string s) (.int k v)).run P w = .ok (.int .u8 ((s.data.toList.getD i 0).toNat : Int)) w := by
  subst hv
  rw [run_index_string w T s k (i : Int) ht, dif_pos ⟨by omega, by omega⟩]
  congr 3
  rw [List.getD_eq_getElem?_getD, Array.getElem?_toList, Array.getElem?_eq_getElem (by simpa using hi)]
  rfl
theorem isName_any (s : ByteArray) (w : World) (hs : s.size ≤ maxLen) : Calls Try.prog 32 #[.string s] w fun e w' => e = .returned (.bool (goodName s.data.toList)) ∧ w' = w := by
  unfold maxLen at hs
  have hl : s.data.toList.length = s.size := by simp
  have hl0 := hl
  unfold goodName
  rw [hl]
  generalize hL : s.data.toList = L at *
  clear hl
  by_cases h0 : s.size = 0
  · have h1 : ((s.size : Int) == 0) = true := by simp [h0]
    go_enter Try.func32, Try.ntmps32
    go_wp2
    go_ret
    exact ⟨by simp [h0], rfl⟩
  · have h1 : ((s.size : Int) == 0) = false := beq_eq_false_iff_ne.2 (by omega)
    by_cases h32 : 32 < s.size
    · have HD : Hid (decide (s.size ≤ 32) = false) := decide_eq_false (by omega)
      go_enter Try.func32, Try.ntmps32
      go_wp2
      go_ret
      exact ⟨by rw [HD.out]; simp, rfl⟩
    · rw [decide_eq_true (by omega : 0 < s.size), decide_eq_true (by omega : s.size ≤ 32)]
      have hidx := fun (i : Nat) (hi : i < s.size) (w : World) => index_string_at Try.underlying9 s .i64 (i : Int) i rfl hi w
      rw [hL] at hidx
      clear h0
      go_enter Try.func32, Try.ntmps32
      go_wp2
      go_loopw [14] (fun v wr => ∃ k : Nat, k ≤ s.size ∧ v = .int .i64 k ∧ wr = w ∧ (L.take k).all nameByte = true) (fun v _ => s.size - (RowKit.intOf v).toNat)
      case atStart => exact ⟨0, Nat.zero_le _, rfl, rfl, by simp⟩
      case round =>
        obtain ⟨k, hk, rfl, rfl, hall⟩ := hrel
        by_cases hlt : k < s.size
        · have hi := hidx k hlt wr
          have cB := isNameByte_any (L.getD k 0)
          have hsn : L.take (k + 1) = L.take k ++ [L.getD k 0] := getD_snoc L k (by omega)
          have hall' : L.all nameByte = true → nameByte (L.getD k 0) = true := fun h => List.all_eq_true.1 h _ (by rw [List.getD_eq_getElem?_getD, List.getElem?_eq_getElem (by omega)]; exact List.getElem_mem _)
          generalize L.getD k 0 = ch at *
          cases hx : nameByte ch
          · have hno : L.all nameByte = false := by
              cases h : L.all nameByte
              · rfl
              · rw [hall' h] at hx; cases hx
            rw [hx] at cB
            have HN := Lib.hid hno
            clear hsn hall' hx hall hidx hno
            go_wp2_with (go_at_call 44; refine (cB _).mono ?_; rintro e w' ⟨rfl, rfl⟩)
            go_ret
            exact ⟨by rw [HN.out]; rfl, rfl⟩
          · rw [hx] at cB
            have HN : Hid ((L.take (k + 1)).all nameByte = true) := by show _ = _; rw [hsn, List.all_append, hall]; simp [hx]
            clear hsn hall' hx hall hidx
            go_wp2_with (go_at_call 44; refine (cB _).mono ?_; rintro e w' ⟨rfl, rfl⟩)
            go_roundw
            case rel => exact ⟨k + 1, by omega, by go_num, trivial, HN.out⟩
            case measure => simp [RowKit.intOf]; omega
        · obtain rfl : k = s.size := by omega
          rw [List.take_of_length_le (by omega)] at hall
          have HN := Lib.hid hall
          clear hall hidx
          go_wp2
          go_ret
          exact ⟨by rw [HN.out]; rfl, rfl⟩
end Go.Proofs.Ytebjapinhkeafaa.Disk
