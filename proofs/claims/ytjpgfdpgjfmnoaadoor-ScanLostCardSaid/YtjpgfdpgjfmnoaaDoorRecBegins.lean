/-
  Proved: what HasPrefix returns of "SR" and a short text; what beginsRight returns.
  Conditions: the slice reads as bytes.
-/
import Derived.Test.YtjpgfdpgjfmnoaaDoorRecMay
import Derived.Lib.MinMax
import Derived.Laws.BytesString
import Derived.Laws.BytesArg
import Derived.Laws.StructEq
import Derived.MapKept
namespace Go.Proofs.YtjpgfdpgjfmnoaaDoor.Rec
open Go.RowKit
set_option linter.unusedVariables false
set_option linter.unusedSimpArgs false

theorem bytes_string {P : Program} {w : World} {B n c : Nat} {A : Option Addr} {bs : List UInt8} {src dst e : TypeId} (hs : P.underlying src = some (.slice e)) (he : P.underlying e = some (.int .u8)) (hd : P.underlying dst = some .string)
    (hR : Row w B A n (bvs bs)) : (convert src dst (.slice A n c)).run P w = .ok (.string (str bs)) w := by
  rcases Nat.eq_zero_or_pos n with h0 | h0
  · subst h0
    obtain rfl : bs = [] := List.eq_nil_of_length_eq_zero hR.size
    rcases A with _ | a
    · exact run_convert_bytes_nil w src e hs he 0 c dst hd
    · rw [run_convert_bytes_string w src dst e _ 0 c hs he hd, run_bytesToString w _ 0 c [] (run_loadCells_list (P := P) w a [] (fun j v hv => by simp at hv))]
      rfl
  · obtain ⟨b, o, rfl, _, hc⟩ := hR.byte h0
    rw [run_convert_bytes_arg w src e hs he b o n c (bs.map fun x => (x.toNat : Int)) (by rw [List.length_map]; exact hR.size) (fun i hi => by
      rw [hc i hi, List.getD_eq_getElem?_getD, List.getD_eq_getElem?_getD, List.getElem?_map, List.getElem?_eq_getElem (by rw [hR.size]; exact hi)]
      rfl) dst hd]
    congr 2
    have e : ((bs.map fun x => (x.toNat : Int)).map fun n => UInt8.ofNat n.toNat) = bs := by
      rw [List.map_map]
      refine (List.map_congr_left (g := id) fun x _ => ?_).trans (List.map_id bs)
      exact UInt8.toNat_inj.1 (by simp)
    unfold strOfNums str
    rw [e]
theorem text_eq (a b : ByteArray) : (a.toList == b.toList) = decide (a = b) := by
  rw [← beq_toListBytes]
  by_cases h : a = b
  · rw [decide_eq_true h]; exact (Go.MapKept.bytes_beq a b).2 h
  · rw [decide_eq_false h]
    cases e : (a == b)
    · rfl
    · exact absurd ((Go.MapKept.bytes_beq a b).1 e) h
def sSR : ByteArray := ⟨#[83, 82]⟩
theorem sr_front (bs : List UInt8) : sSR.extract 0 (bs.take 2).length = str (bs.take 2) ↔ (0 < bs.length → bs.getD 0 0 = 83) ∧ (1 < bs.length → bs.getD 1 0 = 82) := by
  have h0 : sSR.extract 0 0 = str [] := by decide
  have h1 : sSR.extract 0 1 = str [83] := by decide
  have h2 : sSR.extract 0 2 = str [83, 82] := by decide
  match bs with
  | [] => exact ⟨fun _ => ⟨fun h => absurd h (by simp), fun h => absurd h (by simp)⟩, fun _ => h0⟩
  | [a] =>
    constructor
    · intro h
      have : str [83] = str [a] := by rw [← h1]; exact h
      have := str_inj this
      simp at this
      simp [this]
    · rintro ⟨h, _⟩
      have : a = 83 := h (by simp)
      subst this
      exact h1
  | a :: b :: r =>
    constructor
    · intro h
      have : str [83, 82] = str [a, b] := by rw [← h2]; exact h
      have := str_inj this
      simp at this
      simp [this.1, this.2]
    · rintro ⟨h, g⟩
      have e1 : a = 83 := h (by simp)
      have e2 : b = 82 := g (by simp)
      subst e1 e2
      exact h2
theorem lib_prefix (p : ByteArray) (w : World) (hp : p.size ≤ 2) : Calls Tryd.prog 37 #[.string sSR, .string p] w fun e w' => e = .returned (.bool (decide (sSR.extract 0 p.size = p))) ∧ w' = w := by
  have h0 : sSR.size = 2 := rfl
  obtain ⟨s, hs⟩ : ∃ s, s = sSR := ⟨_, rfl⟩
  rw [← hs] at h0 ⊢
  have h1 : (s.size : Int) = 2 := by omega
  have h2 : (2 : Int) ≥ (p.size : Int) := by omega
  have h3 : (p.size : Int) ≤ 2 := by omega
  go_enter Tryd.func37, Tryd.ntmps37
  go_wp2
  go_ret
  exact ⟨by rw [text_eq, hs]; simp [*], rfl⟩
theorem prefix_any (p : ByteArray) (w : World) (hp : p.size ≤ 2) : Calls Tryd.prog 33 #[.string ⟨#[83, 82]⟩, .string p] w fun e w' => e = .returned (.bool (decide (sSR.extract 0 p.size = p))) ∧ w' = w := by
  go_enter Tryd.func33, Tryd.ntmps33
  go_wp2_with (go_at_call 37; refine (lib_prefix p _ hp).mono ?_; rintro e w' ⟨rfl, rfl⟩)
  go_ret
  exact ⟨rfl, rfl⟩
theorem front_iff (bs : List UInt8) : Front bs ↔ sSR.extract 0 (str (bs.take 2)).size = str (bs.take 2) ∧ (2 < bs.length → mayKind ((bs.getD 2 0).toNat : Int)) := by
  rw [str_size, sr_front]
  unfold Front
  exact ⟨fun ⟨a, b, c⟩ => ⟨⟨a, b⟩, c⟩, fun ⟨⟨a, b⟩, c⟩ => ⟨a, b, c⟩⟩
set_option maxHeartbeats 1000000 in
theorem begins_any (A : Option Addr) (n c B : Nat) (bs : List UInt8) (w : World) (hR : Row w B A n (bvs bs)) (hnc : n ≤ c) (hc : c ≤ maxLen) :
    Calls Tryd.prog 28 #[.slice A n c] w fun e w' => e = .returned (.bool (decide (Front bs))) ∧ w' = w := by
  have hm : c ≤ 9223372036854775807 := by unfold maxLen at hc; exact hc
  have HL := hR.size
  have hrow : Row w B A (min n 2) (bvs (bs.take 2)) := by
    have := hR.take (k := min n 2) (Nat.min_le_left _ _)
    rw [bvs_take] at this
    have e : bs.take (min n 2) = bs.take 2 := by
      rcases Nat.le_total n 2 with h | h
      · rw [Nat.min_eq_left h, List.take_of_length_le (by omega), List.take_of_length_le (by omega)]
      · rw [Nat.min_eq_right h]
    rwa [e] at this
  have hcv := bytes_string (P := Tryd.prog) (src := 26) (dst := 9) (c := c) Tryd.underlying26 Tryd.underlying5 Tryd.underlying9 hrow
  have hsz : (str (bs.take 2)).size ≤ 2 := by rw [str_size, List.length_take]; omega
  have HF := front_iff bs
  obtain ⟨p, hp⟩ : ∃ p, p = str (bs.take 2) := ⟨_, rfl⟩
  rw [← hp] at hcv hsz HF
  have HB := Lib.hid hR.byte
  have hlen : (bs.length : Int) = (n : Int) := by omega
  clear hrow hR hp
  by_cases h1 : sSR.extract 0 p.size = p
  · have g1 : decide (sSR.extract 0 p.size = p) = true := decide_eq_true h1
    by_cases h2 : 2 < n
    · obtain ⟨b, o, rfl, _, hcs⟩ := HB.out (by omega)
      have hcell := hcs 2 h2
      obtain ⟨C, HC⟩ : ∃ C, C = bs.getD 2 0 := ⟨_, rfl⟩
      rw [← HC] at hcell HF
      have hC := C.toNat_lt
      have hmin : min (n : Int) 2 = 2 := by omega
      have hmin' : min n 2 = 2 := by omega
      rw [hmin'] at hcv
      have h2' : ¬ (n : Int) ≤ 2 := by omega
      have e : decide (Front bs) = decide (mayKind (C.toNat : Int)) := by
        rw [decide_eq_decide, HF]
        exact ⟨fun h => h.2 (by omega), fun h => ⟨h1, fun _ => h⟩⟩
      rw [e]
      clear hcs HB HF HC e h2 HL hlen
      go_enter Tryd.func28, Tryd.ntmps28
      go_wp2_with (first | (go_at_call 33; refine (prefix_any p _ hsz).mono ?_; rintro e w' ⟨rfl, rfl⟩) | (go_at_call 34; refine (mayKind_any (C.toNat : Int) _).mono ?_; rintro e w' ⟨rfl, rfl⟩))
      go_ret
      exact ⟨by simp; intro h; omega, rfl⟩
    · have hmin : min (n : Int) 2 = (n : Int) := by omega
      have hmin' : min n 2 = n := by omega
      rw [hmin'] at hcv
      have h2' : (n : Int) ≤ 2 := by omega
      have e : decide (Front bs) = true := by
        rw [decide_eq_true_iff, HF]
        exact ⟨h1, fun h => absurd h (by omega)⟩
      rw [e]
      clear HB HF e h2 HL hlen
      go_enter Tryd.func28, Tryd.ntmps28
      go_wp2_with (go_at_call 33; refine (prefix_any p _ hsz).mono ?_; rintro e w' ⟨rfl, rfl⟩)
      go_ret
      exact ⟨rfl, rfl⟩
  · have g1 : decide (sSR.extract 0 p.size = p) = false := decide_eq_false h1
    have e : decide (Front bs) = false := decide_eq_false fun h => h1 (HF.1 h).1
    rw [e]
    by_cases h2 : 2 < n
    · have hmin : min (n : Int) 2 = 2 := by omega
      have hmin' : min n 2 = 2 := by omega
      rw [hmin'] at hcv
      clear HB HF e HL hlen
      go_enter Tryd.func28, Tryd.ntmps28
      go_wp2_with (go_at_call 33; refine (prefix_any p _ hsz).mono ?_; rintro e w' ⟨rfl, rfl⟩)
      go_ret
      exact ⟨rfl, rfl⟩
    · have hmin : min (n : Int) 2 = (n : Int) := by omega
      have hmin' : min n 2 = n := by omega
      rw [hmin'] at hcv
      clear HB HF e HL hlen
      go_enter Tryd.func28, Tryd.ntmps28
      go_wp2_with (go_at_call 33; refine (prefix_any p _ hsz).mono ?_; rintro e w' ⟨rfl, rfl⟩)
      go_ret
      exact ⟨rfl, rfl⟩
end Go.Proofs.YtjpgfdpgjfmnoaaDoor.Rec
