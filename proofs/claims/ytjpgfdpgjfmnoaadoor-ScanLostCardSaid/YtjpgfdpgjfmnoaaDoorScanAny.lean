/-
  Proved: what All and Front of package scan return (an empty text too): the records that stand in a list of bytes, and at its front.
  Conditions: the slice reads as bytes, not too many; the table crc.turned holds its sixteen words.
-/
import Derived.Test.YtjpgfdpgjfmnoaaDoorScanWalk
namespace Go.Proofs.YtjpgfdpgjfmnoaaDoor.Rec
open Go.RowKit
open Go.Proofs.YtjpgfdpgjfmnoaaDoor.Crc (Turned)
set_option linter.unusedVariables false
set_option linter.unusedSimpArgs false

set_option maxRecDepth 100000 in
set_option maxHeartbeats 8000000 in
theorem scanrow_none (w0 : World) (v0 : Value) (l0 : List (Nat × Rc)) (c : Nat) (w : World) (hF : Fd w0 46 w v0 l0) (hT : Turned w0) (hc : c ≤ maxLen) :
    Calls Tryd.prog 23 #[v0, .slice none 0 c, .int .i64 0] w fun e w' => e = .returned (.tuple #[v0, .int .i64 0]) ∧ Fd w0 46 w' v0 l0 := by
  have hcm : c ≤ 9223372036854775807 := by unfold maxLen at hc; exact hc
  have HF := Lib.hid hF
  have hz := zeroRec
  have CD := Lib.hid (decode_any none 0 c [] w (turned_kept hT hF.below) empty_row (Nat.zero_le _) hc)
  rw [dec_nil] at CD
  clear hc hT hF
  go_enter Tryd.func23, Tryd.ntmps23
  go_wp2_with fail
  go_loopw [0, 2] (fun v i wr => v = v0 ∧ i = .int .i64 0 ∧ wr = w) (fun _ i _ => 0)
  case atStart => exact ⟨rfl, rfl, rfl⟩
  case round =>
    obtain ⟨rfl, rfl, rfl⟩ := hrel
    have CD2 : Hid (Calls Tryd.prog 26 #[.slice none 0 c] wr fun E w' => E = .returned (.tuple #[.agg zeroRc.vals, .int .i64 0, .int .i64 11]) ∧ Below wr.heap.size wr w') := CD.out
    clear CD
    go_upto_region 2 with (first
        | (go_at_call 26; refine CD2.out.mono ?_; rintro E w2 ⟨rfl, hb2⟩; have HF2 := Lib.hid (HF.out.all hb2); clear hb2)
        | (refine store_recN (zero_new w2) rfl rfl (.tmp 8) (.tmp 16) rfl rfl zeroRc rfl rfl ?_; intro w3 X3 G3))
    have HF3 : Hid (Fd w0 46 w3 u0 l0) := fd_store HF2.out G3.out
    clear G3
    go_wp2_with fail
    go_ret2
    exact ⟨rfl, HF3.out⟩
set_option maxRecDepth 100000 in
set_option maxHeartbeats 8000000 in
theorem scanrow_zero (w0 : World) (v0 : Value) (l0 : List (Nat × Rc)) (ad : Addr) (c : Nat) (w : World) (hF : Fd w0 46 w v0 l0) (hT : Turned w0) (hc : c ≤ maxLen) :
    Calls Tryd.prog 23 #[v0, .slice (some ad) 0 c, .int .i64 0] w fun e w' => e = .returned (.tuple #[v0, .int .i64 0]) ∧ Fd w0 46 w' v0 l0 := by
  have hcm : c ≤ 9223372036854775807 := by unfold maxLen at hc; exact hc
  have HF := Lib.hid hF
  have hz := zeroRec
  have CD : Hid (∀ P, Calls Tryd.prog 26 #[.slice P 0 c] w fun E w' => E = .returned (.tuple #[.agg zeroRc.vals, .int .i64 0, .int .i64 11]) ∧ Below w.heap.size w w') := by
    intro P
    have h := decode_any P 0 c [] w (turned_kept hT hF.below) empty_row (Nat.zero_le _) hc
    rw [dec_nil] at h
    exact h
  clear hc hT hF
  go_enter Tryd.func23, Tryd.ntmps23
  go_wp2_with fail
  go_loopw [0, 2] (fun v i wr => v = v0 ∧ i = .int .i64 0 ∧ wr = w) (fun _ i _ => 0)
  case atStart => exact ⟨rfl, rfl, rfl⟩
  case round =>
    obtain ⟨rfl, rfl, rfl⟩ := hrel
    go_upto_region 2 with (first
        | (go_at_call 26; refine (CD.out _).mono ?_; rintro E w2 ⟨rfl, hb2⟩; have HF2 := Lib.hid (HF.out.all hb2); clear hb2)
        | (refine store_recN (zero_new w2) rfl rfl (.tmp 8) (.tmp 16) rfl rfl zeroRc rfl rfl ?_; intro w3 X3 G3))
    have HF3 : Hid (Fd w0 46 w3 u0 l0) := fd_store HF2.out G3.out
    clear G3
    go_wp2_with fail
    go_ret2
    exact ⟨rfl, HF3.out⟩
/-- .. whatever the slice. -/
theorem scanrow_any (w0 : World) (v0 : Value) (l0 : List (Nat × Rc)) (A : Option Addr) (n c p0 : Nat) (bs : List UInt8) (w : World) (hF : Fd w0 46 w v0 l0) (hT : Turned w0) (hR : Row w0 w0.heap.size A n (bvs bs)) (hnc : n ≤ c) (hc : c ≤ maxLen) (hn : n ≤ 100000) (hp0 : p0 ≤ n) (hl0 : l0.length ≤ p0) :
    Calls Tryd.prog 23 #[v0, .slice A n c, .int .i64 (p0 : Int)] w fun e w' => ∃ v, e = .returned (.tuple #[v, .int .i64 ((endOf p0 (frontFrom p0 bs) : Nat) : Int)]) ∧ Fd w0 46 w' v (l0 ++ frontFrom p0 bs) := by
  rcases Nat.eq_zero_or_pos n with h0 | h0
  · subst h0
    obtain rfl : p0 = 0 := by omega
    obtain rfl : bs = [] := List.eq_nil_of_length_eq_zero hR.size
    rw [front_nil, List.append_nil]
    cases A with
    | none => exact (scanrow_none w0 v0 l0 c w hF hT hc).mono fun e w' h => ⟨v0, h.1, h.2⟩
    | some ad => exact (scanrow_zero w0 v0 l0 ad c w hF hT hc).mono fun e w' h => ⟨v0, h.1, h.2⟩
  · obtain ⟨b, o, rfl, _, _⟩ := hR.2 h0
    exact scanrow_some w0 v0 l0 b o n c p0 bs w hF hT hR hnc hc hn hp0 hl0
set_option maxRecDepth 100000 in
set_option maxHeartbeats 8000000 in
theorem scanfront_any (A : Option Addr) (n c : Nat) (bs : List UInt8) (w : World) (hT : Turned w) (hR : Row w w.heap.size A n (bvs bs)) (hnc : n ≤ c) (hc : c ≤ maxLen) (hn : n ≤ 100000) :
    Calls Tryd.prog 11 #[.slice A n c] w fun e w' => ∃ v, e = .returned (.tuple #[v, .int .i64 ((endOf 0 (frontFrom 0 bs) : Nat) : Int)]) ∧ Fd w 46 w' v (frontFrom 0 bs) := by
  have C := Lib.hid (scanrow_any w (.slice none 0 0) [] A n c 0 bs w (Fd.nil w _) hT hR hnc hc hn (Nat.zero_le _) (Nat.zero_le _))
  clear hT hR
  go_enter Tryd.func11, Tryd.ntmps11
  go_wp2_with (go_at_call 23; refine C.out.mono ?_; rintro e w2 ⟨v, rfl, h2⟩)
  go_ret2
  exact ⟨v, rfl, h2⟩
set_option maxRecDepth 100000 in
set_option maxHeartbeats 8000000 in
theorem scanall_any (A : Option Addr) (n c : Nat) (bs : List UInt8) (w : World) (hT : Turned w) (hR : Row w w.heap.size A n (bvs bs)) (hnc : n ≤ c) (hc : c ≤ maxLen) (hn : n ≤ 100000) :
    Calls Tryd.prog 15 #[.slice A n c] w fun e w' => ∃ v, e = .returned v ∧ Fd w 46 w' v (allFrom 0 bs) := by
  have HL := Lib.hid hR.size
  have HR := Lib.hid hR
  have HC := Lib.hid hc
  have HT := Lib.hid hT
  clear hR hc hT
  go_enter Tryd.func15, Tryd.ntmps15
  go_wp2_with fail
  go_loopw [3, 4] (fun v i wr => ∃ (p : Nat) (l : List (Nat × Rc)), i = .int .i64 (p : Int) ∧ p ≤ n + 1 ∧ l.length ≤ p ∧ Hid (Fd w 46 wr v l) ∧ Hid (l ++ allFrom p bs = allFrom 0 bs)) (fun _ i _ => n + 1 - (intOf i).toNat)
  case atStart => exact ⟨0, [], rfl, Nat.zero_le _, Nat.le_refl _, Fd.nil w _, rfl⟩
  case round =>
    obtain ⟨p, l, rfl, hp, hlp, HF, HA⟩ := hrel
    by_cases hlt : p < n
    · have C := Lib.hid (scanrow_any w u3 l A n c p bs wr HF.out HT.out HR.out hnc HC.out hn (by omega) hlp)
      have hfl := front_le bs bs.length p (by omega) (by rw [HL.out]; omega)
      rw [HL.out] at hfl
      have HA2 : Hid ((l ++ frontFrom p bs) ++ allFrom (endOf p (frontFrom p bs) + 1) bs = allFrom 0 bs) := by
        have h := HA.out
        rw [all_front bs bs.length p (by omega)] at h
        show _ = _
        rw [List.append_assoc]
        exact h
      have hlen : (l ++ frontFrom p bs).length ≤ endOf p (frontFrom p bs) := by rw [List.length_append]; omega
      obtain ⟨E, hE⟩ : ∃ E, endOf p (frontFrom p bs) = E := ⟨_, rfl⟩
      obtain ⟨X, hX⟩ : ∃ X, l ++ frontFrom p bs = X := ⟨_, rfl⟩
      rw [hE, hX] at C HA2
      rw [hE] at hlen hfl
      rw [hX] at hlen
      obtain ⟨hf1, hf2, _⟩ := hfl
      clear hE hX
      go_wp2_with (go_at_call 23; refine C.out.mono ?_; rintro e w2 ⟨v, rfl, h2⟩; have HF2 := Lib.hid h2; clear h2)
      go_roundw
      case rel => exact ⟨E + 1, X, by go_num, by omega, by omega, HF2, HA2⟩
      case measure => (simp [intOf]; omega)
    · have HE : Hid (l = allFrom 0 bs) := by
        have h := HA.out
        rw [allFrom_end _ _ (by rw [HL.out]; omega), List.append_nil] at h
        exact h
      go_wp2_with fail
      go_ret
      refine ⟨_, rfl, ?_⟩
      rw [← HE.out]
      exact HF.out
end Go.Proofs.YtjpgfdpgjfmnoaaDoor.Rec
