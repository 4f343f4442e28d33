/-
  Proved: what May of record and of the reference, HasPrefix, Eq, sumOf and Cut return.
  Conditions: numbers and texts are those of values.
-/
import Derived.Test.YtjpgfdpgjfmnoaaDoorRecLeaf2
import Derived.Deep.DeepCutAuto
import Derived.Deep.RegionLaw
namespace Go.Proofs.YtjpgfdpgjfmnoaaDoor.Rec
open Go.RowKit
set_option linter.unusedVariables false
set_option linter.unusedSimpArgs false

theorem below_alloc (w : World) (o : Obj) : Below w.heap.size w (w.alloc o) := (Below.refl _ _).alloc (Nat.le_refl _) _

set_option maxHeartbeats 1000000 in
theorem may_any (x : Rc) (w : World) (hb : x.body.length ≤ maxLen) :
    Calls Tryd.prog 31 #[.agg x.vals] w fun e w' => e = .returned (.bool x.may) ∧ Below w.heap.size w w' := by
  obtain ⟨k, t, ep, ob, se, body⟩ := x
  obtain ⟨s, hs⟩ : ∃ s, s = str body := ⟨_, rfl⟩
  have hsz : s.size = body.length := by rw [hs]; exact str_size body
  have hb' : s.size ≤ 9223372036854775807 := by rw [hsz]; unfold maxLen at hb; exact hb
  show Calls _ _ #[.agg #[.int .i64 k, .int .u32 (t : Int), .int .u64 (ep : Int), .int .u64 (ob : Int), .int .u64 (se : Int), .string (str body)]] _ _
  rw [← hs]
  have hfin := below_alloc w (.cells #[.int .i64 k, .int .u32 (t : Int), .int .u64 (ep : Int), .int .u64 (ob : Int), .int .u64 (se : Int), .string s] 32)
  have HFIN := Lib.hid hfin
  clear hfin hb
  by_cases h1 : mayKind k
  case neg =>
    have g1 : decide (mayKind k) = false := decide_eq_false h1
    have e : Rc.may ⟨k, t, ep, ob, se, body⟩ = false := decide_eq_false (fun h => h1 ⟨h.1, h.2.1⟩)
    rw [e]
    clear hs hsz e
    go_enter Tryd.func31, Tryd.ntmps31
    go_wp2_with (go_at_call 34; refine (mayKind_any k _).mono ?_; rintro e w' ⟨rfl, rfl⟩)
    go_ret
    exact ⟨by simp [*], HFIN.out⟩
  have g1 : decide (mayKind k) = true := decide_eq_true h1
  by_cases h3 : ep ≤ 1099511627776
  case neg =>
    have g3 : ¬ (ep : Int) ≤ 1099511627776 := by omega
    have e : Rc.may ⟨k, t, ep, ob, se, body⟩ = false := decide_eq_false (fun h => h3 h.2.2.1)
    rw [e]
    clear hs hsz e
    go_enter Tryd.func31, Tryd.ntmps31
    go_wp2_with (go_at_call 34; refine (mayKind_any k _).mono ?_; rintro e w' ⟨rfl, rfl⟩)
    go_ret
    exact ⟨by simp [*], HFIN.out⟩
  have g3 : (ep : Int) ≤ 1099511627776 := by omega
  by_cases h4 : ob ≤ 1099511627776
  case neg =>
    have g4 : ¬ (ob : Int) ≤ 1099511627776 := by omega
    have e : Rc.may ⟨k, t, ep, ob, se, body⟩ = false := decide_eq_false (fun h => h4 h.2.2.2.1)
    rw [e]
    clear hs hsz e
    go_enter Tryd.func31, Tryd.ntmps31
    go_wp2_with (go_at_call 34; refine (mayKind_any k _).mono ?_; rintro e w' ⟨rfl, rfl⟩)
    go_ret
    exact ⟨by simp [*], HFIN.out⟩
  have g4 : (ob : Int) ≤ 1099511627776 := by omega
  by_cases h5 : se ≤ 1099511627776
  case neg =>
    have g5 : ¬ (se : Int) ≤ 1099511627776 := by omega
    have e : Rc.may ⟨k, t, ep, ob, se, body⟩ = false := decide_eq_false (fun h => h5 h.2.2.2.2.1)
    rw [e]
    clear hs hsz e
    go_enter Tryd.func31, Tryd.ntmps31
    go_wp2_with (go_at_call 34; refine (mayKind_any k _).mono ?_; rintro e w' ⟨rfl, rfl⟩)
    go_ret
    exact ⟨by simp [*], HFIN.out⟩
  have g5 : (se : Int) ≤ 1099511627776 := by omega
  by_cases h6 : body.length ≤ 1000
  case neg =>
    have g6 : ¬ (s.size : Int) ≤ 1000 := by omega
    have e : Rc.may ⟨k, t, ep, ob, se, body⟩ = false := decide_eq_false (fun h => h6 h.2.2.2.2.2)
    rw [e]
    clear hs hsz e
    go_enter Tryd.func31, Tryd.ntmps31
    go_wp2_with (go_at_call 34; refine (mayKind_any k _).mono ?_; rintro e w' ⟨rfl, rfl⟩)
    go_ret
    exact ⟨by simp [*], HFIN.out⟩
  have g6 : (s.size : Int) ≤ 1000 := by omega
  have e : Rc.may ⟨k, t, ep, ob, se, body⟩ = true := decide_eq_true ⟨h1.1, h1.2, h3, h4, h5, h6⟩
  rw [e]
  clear hs hsz e
  go_enter Tryd.func31, Tryd.ntmps31
  go_wp2_with (go_at_call 34; refine (mayKind_any k _).mono ?_; rintro e w' ⟨rfl, rfl⟩)
  go_ret
  exact ⟨by simp [*], HFIN.out⟩
set_option maxHeartbeats 1000000 in
theorem refmay_any (x : Rc) (w : World) (hb : x.body.length ≤ maxLen) :
    Calls Tryd.prog 20 #[.agg x.vals] w fun e w' => e = .returned (.bool x.may) ∧ Below w.heap.size w w' := by
  obtain ⟨k, t, ep, ob, se, body⟩ := x
  obtain ⟨s, hs⟩ : ∃ s, s = str body := ⟨_, rfl⟩
  have hsz : s.size = body.length := by rw [hs]; exact str_size body
  have hb' : s.size ≤ 9223372036854775807 := by rw [hsz]; unfold maxLen at hb; exact hb
  show Calls _ _ #[.agg #[.int .i64 k, .int .u32 (t : Int), .int .u64 (ep : Int), .int .u64 (ob : Int), .int .u64 (se : Int), .string (str body)]] _ _
  rw [← hs]
  have hfin := below_alloc w (.cells #[.int .i64 k, .int .u32 (t : Int), .int .u64 (ep : Int), .int .u64 (ob : Int), .int .u64 (se : Int), .string s] 32)
  have HFIN := Lib.hid hfin
  clear hfin hb
  by_cases h1 : 1 ≤ k
  case neg =>
    have e : Rc.may ⟨k, t, ep, ob, se, body⟩ = false := decide_eq_false (fun h => h1 h.1)
    rw [e]
    clear hs hsz e
    go_enter Tryd.func20, Tryd.ntmps20
    go_wp2_with fail
    go_ret
    exact ⟨by simp [*], HFIN.out⟩
  by_cases h2 : k ≤ 4
  case neg =>
    have e : Rc.may ⟨k, t, ep, ob, se, body⟩ = false := decide_eq_false (fun h => h2 h.2.1)
    rw [e]
    clear hs hsz e
    go_enter Tryd.func20, Tryd.ntmps20
    go_wp2_with fail
    go_ret
    exact ⟨by simp [*], HFIN.out⟩
  by_cases h3 : ep ≤ 1099511627776
  case neg =>
    have g3 : ¬ (ep : Int) ≤ 1099511627776 := by omega
    have e : Rc.may ⟨k, t, ep, ob, se, body⟩ = false := decide_eq_false (fun h => h3 h.2.2.1)
    rw [e]
    clear hs hsz e
    go_enter Tryd.func20, Tryd.ntmps20
    go_wp2_with fail
    go_ret
    exact ⟨by simp [*], HFIN.out⟩
  have g3 : (ep : Int) ≤ 1099511627776 := by omega
  by_cases h4 : ob ≤ 1099511627776
  case neg =>
    have g4 : ¬ (ob : Int) ≤ 1099511627776 := by omega
    have e : Rc.may ⟨k, t, ep, ob, se, body⟩ = false := decide_eq_false (fun h => h4 h.2.2.2.1)
    rw [e]
    clear hs hsz e
    go_enter Tryd.func20, Tryd.ntmps20
    go_wp2_with fail
    go_ret
    exact ⟨by simp [*], HFIN.out⟩
  have g4 : (ob : Int) ≤ 1099511627776 := by omega
  by_cases h5 : se ≤ 1099511627776
  case neg =>
    have g5 : ¬ (se : Int) ≤ 1099511627776 := by omega
    have e : Rc.may ⟨k, t, ep, ob, se, body⟩ = false := decide_eq_false (fun h => h5 h.2.2.2.2.1)
    rw [e]
    clear hs hsz e
    go_enter Tryd.func20, Tryd.ntmps20
    go_wp2_with fail
    go_ret
    exact ⟨by simp [*], HFIN.out⟩
  have g5 : (se : Int) ≤ 1099511627776 := by omega
  by_cases h6 : body.length ≤ 1000
  case neg =>
    have g6 : ¬ (s.size : Int) ≤ 1000 := by omega
    have e : Rc.may ⟨k, t, ep, ob, se, body⟩ = false := decide_eq_false (fun h => h6 h.2.2.2.2.2)
    rw [e]
    clear hs hsz e
    go_enter Tryd.func20, Tryd.ntmps20
    go_wp2_with fail
    go_ret
    exact ⟨by simp [*], HFIN.out⟩
  have g6 : (s.size : Int) ≤ 1000 := by omega
  have e : Rc.may ⟨k, t, ep, ob, se, body⟩ = true := decide_eq_true ⟨h1, h2, h3, h4, h5, h6⟩
  rw [e]
  clear hs hsz e
  go_enter Tryd.func20, Tryd.ntmps20
  go_wp2_with fail
  go_ret
  exact ⟨by simp [*], HFIN.out⟩
end Go.Proofs.YtjpgfdpgjfmnoaaDoor.Rec
