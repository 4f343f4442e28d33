/-
  Proved: what withoutBody returns of a whole head.
  Conditions: the slice reads as bytes, at least 39.
-/
import Derived.Test.YtjpgfdpgjfmnoaaDoorRecEnc
import Derived.StillTailTactics
import Derived.BigQuiet
namespace Go.Proofs.YtjpgfdpgjfmnoaaDoor.Rec
open Go.RowKit
set_option linter.unusedVariables false
set_option linter.unusedSimpArgs false

theorem row_heap {w w' : World} {B n : Nat} {A : Option Addr} {vs : List Value} (h : Row w B A n vs) (e : w'.heap = w.heap) : Row w' B A n vs :=
  h.keep fun b o _ => by unfold World.cell?; rw [e]
theorem row_part {w : World} {B n k m b o : Nat} {bs : List UInt8} (h : Row w B (some ⟨b, o, none⟩) n (bvs bs)) (hk : k < m) (hm : m ≤ n) : Row w B (some ⟨b, o + k, none⟩) (m - k) (bvs (part bs k m)) := by
  have := (h.drop (k := k) (by omega)).take (k := m - k) (by omega)
  rw [bvs_drop, bvs_take] at this
  exact this
theorem get_part {w : World} {B n b o c : Nat} {bs : List UInt8} (h : Row w B (some ⟨b, o, none⟩) n (bvs bs)) (hnc : n ≤ c) (hc : c ≤ maxLen) (k m z d : Nat) (hk : k < m) (hm : m ≤ n) (hz : z = m - k) (h8 : z ≤ 8) (hd : d = c - k) :
    Hid (∀ w', w'.heap = w.heap → Calls Tryd.prog 30 #[.slice (some ⟨b, o + k, none⟩) z d] w' fun e w'' => e = .returned (.int .u64 (beN (part bs k m) : Int)) ∧ w'' = w') := by
  intro w' e
  subst hz hd
  refine (get_any _ _ _ B _ w' (row_heap (row_part h hk hm) e) h8 (by omega) (by omega)).mono ?_
  rintro e w'' ⟨h1, rfl⟩
  exact ⟨h1, rfl⟩
set_option maxHeartbeats 2000000 in
theorem withoutBody_any (b o n c B : Nat) (bs : List UInt8) (w : World) (hR : Row w B (some ⟨b, o, none⟩) n (bvs bs)) (hB : B ≤ w.heap.size) (hn : 39 ≤ n) (hnc : n ≤ c) (hc : c ≤ maxLen) :
    Calls Tryd.prog 29 #[.slice (some ⟨b, o, none⟩) n c] w fun e w' => e = .returned (.agg (headOf bs).vals) ∧ Below w.heap.size w w' := by
  have hm : c ≤ 9223372036854775807 := by unfold maxLen at hc; exact hc
  have h39 : 39 ≤ c := by omega
  have hz := zeroRec
  obtain ⟨w1, hw1⟩ : ∃ w1, w1 = w.alloc (.cells #[.int .i64 0, .int .u32 0, .int .u64 0, .int .u64 0, .int .u64 0, .string ⟨#[]⟩] 32) := ⟨_, rfl⟩
  have hB1 : Below w.heap.size w w1 := by rw [hw1]; exact below_alloc w _
  have hR1 : Row w1 B (some ⟨b, o, none⟩) n (bvs bs) := hR.below (hB1.mono hB)
  have G0 := get_part hR1 hnc hc 2 3 1 (c - 2) (by omega) (by omega) rfl (by omega) rfl
  have G1 := get_part hR1 hnc hc 3 7 4 (c - 3) (by omega) (by omega) rfl (by omega) rfl
  have G2 := get_part hR1 hnc hc 7 15 8 (c - 7) (by omega) (by omega) rfl (by omega) rfl
  have G3 := get_part hR1 hnc hc 15 23 8 (c - 15) (by omega) (by omega) rfl (by omega) rfl
  have G4 := get_part hR1 hnc hc 23 31 8 (c - 23) (by omega) (by omega) rfl (by omega) rfl
  have hl := hR.size
  have b0 : beN (part bs 2 3) < 256 := by have := beN_lt 1 (part bs 2 3) (part_length _ _ _ (by omega) (by omega)); omega
  have b1 : beN (part bs 3 7) < 4294967296 := by have := beN_lt 4 (part bs 3 7) (part_length _ _ _ (by omega) (by omega)); omega
  have hv : (headOf bs).vals = #[.int .i64 ((beN (part bs 2 3) : Nat) : Int), .int .u32 ((beN (part bs 3 7) : Nat) : Int), .int .u64 ((beN (part bs 7 15) : Nat) : Int), .int .u64 ((beN (part bs 15 23) : Nat) : Int), .int .u64 ((beN (part bs 23 31) : Nat) : Int), .string ⟨#[]⟩] := by
    unfold Rc.vals headOf
    rw [part_kind bs (by omega), beN_one]
    rfl
  have HS : Hid (Blk w1.drew w.heap.size 32 zeroRc.vals) := by
    rw [hw1]
    exact Blk.new w 32 zeroRc.vals
  obtain ⟨x, hx⟩ : ∃ x, x = headOf bs := ⟨_, rfl⟩
  rw [← hx] at hv ⊢
  obtain ⟨V0, hV0⟩ : ∃ V, V = beN (part bs 2 3) := ⟨_, rfl⟩
  obtain ⟨V1, hV1⟩ : ∃ V, V = beN (part bs 3 7) := ⟨_, rfl⟩
  obtain ⟨V2, hV2⟩ : ∃ V, V = beN (part bs 7 15) := ⟨_, rfl⟩
  obtain ⟨V3, hV3⟩ : ∃ V, V = beN (part bs 15 23) := ⟨_, rfl⟩
  obtain ⟨V4, hV4⟩ : ∃ V, V = beN (part bs 23 31) := ⟨_, rfl⟩
  rw [← hV0] at G0 b0 hv
  rw [← hV1] at G1 b1 hv
  rw [← hV2] at G2 hv
  rw [← hV3] at G3 hv
  rw [← hV4] at G4 hv
  have w0 : IntKind.i64.wrap (V0 : Int) = (V0 : Int) := by rw [IntKind.wrap_i64]; omega
  have w1' : IntKind.u32.wrap (V1 : Int) = (V1 : Int) := by simp [IntKind.wrap, IntKind.bits, IntKind.signed]; omega
  have HV : Hid (x.vals = #[.int .i64 (IntKind.i64.wrap (V0 : Int)), .int .u32 (IntKind.u32.wrap (V1 : Int)), .int .u64 (V2 : Int), .int .u64 (V3 : Int), .int .u64 (V4 : Int), .string ⟨#[]⟩]) := by
    show _ = _
    rw [w0, w1', hv]
  clear w0 w1'
  have HB1 := Lib.hid hB1
  clear hV0 hV1 hV2 hV3 hV4 hx hv hl hR hR1 hB1 hc hnc hn
  go_enter Tryd.func29, Tryd.ntmps29
  go_upto_region 1 with fail
  rw [← hw1]
  clear hw1
  have i3 : (3 : Int) ≤ (c : Int) := by omega
  have i7 : (7 : Int) ≤ (c : Int) := by omega
  have i15 : (15 : Int) ≤ (c : Int) := by omega
  have i23 : (23 : Int) ≤ (c : Int) := by omega
  have i31 : (31 : Int) ≤ (c : Int) := by omega
  have n2 : ¬ c = 2 := by omega
  have n3 : ¬ c = 3 := by omega
  have n7 : ¬ c = 7 := by omega
  have n15 : ¬ c = 15 := by omega
  have n23 : ¬ c = 23 := by omega
  go_still_tail 18, (by kernel_rfl)
  still_call (G0.out _ rfl)
  repeat still_step
  still_call (G1.out _ rfl)
  repeat still_step
  still_call (G2.out _ rfl)
  repeat still_step
  still_call (G3.out _ rfl)
  repeat still_step
  still_call (G4.out _ rfl)
  repeat still_step
  refine wpStill_nil ?_
  change wpList _ _ _ _ _ w1.drew
  clear G0 G1 G2 G3 G4
  go_wp2_with (refine store_rec HS.out rfl rfl (.tmp 2) (.tmp 20) rfl rfl x (by rw [HV.out]; rfl) ?_; intro w2 G5 G6)
  refine bodyPost_ret (v := .agg x.vals) (result_rec G5.out rfl _ rfl) rfl ?_
  exact ⟨rfl, below_only HB1.out.drew (only_hid G6) (Nat.le_refl _) HB1.out.size⟩
end Go.Proofs.YtjpgfdpgjfmnoaaDoor.Rec
