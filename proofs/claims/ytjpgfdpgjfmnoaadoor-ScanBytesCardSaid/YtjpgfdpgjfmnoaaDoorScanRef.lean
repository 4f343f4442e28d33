/-
  Proved: what the reference's All and Front return: the records that stand in a list of bytes.
  Conditions: the slice reads as bytes, not too many.
-/
import Derived.Test.YtjpgfdpgjfmnoaaDoorScanCom
import Derived.Test.YtjpgfdpgjfmnoaaDoorRecRefDec3
namespace Go.Proofs.YtjpgfdpgjfmnoaaDoor.Rec
open Go.RowKit
set_option linter.unusedVariables false
set_option linter.unusedSimpArgs false

set_option maxRecDepth 100000 in
set_option maxHeartbeats 8000000 in
theorem refall_any (A : Option Addr) (n c : Nat) (bs : List UInt8) (w : World) (hR : Row w w.heap.size A n (bvs bs)) (hnc : n ≤ c) (hc : c ≤ maxLen) (hn : n ≤ 100000) :
    Calls Tryd.prog 16 #[.slice A n c] w fun e w' => ∃ v, e = .returned v ∧ Fd w 60 w' v (allFrom 0 bs) := by
  have hcm : c ≤ 9223372036854775807 := by unfold maxLen at hc; exact hc
  have HL := Lib.hid hR.size
  have HR := Lib.hid hR
  have HNC := Lib.hid hnc
  have HC := Lib.hid hc
  have hz := zeroRec
  clear hR hc
  go_enter Tryd.func16, Tryd.ntmps16
  go_wp2_with fail
  go_loopw [3, 4] (fun v i wr => ∃ (p : Nat) (l : List (Nat × Rc)), i = .int .i64 (p : Int) ∧ p ≤ n ∧ l.length ≤ p ∧ Hid (Fd w 60 wr v l) ∧ Hid (l ++ allFrom p bs = allFrom 0 bs)) (fun _ i _ => n - (intOf i).toNat)
  case atStart => exact ⟨0, [], rfl, Nat.zero_le _, Nat.le_refl _, Fd.nil w _, rfl⟩
  case round =>
    obtain ⟨p, l, rfl, hp, hlp, HF, HA⟩ := hrel
    by_cases hlt : p < n
    · obtain ⟨b, o, rfl, _, _⟩ := HR.out.2 (by omega)
      have hcp : ¬ c = p := by omega
      have hpc : (p : Int) ≤ (c : Int) := by omega
      have hpn : (p : Int) ≤ (n : Int) := by omega
      have hrow := row_from (HR.out.below HF.out.below) hlt
      have CD := Lib.hid (refdecode_any (some ⟨b, o + p, none⟩) (n - p) (c - p) (bs.drop p) wr (hrow.more HF.out.below.size) (by omega) (by have := HC.out; omega))
      clear hrow
      rcases out_ok (dec (bs.drop p)) with ⟨x, m, hd⟩ | ⟨e, he, hv, hno⟩
      · obtain ⟨hm, hml, _⟩ := dec_ok hd
        have hml' : p + m ≤ n := by rw [List.length_drop] at hml; have := HL.out; omega
        have HA2 : Hid ((l ++ [(p, x)]) ++ allFrom (p + m) bs = allFrom 0 bs) := by
          have h := HA.out
          rw [allFrom_ok (by rw [HL.out]; exact hlt) hd] at h
          show _ = _
          rw [List.append_assoc]
          exact h
        have CD2 : Hid (Calls Tryd.prog 24 #[.slice (some ⟨b, o + p, none⟩) (n - p) (c - p)] wr fun e w' => e = .returned (.tuple #[.agg x.vals, .int .i64 (m : Int), .int .i64 0]) ∧ Below wr.heap.size wr w') := by
          have h := CD.out
          rw [hd] at h
          exact h
        have hm39 : 39 ≤ m := by omega
        clear CD hd HA hm hml
        go_upto_region 5 with (first
          | (go_at_call 24; refine CD2.out.mono ?_; rintro e w2 ⟨rfl, hb2⟩; have HF2 := Lib.hid (HF.out.all hb2); clear hb2)
          | (refine store_recN (zero_new w2) rfl rfl (.tmp 5) (.tmp 17) rfl rfl x rfl rfl ?_; intro w3 X3 G3))
        have HF3 : Hid (Fd w 60 w3 u3 l) := fd_store HF2.out G3.out
        clear G3
        have hl6 : l.length ≤ 1000000 := by omega
        have hone := one_cells w3 60 (0, 0) (p, x) (fcells (p, x)).toArray rfl
        have HF4 := Lib.hid (HF3.out.all (below_alloc w3 (.cells (fcells (p, x)).toArray 60)))
        have HONE := Lib.hid hone
        have HBF := Lib.hid (built_ref p x)
        have HBS := Lib.hid (slice_ref p x)
        obtain ⟨fc, hfc⟩ : ∃ fc, fc = (fcells (p, x)).toArray := ⟨_, rfl⟩
        rw [← hfc] at HF4 HONE HBF HBS
        clear hone hfc
        go_wp2_with (first
          | (refine load_rec X3.out rfl (.tmp 5) rfl rfl ?_)
          | (refine build_found rfl 60 (.tmp 23) (.tmp 24) rfl (some 25) rfl (.int .i64 (p : Int)) (.agg x.vals) rfl rfl fc HBF.out ?_)
          | (refine build_one rfl 36 60 (.tmp 25) rfl (some 26) rfl Tryd.underlying36 (.agg fc) rfl fc HBS.out ?_)
          | (at_builtin; refine fd_append HF4.out 36 _ 64 Tryd.underlying36 found_info rfl (by omega) rfl (.tmp 22) (.tmp 26) rfl rfl w3.heap.size 1 (p, x) rfl HONE.out hl6 ?_; intro v4 w4 HF5))
        go_roundw
        case rel => exact ⟨p + m, l ++ [(p, x)], by go_num, hml', by rw [List.length_append]; show l.length + 1 ≤ p + m; omega, HF5, HA2⟩
        case measure => (simp [intOf]; omega)
      · have HA2 : Hid (l ++ allFrom (p + 1) bs = allFrom 0 bs) := by
          have h := HA.out
          rw [allFrom_no (by rw [HL.out]; exact hlt) hno] at h
          exact h
        have CD2 : Hid (Calls Tryd.prog 24 #[.slice (some ⟨b, o + p, none⟩) (n - p) (c - p)] wr fun E w' => E = .returned (.tuple #[.agg zeroRc.vals, .int .i64 0, .int .i64 e]) ∧ Below wr.heap.size wr w') := by
          have h := CD.out
          rw [hv] at h
          exact h
        have he' : (e == 0) = false := beq_eq_false_iff_ne.2 he
        clear CD hno hv HA
        go_upto_region 5 with (first
          | (go_at_call 24; refine CD2.out.mono ?_; rintro E w2 ⟨rfl, hb2⟩; have HF2 := Lib.hid (HF.out.all hb2); clear hb2)
          | (refine store_recN (zero_new w2) rfl rfl (.tmp 5) (.tmp 17) rfl rfl zeroRc rfl rfl ?_; intro w3 X3 G3))
        have HF3 : Hid (Fd w 60 w3 u3 l) := fd_store HF2.out G3.out
        clear G3
        go_wp2_with fail
        go_roundw
        case rel => exact ⟨p + 1, l, by go_num, by omega, by omega, HF3, HA2⟩
        case measure => (simp [intOf]; omega)
    · obtain rfl : p = n := by omega
      have HE : Hid (l = allFrom 0 bs) := by
        have h := HA.out
        rw [allFrom_end _ _ (by rw [HL.out]; exact Nat.le_refl _), List.append_nil] at h
        exact h
      go_wp2_with fail
      go_ret
      refine ⟨_, rfl, ?_⟩
      rw [← HE.out]
      exact HF.out
end Go.Proofs.YtjpgfdpgjfmnoaaDoor.Rec
