/-
  Proved: what the reference's Front returns: the records one behind the other at the front of a list of bytes, and how many bytes they take.
  Conditions: the slice reads as bytes, not too many.
-/
import Derived.Test.YtjpgfdpgjfmnoaaDoorScanRef
namespace Go.Proofs.YtjpgfdpgjfmnoaaDoor.Rec
open Go.RowKit
set_option linter.unusedVariables false
set_option linter.unusedSimpArgs false

theorem endOf_snoc (l : List (Nat × Rc)) (p q : Nat) (x : Rc) : endOf p (l ++ [(q, x)]) = q + (39 + x.body.length) := by
  induction l generalizing p with
  | nil => rfl
  | cons z l ih => exact ih _
set_option maxRecDepth 100000 in
set_option maxHeartbeats 8000000 in
theorem reffront_some (b o n c : Nat) (bs : List UInt8) (w : World) (hR : Row w w.heap.size (some ⟨b, o, none⟩) n (bvs bs)) (hnc : n ≤ c) (hc : c ≤ maxLen) (hn : n ≤ 100000) :
    Calls Tryd.prog 12 #[.slice (some ⟨b, o, none⟩) n c] w fun e w' => ∃ v, e = .returned (.tuple #[v, .int .i64 ((endOf 0 (frontFrom 0 bs) : Nat) : Int)]) ∧ Fd w 60 w' v (frontFrom 0 bs) := by
  have hcm : c ≤ 9223372036854775807 := by unfold maxLen at hc; exact hc
  have HL := Lib.hid hR.size
  have HR := Lib.hid hR
  have HNC := Lib.hid hnc
  have HC := Lib.hid hc
  have hz := zeroRec
  clear hR hc
  go_enter Tryd.func12, Tryd.ntmps12
  go_wp2_with fail
  go_loopw [4, 5] (fun v i wr => ∃ (p : Nat) (l : List (Nat × Rc)), i = .int .i64 (p : Int) ∧ p ≤ n ∧ l.length ≤ p ∧ Hid (Fd w 60 wr v l) ∧ Hid (l ++ frontFrom p bs = frontFrom 0 bs) ∧ Hid (endOf 0 l = p)) (fun _ i _ => n - (intOf i).toNat)
  case atStart => exact ⟨0, [], rfl, Nat.zero_le _, Nat.le_refl _, Fd.nil w _, rfl, rfl⟩
  case round =>
    obtain ⟨p, l, rfl, hp, hlp, HF, HA, HE⟩ := hrel
    obtain ⟨P, hP⟩ : ∃ P, (if c = p then some (⟨b, o, none⟩ : Addr) else some ⟨b, o + p, none⟩) = P := ⟨_, rfl⟩
    have hpc : (p : Int) ≤ (c : Int) := by omega
    have hpn : (p : Int) ≤ (n : Int) := by omega
    have hrow := row_upto (HR.out.below HF.out.below) hp HNC.out hP
    have CD := Lib.hid (refdecode_any P (n - p) (c - p) (bs.drop p) wr (hrow.more HF.out.below.size) (by omega) (by have := HC.out; omega))
    clear hrow
    rcases out_ok (dec (bs.drop p)) with ⟨x, m, hd⟩ | ⟨e, he, hv, hno⟩
    · obtain ⟨hm, hml, _⟩ := dec_ok hd
      have hml' : p + m ≤ n := by rw [List.length_drop] at hml; have := HL.out; omega
      have HA2 : Hid ((l ++ [(p, x)]) ++ frontFrom (p + m) bs = frontFrom 0 bs) := by
        have h := HA.out
        rw [frontFrom_ok hd] at h
        show _ = _
        rw [List.append_assoc]
        exact h
      have HE2 : Hid (endOf 0 (l ++ [(p, x)]) = p + m) := by show _ = _; rw [endOf_snoc, hm]
      have CD2 : Hid (Calls Tryd.prog 24 #[.slice P (n - p) (c - p)] wr fun e w' => e = .returned (.tuple #[.agg x.vals, .int .i64 (m : Int), .int .i64 0]) ∧ Below wr.heap.size wr w') := by
        have h := CD.out
        rw [hd] at h
        exact h
      have HM39 : Hid (39 ≤ m) := by show 39 ≤ m; omega
      have HML := Lib.hid hml'
      have hm6 : m ≤ 100000 := by omega
      clear CD hd HA hm hml hml'
      go_upto_region 4 with (first
        | (go_at_call 24; refine CD2.out.mono ?_; rintro e w2 ⟨rfl, hb2⟩; have HF2 := Lib.hid (HF.out.all hb2); clear hb2)
        | (refine store_recN (zero_new w2) rfl rfl (.tmp 6) (.tmp 14) rfl rfl x rfl rfl ?_; intro w3 X3 G3))
      have HF3 : Hid (Fd w 60 w3 u4 l) := fd_store HF2.out G3.out
      clear G3
      have hl6 : l.length ≤ 1000000 := by omega
      have hone := one_cells w3 60 (0, 0) (p, x) (fcells (p, x)).toArray rfl
      have HF4 := Lib.hid (HF3.out.all (below_alloc w3 (.cells (fcells (p, x)).toArray 60)))
      have HONE := Lib.hid hone
      have HBF := Lib.hid (built_ref p x)
      have HBS := Lib.hid (slice_ref p x)
      obtain ⟨fc, hfc⟩ : ∃ fc, fc = (fcells (p, x)).toArray := ⟨_, rfl⟩
      rw [← hfc] at HF4 HONE HBF HBS
      clear hone hfc
      go_wp2_with (first
        | (refine load_rec X3.out rfl (.tmp 6) rfl rfl ?_)
        | (refine build_found rfl 60 (.tmp 22) (.tmp 23) rfl (some 24) rfl (.int .i64 (p : Int)) (.agg x.vals) rfl rfl fc HBF.out ?_)
        | (refine build_one rfl 36 60 (.tmp 24) rfl (some 25) rfl Tryd.underlying36 (.agg fc) rfl fc HBS.out ?_)
        | (at_builtin; refine fd_append HF4.out 36 _ 64 Tryd.underlying36 found_info rfl (by omega) rfl (.tmp 21) (.tmp 25) rfl rfl w3.heap.size 1 (p, x) rfl HONE.out hl6 ?_; intro v4 w4 HF5))
      go_roundw
      case rel => exact ⟨p + m, l ++ [(p, x)], by go_num, HML.out, by rw [List.length_append]; show l.length + 1 ≤ p + m; have := HM39.out; omega, HF5, HA2, HE2⟩
      case measure => (have := HM39.out; have := HML.out; simp [intOf]; omega)
    · have HLE : Hid (l = frontFrom 0 bs) := by
        have h := HA.out
        rw [frontFrom_no hno, List.append_nil] at h
        exact h
      have CD2 : Hid (Calls Tryd.prog 24 #[.slice P (n - p) (c - p)] wr fun E w' => E = .returned (.tuple #[.agg zeroRc.vals, .int .i64 0, .int .i64 e]) ∧ Below wr.heap.size wr w') := by
        have h := CD.out
        rw [hv] at h
        exact h
      have he' : (e == 0) = false := beq_eq_false_iff_ne.2 he
      have he2 : (e != 0) = true := bne_iff_ne.2 he
      clear CD hno hv HA
      go_upto_region 4 with (first
        | (go_at_call 24; refine CD2.out.mono ?_; rintro E w2 ⟨rfl, hb2⟩; have HF2 := Lib.hid (HF.out.all hb2); clear hb2)
        | (refine store_recN (zero_new w2) rfl rfl (.tmp 6) (.tmp 14) rfl rfl zeroRc rfl rfl ?_; intro w3 X3 G3))
      have HF3 : Hid (Fd w 60 w3 u4 l) := fd_store HF2.out G3.out
      clear G3
      go_wp2_with fail
      go_ret2
      exact ⟨u4, by rw [← HLE.out, HE.out]; rfl, by rw [← HLE.out]; exact HF3.out⟩
set_option maxRecDepth 100000 in
set_option maxHeartbeats 8000000 in
theorem reffront_none (c : Nat) (w : World) (hc : c ≤ maxLen) :
    Calls Tryd.prog 12 #[.slice none 0 c] w fun e w' => ∃ v, e = .returned (.tuple #[v, .int .i64 0]) ∧ Fd w 60 w' v [] := by
  have hcm : c ≤ 9223372036854775807 := by unfold maxLen at hc; exact hc
  have hz := zeroRec
  have CD : Hid (∀ P, Calls Tryd.prog 24 #[.slice P 0 c] w fun E w' => E = .returned (.tuple #[.agg zeroRc.vals, .int .i64 0, .int .i64 11]) ∧ Below w.heap.size w w') := by
    intro P
    have h := refdecode_any P 0 c [] w empty_row (Nat.zero_le _) hc
    rw [dec_nil] at h
    exact h
  have HF := Lib.hid (Fd.nil w 60)
  clear hc
  go_enter Tryd.func12, Tryd.ntmps12
  go_wp2_with fail
  go_loopw [4, 5] (fun v i wr => v = .slice none 0 0 ∧ i = .int .i64 0 ∧ wr = w) (fun _ i _ => 0)
  case atStart => exact ⟨rfl, rfl, rfl⟩
  case round =>
    obtain ⟨rfl, rfl, rfl⟩ := hrel
    go_upto_region 4 with (first
        | (go_at_call 24; refine (CD.out _).mono ?_; rintro E w2 ⟨rfl, hb2⟩; have HF2 := Lib.hid (HF.out.all hb2); clear hb2)
        | (refine store_recN (zero_new w2) rfl rfl (.tmp 6) (.tmp 14) rfl rfl zeroRc rfl rfl ?_; intro w3 X3 G3))
    have HF3 : Hid (Fd wr 60 w3 (.slice none 0 0) []) := fd_store HF2.out G3.out
    clear G3
    go_wp2_with fail
    go_ret2
    exact ⟨_, rfl, HF3.out⟩
set_option maxRecDepth 100000 in
set_option maxHeartbeats 8000000 in
theorem reffront_zero (ad : Addr) (c : Nat) (w : World) (hc : c ≤ maxLen) :
    Calls Tryd.prog 12 #[.slice (some ad) 0 c] w fun e w' => ∃ v, e = .returned (.tuple #[v, .int .i64 0]) ∧ Fd w 60 w' v [] := by
  have hcm : c ≤ 9223372036854775807 := by unfold maxLen at hc; exact hc
  have hz := zeroRec
  have CD : Hid (∀ P, Calls Tryd.prog 24 #[.slice P 0 c] w fun E w' => E = .returned (.tuple #[.agg zeroRc.vals, .int .i64 0, .int .i64 11]) ∧ Below w.heap.size w w') := by
    intro P
    have h := refdecode_any P 0 c [] w empty_row (Nat.zero_le _) hc
    rw [dec_nil] at h
    exact h
  have HF := Lib.hid (Fd.nil w 60)
  clear hc
  go_enter Tryd.func12, Tryd.ntmps12
  go_wp2_with fail
  go_loopw [4, 5] (fun v i wr => v = .slice none 0 0 ∧ i = .int .i64 0 ∧ wr = w) (fun _ i _ => 0)
  case atStart => exact ⟨rfl, rfl, rfl⟩
  case round =>
    obtain ⟨rfl, rfl, rfl⟩ := hrel
    go_upto_region 4 with (first
        | (go_at_call 24; refine (CD.out _).mono ?_; rintro E w2 ⟨rfl, hb2⟩; have HF2 := Lib.hid (HF.out.all hb2); clear hb2)
        | (refine store_recN (zero_new w2) rfl rfl (.tmp 6) (.tmp 14) rfl rfl zeroRc rfl rfl ?_; intro w3 X3 G3))
    have HF3 : Hid (Fd wr 60 w3 (.slice none 0 0) []) := fd_store HF2.out G3.out
    clear G3
    go_wp2_with fail
    go_ret2
    exact ⟨_, rfl, HF3.out⟩
/-- .. whatever the slice. -/
theorem reffront_any (A : Option Addr) (n c : Nat) (bs : List UInt8) (w : World) (hR : Row w w.heap.size A n (bvs bs)) (hnc : n ≤ c) (hc : c ≤ maxLen) (hn : n ≤ 100000) :
    Calls Tryd.prog 12 #[.slice A n c] w fun e w' => ∃ v, e = .returned (.tuple #[v, .int .i64 ((endOf 0 (frontFrom 0 bs) : Nat) : Int)]) ∧ Fd w 60 w' v (frontFrom 0 bs) := by
  rcases Nat.eq_zero_or_pos n with h0 | h0
  · subst h0
    obtain rfl : bs = [] := List.eq_nil_of_length_eq_zero hR.size
    rw [front_nil]
    cases A with
    | none => exact reffront_none c w hc
    | some ad => exact reffront_zero ad c w hc
  · obtain ⟨b, o, rfl, _, _⟩ := hR.2 h0
    exact reffront_some b o n c bs w hR hnc hc hn
end Go.Proofs.YtjpgfdpgjfmnoaaDoor.Rec
