/-
  Proved: what All and Front of package scan return: the records that stand in a list of bytes, and at its front.
  Conditions: the slice reads as bytes, not too many; the table crc.turned holds its sixteen words.
-/
import Derived.Test.YtjpgfdpgjfmnoaaDoorScanCom
import Derived.Test.YtjpgfdpgjfmnoaaDoorRecDecode
namespace Go.Proofs.YtjpgfdpgjfmnoaaDoor.Rec
open Go.RowKit
open Go.Proofs.YtjpgfdpgjfmnoaaDoor.Crc (Turned)
set_option linter.unusedVariables false
set_option linter.unusedSimpArgs false

theorem built_scan (p : Nat) (x : Rc) : Tryd.prog.built 46 [(0, .int .i64 (p : Int)), (1, .agg x.vals)] = some (fcells (p, x)).toArray := by kernel_rfl
theorem slice_scan (p : Nat) (x : Rc) : Tryd.prog.builtSlice 46 1 [(0, .agg (fcells (p, x)).toArray)] = some (fcells (p, x)).toArray := by kernel_rfl
theorem scan_info : (Tryd.prog.info? 46).map (fun i => (i.zero, i.size, i.bytes)) = some (some (.agg #[.int .i64 0, .int .i64 0, .int .u32 0, .int .u64 0, .int .u64 0, .int .u64 0, .string ⟨#[]⟩]), 7, 64) := by kernel_rfl
theorem front_end {p m : Nat} {bs : List UInt8} {x : Rc} (hd : dec (bs.drop p) = .ok x m) : endOf p (frontFrom p bs) = endOf (p + m) (frontFrom (p + m) bs) := by
  rw [frontFrom_ok hd]
  show endOf (p + (39 + x.body.length)) _ = _
  rw [(dec_ok hd).1]
theorem front_stop {p : Nat} {bs : List UInt8} (hno : ∀ x n, dec (bs.drop p) ≠ .ok x n) : endOf p (frontFrom p bs) = p := by rw [frontFrom_no hno]; rfl
/-- Behind the records at a place none stands. -/
theorem front_behind (bs : List UInt8) : ∀ (f p : Nat), bs.length ≤ p + f → ∀ x n, dec (bs.drop (endOf p (frontFrom p bs))) ≠ .ok x n := by
  intro f
  induction f with
  | zero =>
    intro p hp
    rcases out_ok (dec (bs.drop p)) with ⟨x, m, hd⟩ | ⟨e, _, _, hno⟩
    · have h1 := (dec_ok hd).1
      have h2 := (dec_ok hd).2.1
      rw [List.length_drop] at h2
      omega
    · rw [front_stop hno]; exact hno
  | succ f ih =>
    intro p hp
    rcases out_ok (dec (bs.drop p)) with ⟨x, m, hd⟩ | ⟨e, _, _, hno⟩
    · rw [front_end hd]
      have h1 := (dec_ok hd).1
      exact ih (p + m) (by omega)
    · rw [front_stop hno]; exact hno
theorem front_le (bs : List UInt8) : ∀ (f p : Nat), bs.length ≤ p + f → p ≤ bs.length → p ≤ endOf p (frontFrom p bs) ∧ endOf p (frontFrom p bs) ≤ bs.length ∧ (frontFrom p bs).length + p ≤ endOf p (frontFrom p bs) := by
  intro f
  induction f with
  | zero =>
    intro p hp hle
    rcases out_ok (dec (bs.drop p)) with ⟨x, m, hd⟩ | ⟨e, _, _, hno⟩
    · have h1 := (dec_ok hd).1
      have h2 := (dec_ok hd).2.1
      rw [List.length_drop] at h2
      omega
    · rw [front_stop hno, frontFrom_no hno]; exact ⟨Nat.le_refl _, hle, by simp⟩
  | succ f ih =>
    intro p hp hle
    rcases out_ok (dec (bs.drop p)) with ⟨x, m, hd⟩ | ⟨e, _, _, hno⟩
    · have h1 := (dec_ok hd).1
      have h2 := (dec_ok hd).2.1
      rw [List.length_drop] at h2
      have h3 := ih (p + m) (by omega) (by omega)
      rw [front_end hd, frontFrom_ok hd, List.length_cons]
      omega
    · rw [front_stop hno, frontFrom_no hno]; exact ⟨Nat.le_refl _, hle, by simp⟩
/-- All goes on by rows. -/
theorem all_front (bs : List UInt8) : ∀ (f p : Nat), bs.length ≤ p + f → allFrom p bs = frontFrom p bs ++ allFrom (endOf p (frontFrom p bs) + 1) bs := by
  intro f
  induction f with
  | zero =>
    intro p hp
    rcases out_ok (dec (bs.drop p)) with ⟨x, m, hd⟩ | ⟨e, _, _, hno⟩
    · have h1 := (dec_ok hd).1
      have h2 := (dec_ok hd).2.1
      rw [List.length_drop] at h2
      omega
    · rw [front_stop hno, frontFrom_no hno, allFrom_end _ _ (by omega), allFrom_end _ _ (by omega)]; rfl
  | succ f ih =>
    intro p hp
    by_cases hlt : p < bs.length
    · rcases out_ok (dec (bs.drop p)) with ⟨x, m, hd⟩ | ⟨e, _, _, hno⟩
      · have h1 := (dec_ok hd).1
        rw [allFrom_ok hlt hd, front_end hd, frontFrom_ok hd, ih (p + m) (by omega)]
        rfl
      · rw [front_stop hno, frontFrom_no hno, allFrom_no hlt hno]; rfl
    · rcases out_ok (dec (bs.drop p)) with ⟨x, m, hd⟩ | ⟨e, _, _, hno⟩
      · have h1 := (dec_ok hd).1
        have h2 := (dec_ok hd).2.1
        rw [List.length_drop] at h2
        omega
      · rw [front_stop hno, frontFrom_no hno, allFrom_end _ _ (by omega), allFrom_end _ _ (by omega)]; rfl
theorem turned_kept {w0 w : World} (h : Turned w0) (hb : Below w0.heap.size w0 w) : Turned w := turned_below h hb rfl
set_option maxRecDepth 100000 in
set_option maxHeartbeats 8000000 in
theorem scanrow_some (w0 : World) (v0 : Value) (l0 : List (Nat × Rc)) (b o n c p0 : Nat) (bs : List UInt8) (w : World) (hF : Fd w0 46 w v0 l0) (hT : Turned w0) (hR : Row w0 w0.heap.size (some ⟨b, o, none⟩) n (bvs bs)) (hnc : n ≤ c) (hc : c ≤ maxLen) (hn : n ≤ 100000) (hp0 : p0 ≤ n) (hl0 : l0.length ≤ p0) :
    Calls Tryd.prog 23 #[v0, .slice (some ⟨b, o, none⟩) n c, .int .i64 (p0 : Int)] w fun e w' => ∃ v, e = .returned (.tuple #[v, .int .i64 ((endOf p0 (frontFrom p0 bs) : Nat) : Int)]) ∧ Fd w0 46 w' v (l0 ++ frontFrom p0 bs) := by
  have hcm : c ≤ 9223372036854775807 := by unfold maxLen at hc; exact hc
  have HL := Lib.hid hR.size
  have HR := Lib.hid hR
  have HNC := Lib.hid hnc
  have HC := Lib.hid hc
  have HT := Lib.hid hT
  have HF0 := Lib.hid hF
  have hz := zeroRec
  obtain ⟨E, hE⟩ : ∃ E, endOf p0 (frontFrom p0 bs) = E := ⟨_, rfl⟩
  obtain ⟨X, hX⟩ : ∃ X, l0 ++ frontFrom p0 bs = X := ⟨_, rfl⟩
  rw [hE, hX]
  have HE0 := Lib.hid hE
  have HX0 := Lib.hid hX
  clear hR hc hT hF hE hX
  go_enter Tryd.func23, Tryd.ntmps23
  go_wp2_with fail
  go_loopw [0, 2] (fun v i wr => ∃ (p : Nat) (l : List (Nat × Rc)), i = .int .i64 (p : Int) ∧ p ≤ n ∧ l.length ≤ p ∧ Hid (Fd w0 46 wr v l) ∧ Hid (l ++ frontFrom p bs = X) ∧ Hid (endOf p (frontFrom p bs) = E)) (fun _ i _ => n - (intOf i).toNat)
  case atStart => exact ⟨p0, l0, rfl, hp0, hl0, HF0, HX0, HE0⟩
  case round =>
    obtain ⟨p, l, rfl, hp, hlp, HF, HA, HE⟩ := hrel
    obtain ⟨P, hP⟩ : ∃ P, (if c = p then some (⟨b, o, none⟩ : Addr) else some ⟨b, o + p, none⟩) = P := ⟨_, rfl⟩
    have hpc : (p : Int) ≤ (c : Int) := by omega
    have hpn : (p : Int) ≤ (n : Int) := by omega
    have hrow := row_upto (HR.out.below HF.out.below) hp HNC.out hP
    have CD := Lib.hid (decode_any P (n - p) (c - p) (bs.drop p) wr (turned_kept HT.out HF.out.below) (hrow.more HF.out.below.size) (by omega) (by have := HC.out; omega))
    clear hrow
    rcases out_ok (dec (bs.drop p)) with ⟨x, m, hd⟩ | ⟨e, he, hv, hno⟩
    · obtain ⟨hm, hml, _⟩ := dec_ok hd
      have hml' : p + m ≤ n := by rw [List.length_drop] at hml; have := HL.out; omega
      have HA2 : Hid ((l ++ [(p, x)]) ++ frontFrom (p + m) bs = X) := by
        have h := HA.out
        rw [frontFrom_ok hd] at h
        show _ = _
        rw [List.append_assoc]
        exact h
      have HE2 : Hid (endOf (p + m) (frontFrom (p + m) bs) = E) := by
        have h := HE.out
        rw [front_end hd] at h
        exact h
      have CD2 : Hid (Calls Tryd.prog 26 #[.slice P (n - p) (c - p)] wr fun e w' => e = .returned (.tuple #[.agg x.vals, .int .i64 (m : Int), .int .i64 0]) ∧ Below wr.heap.size wr w') := by
        have h := CD.out
        rw [hd] at h
        exact h
      have HM39 : Hid (39 ≤ m) := by show 39 ≤ m; omega
      have HML := Lib.hid hml'
      have hm6 : m ≤ 100000 := by omega
      clear CD hd HA HE hm hml hml'
      go_upto_region 2 with (first
        | (go_at_call 26; refine CD2.out.mono ?_; rintro e w2 ⟨rfl, hb2⟩; have HF2 := Lib.hid (HF.out.all hb2); clear hb2)
        | (refine store_recN (zero_new w2) rfl rfl (.tmp 8) (.tmp 16) rfl rfl x rfl rfl ?_; intro w3 X3 G3))
      have HF3 : Hid (Fd w0 46 w3 u0 l) := fd_store HF2.out G3.out
      clear G3
      have hl6 : l.length ≤ 1000000 := by omega
      have hone := one_cells w3 46 (0, 0) (p, x) (fcells (p, x)).toArray rfl
      have HF4 := Lib.hid (HF3.out.all (below_alloc w3 (.cells (fcells (p, x)).toArray 46)))
      have HONE := Lib.hid hone
      have HBF := Lib.hid (built_scan p x)
      have HBS := Lib.hid (slice_scan p x)
      obtain ⟨fc, hfc⟩ : ∃ fc, fc = (fcells (p, x)).toArray := ⟨_, rfl⟩
      rw [← hfc] at HF4 HONE HBF HBS
      clear hone hfc
      go_wp2_with (first
        | (refine load_rec X3.out rfl (.tmp 8) rfl rfl ?_)
        | (refine build_found rfl 46 (.tmp 24) (.tmp 25) rfl (some 26) rfl (.int .i64 (p : Int)) (.agg x.vals) rfl rfl fc HBF.out ?_)
        | (refine build_one rfl 33 46 (.tmp 26) rfl (some 27) rfl Tryd.underlying33 (.agg fc) rfl fc HBS.out ?_)
        | (at_builtin; refine fd_append HF4.out 33 _ 64 Tryd.underlying33 scan_info rfl (by omega) rfl (.tmp 23) (.tmp 27) rfl rfl w3.heap.size 1 (p, x) rfl HONE.out hl6 ?_; intro v4 w4 HF5))
      go_roundw
      case rel => exact ⟨p + m, l ++ [(p, x)], by go_num, HML.out, by rw [List.length_append]; show l.length + 1 ≤ p + m; have := HM39.out; omega, HF5, HA2, HE2⟩
      case measure => (have := HM39.out; have := HML.out; simp [intOf]; omega)
    · have HLE : Hid (l = X) := by
        have h := HA.out
        rw [frontFrom_no hno, List.append_nil] at h
        exact h
      have HPE : Hid (p = E) := by
        have h := HE.out
        rw [front_stop hno] at h
        exact h
      have CD2 : Hid (Calls Tryd.prog 26 #[.slice P (n - p) (c - p)] wr fun E w' => E = .returned (.tuple #[.agg zeroRc.vals, .int .i64 0, .int .i64 e]) ∧ Below wr.heap.size wr w') := by
        have h := CD.out
        rw [hv] at h
        exact h
      have he' : (e == 0) = false := beq_eq_false_iff_ne.2 he
      have he2 : (e != 0) = true := bne_iff_ne.2 he
      clear CD hno hv HA HE
      go_upto_region 2 with (first
        | (go_at_call 26; refine CD2.out.mono ?_; rintro E w2 ⟨rfl, hb2⟩; have HF2 := Lib.hid (HF.out.all hb2); clear hb2)
        | (refine store_recN (zero_new w2) rfl rfl (.tmp 8) (.tmp 16) rfl rfl zeroRc rfl rfl ?_; intro w3 X3 G3))
      have HF3 : Hid (Fd w0 46 w3 u0 l) := fd_store HF2.out G3.out
      clear G3
      go_wp2_with fail
      go_ret2
      exact ⟨u0, by rw [HPE.out]; rfl, by rw [← HLE.out]; exact HF3.out⟩
end Go.Proofs.YtjpgfdpgjfmnoaaDoor.Rec
