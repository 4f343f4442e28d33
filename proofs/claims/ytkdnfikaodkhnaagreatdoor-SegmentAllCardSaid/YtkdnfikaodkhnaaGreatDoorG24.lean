/-
  Texts one behind the other: ScanWalk, ScanArgs, ScanLostMath, ScanChain.
-/
import Derived.Test.YtkdnfikaodkhnaaGreatDoorG07
import Derived.Test.YtkdnfikaodkhnaaGreatDoorG23
/-
  Proved: what All and Front of package scan return: the records that stand in a list of bytes, and at its front.
  Conditions: the slice reads as bytes, not too many; the table crc.turned holds its sixteen words.
-/
namespace Go.Proofs.YtkdnfikaodkhnaaGreatDoor.Rec
open Go.RowKit
open Go.Proofs.YtkdnfikaodkhnaaGreatDoor.Crc (Turned)
set_option linter.unusedVariables false
set_option linter.unusedSimpArgs false

theorem built_scan (p : Nat) (x : Rc) : Tryz.prog.built 94 [(0, .int .i64 (p : Int)), (1, .agg x.vals)] = some (fcells (p, x)).toArray := by kernel_rfl
theorem slice_scan (p : Nat) (x : Rc) : Tryz.prog.builtSlice 94 1 [(0, .agg (fcells (p, x)).toArray)] = some (fcells (p, x)).toArray := by kernel_rfl
theorem scan_info : (Tryz.prog.info? 94).map (fun i => (i.zero, i.size, i.bytes)) = some (some (.agg #[.int .i64 0, .int .i64 0, .int .u32 0, .int .u64 0, .int .u64 0, .int .u64 0, .string ⟨#[]⟩]), 7, 64) := by kernel_rfl
theorem front_end {p m : Nat} {bs : List UInt8} {x : Rc} (hd : dec (bs.drop p) = .ok x m) : endOf p (frontFrom p bs) = endOf (p + m) (frontFrom (p + m) bs) := by
  rw [frontFrom_ok hd]
  show endOf (p + (39 + x.body.length)) _ = _
  rw [(dec_ok hd).1]
theorem front_stop {p : Nat} {bs : List UInt8} (hno : ∀ x n, dec (bs.drop p) ≠ .ok x n) : endOf p (frontFrom p bs) = p := by rw [frontFrom_no hno]; rfl
/-- Behind the records at a place none stands. -/
theorem front_behind (bs : List UInt8) : ∀ (f p : Nat), bs.length ≤ p + f → ∀ x n, dec (bs.drop (endOf p (frontFrom p bs))) ≠ .ok x n := by
  intro f
  induction f with
  | zero =>
    intro p hp
    rcases out_ok (dec (bs.drop p)) with ⟨x, m, hd⟩ | ⟨e, _, _, hno⟩
    · have h1 := (dec_ok hd).1
      have h2 := (dec_ok hd).2.1
      rw [List.length_drop] at h2
      omega
    · rw [front_stop hno]; exact hno
  | succ f ih =>
    intro p hp
    rcases out_ok (dec (bs.drop p)) with ⟨x, m, hd⟩ | ⟨e, _, _, hno⟩
    · rw [front_end hd]
      have h1 := (dec_ok hd).1
      exact ih (p + m) (by omega)
    · rw [front_stop hno]; exact hno
theorem front_le (bs : List UInt8) : ∀ (f p : Nat), bs.length ≤ p + f → p ≤ bs.length → p ≤ endOf p (frontFrom p bs) ∧ endOf p (frontFrom p bs) ≤ bs.length ∧ (frontFrom p bs).length + p ≤ endOf p (frontFrom p bs) := by
  intro f
  induction f with
  | zero =>
    intro p hp hle
    rcases out_ok (dec (bs.drop p)) with ⟨x, m, hd⟩ | ⟨e, _, _, hno⟩
    · have h1 := (dec_ok hd).1
      have h2 := (dec_ok hd).2.1
      rw [List.length_drop] at h2
      omega
    · rw [front_stop hno, frontFrom_no hno]; exact ⟨Nat.le_refl _, hle, by simp⟩
  | succ f ih =>
    intro p hp hle
    rcases out_ok (dec (bs.drop p)) with ⟨x, m, hd⟩ | ⟨e, _, _, hno⟩
    · have h1 := (dec_ok hd).1
      have h2 := (dec_ok hd).2.1
      rw [List.length_drop] at h2
      have h3 := ih (p + m) (by omega) (by omega)
      rw [front_end hd, frontFrom_ok hd, List.length_cons]
      omega
    · rw [front_stop hno, frontFrom_no hno]; exact ⟨Nat.le_refl _, hle, by simp⟩
/-- All goes on by rows. -/
theorem all_front (bs : List UInt8) : ∀ (f p : Nat), bs.length ≤ p + f → allFrom p bs = frontFrom p bs ++ allFrom (endOf p (frontFrom p bs) + 1) bs := by
  intro f
  induction f with
  | zero =>
    intro p hp
    rcases out_ok (dec (bs.drop p)) with ⟨x, m, hd⟩ | ⟨e, _, _, hno⟩
    · have h1 := (dec_ok hd).1
      have h2 := (dec_ok hd).2.1
      rw [List.length_drop] at h2
      omega
    · rw [front_stop hno, frontFrom_no hno, allFrom_end _ _ (by omega), allFrom_end _ _ (by omega)]; rfl
  | succ f ih =>
    intro p hp
    by_cases hlt : p < bs.length
    · rcases out_ok (dec (bs.drop p)) with ⟨x, m, hd⟩ | ⟨e, _, _, hno⟩
      · have h1 := (dec_ok hd).1
        rw [allFrom_ok hlt hd, front_end hd, frontFrom_ok hd, ih (p + m) (by omega)]
        rfl
      · rw [front_stop hno, frontFrom_no hno, allFrom_no hlt hno]; rfl
    · rcases out_ok (dec (bs.drop p)) with ⟨x, m, hd⟩ | ⟨e, _, _, hno⟩
      · have h1 := (dec_ok hd).1
        have h2 := (dec_ok hd).2.1
        rw [List.length_drop] at h2
        omega
      · rw [front_stop hno, frontFrom_no hno, allFrom_end _ _ (by omega), allFrom_end _ _ (by omega)]; rfl
theorem turned_kept {w0 w : World} (h : Turned w0) (hb : Below w0.heap.size w0 w) : Turned w := turned_below h hb rfl
set_option maxRecDepth 100000 in
set_option maxHeartbeats 8000000 in
theorem scanrow_some (w0 : World) (v0 : Value) (l0 : List (Nat × Rc)) (b o n c p0 : Nat) (bs : List UInt8) (w : World) (hF : Fd w0 94 w v0 l0) (hT : Turned w0) (hR : Row w0 w0.heap.size (some ⟨b, o, none⟩) n (bvs bs)) (hnc : n ≤ c) (hc : c ≤ maxLen) (hn : n ≤ 8388608) (hp0 : p0 ≤ n) (hl0 : l0.length ≤ p0) :
    Calls Tryz.prog 80 #[v0, .slice (some ⟨b, o, none⟩) n c, .int .i64 (p0 : Int)] w fun e w' => ∃ v, e = .returned (.tuple #[v, .int .i64 ((endOf p0 (frontFrom p0 bs) : Nat) : Int)]) ∧ Fd w0 94 w' v (l0 ++ frontFrom p0 bs) := by
  have hcm : c ≤ 9223372036854775807 := by unfold maxLen at hc; exact hc
  have HL := Lib.hid hR.size
  have HR := Lib.hid hR
  have HNC := Lib.hid hnc
  have HC := Lib.hid hc
  have HT := Lib.hid hT
  have HF0 := Lib.hid hF
  have hz := zeroRec
  obtain ⟨E, hE⟩ : ∃ E, endOf p0 (frontFrom p0 bs) = E := ⟨_, rfl⟩
  obtain ⟨X, hX⟩ : ∃ X, l0 ++ frontFrom p0 bs = X := ⟨_, rfl⟩
  rw [hE, hX]
  have HE0 := Lib.hid hE
  have HX0 := Lib.hid hX
  clear hR hc hT hF hE hX
  go_enter Tryz.func80, Tryz.ntmps80
  go_wp2_with fail
  go_loopw [0, 2] (fun v i wr => ∃ (p : Nat) (l : List (Nat × Rc)), i = .int .i64 (p : Int) ∧ p ≤ n ∧ l.length ≤ p ∧ Hid (Fd w0 94 wr v l) ∧ Hid (l ++ frontFrom p bs = X) ∧ Hid (endOf p (frontFrom p bs) = E)) (fun _ i _ => n - (RowKit.intOf i).toNat)
  case atStart => exact ⟨p0, l0, rfl, hp0, hl0, HF0, HX0, HE0⟩
  case round =>
    obtain ⟨p, l, rfl, hp, hlp, HF, HA, HE⟩ := hrel
    obtain ⟨P, hP⟩ : ∃ P, (if c = p then some (⟨b, o, none⟩ : Addr) else some ⟨b, o + p, none⟩) = P := ⟨_, rfl⟩
    have hpc : (p : Int) ≤ (c : Int) := by omega
    have hpn : (p : Int) ≤ (n : Int) := by omega
    have hrow := row_upto (HR.out.below HF.out.below) hp HNC.out hP
    have CD := Lib.hid (decode_any P (n - p) (c - p) (bs.drop p) wr (turned_kept HT.out HF.out.below) (hrow.more HF.out.below.size) (by omega) (by have := HC.out; omega))
    clear hrow
    rcases out_ok (dec (bs.drop p)) with ⟨x, m, hd⟩ | ⟨e, he, hv, hno⟩
    · obtain ⟨hm, hml, _⟩ := dec_ok hd
      have hml' : p + m ≤ n := by rw [List.length_drop] at hml; have := HL.out; omega
      have HA2 : Hid ((l ++ [(p, x)]) ++ frontFrom (p + m) bs = X) := by
        have h := HA.out
        rw [frontFrom_ok hd] at h
        show _ = _
        rw [List.append_assoc]
        exact h
      have HE2 : Hid (endOf (p + m) (frontFrom (p + m) bs) = E) := by
        have h := HE.out
        rw [front_end hd] at h
        exact h
      have CD2 : Hid (Calls Tryz.prog 43 #[.slice P (n - p) (c - p)] wr fun e w' => e = .returned (.tuple #[.agg x.vals, .int .i64 (m : Int), .int .i64 0]) ∧ Below wr.heap.size wr w') := by
        have h := CD.out
        rw [hd] at h
        exact h
      have HM39 : Hid (39 ≤ m) := by show 39 ≤ m; omega
      have HML := Lib.hid hml'
      have hm6 : m ≤ 8388608 := by omega
      clear CD hd HA HE hm hml hml'
      go_upto_region 2 with (first
        | (go_at_call 43; refine CD2.out.mono ?_; rintro e w2 ⟨rfl, hb2⟩; have HF2 := Lib.hid (HF.out.all hb2); clear hb2)
        | (refine store_recN (zero_new w2) rfl rfl (.tmp 8) (.tmp 16) rfl rfl x rfl rfl ?_; intro w3 X3 G3))
      have HF3 : Hid (Fd w0 94 w3 u0 l) := fd_store HF2.out G3.out
      clear G3
      have hl6 : l.length ≤ 100000000 := by omega
      have hone := one_cells w3 94 (0, 0) (p, x) (fcells (p, x)).toArray rfl
      have HF4 := Lib.hid (HF3.out.all (below_alloc w3 (.cells (fcells (p, x)).toArray 94)))
      have HONE := Lib.hid hone
      have HBF := Lib.hid (built_scan p x)
      have HBS := Lib.hid (slice_scan p x)
      obtain ⟨fc, hfc⟩ : ∃ fc, fc = (fcells (p, x)).toArray := ⟨_, rfl⟩
      rw [← hfc] at HF4 HONE HBF HBS
      clear hone hfc
      go_wp2_with (first
        | (refine load_rec X3.out rfl (.tmp 8) rfl rfl ?_)
        | (refine build_found rfl 94 (.tmp 24) (.tmp 25) rfl (some 26) rfl (.int .i64 (p : Int)) (.agg x.vals) rfl rfl fc HBF.out ?_)
        | (refine build_one rfl 49 94 (.tmp 26) rfl (some 27) rfl Tryz.underlying49 (.agg fc) rfl fc HBS.out ?_)
        | (at_builtin; refine fd_append HF4.out 49 _ 64 Tryz.underlying49 scan_info rfl (by omega) rfl (.tmp 23) (.tmp 27) rfl rfl w3.heap.size 1 (p, x) rfl HONE.out hl6 ?_; intro v4 w4 HF5))
      go_roundw
      case rel => exact ⟨p + m, l ++ [(p, x)], by go_num, HML.out, by rw [List.length_append]; show l.length + 1 ≤ p + m; have := HM39.out; omega, HF5, HA2, HE2⟩
      case measure => (have := HM39.out; have := HML.out; simp [RowKit.intOf]; omega)
    · have HLE : Hid (l = X) := by
        have h := HA.out
        rw [frontFrom_no hno, List.append_nil] at h
        exact h
      have HPE : Hid (p = E) := by
        have h := HE.out
        rw [front_stop hno] at h
        exact h
      have CD2 : Hid (Calls Tryz.prog 43 #[.slice P (n - p) (c - p)] wr fun E w' => E = .returned (.tuple #[.agg zeroRc.vals, .int .i64 0, .int .i64 e]) ∧ Below wr.heap.size wr w') := by
        have h := CD.out
        rw [hv] at h
        exact h
      have he' : (e == 0) = false := beq_eq_false_iff_ne.2 he
      have he2 : (e != 0) = true := bne_iff_ne.2 he
      clear CD hno hv HA HE
      go_upto_region 2 with (first
        | (go_at_call 43; refine CD2.out.mono ?_; rintro E w2 ⟨rfl, hb2⟩; have HF2 := Lib.hid (HF.out.all hb2); clear hb2)
        | (refine store_recN (zero_new w2) rfl rfl (.tmp 8) (.tmp 16) rfl rfl zeroRc rfl rfl ?_; intro w3 X3 G3))
      have HF3 : Hid (Fd w0 94 w3 u0 l) := fd_store HF2.out G3.out
      clear G3
      go_wp2_with fail
      go_ret2
      exact ⟨u0, by rw [HPE.out]; rfl, by rw [← HLE.out]; exact HF3.out⟩
end Go.Proofs.YtkdnfikaodkhnaaGreatDoor.Rec
/-
  Plain facts: rows of bytes among the arguments; how many records stand in a text.
-/
namespace Go.Proofs.YtkdnfikaodkhnaaGreatDoor.Rec
open Go.RowKit
set_option linter.unusedVariables false
set_option linter.unusedSimpArgs false

/-- A slice of slices of bytes. -/
def RowsB (w : World) (A : Option Addr) (n : Nat) : Prop := 0 < n → ∃ b o, A = some ⟨b, o, none⟩ ∧ b < w.heap.size ∧ ∀ i, i < n → ∃ A' l c bs, w.cell? ⟨b, o + i, none⟩ = some (.slice A' l c) ∧ Row w w.heap.size A' l (bvs bs) ∧ l ≤ c ∧ c ≤ maxLen
theorem rows_of_bytes {W : World} {a : Option Addr} {len cap : Nat}
    (h : (a = none ∧ len = 0 ∧ cap = 0) ∨ ∃ (x : Addr) (A : Nat → Option Addr) (L C : Nat → Nat) (Z : Nat → List Int), a = some x ∧ len ≤ cap ∧ cap ≤ maxLen ∧
      ∀ r, r < cap → W.cell? (x.add r) = some (.slice (A r) (L r) (C r)) ∧ L r ≤ C r ∧ C r ≤ maxLen ∧ (Z r).length = C r ∧ (∀ n ∈ Z r, (Lit.int .u8 n).wf = true) ∧ (A r = none → C r = 0) ∧
        ∀ a', A r = some a' → 0 ≤ a'.block ∧ ∀ c, c < C r → W.cell? (a'.add c) = some (.int .u8 ((Z r).getD c 0))) :
    RowsB W a len ∧ len ≤ cap ∧ cap ≤ maxLen := by
  rcases h with ⟨rfl, rfl, rfl⟩ | ⟨x, A, L, C, Z, rfl, hl, hm, hcell⟩
  · exact ⟨fun h => absurd h (by omega), Nat.le_refl _, by decide⟩
  · refine ⟨fun hn => ?_, hl, hm⟩
    obtain ⟨b, off, spot⟩ := x
    have h0 := (hcell 0 (by omega)).1
    have hspot : spot = none := by simpa [Addr.add] using World.cell?_spot h0
    subst hspot
    refine ⟨b, off, rfl, by simpa [Addr.add] using World.block_lt_of_cell? W _ h0, fun i hi => ?_⟩
    obtain ⟨k1, k2, k3, k4, k5, k6, k7⟩ := hcell i (by omega)
    obtain ⟨bs, r1, r2, r3⟩ := row_of_bytes (W := W) (a := A i) (len := L i) (cap := C i) (by
      cases hA : A i with
      | none => exact .inl ⟨rfl, by have := k6 hA; omega, k6 hA⟩
      | some a' => exact .inr ⟨a', Z i, rfl, k2, k3, k4, fun j hj => (k7 a' hA).2 j (by omega), k5⟩)
    refine ⟨A i, L i, C i, bs, ?_, r1, r2, r3⟩
    unfold Addr.add at k1
    split at k1
    · rename_i hi0; subst hi0; exact k1
    · exact k1
theorem all_le (bs : List UInt8) : ∀ (f p : Nat), (allF f p bs).length ≤ f := by
  intro f
  induction f with
  | zero => intro p; exact Nat.le_refl _
  | succ f ih =>
    intro p
    rw [allF]
    split
    · exact Nat.zero_le _
    · cases dec (bs.drop p) with
      | ok x n => show (_ :: _).length ≤ _; rw [List.length_cons]; exact Nat.succ_le_succ (ih _)
      | more => exact Nat.le_succ_of_le (ih _)
      | bad => exact Nat.le_succ_of_le (ih _)
theorem all_count (bs : List UInt8) : (allFrom 0 bs).length ≤ bs.length := by unfold allFrom; rw [Nat.sub_zero]; exact all_le bs _ 0
theorem front_count (bs : List UInt8) : (frontFrom 0 bs).length ≤ bs.length := by
  have := front_le bs bs.length 0 (by omega) (Nat.zero_le _)
  omega
end Go.Proofs.YtkdnfikaodkhnaaGreatDoor.Rec
/-
  Plain facts: what stands in a text of records one behind the other of which one was spoilt.
-/
namespace Go.Proofs.YtkdnfikaodkhnaaGreatDoor.Rec
open Go.RowKit
set_option linter.unusedVariables false
set_option linter.unusedSimpArgs false

/-- The bytes of records one behind the other. -/
def cat (g : List Rc) : List UInt8 := g.flatMap enc
theorem cat_cons (x : Rc) (g : List Rc) : cat (x :: g) = enc x ++ cat g := rfl
theorem cat_append (a b : List Rc) : cat (a ++ b) = cat a ++ cat b := by unfold cat; rw [List.flatMap_append]
theorem cat_snoc (a : List Rc) (x : Rc) : cat (a ++ [x]) = cat a ++ enc x := by rw [cat_append, cat_cons]; simp [cat]
/-- Where they stand, from a place on. -/
def places : Nat → List Rc → List (Nat × Rc)
  | _, [] => []
  | p, x :: g => (p, x) :: places (p + (enc x).length) g
theorem places_length (g : List Rc) : ∀ p, (places p g).length = g.length := by
  induction g with
  | nil => intro p; rfl
  | cons x g ih => intro p; show _ + 1 = _ + 1; rw [ih]
theorem places_get (g : List Rc) : ∀ p i x, g[i]? = some x → (places p g)[i]? = some (p + (cat (g.take i)).length, x) := by
  induction g with
  | nil => intro p i x h; simp at h
  | cons y g ih =>
    intro p i x h
    cases i with
    | zero =>
      have e : y = x := by simpa using h
      subst e
      show some (p, y) = _
      rw [List.take_zero]
      rfl
    | succ i =>
      have h' : g[i]? = some x := by simpa using h
      show (places (p + (enc y).length) g)[i]? = _
      rw [ih _ i x h', List.take_succ_cons, cat_cons, List.length_append, Nat.add_assoc]
def AllGood (g : List Rc) : Prop := ∀ x ∈ g, x.May ∧ x.Fits
theorem drop_len (P R : List UInt8) : (P ++ R).drop P.length = R := List.drop_left
theorem front_cat (g : List Rc) : ∀ (P R : List UInt8), AllGood g → (∀ x n, dec R ≠ .ok x n) → frontFrom P.length (P ++ (cat g ++ R)) = places P.length g ∧ endOf P.length (frontFrom P.length (P ++ (cat g ++ R))) = P.length + (cat g).length := by
  induction g with
  | nil =>
    intro P R _ hR
    have hno : ∀ x n, dec ((P ++ (cat [] ++ R)).drop P.length) ≠ .ok x n := by
      rw [drop_len]
      exact hR
    rw [frontFrom_no hno]
    exact ⟨rfl, rfl⟩
  | cons x g ih =>
    intro P R hg hR
    obtain ⟨hm, hf⟩ := hg x (by simp)
    have hel := enc_length x hm
    have e : P ++ (cat (x :: g) ++ R) = P ++ (enc x ++ (cat g ++ R)) := by rw [cat_cons, List.append_assoc]
    have hd : dec ((P ++ (cat (x :: g) ++ R)).drop P.length) = .ok x (39 + x.body.length) := by
      rw [e]
      exact dec_behind P (cat g ++ R) x hm hf rfl
    have e2 : P ++ (cat (x :: g) ++ R) = (P ++ enc x) ++ (cat g ++ R) := by rw [e, List.append_assoc]
    have hl : P.length + (39 + x.body.length) = (P ++ enc x).length := by rw [List.length_append, hel]
    obtain ⟨i1, i2⟩ := ih (P ++ enc x) R (fun y hy => hg y (List.mem_cons_of_mem _ hy)) hR
    rw [front_end hd, frontFrom_ok hd, hl, e2, i1]
    rw [i1] at i2
    refine ⟨?_, ?_⟩
    · show _ = (P.length, x) :: places (P.length + (enc x).length) g
      rw [List.length_append]
    · rw [i2, cat_cons, List.length_append, List.length_append, Nat.add_assoc]
theorem all_cat (g : List Rc) : ∀ (P R : List UInt8), AllGood g → allFrom P.length (P ++ (cat g ++ R)) = places P.length g ++ allFrom (P.length + (cat g).length) (P ++ (cat g ++ R)) := by
  induction g with
  | nil => intro P R _; rfl
  | cons x g ih =>
    intro P R hg
    obtain ⟨hm, hf⟩ := hg x (by simp)
    have hel := enc_length x hm
    have e : P ++ (cat (x :: g) ++ R) = P ++ (enc x ++ (cat g ++ R)) := by rw [cat_cons, List.append_assoc]
    have hd : dec ((P ++ (cat (x :: g) ++ R)).drop P.length) = .ok x (39 + x.body.length) := by
      rw [e]
      exact dec_behind P (cat g ++ R) x hm hf rfl
    have e2 : P ++ (cat (x :: g) ++ R) = (P ++ enc x) ++ (cat g ++ R) := by rw [e, List.append_assoc]
    have hl : P.length + (39 + x.body.length) = (P ++ enc x).length := by rw [List.length_append, hel]
    have hlt : P.length < (P ++ (cat (x :: g) ++ R)).length := by rw [e2, List.length_append, ← hl]; omega
    rw [allFrom_ok hlt hd, hl, e2, ih (P ++ enc x) R (fun y hy => hg y (List.mem_cons_of_mem _ hy))]
    show _ = ((P.length, x) :: places (P.length + (enc x).length) g) ++ _
    rw [cat_cons, List.length_append, List.length_append, Nat.add_assoc]
    rfl
/-- Places at which none stands are passed over. -/
theorem all_skip (bs : List UInt8) : ∀ (f a : Nat), a + f ≤ bs.length → (∀ p, a ≤ p → p < a + f → ∀ x n, dec (bs.drop p) ≠ .ok x n) → allFrom a bs = allFrom (a + f) bs := by
  intro f
  induction f with
  | zero => intro a _ _; rfl
  | succ f ih =>
    intro a hl h
    rw [allFrom_no (by omega) (h a (Nat.le_refl _) (by omega)), ih (a + 1) (by omega) (fun p h1 h2 => h p (by omega) (by omega)), show a + 1 + f = a + (f + 1) by omega]
/-- What follows a whole record changes nothing. -/
theorem dec_more (p q : List UInt8) (h39 : 39 ≤ p.length) (hl : 39 + lenOf p ≤ p.length) : dec (p ++ q) = dec p := by
  have e1 : Front (p ++ q) ↔ Front p := by
    unfold Front
    rw [getD_front p q 0 (by omega), getD_front p q 1 (by omega), getD_front p q 2 (by omega), List.length_append]
    exact ⟨fun h => ⟨fun _ => h.1 (by omega), fun _ => h.2.1 (by omega), fun _ => h.2.2 (by omega)⟩, fun h => ⟨fun _ => h.1 (by omega), fun _ => h.2.1 (by omega), fun _ => h.2.2 (by omega)⟩⟩
  have e2 : headOf (p ++ q) = headOf p := by
    unfold headOf
    rw [part_front p q 3 7 (by omega), part_front p q 7 15 (by omega), part_front p q 15 23 (by omega), part_front p q 23 31 (by omega), getD_front p q 2 (by omega)]
  have e3 : lenOf (p ++ q) = lenOf p := by
    unfold lenOf
    rw [part_front p q 31 35 (by omega)]
  have e4 : sumRight (p ++ q) ↔ sumRight p := by
    unfold sumRight
    rw [e3, part_front p q 39 _ hl, part_front p q 35 39 (by omega), List.take_append_of_le_length (by omega)]
  unfold dec
  rw [e2, e3, part_front p q 39 _ hl, List.length_append]
  have c1 : (p.length + q.length < 39) ↔ (p.length < 39) := ⟨fun h => by omega, fun h => by omega⟩
  have c2 : (p.length + q.length < 39 + lenOf p) ↔ (p.length < 39 + lenOf p) := ⟨fun h => by omega, fun h => by omega⟩
  simp only [e1, e4, c1, c2]
theorem len_spoilt (x : Rc) (k : Nat) (c : UInt8) (h : x.May) (hn : ¬ (31 ≤ k ∧ k < 35)) : lenOf (x.bytes.set k c) = x.body.length := by
  have := p_len x [] h
  rw [List.append_nil] at this
  rw [← this]
  unfold lenOf
  by_cases h31 : k < 31
  · rw [part_set, if_pos h31]
  · rw [part_set_beyond _ _ _ _ _ (by omega) (by omega)]
/-- A record of which one byte was changed, with anything behind it, is none. -/
theorem dec_lost (y : Rc) (k : Nat) (z : UInt8) (q : List UInt8) (hy : y.May) (hf : y.Fits) (hk : k < (enc y).length) (hz : z ≠ 0) (hn : ¬ (31 ≤ k ∧ k < 35)) : ∀ x n, dec ((enc y).set k ((enc y).getD k 0 ^^^ z) ++ q) ≠ .ok x n := by
  intro x n h
  rw [enc_length y hy] at hk
  rw [enc_may hy] at h
  have hl : (y.bytes.set k (y.bytes.getD k 0 ^^^ z)).length = 39 + y.body.length := by rw [List.length_set, y.bytes_length]
  rw [dec_more _ _ (by rw [hl]; omega) (by rw [hl, len_spoilt y k _ hy hn]; exact Nat.le_refl _), dec_spoilt y k _ hy hf hk (xor_ne _ _ hz) hn] at h
  cases h
/-- No two letters that begin a record stand at a place. -/
def Plain (bs : List UInt8) (p : Nat) : Prop := ¬ (bs.getD p 0 = 83 ∧ p + 1 < bs.length ∧ bs.getD (p + 1) 0 = 82)
theorem dec_plain (bs : List UInt8) (p : Nat) (hp : p < bs.length) (h : Plain bs p) : ∀ x n, dec (bs.drop p) ≠ .ok x n := by
  have hl : (bs.drop p).length = bs.length - p := List.length_drop
  have g0 : (bs.drop p).getD 0 0 = bs.getD p 0 := by rw [List.getD_eq_getElem?_getD, List.getElem?_drop, Nat.add_zero, ← List.getD_eq_getElem?_getD]
  have g1 : (bs.drop p).getD 1 0 = bs.getD (p + 1) 0 := by rw [List.getD_eq_getElem?_getD, List.getElem?_drop, ← List.getD_eq_getElem?_getD]
  by_cases h0 : bs.getD p 0 = 83
  · by_cases h1 : p + 1 < bs.length
    · exact dec_head2 (by omega) (by rw [g1]; exact fun e => h ⟨h0, h1, e⟩)
    · exact dec_short (by omega)
  · exact dec_head (by omega) (by rw [g0]; exact h0)
/-- The text of which one record was spoilt: what stands at its front, and what stands in it. -/
theorem lost_stands (a d : List Rc) (y : Rc) (k : Nat) (z : UInt8) (ha : AllGood a) (hd : AllGood d) (hy : y.May) (hf : y.Fits) (hk : k < (enc y).length) (hz : z ≠ 0) (hn : ¬ (31 ≤ k ∧ k < 35)) (B : List UInt8)
    (hB : B = cat a ++ ((enc y).set k ((enc y).getD k 0 ^^^ z) ++ cat d)) (hp : ∀ p, (cat a).length + 1 ≤ p → p < (cat a).length + (enc y).length → Plain B p) :
    frontFrom 0 B = places 0 a ∧ endOf 0 (frontFrom 0 B) = (cat a).length ∧ allFrom 0 B = places 0 a ++ places ((cat a).length + (enc y).length) d := by
  have hno := dec_lost y k z (cat d) hy hf hk hz hn
  have hlen : ((enc y).set k ((enc y).getD k 0 ^^^ z)).length = (enc y).length := List.length_set
  obtain ⟨Y, hY⟩ : ∃ Y, Y = (enc y).set k ((enc y).getD k 0 ^^^ z) := ⟨_, rfl⟩
  rw [← hY] at hB hno hlen
  have hf0 := front_cat a [] (Y ++ cat d) ha hno
  have ha0 := all_cat a [] (Y ++ cat d) ha
  simp only [List.nil_append, List.length_nil, Nat.zero_add, ← hB] at hf0 ha0
  refine ⟨hf0.1, hf0.2, ?_⟩
  rw [ha0]
  congr 1
  have hBl : B.length = (cat a).length + (enc y).length + (cat d).length := by rw [hB, List.length_append, List.length_append, hlen]; omega
  have hs := all_skip B (enc y).length (cat a).length (by omega) (fun p h1 h2 => by
    rcases Nat.lt_or_ge (cat a).length p with h | h
    · exact dec_plain B p (by omega) (hp p h h2)
    · obtain rfl : p = (cat a).length := by omega
      rw [hB, drop_len]
      exact hno)
  rw [hs]
  have hc := all_cat d (cat a ++ Y) [] hd
  rw [List.append_nil, List.append_assoc, ← hB, List.length_append, hlen] at hc
  rw [hc, allFrom_end _ _ (by omega), List.append_nil]
end Go.Proofs.YtkdnfikaodkhnaaGreatDoor.Rec
/-
  Plain facts: what All finds are whole records, each behind the one ahead of it.
-/
namespace Go.Proofs.YtkdnfikaodkhnaaGreatDoor.Rec
open Go.RowKit
set_option linter.unusedVariables false
set_option linter.unusedSimpArgs false

/-- Whole records of a text, each from a place on behind the one ahead of it. -/
def Chain (bs : List UInt8) : Nat → List (Nat × Rc) → Prop
  | _, [] => True
  | p, q :: l => p ≤ q.1 ∧ dec (bs.drop q.1) = .ok q.2 (39 + q.2.body.length) ∧ Chain bs (q.1 + (39 + q.2.body.length)) l
theorem Chain.from {bs : List UInt8} {p r : Nat} {l : List (Nat × Rc)} (h : Chain bs p l) (hr : r ≤ p) : Chain bs r l := by
  cases l with
  | nil => trivial
  | cons q l => exact ⟨Nat.le_trans hr h.1, h.2⟩
theorem all_chain (bs : List UInt8) : ∀ (f p : Nat), Chain bs p (allF f p bs) := by
  intro f
  induction f with
  | zero => intro p; trivial
  | succ f ih =>
    intro p
    rw [allF]
    split
    · trivial
    · cases hd : dec (bs.drop p) with
      | ok x n =>
        have hn := (dec_ok hd).1
        subst hn
        exact ⟨Nat.le_refl _, hd, ih _⟩
      | more => exact (ih (p + 1)).from (Nat.le_succ _)
      | bad => exact (ih (p + 1)).from (Nat.le_succ _)
/-- One record out of a chain. -/
theorem chain_one {bs : List UInt8} {e : Nat} {L : List (Nat × Rc)} {p : Nat} {q : Nat × Rc} (h : Chain bs e (L.drop p)) (hq : L[p]? = some q) :
    e ≤ q.1 ∧ q.1 + (39 + q.2.body.length) ≤ bs.length ∧ q.2.May ∧ q.2.Fits ∧ enc q.2 = (bs.drop q.1).take (39 + q.2.body.length) ∧ Chain bs (q.1 + (39 + q.2.body.length)) (L.drop (p + 1)) := by
  obtain ⟨hp, e'⟩ := List.getElem?_eq_some_iff.1 hq
  rw [List.drop_eq_getElem_cons hp, e'] at h
  obtain ⟨h1, h2, h3⟩ := h
  obtain ⟨_, k2, k3, k4, k5⟩ := dec_ok h2
  rw [List.length_drop] at k2
  exact ⟨h1, by omega, k3, k4, by rw [enc_may k3, k5], h3⟩
end Go.Proofs.YtkdnfikaodkhnaaGreatDoor.Rec
