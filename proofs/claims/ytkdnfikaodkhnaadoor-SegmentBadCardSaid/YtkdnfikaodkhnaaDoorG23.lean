/-
  Texts one behind the other: ScanBuf, ScanWalk, ScanArgs.
-/
import Derived.Test.YtkdnfikaodkhnaaDoorG08
import Derived.Test.YtkdnfikaodkhnaaDoorG09
import Derived.Test.YtkdnfikaodkhnaaDoorG16
/-
  Plain facts: a text under way as a row of the call's own; what stands in texts of records one behind the other.
-/
namespace Go.Proofs.YtkdnfikaodkhnaaDoor.Rec
open Go.RowKit
set_option linter.unusedVariables false
set_option linter.unusedSimpArgs false

/-- A text under way. -/
structure Bf (w0 w : World) (v : Value) (bs : List UInt8) : Prop where
  row : w.ownsRow w0.heap.size 5 1 v bs.length (bvs bs)
  below : Below w0.heap.size w0 w
theorem Bf.nil (w : World) : Bf w w (.slice none 0 0) [] := ⟨World.ownsRow_nil _ _ _ _, Below.refl _ _⟩
theorem Bf.all {w0 w w' : World} {v : Value} {bs : List UInt8} (h : Bf w0 w v bs) (hb : Below w.heap.size w w') : Bf w0 w' v bs :=
  ⟨h.row.kept (row := none) ⟨hb.os, hb.tape, hb.output, hb.size, fun i hi _ => hb.block i hi⟩ (Classical.em _), h.below.trans (hb.mono h.below.size)⟩
theorem Bf.form {w0 w : World} {v : Value} {bs : List UInt8} (h : Bf w0 w v bs) : ∃ A c, v = .slice A bs.length c ∧ bs.length ≤ c ∧ c ≤ maxLen ∧ Row w w.heap.size A bs.length (bvs bs) := by
  obtain ⟨A, c, rfl, h1, h2⟩ := own_form h.row
  exact ⟨A, c, rfl, h1, h2, Row.own h.row⟩
section
variable {w0 w : World} {v : Value} {bs : List UInt8} {ops : Array Oper} {rest : List Oper} {o : Oper} {a : Act} {Q : Exit → Act → World → Prop}
theorem bf_append (h : Bf w0 w v bs) (hgd : o.guard = none) (s y : Operand) (ho : o.op = .call { callee := .builtin .append, args := #[s, y], argTypes := #[43, 43] }) (hs : a.eval s = v)
    (B : Nat) (A : Option Addr) (m c : Nat) (news : List UInt8) (hy : a.eval y = .slice A m c) (hr : Row w B A m (bvs news)) (hl : bs.length + m ≤ 1000000)
    (k : ∀ v' w', Hid (Bf w0 w' v' (bs ++ news)) → wpList Tryd.prog ops Q rest (a.put o.dst v') w') : wpList Tryd.prog ops Q (o :: rest) a w := by
  refine wpList_append_reads hgd s y 43 ho w0.heap.size 5 (.int .u8 0) 1 Tryd.underlying43 u8_info rfl v bs.length (bvs bs) hs h.row B A m c (bvs news) hy hr (bvs_one _) (by unfold maxLen; omega) (by omega) h.below.size ?_
  intro v' w' h1 h2
  refine k v' w' ⟨?_, own_below h.row h.below (Nat.le_refl _) h.below.size h2⟩
  have e : bvs bs ++ bvs news = bvs (bs ++ news) := by unfold bvs; rw [List.map_append]
  rw [e] at h1
  rw [List.length_append, hr.size]
  exact h1
theorem below_grows {w w' : World} (hg : w.grownBy w' none) : Below w.heap.size w w' := ⟨hg.os, hg.tape, hg.output, hg.size, fun i hi => hg.block i hi (by simp)⟩
/-- An append onto a full slice: a new row. -/
theorem bf_grows {w : World} (hgd : o.guard = none) (s y : Operand) (ho : o.op = .call { callee := .builtin .append, args := #[s, y], argTypes := #[43, 43] })
    (ad : Addr) (n cap B : Nat) (bs : List UInt8) (hs : a.eval s = .slice (some ad) n cap) (hr0 : Row w B (some ad) n (bvs bs))
    (B2 : Nat) (ad2 : Addr) (m c : Nat) (news : List UInt8) (hy : a.eval y = .slice (some ad2) m c) (hr : Row w B2 (some ad2) m (bvs news)) (hfull : cap < n + m) (hl : n + m ≤ 1000000)
    (k : ∀ v' w', Hid (Bf w w' v' (bs ++ news)) → wpList Tryd.prog ops Q rest (a.put o.dst v') w') : wpList Tryd.prog ops Q (o :: rest) a w := by
  obtain ⟨i, hii, hzz⟩ := Option.map_eq_some_iff.1 u8_info
  simp only [Prod.mk.injEq] at hzz
  obtain ⟨hz0, hs1, hb1⟩ := hzz
  refine wpList_append_grows w hgd s y 43 ho 5 i (.int .u8 0) 1 1 Tryd.underlying43 hii hz0 hs1 hb1 rfl (by decide) (some ad) n cap (bvs bs) hs (by simp) (by rw [bvs_length, hr0.size, Nat.mul_one]) (fun b hb => by obtain rfl := Option.some.inj hb; exact row_news hr0)
    ad2 m c (bvs news) hy (by rw [bvs_length, hr.size, Nat.mul_one]) (row_news hr) (bvs_one _) hfull (by unfold maxLen; omega) (by omega) ?_
  intro v' w' h1 h2
  refine k v' w' ⟨?_, below_grows h2⟩
  have e : bvs bs ++ bvs news = bvs (bs ++ news) := by unfold bvs; rw [List.map_append]
  rw [e] at h1
  rw [List.length_append, hr0.size, hr.size]
  exact h1
end
/-! What stands in texts. -/
theorem dec_head {bs : List UInt8} (h0 : 0 < bs.length) (h : bs.getD 0 0 ≠ 83) : ∀ x n, dec bs ≠ .ok x n := by
  intro x n e
  unfold dec at e
  rw [if_pos (fun hf : Front bs => h (hf.1 h0))] at e
  cases e
theorem dec_head2 {bs : List UInt8} (h0 : 1 < bs.length) (h : bs.getD 1 0 ≠ 82) : ∀ x n, dec bs ≠ .ok x n := by
  intro x n e
  unfold dec at e
  rw [if_pos (fun hf : Front bs => h (hf.2.1 h0))] at e
  cases e
theorem dec_short {bs : List UInt8} (h0 : bs.length < 39) : ∀ x n, dec bs ≠ .ok x n := by
  intro x n e
  have := dec_ok e
  omega
theorem dec_behind (pre rest : List UInt8) (x : Rc) (hm : x.May) (hf : x.Fits) {p : Nat} (hp : p = pre.length) : dec ((pre ++ (enc x ++ rest)).drop p) = .ok x (39 + x.body.length) := by
  subst hp
  rw [List.drop_left, enc_may hm, dec_bytes x rest hm hf]
theorem enc_length (x : Rc) (hm : x.May) : (enc x).length = 39 + x.body.length := by rw [enc_may hm, x.bytes_length]
end Go.Proofs.YtkdnfikaodkhnaaDoor.Rec
/-
  Proved: what All and Front of package scan return: the records that stand in a list of bytes, and at its front.
  Conditions: the slice reads as bytes, not too many; the table crc.turned holds its sixteen words.
-/
namespace Go.Proofs.YtkdnfikaodkhnaaDoor.Rec
open Go.RowKit
open Go.Proofs.YtkdnfikaodkhnaaDoor.Crc (Turned)
set_option linter.unusedVariables false
set_option linter.unusedSimpArgs false

theorem built_scan (p : Nat) (x : Rc) : Tryd.prog.built 99 [(0, .int .i64 (p : Int)), (1, .agg x.vals)] = some (fcells (p, x)).toArray := by kernel_rfl
theorem slice_scan (p : Nat) (x : Rc) : Tryd.prog.builtSlice 99 1 [(0, .agg (fcells (p, x)).toArray)] = some (fcells (p, x)).toArray := by kernel_rfl
theorem scan_info : (Tryd.prog.info? 99).map (fun i => (i.zero, i.size, i.bytes)) = some (some (.agg #[.int .i64 0, .int .i64 0, .int .u32 0, .int .u64 0, .int .u64 0, .int .u64 0, .string ⟨#[]⟩]), 7, 64) := by kernel_rfl
theorem front_end {p m : Nat} {bs : List UInt8} {x : Rc} (hd : dec (bs.drop p) = .ok x m) : endOf p (frontFrom p bs) = endOf (p + m) (frontFrom (p + m) bs) := by
  rw [frontFrom_ok hd]
  show endOf (p + (39 + x.body.length)) _ = _
  rw [(dec_ok hd).1]
theorem front_stop {p : Nat} {bs : List UInt8} (hno : ∀ x n, dec (bs.drop p) ≠ .ok x n) : endOf p (frontFrom p bs) = p := by rw [frontFrom_no hno]; rfl
/-- Behind the records at a place none stands. -/
theorem front_behind (bs : List UInt8) : ∀ (f p : Nat), bs.length ≤ p + f → ∀ x n, dec (bs.drop (endOf p (frontFrom p bs))) ≠ .ok x n := by
  intro f
  induction f with
  | zero =>
    intro p hp
    rcases out_ok (dec (bs.drop p)) with ⟨x, m, hd⟩ | ⟨e, _, _, hno⟩
    · have h1 := (dec_ok hd).1
      have h2 := (dec_ok hd).2.1
      rw [List.length_drop] at h2
      omega
    · rw [front_stop hno]; exact hno
  | succ f ih =>
    intro p hp
    rcases out_ok (dec (bs.drop p)) with ⟨x, m, hd⟩ | ⟨e, _, _, hno⟩
    · rw [front_end hd]
      have h1 := (dec_ok hd).1
      exact ih (p + m) (by omega)
    · rw [front_stop hno]; exact hno
theorem front_le (bs : List UInt8) : ∀ (f p : Nat), bs.length ≤ p + f → p ≤ bs.length → p ≤ endOf p (frontFrom p bs) ∧ endOf p (frontFrom p bs) ≤ bs.length ∧ (frontFrom p bs).length + p ≤ endOf p (frontFrom p bs) := by
  intro f
  induction f with
  | zero =>
    intro p hp hle
    rcases out_ok (dec (bs.drop p)) with ⟨x, m, hd⟩ | ⟨e, _, _, hno⟩
    · have h1 := (dec_ok hd).1
      have h2 := (dec_ok hd).2.1
      rw [List.length_drop] at h2
      omega
    · rw [front_stop hno, frontFrom_no hno]; exact ⟨Nat.le_refl _, hle, by simp⟩
  | succ f ih =>
    intro p hp hle
    rcases out_ok (dec (bs.drop p)) with ⟨x, m, hd⟩ | ⟨e, _, _, hno⟩
    · have h1 := (dec_ok hd).1
      have h2 := (dec_ok hd).2.1
      rw [List.length_drop] at h2
      have h3 := ih (p + m) (by omega) (by omega)
      rw [front_end hd, frontFrom_ok hd, List.length_cons]
      omega
    · rw [front_stop hno, frontFrom_no hno]; exact ⟨Nat.le_refl _, hle, by simp⟩
/-- All goes on by rows. -/
theorem all_front (bs : List UInt8) : ∀ (f p : Nat), bs.length ≤ p + f → allFrom p bs = frontFrom p bs ++ allFrom (endOf p (frontFrom p bs) + 1) bs := by
  intro f
  induction f with
  | zero =>
    intro p hp
    rcases out_ok (dec (bs.drop p)) with ⟨x, m, hd⟩ | ⟨e, _, _, hno⟩
    · have h1 := (dec_ok hd).1
      have h2 := (dec_ok hd).2.1
      rw [List.length_drop] at h2
      omega
    · rw [front_stop hno, frontFrom_no hno, allFrom_end _ _ (by omega), allFrom_end _ _ (by omega)]; rfl
  | succ f ih =>
    intro p hp
    by_cases hlt : p < bs.length
    · rcases out_ok (dec (bs.drop p)) with ⟨x, m, hd⟩ | ⟨e, _, _, hno⟩
      · have h1 := (dec_ok hd).1
        rw [allFrom_ok hlt hd, front_end hd, frontFrom_ok hd, ih (p + m) (by omega)]
        rfl
      · rw [front_stop hno, frontFrom_no hno, allFrom_no hlt hno]; rfl
    · rcases out_ok (dec (bs.drop p)) with ⟨x, m, hd⟩ | ⟨e, _, _, hno⟩
      · have h1 := (dec_ok hd).1
        have h2 := (dec_ok hd).2.1
        rw [List.length_drop] at h2
        omega
      · rw [front_stop hno, frontFrom_no hno, allFrom_end _ _ (by omega), allFrom_end _ _ (by omega)]; rfl
theorem turned_kept {w0 w : World} (h : Turned w0) (hb : Below w0.heap.size w0 w) : Turned w := turned_below h hb rfl
set_option maxRecDepth 100000 in
set_option maxHeartbeats 8000000 in
theorem scanrow_some (w0 : World) (v0 : Value) (l0 : List (Nat × Rc)) (b o n c p0 : Nat) (bs : List UInt8) (w : World) (hF : Fd w0 99 w v0 l0) (hT : Turned w0) (hR : Row w0 w0.heap.size (some ⟨b, o, none⟩) n (bvs bs)) (hnc : n ≤ c) (hc : c ≤ maxLen) (hn : n ≤ 8388608) (hp0 : p0 ≤ n) (hl0 : l0.length ≤ p0) :
    Calls Tryd.prog 70 #[v0, .slice (some ⟨b, o, none⟩) n c, .int .i64 (p0 : Int)] w fun e w' => ∃ v, e = .returned (.tuple #[v, .int .i64 ((endOf p0 (frontFrom p0 bs) : Nat) : Int)]) ∧ Fd w0 99 w' v (l0 ++ frontFrom p0 bs) := by
  have hcm : c ≤ 9223372036854775807 := by unfold maxLen at hc; exact hc
  have HL := Lib.hid hR.size
  have HR := Lib.hid hR
  have HNC := Lib.hid hnc
  have HC := Lib.hid hc
  have HT := Lib.hid hT
  have HF0 := Lib.hid hF
  have hz := zeroRec
  obtain ⟨E, hE⟩ : ∃ E, endOf p0 (frontFrom p0 bs) = E := ⟨_, rfl⟩
  obtain ⟨X, hX⟩ : ∃ X, l0 ++ frontFrom p0 bs = X := ⟨_, rfl⟩
  rw [hE, hX]
  have HE0 := Lib.hid hE
  have HX0 := Lib.hid hX
  clear hR hc hT hF hE hX
  go_enter Tryd.func70, Tryd.ntmps70
  go_wp2_with fail
  go_loopw [0, 2] (fun v i wr => ∃ (p : Nat) (l : List (Nat × Rc)), i = .int .i64 (p : Int) ∧ p ≤ n ∧ l.length ≤ p ∧ Hid (Fd w0 99 wr v l) ∧ Hid (l ++ frontFrom p bs = X) ∧ Hid (endOf p (frontFrom p bs) = E)) (fun _ i _ => n - (RowKit.intOf i).toNat)
  case atStart => exact ⟨p0, l0, rfl, hp0, hl0, HF0, HX0, HE0⟩
  case round =>
    obtain ⟨p, l, rfl, hp, hlp, HF, HA, HE⟩ := hrel
    obtain ⟨P, hP⟩ : ∃ P, (if c = p then some (⟨b, o, none⟩ : Addr) else some ⟨b, o + p, none⟩) = P := ⟨_, rfl⟩
    have hpc : (p : Int) ≤ (c : Int) := by omega
    have hpn : (p : Int) ≤ (n : Int) := by omega
    have hrow := row_upto (HR.out.below HF.out.below) hp HNC.out hP
    have CD := Lib.hid (decode_any P (n - p) (c - p) (bs.drop p) wr (turned_kept HT.out HF.out.below) (hrow.more HF.out.below.size) (by omega) (by have := HC.out; omega))
    clear hrow
    rcases out_ok (dec (bs.drop p)) with ⟨x, m, hd⟩ | ⟨e, he, hv, hno⟩
    · obtain ⟨hm, hml, _⟩ := dec_ok hd
      have hml' : p + m ≤ n := by rw [List.length_drop] at hml; have := HL.out; omega
      have HA2 : Hid ((l ++ [(p, x)]) ++ frontFrom (p + m) bs = X) := by
        have h := HA.out
        rw [frontFrom_ok hd] at h
        show _ = _
        rw [List.append_assoc]
        exact h
      have HE2 : Hid (endOf (p + m) (frontFrom (p + m) bs) = E) := by
        have h := HE.out
        rw [front_end hd] at h
        exact h
      have CD2 : Hid (Calls Tryd.prog 49 #[.slice P (n - p) (c - p)] wr fun e w' => e = .returned (.tuple #[.agg x.vals, .int .i64 (m : Int), .int .i64 0]) ∧ Below wr.heap.size wr w') := by
        have h := CD.out
        rw [hd] at h
        exact h
      have HM39 : Hid (39 ≤ m) := by show 39 ≤ m; omega
      have HML := Lib.hid hml'
      have hm6 : m ≤ 8388608 := by omega
      clear CD hd HA HE hm hml hml'
      go_upto_region 2 with (first
        | (go_at_call 49; refine CD2.out.mono ?_; rintro e w2 ⟨rfl, hb2⟩; have HF2 := Lib.hid (HF.out.all hb2); clear hb2)
        | (refine store_recN (zero_new w2) rfl rfl (.tmp 8) (.tmp 16) rfl rfl x rfl rfl ?_; intro w3 X3 G3))
      have HF3 : Hid (Fd w0 99 w3 u0 l) := fd_store HF2.out G3.out
      clear G3
      have hl6 : l.length ≤ 100000000 := by omega
      have hone := one_cells w3 99 (0, 0) (p, x) (fcells (p, x)).toArray rfl
      have HF4 := Lib.hid (HF3.out.all (below_alloc w3 (.cells (fcells (p, x)).toArray 99)))
      have HONE := Lib.hid hone
      have HBF := Lib.hid (built_scan p x)
      have HBS := Lib.hid (slice_scan p x)
      obtain ⟨fc, hfc⟩ : ∃ fc, fc = (fcells (p, x)).toArray := ⟨_, rfl⟩
      rw [← hfc] at HF4 HONE HBF HBS
      clear hone hfc
      go_wp2_with (first
        | (refine load_rec X3.out rfl (.tmp 8) rfl rfl ?_)
        | (refine build_found rfl 99 (.tmp 24) (.tmp 25) rfl (some 26) rfl (.int .i64 (p : Int)) (.agg x.vals) rfl rfl fc HBF.out ?_)
        | (refine build_one rfl 40 99 (.tmp 26) rfl (some 27) rfl Tryd.underlying40 (.agg fc) rfl fc HBS.out ?_)
        | (at_builtin; refine fd_append HF4.out 40 _ 64 Tryd.underlying40 scan_info rfl (by omega) rfl (.tmp 23) (.tmp 27) rfl rfl w3.heap.size 1 (p, x) rfl HONE.out hl6 ?_; intro v4 w4 HF5))
      go_roundw
      case rel => exact ⟨p + m, l ++ [(p, x)], by go_num, HML.out, by rw [List.length_append]; show l.length + 1 ≤ p + m; have := HM39.out; omega, HF5, HA2, HE2⟩
      case measure => (have := HM39.out; have := HML.out; simp [RowKit.intOf]; omega)
    · have HLE : Hid (l = X) := by
        have h := HA.out
        rw [frontFrom_no hno, List.append_nil] at h
        exact h
      have HPE : Hid (p = E) := by
        have h := HE.out
        rw [front_stop hno] at h
        exact h
      have CD2 : Hid (Calls Tryd.prog 49 #[.slice P (n - p) (c - p)] wr fun E w' => E = .returned (.tuple #[.agg zeroRc.vals, .int .i64 0, .int .i64 e]) ∧ Below wr.heap.size wr w') := by
        have h := CD.out
        rw [hv] at h
        exact h
      have he' : (e == 0) = false := beq_eq_false_iff_ne.2 he
      have he2 : (e != 0) = true := bne_iff_ne.2 he
      clear CD hno hv HA HE
      go_upto_region 2 with (first
        | (go_at_call 49; refine CD2.out.mono ?_; rintro E w2 ⟨rfl, hb2⟩; have HF2 := Lib.hid (HF.out.all hb2); clear hb2)
        | (refine store_recN (zero_new w2) rfl rfl (.tmp 8) (.tmp 16) rfl rfl zeroRc rfl rfl ?_; intro w3 X3 G3))
      have HF3 : Hid (Fd w0 99 w3 u0 l) := fd_store HF2.out G3.out
      clear G3
      go_wp2_with fail
      go_ret2
      exact ⟨u0, by rw [HPE.out]; rfl, by rw [← HLE.out]; exact HF3.out⟩
end Go.Proofs.YtkdnfikaodkhnaaDoor.Rec
/-
  Plain facts: rows of bytes among the arguments; how many records stand in a text.
-/
namespace Go.Proofs.YtkdnfikaodkhnaaDoor.Rec
open Go.RowKit
set_option linter.unusedVariables false
set_option linter.unusedSimpArgs false

/-- A slice of slices of bytes. -/
def RowsB (w : World) (A : Option Addr) (n : Nat) : Prop := 0 < n → ∃ b o, A = some ⟨b, o, none⟩ ∧ b < w.heap.size ∧ ∀ i, i < n → ∃ A' l c bs, w.cell? ⟨b, o + i, none⟩ = some (.slice A' l c) ∧ Row w w.heap.size A' l (bvs bs) ∧ l ≤ c ∧ c ≤ maxLen
theorem rows_of_bytes {W : World} {a : Option Addr} {len cap : Nat}
    (h : (a = none ∧ len = 0 ∧ cap = 0) ∨ ∃ (x : Addr) (A : Nat → Option Addr) (L C : Nat → Nat) (Z : Nat → List Int), a = some x ∧ len ≤ cap ∧ cap ≤ maxLen ∧
      ∀ r, r < cap → W.cell? (x.add r) = some (.slice (A r) (L r) (C r)) ∧ L r ≤ C r ∧ C r ≤ maxLen ∧ (Z r).length = C r ∧ (∀ n ∈ Z r, (Lit.int .u8 n).wf = true) ∧ (A r = none → C r = 0) ∧
        ∀ a', A r = some a' → 0 ≤ a'.block ∧ ∀ c, c < C r → W.cell? (a'.add c) = some (.int .u8 ((Z r).getD c 0))) :
    RowsB W a len ∧ len ≤ cap ∧ cap ≤ maxLen := by
  rcases h with ⟨rfl, rfl, rfl⟩ | ⟨x, A, L, C, Z, rfl, hl, hm, hcell⟩
  · exact ⟨fun h => absurd h (by omega), Nat.le_refl _, by decide⟩
  · refine ⟨fun hn => ?_, hl, hm⟩
    obtain ⟨b, off, spot⟩ := x
    have h0 := (hcell 0 (by omega)).1
    have hspot : spot = none := by simpa [Addr.add] using World.cell?_spot h0
    subst hspot
    refine ⟨b, off, rfl, by simpa [Addr.add] using World.block_lt_of_cell? W _ h0, fun i hi => ?_⟩
    obtain ⟨k1, k2, k3, k4, k5, k6, k7⟩ := hcell i (by omega)
    obtain ⟨bs, r1, r2, r3⟩ := row_of_bytes (W := W) (a := A i) (len := L i) (cap := C i) (by
      cases hA : A i with
      | none => exact .inl ⟨rfl, by have := k6 hA; omega, k6 hA⟩
      | some a' => exact .inr ⟨a', Z i, rfl, k2, k3, k4, fun j hj => (k7 a' hA).2 j (by omega), k5⟩)
    refine ⟨A i, L i, C i, bs, ?_, r1, r2, r3⟩
    unfold Addr.add at k1
    split at k1
    · rename_i hi0; subst hi0; exact k1
    · exact k1
theorem all_le (bs : List UInt8) : ∀ (f p : Nat), (allF f p bs).length ≤ f := by
  intro f
  induction f with
  | zero => intro p; exact Nat.le_refl _
  | succ f ih =>
    intro p
    rw [allF]
    split
    · exact Nat.zero_le _
    · cases dec (bs.drop p) with
      | ok x n => show (_ :: _).length ≤ _; rw [List.length_cons]; exact Nat.succ_le_succ (ih _)
      | more => exact Nat.le_succ_of_le (ih _)
      | bad => exact Nat.le_succ_of_le (ih _)
theorem all_count (bs : List UInt8) : (allFrom 0 bs).length ≤ bs.length := by unfold allFrom; rw [Nat.sub_zero]; exact all_le bs _ 0
theorem front_count (bs : List UInt8) : (frontFrom 0 bs).length ≤ bs.length := by
  have := front_le bs bs.length 0 (by omega) (Nat.zero_le _)
  omega
end Go.Proofs.YtkdnfikaodkhnaaDoor.Rec
