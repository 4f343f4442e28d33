/-
  Texts one behind the other: SegBegun, ScanRef, ScanRefFront, Short.
-/
import Derived.Test.YtkdnfikaodkhnaaDoorG03
import Derived.Test.YtkdnfikaodkhnaaDoorG07
import Derived.Test.YtkdnfikaodkhnaaDoorG08
import Derived.Test.YtkdnfikaodkhnaaDoorG25
import Derived.Test.YtkdnfikaodkhnaaDoorG29
/-
  Proved: begun of law 8 returns true where a segment keeps its face.
-/
namespace Go.Proofs.YtkdnfikaodkhnaaDoor.Seg
open Go.RowKit Go.Proofs.YtkdnfikaodkhnaaDoor.Disk Go.Proofs.YtkdnfikaodkhnaaDoor.Rec
set_option linter.unusedVariables false
set_option linter.unusedSimpArgs false

def rA : Rc := ⟨1, 7, 0, 0, 0, [97]⟩
def rC : Rc := ⟨3, 7, 0, 0, 0, []⟩
theorem rA_may : rA.May := by decide
theorem rC_may : rC.May := by decide
theorem rA_fits : rA.Fits := ⟨by decide, by decide, by decide, by decide⟩
theorem rC_fits : rC.Fits := ⟨by decide, by decide, by decide, by decide⟩
theorem two_fit : Fit 7 [rA, rC] := by
  intro x hx
  simp only [List.mem_cons, List.not_mem_nil, or_false] at hx
  rcases hx with rfl | rfl
  · exact ⟨rA_may, rA_fits, rfl⟩
  · exact ⟨rC_may, rC_fits, rfl⟩
theorem rA_len : (enc rA).length = 40 := by rw [enc_length rA rA_may]; rfl
theorem rC_len : (enc rC).length = 39 := by rw [enc_length rC rC_may]; rfl
theorem two_len : (cat [rA, rC]).length = 79 := by
  show (enc rA ++ (enc rC ++ [])).length = 79
  rw [List.append_nil, List.length_append, rA_len, rC_len]
theorem two_first : dec ((cat [rA, rC]).drop 0) = .ok rA 40 := by
  have := dec_behind [] (enc rC ++ []) rA rA_may rA_fits (p := 0) rfl
  exact this
theorem segName_seven : segName 7 3 = [116, 55, 46, 51] := by
  have e7 : digits 7 = [55] := digits_low (by decide)
  have e3 : digits 3 = [51] := digits_low (by decide)
  unfold segName
  rw [e7, e3]
  rfl
theorem free_new {own : Own} {w : World} (ht : ∀ b q, own b = some q → b < w.heap.size) (t : TypeId) (cs : Array Value) : Free own (w.alloc (.cells cs t)) (some ⟨w.heap.size, 0, none⟩) cs.size cs.toList := by
  refine ⟨by simp, fun _ => ⟨w.heap.size, 0, rfl, ?_, by simp, fun i v hv => ?_⟩⟩
  · cases h : own w.heap.size with
    | none => rfl
    | some q => have := ht _ _ h; omega
  · rw [Nat.zero_add, cell_of_row _ w.heap.size i cs t (0, 0) (heap_alloc_new w _), ← Array.getElem?_toList]
    exact hv
set_option maxRecDepth 100000 in
set_option maxHeartbeats 8000000 in
theorem segbegun_any {SG : Own → World → World → Sv → Prop} (F : Face SG) (w : World) (hT : Tabs w) : Calls Tryd.prog 7 #[] w fun e w' => e = .returned (.bool true) ∧ Below w.heap.size w w' := by
  have HT := Lib.hid hT
  have HF := Lib.hid F
  have hz := zeroRec
  have CN := Lib.hid (new_held 10000 w)
  rw [show room 10000 = 10000 by decide] at CN
  clear F hT
  go_enter Tryd.func7, Tryd.ntmps7
  go_upto_region 2 with (go_at_call 8; refine CN.out.mono ?_; rintro e w2 ⟨own2, f, rfl, hd2⟩)
  have CC := Lib.hid (HF.out.create (id := 7) (num := 3) HT.out hd2 (St.new 10000) (by decide) (by decide) (by decide))
  clear CN hd2
  go_upto_region 3 with (go_at_call 9; refine CC.out.mono ?_; rintro e w3 ⟨own3, sg, g, K3, rfl, hK3, hs3, hf3⟩)
  have HS3 := Lib.hid hs3
  clear CC hs3 hf3
  have ep : ptr sg = .pointer (some ⟨sg, 0, none⟩) := rfl
  rw [ep]
  go_upto_region 5 with fail
  have hFr : Free own3 (w3.alloc (.cells (rflat [rA, rC]).toArray 33)) (some ⟨w3.heap.size, 0, none⟩) (2 * 6) (rflat [rA, rC]) := free_new (HF.out.top HS3.out) 33 (rflat [rA, rC]).toArray
  have CA := Lib.hid (HF.out.append_ok (g0 := []) (l := [rA, rC]) (n := 2) (c := 2) HT.out (HF.out.all HS3.out (below_alloc w3 (.cells (rflat [rA, rC]).toArray 33))) rfl (fun x hx => by simp at hx) two_fit rfl (by decide) (by decide) (by decide) (by decide) hFr (by rw [List.nil_append, two_len]; show (79 : Int) ≤ 10000; decide) (show K3 + 8 ≤ 1073741824 by omega))
  clear hFr
  go_upto_region 6 with (go_at_call 12; refine CA.out.mono ?_; rintro e w5 ⟨own5, P, cp, L, K5, rfl, hcp, hcp2, hfp, hK5, hs5, hf5⟩)
  have HP5 := Lib.hid hfp
  have HS5 := Lib.hid hs5
  have hK5' : K5 ≤ 16 := by have h : K5 ≤ K3 + 8 := hK5; omega
  clear CA hs5 hf5 hfp hK5
  have e79 : (cat ([] ++ [rA, rC])).length = 79 := by rw [List.nil_append]; exact two_len
  have C6 := Lib.hid (HF.out.read_ok (a := 0) (n := 40) (x := rA) HT.out HS5.out (by show 0 < (cat ([] ++ [rA, rC])).length; rw [e79]; decide) two_first rfl (show K5 + 8 ≤ 1073741824 by omega))
  go_upto_region 7 with (first
    | (go_at_call 25; refine C6.out.mono ?_; rintro e w6 ⟨own6, K6, rfl, hK6, hs6, hf6⟩)
    | (refine store_recN (zero_new w6) rfl rfl (.tmp 6) (.tmp 33) rfl rfl rA rfl rfl ?_; intro w7 X7 G7))
  have hb67 : Below w6.heap.size w6 w7 := below_only (below_alloc w6 _) G7.out (Nat.le_refl _) (by simp)
  have HS7 := Lib.hid (HF.out.all hs6 hb67)
  have HP7 := Lib.hid (free_fr HP5.out (hf6.fr.trans (Fr.of_below hb67)))
  have hK6' : K6 ≤ 24 := by have h : K6 ≤ K5 + 8 := hK6; omega
  have ho6 : own6 w6.heap.size = none := by
    cases h : own6 w6.heap.size with
    | none => rfl
    | some q => have := HF.out.top hs6 _ _ h; omega
  have HO6 := Lib.hid ho6
  have C8 := Lib.hid (HF.out.read_range (a := 1000) HT.out HS7.out (.inr (by show ((cat ([] ++ [rA, rC])).length : Int) ≤ 1000; rw [e79]; decide)) (by decide) (show K6 + 8 ≤ 1073741824 by omega))
  clear C6 hs6 hf6 hb67 hK6 ho6 HP5 G7
  have hw67 : w6.heap.size < w7.heap.size := X7.out.lt
  go_upto_region 8 with (first
    | (go_at_call 25; refine C8.out.mono ?_; rintro e w8 ⟨own8, K8, zr, rfl, hK8, hs8, hf8⟩)
    | (refine store_recN (zero_new w8) rfl rfl (.tmp 8) (.tmp 38) rfl rfl zr rfl rfl ?_; intro w9 X9 G9))
  have hb89 : Below w8.heap.size w8 w9 := below_only (below_alloc w8 _) G9.out (Nat.le_refl _) (by simp)
  have HS9 := Lib.hid (HF.out.all hs8 hb89)
  have HP9 := Lib.hid (free_fr HP7.out (hf8.fr.trans (Fr.of_below hb89)))
  have X8 : Hid (RecAt w8 w6.heap.size rA) := (hf8.fr.block _ hw67 HO6.out).trans X7.out
  have X9' : Hid (RecAt w9 w6.heap.size rA) := X8.out.below hb89 X8.out.lt
  obtain ⟨pb, po, rfl, _, _, _⟩ := HP9.out.2 (by decide)
  have p0 : w9.cell? ⟨pb, po, none⟩ = some (.int .i64 0) := free_at HP9.out 0 _ rfl
  have p1 : w9.cell? ⟨pb, po + 1, none⟩ = some (.int .i64 40) := by
    refine free_at HP9.out 1 _ ?_
    show some (Value.int .i64 ((((cat []).length + (cat ([rA, rC].take 1)).length : Nat)) : Int)) = _
    have e40 : (cat []).length + (cat ([rA, rC].take 1)).length = 40 := by
      show 0 + (enc rA ++ []).length = 40
      rw [List.append_nil, rA_len]
    rw [e40]
    rfl
  have x5 : w9.cell? ⟨w6.heap.size, 5, none⟩ = some (.string ⟨#[97]⟩) := X9'.out.cell 5
  have CZ0 := HF.out.size HS9.out
  have CZ : Hid (Calls Tryd.prog 13 #[.pointer (some ⟨sg, 0, none⟩)] w9 fun e w' => e = .returned (.int .i64 79) ∧ Below w9.heap.size w9 w') := by
    have h : Calls Tryd.prog 13 #[.pointer (some ⟨sg, 0, none⟩)] w9 fun e w' => e = .returned (.int .i64 ((cat ([] ++ [rA, rC])).length : Int)) ∧ Below w9.heap.size w9 w' := CZ0
    rw [e79] at h
    exact h
  have CM : Hid (∀ W, Below w.heap.size w W → Calls Tryd.prog 19 #[.int .u32 7, .int .i64 3] W fun e w' => e = .returned (.string ⟨#[116, 55, 46, 51]⟩) ∧ Below W.heap.size W w') := fun W hW => by
    have h := HF.out.name 7 3 W HT.out hW (by decide) (by decide)
    rw [segName_seven] at h
    exact h
  have HB9 := Lib.hid (HF.out.below HS9.out)
  clear C8 hs8 hf8 hb89 hK8 CZ0 X7 X8 X9 G9 e79 ep
  go_wp2_with (first
    | (go_at_call 13; refine CZ.out.mono ?_; rintro e w10 ⟨rfl, hb10⟩; have HB10 := Lib.hid (HB9.out.trans (hb10.mono HB9.out.size)); clear hb10)
    | (go_at_call 19; refine (CM.out _ HB10.out).mono ?_; rintro e w11 ⟨rfl, hb11⟩; have HB11 := Lib.hid (HB10.out.trans (hb11.mono HB10.out.size)); clear hb11))
  go_ret
  exact ⟨rfl, HB11.out⟩
end Go.Proofs.YtkdnfikaodkhnaaDoor.Seg
/-
  Proved: what the reference's All and Front return: the records that stand in a list of bytes.
  Conditions: the slice reads as bytes, not too many.
-/
namespace Go.Proofs.YtkdnfikaodkhnaaDoor.Rec
open Go.RowKit
set_option linter.unusedVariables false
set_option linter.unusedSimpArgs false

end Go.Proofs.YtkdnfikaodkhnaaDoor.Rec
/-
  Proved: what the reference's Front returns: the records one behind the other at the front of a list of bytes, and how many bytes they take.
  Conditions: the slice reads as bytes, not too many.
-/
namespace Go.Proofs.YtkdnfikaodkhnaaDoor.Rec
open Go.RowKit
set_option linter.unusedVariables false
set_option linter.unusedSimpArgs false

theorem endOf_snoc (l : List (Nat × Rc)) (p q : Nat) (x : Rc) : endOf p (l ++ [(q, x)]) = q + (39 + x.body.length) := by
  induction l generalizing p with
  | nil => rfl
  | cons z l ih => exact ih _
set_option maxRecDepth 100000 in
set_option maxHeartbeats 8000000 in
theorem reffront_some (b o n c : Nat) (bs : List UInt8) (w : World) (hR : Row w w.heap.size (some ⟨b, o, none⟩) n (bvs bs)) (hnc : n ≤ c) (hc : c ≤ maxLen) (hn : n ≤ 8388608) :
    Calls Tryd.prog 22 #[.slice (some ⟨b, o, none⟩) n c] w fun e w' => ∃ v, e = .returned (.tuple #[v, .int .i64 ((endOf 0 (frontFrom 0 bs) : Nat) : Int)]) ∧ Fd w 54 w' v (frontFrom 0 bs) := by
  have hcm : c ≤ 9223372036854775807 := by unfold maxLen at hc; exact hc
  have HL := Lib.hid hR.size
  have HR := Lib.hid hR
  have HNC := Lib.hid hnc
  have HC := Lib.hid hc
  have hz := zeroRec
  clear hR hc
  go_enter Tryd.func22, Tryd.ntmps22
  go_wp2_with fail
  go_loopw [4, 5] (fun v i wr => ∃ (p : Nat) (l : List (Nat × Rc)), i = .int .i64 (p : Int) ∧ p ≤ n ∧ l.length ≤ p ∧ Hid (Fd w 54 wr v l) ∧ Hid (l ++ frontFrom p bs = frontFrom 0 bs) ∧ Hid (endOf 0 l = p)) (fun _ i _ => n - (RowKit.intOf i).toNat)
  case atStart => exact ⟨0, [], rfl, Nat.zero_le _, Nat.le_refl _, Fd.nil w _, rfl, rfl⟩
  case round =>
    obtain ⟨p, l, rfl, hp, hlp, HF, HA, HE⟩ := hrel
    obtain ⟨P, hP⟩ : ∃ P, (if c = p then some (⟨b, o, none⟩ : Addr) else some ⟨b, o + p, none⟩) = P := ⟨_, rfl⟩
    have hpc : (p : Int) ≤ (c : Int) := by omega
    have hpn : (p : Int) ≤ (n : Int) := by omega
    have hrow := row_upto (HR.out.below HF.out.below) hp HNC.out hP
    have CD := Lib.hid (refdecode_any P (n - p) (c - p) (bs.drop p) wr (hrow.more HF.out.below.size) (by omega) (by have := HC.out; omega))
    clear hrow
    rcases out_ok (dec (bs.drop p)) with ⟨x, m, hd⟩ | ⟨e, he, hv, hno⟩
    · obtain ⟨hm, hml, _⟩ := dec_ok hd
      have hml' : p + m ≤ n := by rw [List.length_drop] at hml; have := HL.out; omega
      have HA2 : Hid ((l ++ [(p, x)]) ++ frontFrom (p + m) bs = frontFrom 0 bs) := by
        have h := HA.out
        rw [frontFrom_ok hd] at h
        show _ = _
        rw [List.append_assoc]
        exact h
      have HE2 : Hid (endOf 0 (l ++ [(p, x)]) = p + m) := by show _ = _; rw [endOf_snoc, hm]
      have CD2 : Hid (Calls Tryd.prog 45 #[.slice P (n - p) (c - p)] wr fun e w' => e = .returned (.tuple #[.agg x.vals, .int .i64 (m : Int), .int .i64 0]) ∧ Below wr.heap.size wr w') := by
        have h := CD.out
        rw [hd] at h
        exact h
      have HM39 : Hid (39 ≤ m) := by show 39 ≤ m; omega
      have HML := Lib.hid hml'
      have hm6 : m ≤ 8388608 := by omega
      clear CD hd HA hm hml hml'
      go_upto_region 4 with (first
        | (go_at_call 45; refine CD2.out.mono ?_; rintro e w2 ⟨rfl, hb2⟩; have HF2 := Lib.hid (HF.out.all hb2); clear hb2)
        | (refine store_recN (zero_new w2) rfl rfl (.tmp 6) (.tmp 14) rfl rfl x rfl rfl ?_; intro w3 X3 G3))
      have HF3 : Hid (Fd w 54 w3 u4 l) := fd_store HF2.out G3.out
      clear G3
      have hl6 : l.length ≤ 100000000 := by omega
      have hone := one_cells w3 54 (0, 0) (p, x) (fcells (p, x)).toArray rfl
      have HF4 := Lib.hid (HF3.out.all (below_alloc w3 (.cells (fcells (p, x)).toArray 54)))
      have HONE := Lib.hid hone
      have HBF := Lib.hid (built_ref p x)
      have HBS := Lib.hid (slice_ref p x)
      obtain ⟨fc, hfc⟩ : ∃ fc, fc = (fcells (p, x)).toArray := ⟨_, rfl⟩
      rw [← hfc] at HF4 HONE HBF HBS
      clear hone hfc
      go_wp2_with (first
        | (refine load_rec X3.out rfl (.tmp 6) rfl rfl ?_)
        | (refine build_found rfl 54 (.tmp 22) (.tmp 23) rfl (some 24) rfl (.int .i64 (p : Int)) (.agg x.vals) rfl rfl fc HBF.out ?_)
        | (refine build_one rfl 50 54 (.tmp 24) rfl (some 25) rfl Tryd.underlying50 (.agg fc) rfl fc HBS.out ?_)
        | (at_builtin; refine fd_append HF4.out 50 _ 64 Tryd.underlying50 found_info rfl (by omega) rfl (.tmp 21) (.tmp 25) rfl rfl w3.heap.size 1 (p, x) rfl HONE.out hl6 ?_; intro v4 w4 HF5))
      go_roundw
      case rel => exact ⟨p + m, l ++ [(p, x)], by go_num, HML.out, by rw [List.length_append]; show l.length + 1 ≤ p + m; have := HM39.out; omega, HF5, HA2, HE2⟩
      case measure => (have := HM39.out; have := HML.out; simp [RowKit.intOf]; omega)
    · have HLE : Hid (l = frontFrom 0 bs) := by
        have h := HA.out
        rw [frontFrom_no hno, List.append_nil] at h
        exact h
      have CD2 : Hid (Calls Tryd.prog 45 #[.slice P (n - p) (c - p)] wr fun E w' => E = .returned (.tuple #[.agg zeroRc.vals, .int .i64 0, .int .i64 e]) ∧ Below wr.heap.size wr w') := by
        have h := CD.out
        rw [hv] at h
        exact h
      have he' : (e == 0) = false := beq_eq_false_iff_ne.2 he
      have he2 : (e != 0) = true := bne_iff_ne.2 he
      clear CD hno hv HA
      go_upto_region 4 with (first
        | (go_at_call 45; refine CD2.out.mono ?_; rintro E w2 ⟨rfl, hb2⟩; have HF2 := Lib.hid (HF.out.all hb2); clear hb2)
        | (refine store_recN (zero_new w2) rfl rfl (.tmp 6) (.tmp 14) rfl rfl zeroRc rfl rfl ?_; intro w3 X3 G3))
      have HF3 : Hid (Fd w 54 w3 u4 l) := fd_store HF2.out G3.out
      clear G3
      go_wp2_with fail
      go_ret2
      exact ⟨u4, by rw [← HLE.out, HE.out]; rfl, by rw [← HLE.out]; exact HF3.out⟩
set_option maxRecDepth 100000 in
set_option maxHeartbeats 8000000 in
theorem reffront_none (c : Nat) (w : World) (hc : c ≤ maxLen) :
    Calls Tryd.prog 22 #[.slice none 0 c] w fun e w' => ∃ v, e = .returned (.tuple #[v, .int .i64 0]) ∧ Fd w 54 w' v [] := by
  have hcm : c ≤ 9223372036854775807 := by unfold maxLen at hc; exact hc
  have hz := zeroRec
  have CD : Hid (∀ P, Calls Tryd.prog 45 #[.slice P 0 c] w fun E w' => E = .returned (.tuple #[.agg zeroRc.vals, .int .i64 0, .int .i64 11]) ∧ Below w.heap.size w w') := by
    intro P
    have h := refdecode_any P 0 c [] w empty_row (Nat.zero_le _) hc
    rw [dec_nil] at h
    exact h
  have HF := Lib.hid (Fd.nil w 54)
  clear hc
  go_enter Tryd.func22, Tryd.ntmps22
  go_wp2_with fail
  go_loopw [4, 5] (fun v i wr => v = .slice none 0 0 ∧ i = .int .i64 0 ∧ wr = w) (fun _ i _ => 0)
  case atStart => exact ⟨rfl, rfl, rfl⟩
  case round =>
    obtain ⟨rfl, rfl, rfl⟩ := hrel
    go_upto_region 4 with (first
        | (go_at_call 45; refine (CD.out _).mono ?_; rintro E w2 ⟨rfl, hb2⟩; have HF2 := Lib.hid (HF.out.all hb2); clear hb2)
        | (refine store_recN (zero_new w2) rfl rfl (.tmp 6) (.tmp 14) rfl rfl zeroRc rfl rfl ?_; intro w3 X3 G3))
    have HF3 : Hid (Fd wr 54 w3 (.slice none 0 0) []) := fd_store HF2.out G3.out
    clear G3
    go_wp2_with fail
    go_ret2
    exact ⟨_, rfl, HF3.out⟩
set_option maxRecDepth 100000 in
set_option maxHeartbeats 8000000 in
theorem reffront_zero (ad : Addr) (c : Nat) (w : World) (hc : c ≤ maxLen) :
    Calls Tryd.prog 22 #[.slice (some ad) 0 c] w fun e w' => ∃ v, e = .returned (.tuple #[v, .int .i64 0]) ∧ Fd w 54 w' v [] := by
  have hcm : c ≤ 9223372036854775807 := by unfold maxLen at hc; exact hc
  have hz := zeroRec
  have CD : Hid (∀ P, Calls Tryd.prog 45 #[.slice P 0 c] w fun E w' => E = .returned (.tuple #[.agg zeroRc.vals, .int .i64 0, .int .i64 11]) ∧ Below w.heap.size w w') := by
    intro P
    have h := refdecode_any P 0 c [] w empty_row (Nat.zero_le _) hc
    rw [dec_nil] at h
    exact h
  have HF := Lib.hid (Fd.nil w 54)
  clear hc
  go_enter Tryd.func22, Tryd.ntmps22
  go_wp2_with fail
  go_loopw [4, 5] (fun v i wr => v = .slice none 0 0 ∧ i = .int .i64 0 ∧ wr = w) (fun _ i _ => 0)
  case atStart => exact ⟨rfl, rfl, rfl⟩
  case round =>
    obtain ⟨rfl, rfl, rfl⟩ := hrel
    go_upto_region 4 with (first
        | (go_at_call 45; refine (CD.out _).mono ?_; rintro E w2 ⟨rfl, hb2⟩; have HF2 := Lib.hid (HF.out.all hb2); clear hb2)
        | (refine store_recN (zero_new w2) rfl rfl (.tmp 6) (.tmp 14) rfl rfl zeroRc rfl rfl ?_; intro w3 X3 G3))
    have HF3 : Hid (Fd wr 54 w3 (.slice none 0 0) []) := fd_store HF2.out G3.out
    clear G3
    go_wp2_with fail
    go_ret2
    exact ⟨_, rfl, HF3.out⟩
/-- .. whatever the slice. -/
theorem reffront_any (A : Option Addr) (n c : Nat) (bs : List UInt8) (w : World) (hR : Row w w.heap.size A n (bvs bs)) (hnc : n ≤ c) (hc : c ≤ maxLen) (hn : n ≤ 8388608) :
    Calls Tryd.prog 22 #[.slice A n c] w fun e w' => ∃ v, e = .returned (.tuple #[v, .int .i64 ((endOf 0 (frontFrom 0 bs) : Nat) : Int)]) ∧ Fd w 54 w' v (frontFrom 0 bs) := by
  rcases Nat.eq_zero_or_pos n with h0 | h0
  · subst h0
    obtain rfl : bs = [] := List.eq_nil_of_length_eq_zero hR.size
    rw [front_nil]
    cases A with
    | none => exact reffront_none c w hc
    | some ad => exact reffront_zero ad c w hc
  · obtain ⟨b, o, rfl, _, _⟩ := hR.2 h0
    exact reffront_some b o n c bs w hR hnc hc hn
end Go.Proofs.YtkdnfikaodkhnaaDoor.Rec
/-
  Proved: what Short of package stillroomlaw1 returns, and what is left of a row behind it.
  Conditions: none.
-/
namespace Go.Proofs.YtkdnfikaodkhnaaDoor.Com
open Go.RowKit
set_option linter.unusedVariables false
set_option linter.unusedSimpArgs false

theorem short_any (A : Option Addr) (n c : Nat) (m : Nat) (w : World) (hn : n ≤ c) (hc : c ≤ maxLen) :
    Calls Tryd.prog 17 #[.slice A n c, .int .i64 (m : Int)] w fun e w' => e = .returned (.slice A (min n m) c) ∧ w = w' := by
  unfold maxLen at hc
  by_cases h : m < n
  · rw [Nat.min_eq_right (Nat.le_of_lt h)]
    go_enter Tryd.func17, Tryd.ntmps17
    go_wp2
    go_ret
    exact ⟨rfl, rfl⟩
  · rw [Nat.min_eq_left (by omega)]
    go_enter Tryd.func17, Tryd.ntmps17
    go_wp2
    go_ret
    exact ⟨rfl, rfl⟩
/-- What is left of a slice behind 'Short', in a later world. -/
theorem short_row {w w1 : World} {B : Nat} {A : Option Addr} {n m : Nat} {bs : List UInt8} (hb : Below B w w1) (hR : Row w B A n (bvs bs)) :
    Row w1 B A (min n m) (bvs (bs.take m)) := by
  have h := (hR.below hb).take (k := min n m) (Nat.min_le_left _ _)
  rw [bvs_take] at h
  have hl := hR.size
  have : bs.take (min n m) = bs.take m := by
    rw [← hl, ← List.take_take, List.take_of_length_le]
    exact List.length_take_le' _ _
  rwa [this] at h
end Go.Proofs.YtkdnfikaodkhnaaDoor.Com
