/-
  Texts one behind the other: SegBegun, ScanDraw, ScanFound.
-/
import Derived.Test.YtkdnfikaodkhnaaGreatDoorG06
import Derived.Test.YtkdnfikaodkhnaaGreatDoorG08
import Derived.Test.YtkdnfikaodkhnaaGreatDoorG15
import Derived.Test.YtkdnfikaodkhnaaGreatDoorG25
/-
  Proved: begun of law 8 returns true where a segment keeps its face.
-/
namespace Go.Proofs.YtkdnfikaodkhnaaGreatDoor.Seg
open Go.RowKit Go.Proofs.YtkdnfikaodkhnaaGreatDoor.Disk Go.Proofs.YtkdnfikaodkhnaaGreatDoor.Rec
set_option linter.unusedVariables false
set_option linter.unusedSimpArgs false

def rA : Rc := ⟨1, 7, 0, 0, 0, [97]⟩
def rC : Rc := ⟨3, 7, 0, 0, 0, []⟩
theorem rA_may : rA.May := by decide
theorem rC_may : rC.May := by decide
theorem rA_fits : rA.Fits := ⟨by decide, by decide, by decide, by decide⟩
theorem rC_fits : rC.Fits := ⟨by decide, by decide, by decide, by decide⟩
theorem two_fit : Fit 7 [rA, rC] := by
  intro x hx
  simp only [List.mem_cons, List.not_mem_nil, or_false] at hx
  rcases hx with rfl | rfl
  · exact ⟨rA_may, rA_fits, rfl⟩
  · exact ⟨rC_may, rC_fits, rfl⟩
theorem rA_len : (enc rA).length = 40 := by rw [enc_length rA rA_may]; rfl
theorem rC_len : (enc rC).length = 39 := by rw [enc_length rC rC_may]; rfl
theorem two_len : (cat [rA, rC]).length = 79 := by
  show (enc rA ++ (enc rC ++ [])).length = 79
  rw [List.append_nil, List.length_append, rA_len, rC_len]
theorem two_first : dec ((cat [rA, rC]).drop 0) = .ok rA 40 := by
  have := dec_behind [] (enc rC ++ []) rA rA_may rA_fits (p := 0) rfl
  exact this
theorem segName_seven : segName 7 3 = [116, 55, 46, 51] := by
  have e7 : digits 7 = [55] := digits_low (by decide)
  have e3 : digits 3 = [51] := digits_low (by decide)
  unfold segName
  rw [e7, e3]
  rfl
theorem free_new {own : Own} {w : World} (ht : ∀ b q, own b = some q → b < w.heap.size) (t : TypeId) (cs : Array Value) : Free own (w.alloc (.cells cs t)) (some ⟨w.heap.size, 0, none⟩) cs.size cs.toList := by
  refine ⟨by simp, fun _ => ⟨w.heap.size, 0, rfl, ?_, by simp, fun i v hv => ?_⟩⟩
  · cases h : own w.heap.size with
    | none => rfl
    | some q => have := ht _ _ h; omega
  · rw [Nat.zero_add, cell_of_row _ w.heap.size i cs t (0, 0) (heap_alloc_new w _), ← Array.getElem?_toList]
    exact hv
set_option maxRecDepth 100000 in
set_option maxHeartbeats 8000000 in
theorem segbegun_any {SG : Own → World → World → Sv → Prop} (F : Face SG) (w : World) (hT : Tabs w) : Calls Tryz.prog 5 #[] w fun e w' => e = .returned (.bool true) ∧ Below w.heap.size w w' := by
  have HT := Lib.hid hT
  have HF := Lib.hid F
  have hz := zeroRec
  have CN := Lib.hid (new_held 10000 w)
  rw [show room 10000 = 10000 by decide] at CN
  clear F hT
  go_enter Tryz.func5, Tryz.ntmps5
  go_upto_region 2 with (go_at_call 6; refine CN.out.mono ?_; rintro e w2 ⟨own2, f, rfl, hd2⟩)
  have CC := Lib.hid (HF.out.create (id := 7) (num := 3) HT.out hd2 (St.new 10000) (by decide) (by decide) (by decide))
  clear CN hd2
  go_upto_region 3 with (go_at_call 7; refine CC.out.mono ?_; rintro e w3 ⟨own3, sg, g, K3, rfl, hK3, hs3, hf3⟩)
  have HS3 := Lib.hid hs3
  clear CC hs3 hf3
  have ep : ptr sg = .pointer (some ⟨sg, 0, none⟩) := rfl
  rw [ep]
  go_upto_region 5 with fail
  have hFr : Free own3 (w3.alloc (.cells (rflat [rA, rC]).toArray 40)) (some ⟨w3.heap.size, 0, none⟩) (2 * 6) (rflat [rA, rC]) := free_new (HF.out.top HS3.out) 40 (rflat [rA, rC]).toArray
  have CA := Lib.hid (HF.out.append_ok (g0 := []) (l := [rA, rC]) (n := 2) (c := 2) HT.out (HF.out.all HS3.out (below_alloc w3 (.cells (rflat [rA, rC]).toArray 40))) rfl (fun x hx => by simp at hx) two_fit rfl (by decide) (by decide) (by decide) (by decide) hFr (by rw [List.nil_append, two_len]; show (79 : Int) ≤ 10000; decide) (show K3 + 8 ≤ 1073741824 by omega))
  clear hFr
  go_upto_region 6 with (go_at_call 9; refine CA.out.mono ?_; rintro e w5 ⟨own5, P, cp, L, K5, rfl, hcp, hcp2, hfp, hK5, hs5, hf5⟩)
  have HP5 := Lib.hid hfp
  have HS5 := Lib.hid hs5
  have hK5' : K5 ≤ 16 := by have h : K5 ≤ K3 + 8 := hK5; omega
  clear CA hs5 hf5 hfp hK5
  have e79 : (cat ([] ++ [rA, rC])).length = 79 := by rw [List.nil_append]; exact two_len
  have C6 := Lib.hid (HF.out.read_ok (a := 0) (n := 40) (x := rA) HT.out HS5.out (by show 0 < (cat ([] ++ [rA, rC])).length; rw [e79]; decide) two_first rfl (show K5 + 8 ≤ 1073741824 by omega))
  go_upto_region 7 with (first
    | (go_at_call 19; refine C6.out.mono ?_; rintro e w6 ⟨own6, K6, rfl, hK6, hs6, hf6⟩)
    | (refine store_recN (zero_new w6) rfl rfl (.tmp 6) (.tmp 33) rfl rfl rA rfl rfl ?_; intro w7 X7 G7))
  have hb67 : Below w6.heap.size w6 w7 := below_only (below_alloc w6 _) G7.out (Nat.le_refl _) (by simp)
  have HS7 := Lib.hid (HF.out.all hs6 hb67)
  have HP7 := Lib.hid (free_fr HP5.out (hf6.fr.trans (Fr.of_below hb67)))
  have hK6' : K6 ≤ 24 := by have h : K6 ≤ K5 + 8 := hK6; omega
  have ho6 : own6 w6.heap.size = none := by
    cases h : own6 w6.heap.size with
    | none => rfl
    | some q => have := HF.out.top hs6 _ _ h; omega
  have HO6 := Lib.hid ho6
  have C8 := Lib.hid (HF.out.read_range (a := 1000) HT.out HS7.out (.inr (by show ((cat ([] ++ [rA, rC])).length : Int) ≤ 1000; rw [e79]; decide)) (by decide) (show K6 + 8 ≤ 1073741824 by omega))
  clear C6 hs6 hf6 hb67 hK6 ho6 HP5 G7
  have hw67 : w6.heap.size < w7.heap.size := X7.out.lt
  go_upto_region 8 with (first
    | (go_at_call 19; refine C8.out.mono ?_; rintro e w8 ⟨own8, K8, zr, rfl, hK8, hs8, hf8⟩)
    | (refine store_recN (zero_new w8) rfl rfl (.tmp 8) (.tmp 38) rfl rfl zr rfl rfl ?_; intro w9 X9 G9))
  have hb89 : Below w8.heap.size w8 w9 := below_only (below_alloc w8 _) G9.out (Nat.le_refl _) (by simp)
  have HS9 := Lib.hid (HF.out.all hs8 hb89)
  have HP9 := Lib.hid (free_fr HP7.out (hf8.fr.trans (Fr.of_below hb89)))
  have X8 : Hid (RecAt w8 w6.heap.size rA) := (hf8.fr.block _ hw67 HO6.out).trans X7.out
  have X9' : Hid (RecAt w9 w6.heap.size rA) := X8.out.below hb89 X8.out.lt
  obtain ⟨pb, po, rfl, _, _, _⟩ := HP9.out.2 (by decide)
  have p0 : w9.cell? ⟨pb, po, none⟩ = some (.int .i64 0) := free_at HP9.out 0 _ rfl
  have p1 : w9.cell? ⟨pb, po + 1, none⟩ = some (.int .i64 40) := by
    refine free_at HP9.out 1 _ ?_
    show some (Value.int .i64 ((((cat []).length + (cat ([rA, rC].take 1)).length : Nat)) : Int)) = _
    have e40 : (cat []).length + (cat ([rA, rC].take 1)).length = 40 := by
      show 0 + (enc rA ++ []).length = 40
      rw [List.append_nil, rA_len]
    rw [e40]
    rfl
  have x5 : w9.cell? ⟨w6.heap.size, 5, none⟩ = some (.string ⟨#[97]⟩) := X9'.out.cell 5
  have CZ0 := HF.out.size HS9.out
  have CZ : Hid (Calls Tryz.prog 11 #[.pointer (some ⟨sg, 0, none⟩)] w9 fun e w' => e = .returned (.int .i64 79) ∧ Below w9.heap.size w9 w') := by
    have h : Calls Tryz.prog 11 #[.pointer (some ⟨sg, 0, none⟩)] w9 fun e w' => e = .returned (.int .i64 ((cat ([] ++ [rA, rC])).length : Int)) ∧ Below w9.heap.size w9 w' := CZ0
    rw [e79] at h
    exact h
  have CM : Hid (∀ W, Below w.heap.size w W → Calls Tryz.prog 20 #[.int .u32 7, .int .i64 3] W fun e w' => e = .returned (.string ⟨#[116, 55, 46, 51]⟩) ∧ Below W.heap.size W w') := fun W hW => by
    have h := HF.out.name 7 3 W HT.out hW (by decide) (by decide)
    rw [segName_seven] at h
    exact h
  have HB9 := Lib.hid (HF.out.below HS9.out)
  clear C8 hs8 hf8 hb89 hK8 CZ0 X7 X8 X9 G9 e79 ep
  go_wp2_with (first
    | (go_at_call 11; refine CZ.out.mono ?_; rintro e w10 ⟨rfl, hb10⟩; have HB10 := Lib.hid (HB9.out.trans (hb10.mono HB9.out.size)); clear hb10)
    | (go_at_call 20; refine (CM.out _ HB10.out).mono ?_; rintro e w11 ⟨rfl, hb11⟩; have HB11 := Lib.hid (HB10.out.trans (hb11.mono HB10.out.size)); clear hb11))
  go_ret
  exact ⟨rfl, HB11.out⟩
end Go.Proofs.YtkdnfikaodkhnaaGreatDoor.Seg
/-
  Laws for regions that draw: a struct is built, a slice of one is made, one more is appended to the records found.
-/
namespace Go.Proofs.YtkdnfikaodkhnaaGreatDoor.Rec
open Go.RowKit
set_option linter.unusedVariables false
set_option linter.unusedSimpArgs false

section
variable {w : World} {ops : Array Oper} {o : Oper} {a : Act} {K : Act → World → Prop} {Q : Exit → Act → World → Prop}
theorem run_build_found (T : TypeId) (y1 y2 : Operand) (ho : o.op = .build T #[(0, y1), (1, y2)]) (v1 v2 : Value) (h1 : a.eval y1 = v1) (h2 : a.eval y2 = v2) (fc : Array Value) (hb : Tryz.prog.built T [(0, v1), (1, v2)] = some fc) :
    (execOp a.eval o).run Tryz.prog w = .ok (.value (.agg fc)) w := by
  unfold execOp
  have hb' : Tryz.prog.built T (#[(0, v1), (1, v2)] : Array (Nat × Value)).toList = some fc := hb
  have := run_build (P := Tryz.prog) w T #[(0, v1), (1, v2)] fc hb'
  simp only [ho, Sem.run_bind, List.map_toArray, List.map_cons, List.map_nil, h1, h2, this, Result.andThen_ok]
  rfl
theorem wp_build_one (T e : TypeId) (y : Operand) (ho : o.op = .buildSlice T 1 #[(0, y)]) (d : Option Tmp) (hd : o.dst = d) (hu : Tryz.prog.underlying T = some (.slice e)) {z : Value} {by' k : Nat} (hk : 0 < k ∧ k ≤ 1000) (hi : (Tryz.prog.info? e).map (fun i => (i.zero, i.size, i.bytes)) = some (some z, k, by'))
    (v : Value) (hy : a.eval y = v) (fc : Array Value) (hb : Tryz.prog.builtSlice e 1 [(0, v)] = some fc) (h : K (a.put d (.slice (some ⟨w.heap.size, 0, none⟩) 1 1)) (w.alloc (.cells fc e))) : Oper.wp Tryz.prog o a w K Q := by
  obtain ⟨i, hii, hzz⟩ := Option.map_eq_some_iff.1 hi
  simp only [Prod.mk.injEq] at hzz
  obtain ⟨hz0, hs1, _⟩ := hzz
  obtain ⟨hk1, hk2⟩ := hk
  subst hd
  refine wp_buildSlice T e 1 _ ho fc i z hu hii hz0 (by rw [hs1, Nat.one_mul]; omega) (by rw [hs1]; omega) ?_ h
  unfold Program.builtSlice at hb
  simp only [hii, hz0] at hb
  rw [if_neg (by rw [hs1]; omega)] at hb
  rw [Array.toList_map]
  simp only [List.map_cons, List.map_nil, hy]
  exact hb
variable {w0 : World} {e : TypeId} {v : Value} {l : List (Nat × Rc)}
theorem wp_fd_append (h : Fd w0 e w v l) (T : TypeId) (z : Value) (by' : Nat) (hT : Tryz.prog.underlying T = some (.slice e)) (hi : (Tryz.prog.info? e).map (fun i => (i.zero, i.size, i.bytes)) = some (some z, 7, by')) (hz : z.cells.size = 7) (hby : by' ≤ 64)
    (d : Option Tmp) (hd : o.dst = d) (s y : Operand) (ho : o.op = .call { callee := .builtin .append, args := #[s, y], argTypes := #[T, T] }) (hs : a.eval s = v)
    (g c : Nat) (q : Nat × Rc) (hy : a.eval y = .slice (some ⟨g, 0, none⟩) 1 c) (hq : ∀ j u, (fcells q)[j]? = some u → w.cell? ⟨g, j, none⟩ = some u) (hl : l.length ≤ 100000000)
    (k : ∀ v' w', Hid (Fd w0 e w' v' (l ++ [q])) → K (a.put d v') w') : Oper.wp Tryz.prog o a w K Q := by
  obtain ⟨i, hii, hzz⟩ := Option.map_eq_some_iff.1 hi
  simp only [Prod.mk.injEq] at hzz
  obtain ⟨hz0, hs1, hb1⟩ := hzz
  subst hd
  refine wp_append_own w s y T ho w0.heap.size e i z 7 by' hT hii hz0 hs1 hb1 hz (by decide) v l.length (flat l) hs h.row ⟨g, 0, none⟩ 1 c (fcells q) hy (fcells_length q) ?_ (fcells_one q) (by unfold maxLen; omega) ?_ h.below.size ?_
  · intro j u hu
    have := hq j u hu
    rw [Addr.add_lit, Nat.zero_add]
    exact this
  · have : (l.length + 1) * by' ≤ (l.length + 1) * 64 := Nat.mul_le_mul_left _ hby
    omega
  · intro v' w' h1 h2 _
    refine k v' w' ⟨?_, own_below h.row h.below (Nat.le_refl _) h.below.size h2⟩
    rw [flat_snoc] at h1
    rw [List.length_append]
    exact h1
end
end Go.Proofs.YtkdnfikaodkhnaaGreatDoor.Rec
/-
  Proved: what Found of law 7 returns: the records found of package scan, as the reference's.
  Conditions: the slice reads as records found, not too many.
-/
namespace Go.Proofs.YtkdnfikaodkhnaaGreatDoor.Rec
open Go.RowKit
set_option linter.unusedVariables false
set_option linter.unusedSimpArgs false

theorem take_next {α : Type} {l : List α} {p : Nat} {q : α} (h : l[p]? = some q) : l.take p ++ [q] = l.take (p + 1) := by
  obtain ⟨hp, e⟩ := List.getElem?_eq_some_iff.1 h
  rw [List.take_add_one, h]
  rfl
set_option maxRecDepth 100000 in
set_option maxHeartbeats 8000000 in
theorem found_any (A : Option Addr) (n c : Nat) (l : List (Nat × Rc)) (w : World) (hR : Row w w.heap.size A (n * 7) (flat l)) (hl : l.length = n) (hnc : n ≤ c) (hc : c ≤ maxLen) (hn : n ≤ 8388608) :
    Calls Tryz.prog 16 #[.slice A n c] w fun e w' => ∃ v, e = .returned v ∧ Fd w 42 w' v l := by
  have hcm : c ≤ 9223372036854775807 := by unfold maxLen at hc; exact hc
  have HR := Lib.hid hR
  have HL := Lib.hid hl
  clear hR hc hl
  go_enter Tryz.func16, Tryz.ntmps16
  go_wp2_with fail
  go_loopw [3, 4] (fun v i wr => ∃ (p : Nat), i = .int .i64 (p : Int) ∧ p ≤ n ∧ Hid (Fd w 42 wr v (l.take p))) (fun _ i _ => n - (RowKit.intOf i).toNat)
  case atStart => exact ⟨0, rfl, Nat.zero_le _, Fd.nil w _⟩
  case round =>
    obtain ⟨p, rfl, hp, HF0⟩ := hrel
    by_cases hlt : p < n
    · obtain ⟨b, o, rfl, hb, _⟩ := HR.out.2 (by omega)
      obtain ⟨q, hq⟩ : ∃ q, l[p]? = some q := ⟨l[p]'(by rw [HL.out]; exact hlt), List.getElem?_eq_getElem _⟩
      have HIT : Hid (∀ W, Below w.heap.size w W → W.cell? ⟨b, o + p * 7, none⟩ = some (.int .i64 (q.1 : Int)) ∧ W.rangeAt b (o + p * 7 + 1) q.2.vals.toList) := fun W hW => found_rec (found_item (HR.out.below hW) p q hq)
      have HTN := Lib.hid (take_next hq)
      have hl6 : (l.take p).length ≤ 100000000 := by rw [List.length_take]; omega
      obtain ⟨m, hm⟩ : ∃ m, m = l.take p := ⟨_, rfl⟩
      rw [← hm] at HF0 HTN hl6
      clear hm hq
      have HF : Hid (Fd w 42 wr.drew u3 m) := HF0.out.all (Below.refl _ _).drew
      have HBR : Hid (Below w.heap.size w wr.drew) := HF.out.below
      have HONE := Lib.hid (one_cells wr.drew 42 (0, 0) q (fcells q).toArray rfl)
      have HBF := Lib.hid (built_ref q.1 q.2)
      have HBS := Lib.hid (slice_ref q.1 q.2)
      obtain ⟨fc, hfc⟩ : ∃ fc, fc = (fcells q).toArray := ⟨_, rfl⟩
      have hfc' : fc = (fcells (q.1, q.2)).toArray := hfc
      rw [← hfc] at HONE
      rw [← hfc'] at HBF HBS
      clear hfc hfc'
      go_upto_region 5 with fail
      refine wp_region_noPanic ?_
      refine wp_region_held_drew (S := fun W => Hid (Below w.heap.size w W)) (by kernel_rfl) HBR (fun h0 => ?_)
      refine held_take 0 (v := ?_) (d := (some 11)) rfl rfl (by kernel_rfl) (by kernel_rfl) (by kernel_rfl) (fun _ _ _ h => h) (Or.inl ⟨by rfl, ?_⟩) h0 ?_
      rotate_left
      · intro _ _; go_simp; (try with_reducible rfl)
      try simp only [Act.put, List.setIfInBounds_toArray, List.set_cons_zero, List.set_cons_succ]
      refine held_take 1 (v := ?_) (d := (some 12)) rfl rfl (by kernel_rfl) (by kernel_rfl) (by kernel_rfl) (fun _ _ _ h => h) (Or.inl ⟨by rfl, ?_⟩) h0 ?_
      rotate_left
      · intro _ _; go_simp; (try with_reducible rfl)
      try simp only [Act.put, List.setIfInBounds_toArray, List.set_cons_zero, List.set_cons_succ]
      refine held_take 2 (v := ?_) (d := (some 13)) rfl rfl (by kernel_rfl) (by kernel_rfl) (by kernel_rfl) (fun _ _ _ h => h) (Or.inl ⟨by rfl, ?_⟩) h0 ?_
      rotate_left
      · intro _ _; go_simp; (try with_reducible rfl)
      try simp only [Act.put, List.setIfInBounds_toArray, List.set_cons_zero, List.set_cons_succ]
      refine held_take 3 (v := ?_) (d := (some 14)) rfl rfl (by kernel_rfl) (by kernel_rfl) (by kernel_rfl) (fun _ _ _ h => h) (Or.inl ⟨by rfl, ?_⟩) h0 ?_
      rotate_left
      · intro _ _; go_simp; (try with_reducible rfl)
      try simp only [Act.put, List.setIfInBounds_toArray, List.set_cons_zero, List.set_cons_succ]
      refine held_take 4 (v := ?_) (d := (some 15)) rfl rfl (by kernel_rfl) (by kernel_rfl) (by kernel_rfl) (fun _ _ _ h => h) (Or.inl ⟨by rfl, ?_⟩) h0 ?_
      rotate_left
      · intro _ _; go_simp; (try with_reducible rfl)
      try simp only [Act.put, List.setIfInBounds_toArray, List.set_cons_zero, List.set_cons_succ]
      refine held_take 5 (v := .int .i64 (q.1 : Int)) (d := some 16) rfl rfl (by kernel_rfl) (by kernel_rfl) (by kernel_rfl) (fun _ _ _ h => h) (Or.inl ⟨by rfl, ?_⟩) h0 ?_
      · intro W hW; have hc := (HIT.out W hW.out).1; go_simp
      try simp only [Act.put, List.setIfInBounds_toArray, List.set_cons_zero, List.set_cons_succ]
      refine held_take 6 (v := ?_) (d := (some 17)) rfl rfl (by kernel_rfl) (by kernel_rfl) (by kernel_rfl) (fun _ _ _ h => h) (Or.inl ⟨by rfl, ?_⟩) h0 ?_
      rotate_left
      · intro _ _; go_simp; (try with_reducible rfl)
      try simp only [Act.put, List.setIfInBounds_toArray, List.set_cons_zero, List.set_cons_succ]
      refine held_take 7 (v := ?_) (d := (some 18)) rfl rfl (by kernel_rfl) (by kernel_rfl) (by kernel_rfl) (fun _ _ _ h => h) (Or.inl ⟨by rfl, ?_⟩) h0 ?_
      rotate_left
      · intro _ _; go_simp; (try with_reducible rfl)
      try simp only [Act.put, List.setIfInBounds_toArray, List.set_cons_zero, List.set_cons_succ]
      refine held_take 8 (v := ?_) (d := (some 19)) rfl rfl (by kernel_rfl) (by kernel_rfl) (by kernel_rfl) (fun _ _ _ h => h) (Or.inl ⟨by rfl, ?_⟩) h0 ?_
      rotate_left
      · intro _ _; go_simp; (try with_reducible rfl)
      try simp only [Act.put, List.setIfInBounds_toArray, List.set_cons_zero, List.set_cons_succ]
      refine held_take 9 (v := ?_) (d := (some 20)) rfl rfl (by kernel_rfl) (by kernel_rfl) (by kernel_rfl) (fun _ _ _ h => h) (Or.inl ⟨by rfl, ?_⟩) h0 ?_
      rotate_left
      · intro _ _; go_simp; (try with_reducible rfl)
      try simp only [Act.put, List.setIfInBounds_toArray, List.set_cons_zero, List.set_cons_succ]
      refine held_take 10 (v := .agg q.2.vals) (d := some 21) rfl rfl (by kernel_rfl) (by kernel_rfl) (by kernel_rfl) (fun _ _ _ h => h) (yieldsIf_load_mid (by rfl) 40 (.tmp 20) rfl b (o + p * 7 + 1) rfl q.2.vals.toList _ (fun W h => (HIT.out W h.out).2) Tryz.underlying40 rfl rec_info) h0 ?_
      try simp only [Act.put, List.setIfInBounds_toArray, List.set_cons_zero, List.set_cons_succ]
      refine held_take 11 (v := .agg fc) (d := some 22) rfl rfl (by kernel_rfl) (by kernel_rfl) (by kernel_rfl) (fun _ _ _ h => h) (Or.inl ⟨by rfl, fun W _ => run_build_found 42 (.tmp 16) (.tmp 21) rfl _ _ rfl rfl fc HBF.out⟩) h0 ?_
      try simp only [Act.put, List.setIfInBounds_toArray, List.set_cons_zero, List.set_cons_succ]
      refine wpAnyH_ready (rs := [12]) (by kernel_rfl) (by simp) (AllReadyH.cons rfl (fun K hK => ?_) AllReadyH.nil)
      rw [if_pos (by rfl)]
      refine wp_build_one 32 42 (.tmp 22) rfl (some 23) rfl Tryz.underlying32 (by decide) found_info (.agg fc) rfl fc HBS.out ?_
      have HF4 := Lib.hid (HF.out.all (below_alloc wr.drew (.cells fc 42)))
      have HB4 := Lib.hid (HBR.out.trans ((below_alloc wr.drew (.cells fc 42)).mono HBR.out.size))
      refine hK.out _ _ (HB4) (fun h1 => ?_)
      clear hK K
      try simp only [Act.put, List.setIfInBounds_toArray, List.set_cons_zero, List.set_cons_succ]
      refine wpAnyH_ready (rs := [13]) (by kernel_rfl) (by simp) (AllReadyH.cons rfl (fun K hK => ?_) AllReadyH.nil)
      rw [if_pos (by rfl)]
      refine wp_fd_append HF4.out 32 _ 64 Tryz.underlying32 found_info rfl (by omega) (some 24) rfl (.tmp 11) (.tmp 23) rfl rfl wr.drew.heap.size 1 q rfl HONE.out hl6 ?_
      intro v4 w4 HF5
      have HB5 := Lib.hid HF5.out.below
      refine hK.out _ _ (HB5) (fun h2 => ?_)
      clear hK K
      try simp only [Act.put, List.setIfInBounds_toArray, List.set_cons_zero, List.set_cons_succ]
      refine held_take 14 (v := ?_) (d := (some 3)) rfl rfl (by kernel_rfl) (by kernel_rfl) (by kernel_rfl) (fun _ _ _ h => h) (Or.inl ⟨by rfl, ?_⟩) h2 ?_
      rotate_left
      · intro _ _; go_simp; (try with_reducible rfl)
      try simp only [Act.put, List.setIfInBounds_toArray, List.set_cons_zero, List.set_cons_succ]
      refine wpAnyH_done (by kernel_rfl) ?_ _
      refine NoPanic.normal ?_
      go_wp2_with fail
      go_roundw
      case rel => exact ⟨p + 1, by go_num, by omega, by rw [← HTN.out]; exact HF5⟩
      case measure => (simp [RowKit.intOf]; omega)
    · obtain rfl : p = n := by omega
      have HE : Hid (l.take p = l) := List.take_of_length_le (by rw [HL.out]; exact Nat.le_refl _)
      go_wp2_with fail
      go_ret
      refine ⟨_, rfl, ?_⟩
      have h := HF0.out
      rw [HE.out] at h
      exact h
end Go.Proofs.YtkdnfikaodkhnaaGreatDoor.Rec
