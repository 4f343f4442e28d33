/-
  Texts one behind the other: ManIns, ManInsert.
-/
import Derived.Lib.AppendZerosOnto
import Derived.Lib.Overlaps
import Derived.Laws.CopyRow
import Derived.Laws.Externs
import Derived.Test.YtcmlchicpmnhdaaGreatDoorG14
/-
  Laws: copy of elements of several cells into a block that is known whole; append of zero values onto a full slice of such elements; two slices of two blocks don't overlap. Lists that grow by one in the middle.
-/
namespace Go.Proofs.YtcmlchicpmnhdaaGreatDoor.Man
open Go.RowKit Go.Proofs.YtcmlchicpmnhdaaGreatDoor.Rec Go.Proofs.YtcmlchicpmnhdaaGreatDoor.Ten
set_option linter.unusedVariables false
set_option linter.unusedSimpArgs false

/-- Cells of a list turned from a place on. -/
def spl (cur : Array Value) (o : Nat) (cs : List Value) : Array Value := (cur.toList.take o ++ cs ++ cur.toList.drop (o + cs.length)).toArray
theorem spl_size {cur : Array Value} {o : Nat} {cs : List Value} (h : o + cs.length ≤ cur.size) : (spl cur o cs).size = cur.size := by
  unfold spl
  rw [List.size_toArray, List.length_append, List.length_append, List.length_take, List.length_drop, Array.length_toList]
  omega
theorem spl_list (cur : Array Value) (o : Nat) (cs : List Value) : (spl cur o cs).toList = cur.toList.take o ++ cs ++ cur.toList.drop (o + cs.length) := by unfold spl; rw [List.toList_toArray]
theorem run_copyK {P : Program} (w : World) (dT sT ty elem : TypeId) (g o dLen dCap : Nat) (a : Addr) (sLen sCap k m : Nat) (cur : Array Value) (t : TypeId) (cs : List Value)
    (hu : P.underlying dT = some (.slice elem)) (hs : (P.info? elem).map (·.size) = some k) (hg : Blk w g t cur) (hm : Nat.min sLen dLen = m) (hn : cs.length = m * k)
    (hsrc : ∀ j v, cs[j]? = some v → w.cell? (a.add j) = some v) (hfit : o + cs.length ≤ cur.size) (h1 : ∀ v ∈ cs, v.oneCell' = true) :
    (Builtin.copy_ #[dT, sT] ty #[.slice (some ⟨g, o, none⟩) dLen dCap, .slice (some a) sLen sCap]).run P w = .ok (goInt m) (w.setRow g (spl cur o cs)) := by
  have hl := run_loadCells_list (P := P) w a cs hsrc
  have hst := run_storeCells_at P g o t cs 0 cur w hg (by simpa using hfit) h1
  simp only [Nat.add_zero] at hst
  rw [show (cur.toList.take o ++ cs ++ cur.toList.drop (o + cs.length)).toArray = spl cur o cs from rfl] at hst
  cases hq : P.info? elem with
  | none => simp [hq] at hs
  | some i =>
    have hi : i.size = k := by simpa [hq] using hs
    simp [Builtin.copy_, run_underlying hu, Builtin.lenOf, Builtin.firstCells, sizeOf, typeInfo, hq, hi, hm, ← hn, hl, hst]
section
variable {P : Program} {w : World} {ops : Array Oper} {rest : List Oper} {o : Oper} {a : Act} {Q : Exit → Act → World → Prop} {K : Act → World → Prop} {E : Prop}
theorem exec_copyK (d s : Operand) (dT sT : TypeId) (ho : o.op = .call { callee := .builtin .copy, args := #[d, s], argTypes := #[dT, sT] }) (elem : TypeId) (g p dLen dCap : Nat) (ad : Addr) (sLen sCap k m : Nat) (cur : Array Value) (t : TypeId) (cs : List Value)
    (hd : a.eval d = .slice (some ⟨g, p, none⟩) dLen dCap) (hx : a.eval s = .slice (some ad) sLen sCap)
    (hu : P.underlying dT = some (.slice elem)) (hs : (P.info? elem).map (·.size) = some k) (hg : Blk w g t cur) (hm : Nat.min sLen dLen = m) (hn : cs.length = m * k)
    (hsrc : ∀ j v, cs[j]? = some v → w.cell? (ad.add j) = some v) (hfit : p + cs.length ≤ cur.size) (h1 : ∀ v ∈ cs, v.oneCell' = true) :
    (execOp a.eval o).run P w = .ok (.value (goInt m)) (w.setRow g (spl cur p cs)) := by
  have hr := run_copyK w dT sT o.type elem g p dLen dCap ad sLen sCap k m cur t cs hu hs hg hm hn hsrc hfit h1
  unfold execOp
  simp only [ho, resolve, invoke, builtin, Sem.run_bind, Sem.run_pure, Result.andThen_ok, List.map_toArray, List.map_cons, List.map_nil, hd, hx, hr]
theorem list_copyK (hgd : o.guard = none) (d s : Operand) (dT sT : TypeId) (ho : o.op = .call { callee := .builtin .copy, args := #[d, s], argTypes := #[dT, sT] }) (elem : TypeId) (g p dLen dCap : Nat) (ad : Addr) (sLen sCap k m : Nat) (cur : Array Value) (t : TypeId) (cs : List Value)
    (hd : a.eval d = .slice (some ⟨g, p, none⟩) dLen dCap) (hx : a.eval s = .slice (some ad) sLen sCap)
    (hu : P.underlying dT = some (.slice elem)) (hs : (P.info? elem).map (·.size) = some k) (hg : Blk w g t cur) (hm : Nat.min sLen dLen = m) (hn : cs.length = m * k)
    (hsrc : ∀ j v, cs[j]? = some v → w.cell? (ad.add j) = some v) (hfit : p + cs.length ≤ cur.size) (h1 : ∀ v ∈ cs, v.oneCell' = true)
    (hk : ∀ w', Hid (Blk w' g t (spl cur p cs)) → Hid (w.grownBy w' (some g)) → wpList P ops Q rest (a.put o.dst (goInt m)) w') : wpList P ops Q (o :: rest) a w :=
  wpList_plain hgd fun K hK => by
    have hr := exec_copyK (P := P) (w := w) (a := a) d s dT sT ho elem g p dLen dCap ad sLen sCap k m cur t cs hd hx hu hs hg hm hn hsrc hfit h1
    unfold Oper.wp
    simp only [hr]
    exact hK _ _ (hk _ (setRow_heap w g cur (spl cur p cs) t (0, 0) hg) (only_setRow w g _))
theorem step_copyK {dd : Option Tmp} (hgd : o.guard = none) (hdd : o.dst = dd) (d s : Operand) (dT sT : TypeId) (ho : o.op = .call { callee := .builtin .copy, args := #[d, s], argTypes := #[dT, sT] }) (elem : TypeId) (g p dLen dCap : Nat) (ad : Addr) (sLen sCap k m : Nat) (cur : Array Value) (t : TypeId) (cs : List Value)
    (hd : a.eval d = .slice (some ⟨g, p, none⟩) dLen dCap) (hx : a.eval s = .slice (some ad) sLen sCap)
    (hu : P.underlying dT = some (.slice elem)) (hs : (P.info? elem).map (·.size) = some k) (hg : Blk w g t cur) (hm : Nat.min sLen dLen = m) (hn : cs.length = m * k)
    (hsrc : ∀ j v, cs[j]? = some v → w.cell? (ad.add j) = some v) (hfit : p + cs.length ≤ cur.size) (h1 : ∀ v ∈ cs, v.oneCell' = true)
    (hk : ∀ w', Hid (Blk w' g t (spl cur p cs)) → Hid (w.grownBy w' (some g)) → K (a.put dd (goInt m)) w') : if Region.wanted o (yielded ops a.tmps) = true then Oper.wp P o a w K Q else E := by
  have hw : Region.wanted o (yielded ops a.tmps) = true := by simp [Region.wanted, hgd]
  rw [if_pos hw]
  subst hdd
  have hr := exec_copyK (P := P) (w := w) (a := a) d s dT sT ho elem g p dLen dCap ad sLen sCap k m cur t cs hd hx hu hs hg hm hn hsrc hfit h1
  unfold Oper.wp
  simp only [hr]
  exact hk _ (setRow_heap w g cur (spl cur p cs) t (0, 0) hg) (only_setRow w g _)
end
/-- Shifted, then put: what stands there. -/
theorem spl_shift {cur : Array Value} {p q : Nat} {X D : List Value} (hX : X.length = q) (hfit : p + q + D.length ≤ cur.size) : ((spl (spl cur (p + q) D) p X).toList).take (p + q + D.length) = cur.toList.take p ++ X ++ D := by
  have hc : (cur.toList.take (p + q)).length = p + q := by rw [List.length_take, Array.length_toList]; omega
  rw [spl_list, spl_list, hX]
  have e1 : (cur.toList.take (p + q) ++ D ++ cur.toList.drop (p + q + D.length)).take p = cur.toList.take p := by
    rw [List.append_assoc, List.take_append_of_le_length (by omega), List.take_take, Nat.min_eq_left (by omega)]
  have e2 : (cur.toList.take (p + q) ++ D ++ cur.toList.drop (p + q + D.length)).drop (p + q) = D ++ cur.toList.drop (p + q + D.length) := by
    rw [List.append_assoc, List.drop_append_of_le_length (by omega), List.drop_of_length_le (by omega), List.nil_append]
  rw [e1, e2, ← List.append_assoc, List.take_append_of_le_length (by simp only [List.length_append, List.length_take, Array.length_toList, hX]; omega)]
  rw [List.take_of_length_le]
  simp only [List.length_append, List.length_take, Array.length_toList, hX]
  omega
/-- Put, then what comes behind. -/
theorem spl_behind {cur : Array Value} {p q : Nat} {X D : List Value} (hX : X.length = q) (hfit : p + q + D.length ≤ cur.size) : ((spl (spl cur p X) (p + q) D).toList).take (p + q + D.length) = cur.toList.take p ++ X ++ D := by
  have hc : (cur.toList.take p).length = p := by rw [List.length_take, Array.length_toList]; omega
  rw [spl_list, spl_list, hX]
  have e1 : (cur.toList.take p ++ X ++ cur.toList.drop (p + q)).take (p + q) = cur.toList.take p ++ X := by
    rw [List.take_append_of_le_length (by rw [List.length_append]; omega), List.take_of_length_le (by rw [List.length_append]; omega)]
  rw [e1, List.take_append_of_le_length (by simp only [List.length_append]; omega), List.take_of_length_le (by simp only [List.length_append]; omega)]
theorem tflat_take (l : List Tv) (i : Nat) (hi : i ≤ l.length) : (tflat l).take (i * 6) = tflat (l.take i) := by
  have e : l = l.take i ++ l.drop i := (List.take_append_drop i l).symm
  conv => lhs; rw [e]
  unfold tflat
  rw [List.flatMap_append]
  have hl := tflat_length (l.take i)
  unfold tflat at hl
  rw [List.length_take, Nat.min_eq_left hi] at hl
  rw [List.take_append_of_le_length (by omega), List.take_of_length_le (by omega)]
theorem tflat_drop (l : List Tv) (i : Nat) (hi : i ≤ l.length) : (tflat l).drop (i * 6) = tflat (l.drop i) := by
  have e : l = l.take i ++ l.drop i := (List.take_append_drop i l).symm
  conv => lhs; rw [e]
  unfold tflat
  rw [List.flatMap_append]
  have hl := tflat_length (l.take i)
  unfold tflat at hl
  rw [List.length_take, Nat.min_eq_left hi] at hl
  rw [List.drop_append_of_le_length (by omega), List.drop_of_length_le (by omega), List.nil_append]
theorem tflat_ins (l : List Tv) (i : Nat) (x : Tv) : tflat (l.take i) ++ x.vals.toList ++ tflat (l.drop i) = tflat (l.take i ++ x :: l.drop i) := by
  unfold tflat
  rw [List.flatMap_append, List.flatMap_cons, List.append_assoc]
theorem tflat_one (l : List Tv) : ∀ u ∈ tflat l, u.oneCell' = true := by
  intro u hu
  unfold tflat at hu
  obtain ⟨x, _, hx⟩ := List.mem_flatMap.1 hu
  exact tcells_one x u hx
/-- The shape of a block that is known whole. -/
theorem blk_shape {w : World} {g : Nat} {t : TypeId} {cs : Array Value} (h : Blk w g t cs) : w.shape? g = some (t, cs.size) := by
  unfold Blk at h
  simp [World.shape?, h]
theorem ten_sizeOf (w : World) : (Go.sizeOf 35).run Tryz.prog w = .ok 6 w := by
  obtain ⟨i, hi, h⟩ := Option.map_eq_some_iff.1 ten_size
  simp [sizeOf, typeInfo, hi, h]
theorem run_apart {w : World} {nb g p : Nat} {t : TypeId} {cur : Array Value} {x : Tv} (lb cb : Nat) (hx : TenAt w nb x) (hg : Blk w g t cur) (hne : nb ≠ g) (hc : cur.size ≠ 0) :
    (callFunc 53 #[.slice (some ⟨nb, 0, none⟩) 1 1, .slice (some ⟨g, p, none⟩) lb cb]).run Tryz.prog w = .ok (.value (.bool false)) w := by
  rw [run_callFunc_extern Tryz.func53 (by kernel_rfl) (by kernel_rfl) (by kernel_rfl) (e := Extern.SlicesOverlaps.overlaps #[22, 22] #[4]) (by kernel_rfl),
    Lib.run_overlaps_apart w 22 4 35 Tryz.underlying22 6 ten_sizeOf ⟨nb, 0, none⟩ ⟨g, p, none⟩ 1 1 lb cb hne 35 t x.vals.size cur.size (blk_shape hx) (blk_shape hg) hc (Blk.free hx 0) (Blk.free hx _)]
  rfl
end Go.Proofs.YtcmlchicpmnhdaaGreatDoor.Man
/-
  Proved: what slices.Insert of one tenant into a row of the call's own returns: a row of the call's own that has it in its place.
-/
namespace Go.Proofs.YtcmlchicpmnhdaaGreatDoor.Man
open Go.RowKit Go.Proofs.YtcmlchicpmnhdaaGreatDoor.Rec Go.Proofs.YtcmlchicpmnhdaaGreatDoor.Ten
set_option linter.unusedVariables false
set_option linter.unusedSimpArgs false

theorem end_list {l : List Tv} {n : Nat} {x : Tv} (h : l.length = n) : l.take n ++ x :: l.drop n = l ++ [x] := by rw [List.take_of_length_le (Nat.le_of_eq h), List.drop_of_length_le (Nat.le_of_eq h)]
/-- What Insert has made. -/
def Inserted (w0 w : World) (v : Value) (n i : Nat) (l : List Tv) (x : Tv) (e : Ending) (w' : World) : Prop :=
  ∃ v', e = .returned v' ∧ w'.ownsRow w0.heap.size 35 6 v' (n + 1) (tflat (l.take i ++ x :: l.drop i)) ∧ w.grownBy w' v.ownBlock
set_option maxRecDepth 100000 in
set_option maxHeartbeats 8000000 in
theorem insert_end {w0 w : World} {A : Option Addr} {n c nb : Nat} {l : List Tv} {x : Tv} (h : TenOwn w0 w (.slice A n c) l) (hln : l.length = n) (hx : TenAt w nb x) (hn : n ≤ 1000) :
    Calls Tryz.prog 26 #[.slice A n c, .int .i64 (n : Int), .slice (some ⟨nb, 0, none⟩) 1 1] w (Inserted w0 w (.slice A n c) n n l x) := by
  have H := Lib.hid h
  obtain ⟨A', c', e, h1, h2, _⟩ := h.form
  injection e with e1 e2 e3
  subst e1 e3
  have hcm : c ≤ 9223372036854775807 := by unfold maxLen at h2; exact h2
  have HX : Hid (∀ j u, x.vals.toList[j]? = some u → w.cell? ⟨nb, j, none⟩ = some u) := Lib.hid fun j u hu => by rw [Blk.cell hx j, ← Array.getElem?_toList]; exact hu
  have hll : l.length ≤ 1000000 := by omega
  have HL := Lib.hid hln
  have hnc : n ≤ c := by omega
  clear h h1 h2 e2 hx hln
  by_cases hcn : c = n
  · subst hcn
    go_enter Tryz.func26, Tryz.ntmps26
    go_wp2_with (at_builtin; refine tens_append H.out rfl (.tmp 23) (.tmp 24) rfl rfl nb 1 x rfl HX.out hll ?_; intro v4 w4 H4 G4)
    go_ret
    refine ⟨v4, rfl, ?_, G4.out⟩
    rw [end_list HL.out]
    have := H4.out
    rwa [List.length_append, List.length_singleton, HL.out] at this
  · skip
    go_enter Tryz.func26, Tryz.ntmps26
    go_wp2_with (at_builtin; refine tens_append H.out rfl (.tmp 23) (.tmp 24) rfl rfl nb 1 x rfl HX.out hll ?_; intro v4 w4 H4 G4)
    go_ret
    refine ⟨v4, rfl, ?_, G4.out⟩
    rw [end_list HL.out]
    have := H4.out
    rwa [List.length_append, List.length_singleton, HL.out] at this
set_option maxRecDepth 100000 in
set_option maxHeartbeats 8000000 in
theorem insert_room {w0 w : World} {g n c nb i : Nat} {cur : Array Value} {l : List Tv} {x : Tv} (hg : Blk w g 35 cur) (h0 : w0.heap.size ≤ g) (hcs : cur.size = c * 6) (hcur : cur.toList.take (n * 6) = tflat l) (hcm0 : c ≤ maxLen) (hln : l.length = n) (hi : i < n) (hx : TenAt w nb x) (hnb : nb ≠ g) (hn : n ≤ 1000) (hroom : n + 1 ≤ c) :
    Calls Tryz.prog 26 #[.slice (some ⟨g, 0, none⟩) n c, .int .i64 (i : Int), .slice (some ⟨nb, 0, none⟩) 1 1] w (Inserted w0 w (.slice (some ⟨g, 0, none⟩) n c) n i l x) := by
  have hcm : c ≤ 9223372036854775807 := by unfold maxLen at hcm0; exact hcm0
  have HG := Lib.hid hg
  have HX := Lib.hid hx
  have hov : ∀ p lb cb, (callFunc 53 #[.slice (some ⟨nb, 0, none⟩) 1 1, .slice (some ⟨g, p, none⟩) lb cb]).run Tryz.prog w = .ok (.value (.bool false)) w := fun p lb cb => run_apart lb cb hx hg hnb (by omega)
  obtain ⟨n1, hn1⟩ : ∃ n1, n1 = n + 1 := ⟨_, rfl⟩
  obtain ⟨i1, hi1⟩ : ∃ i1, i1 = i + 1 := ⟨_, rfl⟩
  have q1 : (n : Int) + 1 = (n1 : Int) := by omega
  have q2 : (i : Int) + 1 = (i1 : Int) := by omega
  have q3 : IntKind.i64.wrap (i1 : Int) = (i1 : Int) := by rw [IntKind.wrap_i64]; omega
  have q4 : ¬ (i : Int) = (n : Int) := by omega
  have q5 : ((i : Int) == (n : Int)) = false := beq_eq_false_iff_ne.2 q4
  have q6 : ¬ (c : Int) < (n1 : Int) := by omega
  have q7 : ¬ c = i1 := by omega
  have q8 : ¬ c = i := by omega
  have q9 : i1 ≤ n1 := by omega
  have q10 : i ≤ n := by omega
  have q11 : n1 ≤ c := by omega
  have q12 : i ≤ n1 := by omega
  obtain ⟨D, hD⟩ : ∃ D, D = tflat (l.drop i) := ⟨_, rfl⟩
  have hDl : D.length = (n - i) * 6 := by rw [hD, tflat_length, List.length_drop, hln]
  have HD := Lib.hid hD
  have HDL := Lib.hid hDl
  have H1 : Hid (∀ W : World, (∀ y, W.cell? y = w.cell? y) → ∀ j v, D[j]? = some v → W.cell? ((⟨g, i * 6, none⟩ : Addr).add j) = some v) := Lib.hid fun W hW j v hj => by
    rw [hW, Addr.add_lit, Blk.cell hg, ← Array.getElem?_toList]
    have hjl : j < D.length := (List.getElem?_eq_some_iff.1 hj).1
    have e : (cur.toList.take (n * 6))[i * 6 + j]? = some v := by rw [hcur]; rw [hD, ← tflat_drop l i (by omega), List.getElem?_drop] at hj; exact hj
    rw [List.getElem?_take] at e
    split at e
    · exact e
    · cases e
  have HM1 : Hid (Nat.min (n1 - i) (n1 - i1) = n - i) := Lib.hid (by show min (n1 - i) (n1 - i1) = n - i; omega)
  have HM2 : Hid (Nat.min 1 (n1 - i) = 1) := Lib.hid (by show min 1 (n1 - i) = 1; omega)
  have HFIT : Hid (i1 * 6 + D.length ≤ cur.size) := Lib.hid (by rw [hDl, hcs]; omega)
  have HFIT2 : Hid (i * 6 + x.vals.toList.length ≤ (spl cur (i1 * 6) D).size) := Lib.hid (by rw [spl_size HFIT.out, tcells_length, hcs]; omega)
  have HD1 : Hid (∀ u ∈ D, u.oneCell' = true) := Lib.hid (by rw [hD]; exact tflat_one _)
  have HE : Hid (∀ B : Array Value, B = spl (spl cur (i1 * 6) D) (i * 6) x.vals.toList → B.size = c * 6 ∧ B.toList.take ((n + 1) * 6) = tflat (l.take i ++ x :: l.drop i)) := Lib.hid fun B hB => by
    subst hB
    refine ⟨by rw [spl_size HFIT2.out, spl_size HFIT.out, hcs], ?_⟩
    have e := spl_shift (cur := cur) (p := i * 6) (q := 6) (X := x.vals.toList) (D := D) (tcells_length x) (by rw [hDl, hcs]; omega)
    rw [show i * 6 + 6 = i1 * 6 by omega, show i1 * 6 + D.length = (n + 1) * 6 by rw [hDl]; omega] at e
    rw [e, ← tflat_ins, hD, ← tflat_take l i (by omega), ← hcur, List.take_take, Nat.min_eq_left (by omega)]
  have HNB : Hid (nb ≠ g) := Lib.hid hnb
  have HN1 := Lib.hid hn1
  have HCM := Lib.hid hcm0
  have H0 := Lib.hid h0
  have HTL : Hid ((tflat (l.take i ++ x :: l.drop i)).length = (n + 1) * 6) := Lib.hid (by rw [tflat_length, List.length_append, List.length_cons, List.length_take, List.length_drop, hln]; omega)
  clear hg hx hn1 hi1 hcm0 hD hDl hcs hcur hln hnb h0 hroom
  go_enter Tryz.func26, Tryz.ntmps26
  go_wp2_with (simp only [hov])
  go_region_law (refine step_copyK (dd := some 77) rfl rfl (.tmp 73) (.tmp 76) 22 22 rfl 35 g (i1 * 6) (n1 - i1) (c - i1) ⟨g, i * 6, none⟩ (n1 - i) (c - i) 6 (n - i) cur 35 D (by simp [Act.eval, Act.put]) (by simp [Act.eval, Act.put]) Tryz.underlying22 ten_size (show Blk w.drew g _ cur from HG.out) HM1.out HDL.out (H1.out w.drew (fun _ => rfl)) HFIT.out HD1.out ?_; intro w4 B4 G4)
  all_goals
    have X4 : Hid (TenAt w4 nb x) := TenAt.kept (show TenAt w.drew nb x from HX.out) G4.out (by have := HNB.out; simp; omega)
    have HX4 : Hid (∀ j u, x.vals.toList[j]? = some u → w4.cell? ((⟨nb, 0, none⟩ : Addr).add j) = some u) := Lib.hid fun j u hu => by rw [Addr.add_lit, Nat.zero_add, Blk.cell X4.out j, ← Array.getElem?_toList]; exact hu
    clear hov
    go_wp2_with (refine list_copyK rfl (.tmp 80) (.tmp 81) 22 22 rfl 35 g (i * 6) (n1 - i) (c - i) ⟨nb, 0, none⟩ 1 1 6 1 _ 35 x.vals.toList rfl rfl Tryz.underlying22 ten_size B4.out HM2.out (tcells_length x) HX4.out HFIT2.out (tcells_one x) ?_; intro w5 B5 G5)
    go_ret
    obtain ⟨k1, k2⟩ := HE.out _ rfl
    refine ⟨_, rfl, ⟨HTL.out, .inr ⟨g, c, _, by rw [HN1.out]; rfl, H0.out, B5.out, by have := HN1.out; omega, HCM.out, k1, k2⟩⟩, ?_⟩
    exact only_trans (only_trans (World.grownBy.refl w _) (show w.grownBy w4 (some g) from ⟨G4.out.os, G4.out.tape, G4.out.output, G4.out.size, G4.out.block⟩)) G5.out
/-- append of zero values onto a front of such a row that has no room: a new row. -/
theorem grow_zeros {w : World} {g n c i K n1 : Nat} {cur : Array Value} {l : List Tv} (hg : Blk w g 35 cur) (hcs : cur.size = c * 6) (hcur : cur.toList.take (n * 6) = tflat l) (hln : l.length = n) (hi : i < n) (hnc : n ≤ c) (hn : n ≤ 1000) (hroom : c < n1) (hn1 : n1 = n + 1) (hK : i + K = n1) (ty : TypeId) :
    ∃ (G : Nat) (B : Array Value), (Builtin.append_ #[22, 3] ty #[.slice (some ⟨g, 0, none⟩) i c, .int .i64 (K : Int)]).run Tryz.prog w = .ok (.slice (some ⟨w.heap.size, 0, none⟩) n1 G) (w.drew.alloc (.cells B 35)) ∧ B.size = G * 6 ∧ B.toList.take (i * 6) = tflat (l.take i) ∧ n1 ≤ G ∧ G ≤ maxLen := by
  obtain ⟨t, hti, hzz⟩ := Option.map_eq_some_iff.1 ten_zeros
  simp only [Prod.mk.injEq] at hzz
  obtain ⟨hz0, hs1, hb1⟩ := hzz
  have hol : (tflat (l.take i)).length = i * 6 := by rw [tflat_length, List.length_take, hln, Nat.min_eq_left (by omega)]
  have hold : (Builtin.firstCells t.size i (.slice (some ⟨g, 0, none⟩) i c)).run Tryz.prog w.drew = .ok (tflat (l.take i)).toArray w.drew := by
    rw [hs1]
    refine run_firstCells_some w.drew 6 i ⟨g, 0, none⟩ i c (tflat (l.take i)) hol fun j v hj => ?_
    rw [Addr.add_lit, Nat.zero_add]
    show w.cell? ⟨g, j, none⟩ = some v
    rw [Blk.cell hg, ← Array.getElem?_toList]
    rw [← tflat_take l i (by omega), ← hcur, List.take_take, Nat.min_eq_left (by omega), List.getElem?_take] at hj
    split at hj
    · exact hj
    · cases hj
  have h := Lib.run_append_grow_zeros w 22 3 ty 35 t _ .i64 .i64 Tryz.underlying22 Tryz.underlying3 hti hz0 (some ⟨g, 0, none⟩) i c (tflat (l.take i)) hold K (by omega) (by omega) (by omega) (by omega) (by rw [hb1]; omega) (by rw [hb1, hK]; exact growslice_fits hroom (by omega))
  rw [hK] at h
  have hge := grownCap_ge w n1 c 35
  refine ⟨_, _, h, ?_, ?_, hge, grownCap_le_maxLen w n1 c 35 (by unfold maxLen; omega)⟩
  · simp only [Array.size_append, List.size_toArray, size_zeroCells, hol]
    show i * 6 + K * 6 + (grownCap w n1 c 35 - n1) * 6 = _
    omega
  · rw [Array.toList_append, Array.toList_append, List.append_assoc, List.take_append_of_le_length (by rw [List.toList_toArray]; omega), List.toList_toArray, List.take_of_length_le (by omega)]
set_option maxRecDepth 100000 in
set_option maxHeartbeats 8000000 in
theorem insert_grow {w0 w : World} {g n c nb i : Nat} {cur : Array Value} {l : List Tv} {x : Tv} (hg : Blk w g 35 cur) (h0 : w0.heap.size ≤ w.heap.size) (hcs : cur.size = c * 6) (hcur : cur.toList.take (n * 6) = tflat l) (hcm0 : c ≤ maxLen) (hln : l.length = n) (hi : i < n) (hx : TenAt w nb x) (hn : n ≤ 1000) (hnc : n ≤ c) (hroom : c < n + 1) :
    Calls Tryz.prog 26 #[.slice (some ⟨g, 0, none⟩) n c, .int .i64 (i : Int), .slice (some ⟨nb, 0, none⟩) 1 1] w (Inserted w0 w (.slice (some ⟨g, 0, none⟩) n c) n i l x) := by
  have hcm : c ≤ 9223372036854775807 := by unfold maxLen at hcm0; exact hcm0
  have HG := Lib.hid hg
  have HX := Lib.hid hx
  obtain ⟨n1, hn1⟩ : ∃ n1, n1 = n + 1 := ⟨_, rfl⟩
  obtain ⟨i1, hi1⟩ : ∃ i1, i1 = i + 1 := ⟨_, rfl⟩
  obtain ⟨K, hK⟩ : ∃ K, K = n1 - i := ⟨_, rfl⟩
  have HZ := fun ty => grow_zeros hg hcs hcur hln hi hnc hn (by omega) hn1 (show i + K = n1 by omega) ty
  obtain ⟨G, B, hz0, hz1, hz2, hz3, hz4⟩ := HZ 0
  have hz : ∀ ty, (Builtin.append_ #[22, 3] ty #[.slice (some ⟨g, 0, none⟩) i c, .int .i64 (K : Int)]).run Tryz.prog w = .ok (.slice (some ⟨w.heap.size, 0, none⟩) n1 G) (w.drew.alloc (.cells B 35)) := fun ty => hz0
  have HZZ := Lib.hid hz
  obtain ⟨w1, hw1⟩ : ∃ w1, w1 = w.drew.alloc (.cells B 35) := ⟨_, rfl⟩
  obtain ⟨gn, hgn⟩ : ∃ gn, gn = w.heap.size := ⟨_, rfl⟩
  rw [← hw1, ← hgn] at HZZ
  have BN : Hid (Blk w1 gn 35 B) := by rw [hw1, hgn]; exact Blk.new w.drew _ _
  have BB : Hid (Below w.heap.size w w1) := by rw [hw1]; exact (Below.refl _ _).drew.alloc (Nat.le_refl _) _
  have q1 : (n : Int) + 1 = (n1 : Int) := by omega
  have q2 : (i : Int) + 1 = (i1 : Int) := by omega
  have q3 : (n1 : Int) - (i : Int) = (K : Int) := by omega
  have q4 : ¬ (i : Int) = (n : Int) := by omega
  have q5 : ((i : Int) == (n : Int)) = false := beq_eq_false_iff_ne.2 q4
  have q6 : (c : Int) < (n1 : Int) := by omega
  have q7 : ¬ G = i1 := by omega
  have q8 : ¬ c = i := by omega
  have q9 : i1 ≤ n1 := by omega
  have q10 : i ≤ n := by omega
  have q11 : n1 ≤ G := hz3
  have q12 : i ≤ n1 := by omega
  have q13 : ¬ G = i := by omega
  have q14 : i ≤ c := by omega
  have hgm : G ≤ 9223372036854775807 := by unfold maxLen at hz4; exact hz4
  have q15 : IntKind.i64.wrap (i1 : Int) = (i1 : Int) := by rw [IntKind.wrap_i64]; omega
  obtain ⟨D, hD⟩ : ∃ D, D = tflat (l.drop i) := ⟨_, rfl⟩
  have hDl : D.length = (n - i) * 6 := by rw [hD, tflat_length, List.length_drop, hln]
  have HDL := Lib.hid hDl
  have hgw := blk_lt hg
  have HGN : Hid (g < gn) := Lib.hid (by rw [hgn]; exact hgw)
  have H1 : Hid (∀ W : World, (∀ j, W.cell? ⟨g, j, none⟩ = w.cell? ⟨g, j, none⟩) → ∀ j v, D[j]? = some v → W.cell? ((⟨g, i * 6, none⟩ : Addr).add j) = some v) := Lib.hid fun W hW j v hj => by
    rw [Addr.add_lit, hW, Blk.cell hg, ← Array.getElem?_toList]
    have e : (cur.toList.take (n * 6))[i * 6 + j]? = some v := by rw [hcur]; rw [hD, ← tflat_drop l i (by omega), List.getElem?_drop] at hj; exact hj
    rw [List.getElem?_take] at e
    split at e
    · exact e
    · cases e
  have HM1 : Hid (Nat.min (n - i) (n1 - i1) = n - i) := Lib.hid (by show min (n - i) (n1 - i1) = n - i; omega)
  have HM2 : Hid (Nat.min 1 (n1 - i) = 1) := Lib.hid (by show min 1 (n1 - i) = 1; omega)
  have HFIT : Hid (i * 6 + x.vals.toList.length ≤ B.size) := Lib.hid (by rw [tcells_length, hz1]; omega)
  have HFIT2 : Hid (i1 * 6 + D.length ≤ (spl B (i * 6) x.vals.toList).size) := Lib.hid (by rw [spl_size HFIT.out, hDl, hz1]; omega)
  have HD1 : Hid (∀ u ∈ D, u.oneCell' = true) := Lib.hid (by rw [hD]; exact tflat_one _)
  have HE : Hid (∀ B' : Array Value, B' = spl (spl B (i * 6) x.vals.toList) (i1 * 6) D → B'.size = G * 6 ∧ B'.toList.take ((n + 1) * 6) = tflat (l.take i ++ x :: l.drop i)) := Lib.hid fun B' hB => by
    subst hB
    refine ⟨by rw [spl_size HFIT2.out, spl_size HFIT.out, hz1], ?_⟩
    have e := spl_behind (cur := B) (p := i * 6) (q := 6) (X := x.vals.toList) (D := D) (tcells_length x) (by rw [hDl, hz1]; omega)
    rw [show i * 6 + 6 = i1 * 6 by omega, show i1 * 6 + D.length = (n + 1) * 6 by rw [hDl]; omega] at e
    rw [e, ← tflat_ins, hD, hz2]
  have HN1 := Lib.hid hn1
  have HCM := Lib.hid hz4
  have H0 : Hid (w0.heap.size ≤ gn) := Lib.hid (by rw [hgn]; exact h0)
  have HGE : Hid (w.heap.size ≤ gn) := Lib.hid (Nat.le_of_eq hgn.symm)
  have HTL : Hid ((tflat (l.take i ++ x :: l.drop i)).length = (n + 1) * 6) := Lib.hid (by rw [tflat_length, List.length_append, List.length_cons, List.length_take, List.length_drop, hln]; omega)
  have HXN : Hid (nb < w.heap.size) := Lib.hid hx.lt
  have X1 : Hid (∀ j u, x.vals.toList[j]? = some u → w1.cell? ((⟨nb, 0, none⟩ : Addr).add j) = some u) := Lib.hid fun j u hu => by
    have := blk_below HX.out BB.out HXN.out
    rw [Addr.add_lit, Nat.zero_add, Blk.cell this j, ← Array.getElem?_toList]
    exact hu
  have HW1 := Lib.hid hw1
  clear hg hx hn1 hi1 hcm0 hD hDl hcs hcur hln h0 hroom hK HZ hz0 hz hz1 hz2 hz3 hz4 hw1 hgn hgw
  go_enter Tryz.func26, Tryz.ntmps26
  go_wp2_with (first
    | (at_builtin; refine Lib.wpList_append_run _ rfl (.tmp 34) (.tmp 39) 22 3 rfl _ _ rfl rfl _ _ (HZZ.out _) ?_)
    | (refine list_copyK rfl (.tmp 43) (.tmp 44) 22 22 rfl 35 gn (i * 6) (n1 - i) (G - i) ⟨nb, 0, none⟩ 1 1 6 1 B 35 x.vals.toList rfl rfl Tryz.underlying22 ten_size BN.out HM2.out (tcells_length x) X1.out HFIT.out (tcells_one x) ?_; intro w4 B4 G4))
  have H4 : Hid (∀ j, w4.drew.cell? ⟨g, j, none⟩ = w.cell? ⟨g, j, none⟩) := Lib.hid fun j => by
    have hgw : g < w.heap.size := blk_lt HG.out
    have hgl := HGN.out
    have e1 : w4.heap[g]? = w1.heap[g]? := G4.out.block g (Nat.lt_of_lt_of_le hgw BB.out.size) (by simp; omega)
    exact World.cell?_of_block (a := ⟨g, j, none⟩) (e1.trans (BB.out.block g hgw))
  go_region_law (refine step_copyK (dd := some 54) rfl rfl (.tmp 50) (.tmp 53) 22 22 rfl 35 gn (i1 * 6) (n1 - i1) (G - i1) ⟨g, i * 6, none⟩ (n - i) (c - i) 6 (n - i) (spl B (i * 6) x.vals.toList) 35 D (by simp [Act.eval, Act.put]) (by simp [Act.eval, Act.put]) Tryz.underlying22 ten_size (show Blk w4.drew gn _ _ from B4.out) HM1.out HDL.out (H1.out w4.drew H4.out) HFIT2.out HD1.out ?_; intro w5 B5 G5)
  all_goals
    go_wp2_with fail
    go_ret
    obtain ⟨k1, k2⟩ := HE.out _ rfl
    refine ⟨_, rfl, ⟨HTL.out, .inr ⟨gn, G, _, by rw [HN1.out]; rfl, H0.out, B5.out, by have := HN1.out; omega, HCM.out, k1, k2⟩⟩, ?_⟩
    have b1 := BB.out
    have b2 : w.grownBy w1 (Value.slice (some ⟨g, 0, none⟩) n c).ownBlock := ⟨b1.os, b1.tape, b1.output, b1.size, fun k hk _ => b1.block k hk⟩
    have b3 : w.grownBy w4 (Value.slice (some ⟨g, 0, none⟩) n c).ownBlock := only_new b2 HGE.out G4.out
    exact only_new (only_drewN b3 1) HGE.out G5.out
end Go.Proofs.YtcmlchicpmnhdaaGreatDoor.Man
