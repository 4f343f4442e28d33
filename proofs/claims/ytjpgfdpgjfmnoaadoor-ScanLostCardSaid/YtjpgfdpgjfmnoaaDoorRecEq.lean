/-
  Proved: what Eq of two records, sumOf and Cut of a record return.
  Conditions: numbers and texts are those of values.
-/
import Derived.Test.YtjpgfdpgjfmnoaaDoorRecBegins
import Derived.Test.YtjpgfdpgjfmnoaaDoorAgg
import Derived.Deep.DeepCutAuto
import Derived.Deep.RegionLaw
namespace Go.Proofs.YtjpgfdpgjfmnoaaDoor.Rec
open Go.RowKit
set_option linter.unusedVariables false
set_option linter.unusedSimpArgs false
open Go.Proofs.YtjpgfdpgjfmnoaaDoor.Crc (Turned)

/-- The same record? -/
instance : DecidableEq Rc := fun a b => by
  cases a; cases b
  rw [Rc.mk.injEq]
  exact inferInstance
theorem sumOf_any (A C : Option Addr) (n c m d : Nat) (fs bs : List UInt8) (w : World) (hT : Turned w) (hA : Row w w.heap.size A n (bvs fs)) (hB : Row w w.heap.size C m (bvs bs)) (hn : n ≤ maxLen) (hm : m ≤ maxLen) :
    Calls Tryd.prog 32 #[.slice A n c, .slice C m d] w fun e w' => e = .returned (.int .u32 ((Crc.sum (fs ++ bs)).toNat : Int)) ∧ w' = w := by
  go_enter Tryd.func32, Tryd.ntmps32
  go_wp2_with (first
    | (go_at_call 36; refine (Crc.sum_any A n c fs _ hT hA hn).mono ?_; rintro e w' ⟨rfl, rfl⟩)
    | (go_at_call 35; refine (Crc.more_any (Crc.sum fs) C m d bs _ hT hB hm).mono ?_; rw [Crc.more_sum]; rintro e w' ⟨rfl, rfl⟩))
  go_ret
  exact ⟨rfl, rfl⟩
theorem cutText_any (s : ByteArray) (m : Nat) (w : World) (hs : s.size ≤ maxLen) (hm : m ≤ maxLen) :
    Calls Tryd.prog 25 #[.string s, .int .i64 (m : Int)] w fun e w' => e = .returned (.string (if m < s.size then s.extract 0 m else s)) ∧ w' = w := by
  unfold maxLen at hs hm
  by_cases h : m < s.size
  · rw [if_pos h]
    have h' : (m : Int) < (s.size : Int) := by omega
    go_enter Tryd.func25, Tryd.ntmps25
    go_wp2
    go_ret
    exact ⟨rfl, rfl⟩
  · rw [if_neg h]
    have h' : ¬ (m : Int) < (s.size : Int) := by omega
    go_enter Tryd.func25, Tryd.ntmps25
    go_wp2
    go_ret
    exact ⟨rfl, rfl⟩
theorem cut_str (l : List UInt8) (m : Nat) : (if m < (str l).size then (str l).extract 0 m else str l) = str (l.take m) := by
  rw [str_size]
  split
  · apply ByteArray.ext
    apply Array.ext'
    simp [str]
  · rw [List.take_of_length_le (by omega)]
def Rc.cut (x : Rc) (m : Nat) : Rc := { x with body := x.body.take m }
theorem zeroRec (w : World) : (zeroValue 32).run Tryd.prog w = .ok (.agg #[.int .i64 0, .int .u32 0, .int .u64 0, .int .u64 0, .int .u64 0, .string ⟨#[]⟩]) w := by kernel_rfl
theorem rec_info : (Tryd.prog.info? 32).map (·.size) = some 6 := by kernel_rfl
theorem Rc.vals_size (x : Rc) : x.vals.size = 6 := rfl
theorem Rc.vals_one (x : Rc) : x.vals.all (·.oneCell') = true := by simp [Rc.vals, Value.oneCell']
/-- A block that holds a record. -/
def RecAt (w : World) (g : Nat) (x : Rc) : Prop := Blk w g 32 x.vals
theorem blk_lt {w : World} {g : Nat} {t : TypeId} {cs : Array Value} (h : Blk w g t cs) : g < w.heap.size := by
  rcases Nat.lt_or_ge g w.heap.size with hh | hh
  · exact hh
  · unfold Blk at h; rw [Array.getElem?_eq_none hh] at h; cases h
theorem blk_kept {w w' : World} {g : Nat} {t : TypeId} {cs : Array Value} {row : Option Nat} (h : Blk w g t cs) (hg : w.grownBy w' row) (hne : some g ≠ row) : Blk w' g t cs := (hg.block g (blk_lt h) hne).trans h
theorem blk_below {w w' : World} {B g : Nat} {t : TypeId} {cs : Array Value} (h : Blk w g t cs) (hb : Below B w w') (hg : g < B) : Blk w' g t cs := (hb.block g hg).trans h
theorem RecAt.lt {w : World} {g : Nat} {x : Rc} (h : RecAt w g x) : g < w.heap.size := blk_lt h
theorem RecAt.below {w w' : World} {B g : Nat} {x : Rc} (h : RecAt w g x) (hb : Below B w w') (hg : g < B) : RecAt w' g x := blk_below h hb hg
theorem RecAt.kept {w w' : World} {g : Nat} {x : Rc} {row : Option Nat} (h : RecAt w g x) (hg : w.grownBy w' row) (hne : some g ≠ row) : RecAt w' g x := blk_kept h hg hne
theorem RecAt.new (w : World) (x : Rc) : RecAt (w.alloc (.cells x.vals 32)) w.heap.size x := Blk.new _ _ _
section
variable {w : World} {ops : Array Oper} {rest : List Oper} {o : Oper} {a : Act} {Q : Exit → Act → World → Prop}
/-- A record is loaded whole. -/
theorem load_rec {g : Nat} {x : Rc} (h : RecAt w g x) (hgd : o.guard = none) (y : Operand) (ho : o.op = .load 32 y) (hx : a.eval y = .pointer (some ⟨g, 0, none⟩))
    (k : wpList Tryd.prog ops Q rest (a.put o.dst (.agg x.vals)) w) : wpList Tryd.prog ops Q (o :: rest) a w :=
  wpList_load_row hgd 32 y ho g hx 32 x.vals (0, 0) _ h Tryd.underlying32 rfl rec_info k
/-- A record is stored whole. -/
theorem store_rec {g : Nat} {old : Array Value} (h : Blk w g 32 old) (hs : old.size = 6) (hgd : o.guard = none) (y z : Operand) (ho : o.op = .store 32 y z) (hx : a.eval y = .pointer (some ⟨g, 0, none⟩)) (x : Rc) (hy : a.eval z = .agg x.vals)
    (k : ∀ w', Hid (RecAt w' g x) → Hid (w.grownBy w' (some g)) → wpList Tryd.prog ops Q rest (a.put o.dst undef) w') : wpList Tryd.prog ops Q (o :: rest) a w :=
  wpList_store_blk hgd 32 y z ho g x.vals hx hy 32 old h rec_info hs x.vals_one k
end
theorem result_rec {w : World} {fn : Func} {p : Tmp} {g : Nat} {x : Rc} (h : RecAt w g x) (hr : fn.results = #[.cell p 32]) (tmps : Array Value) (hp : tmps.getD p undef = .pointer (some ⟨g, 0, none⟩)) :
    (results fn tmps).run Tryd.prog w = .ok (.agg x.vals) w :=
  results_cell_row hr tmps w g 32 x.vals (0, 0) _ hp h Tryd.underlying32 rfl rec_info
/-- A record's text is stored. -/
theorem RecAt.body {w : World} {g : Nat} {x : Rc} (h : RecAt w g x) (l : List UInt8) : RecAt (w.setCell ⟨g, 5, none⟩ (.string (str l))) g { x with body := l } := Blk.put h 5 _
def zeroRc : Rc := ⟨0, 0, 0, 0, 0, []⟩
set_option maxHeartbeats 1000000 in
theorem cut_any (x : Rc) (m : Nat) (w : World) (hs : x.body.length ≤ maxLen) (hm : m ≤ maxLen) :
    Calls Tryd.prog 19 #[.agg x.vals, .int .i64 (m : Int)] w fun e w' => e = .returned (.agg (x.cut m).vals) ∧ Below w.heap.size w w' := by
  have hz := zeroRec
  have HC := Lib.hid (fun w : World => cutText_any (str x.body) m w (by rw [str_size]; exact hs) hm)
  rw [cut_str] at HC
  go_enter Tryd.func19, Tryd.ntmps19
  go_upto_region 1 with fail
  obtain ⟨w2, hw2⟩ : ∃ w2, w2 = (w.alloc (.cells x.vals 32)).alloc (.cells #[.int .i64 0, .int .u32 0, .int .u64 0, .int .u64 0, .int .u64 0, .string ⟨#[]⟩] 32) := ⟨_, rfl⟩
  have X1 : RecAt w2 w.heap.size x := by
    rw [hw2]
    exact (Below.heap_alloc _ _ _ (by simp)).trans (Blk.new _ _ _)
  have X2 : RecAt w2 (w.heap.size + 1) zeroRc := by
    rw [hw2]
    have := Blk.new (w.alloc (.cells x.vals 32)) 32 zeroRc.vals
    rw [show (w.alloc (.cells x.vals 32)).heap.size = w.heap.size + 1 by simp] at this
    exact this
  have B2 : Hid (Below w.heap.size w w2) := by rw [hw2]; exact ((Below.refl _ _).alloc (Nat.le_refl _) _).alloc (by simp) _
  rw [← hw2]
  have x5 : w2.cell? ⟨w.heap.size, 5, none⟩ = some (.string (str x.body)) := X1.cell 5
  have f5 := X1.free 5
  have HX1 := Lib.hid X1
  have HX2 := Lib.hid X2
  clear X1 X2 hw2
  go_upto_region 2 with (go_at_call 25; refine (HC.out _).mono ?_; rintro e w' ⟨rfl, rfl⟩)
  have HX3 : Hid (RecAt (w'.setCell ⟨w.heap.size, 5, none⟩ (.string (str (x.body.take m)))) w.heap.size (x.cut m)) := HX1.out.body _
  have G3 := only_setCell w' ⟨w.heap.size, 5, none⟩ (.string (str (x.body.take m)))
  obtain ⟨w3, hw3⟩ : ∃ w3, w3 = w'.setCell ⟨w.heap.size, 5, none⟩ (.string (str (x.body.take m))) := ⟨_, rfl⟩
  rw [← hw3] at HX3 G3 ⊢
  have HX4 := Lib.hid (HX2.out.kept G3 (by simp))
  have HB3 := Lib.hid (below_only B2.out G3 (Nat.le_refl _) B2.out.size)
  clear x5 f5 hw3 HX1 HX2 G3 B2
  go_wp2_with (first
    | (refine load_rec HX3.out rfl (.tmp 2) rfl rfl ?_)
    | (refine store_rec HX4.out rfl rfl (.tmp 4) (.tmp 10) rfl rfl (x.cut m) rfl ?_; intro w5 G5 G6))
  refine bodyPost_ret (v := .agg (x.cut m).vals) (result_rec G5.out rfl _ rfl) rfl ?_
  exact ⟨rfl, below_only HB3.out (only_hid G6) (by omega) HB3.out.size⟩
set_option maxHeartbeats 2000000 in
theorem eq_any (x y : Rc) (w : World) :
    Calls Tryd.prog 17 #[.agg x.vals, .agg y.vals] w fun e w' => e = .returned (.bool (decide (x = y))) ∧ Below w.heap.size w w' := by
  obtain ⟨k, t, ep, ob, se, body⟩ := x
  obtain ⟨k', t', ep', ob', se', body'⟩ := y
  show Calls _ _ #[.agg #[.int .i64 k, .int .u32 (t : Int), .int .u64 (ep : Int), .int .u64 (ob : Int), .int .u64 (se : Int), .string (str body)], .agg #[.int .i64 k', .int .u32 (t' : Int), .int .u64 (ep' : Int), .int .u64 (ob' : Int), .int .u64 (se' : Int), .string (str body')]] _ _
  have hS : str body = str body' ↔ body = body' := ⟨str_inj, fun h => by rw [h]⟩
  obtain ⟨s, hs⟩ : ∃ s, s = str body := ⟨_, rfl⟩
  obtain ⟨s', hs'⟩ : ∃ s, s = str body' := ⟨_, rfl⟩
  rw [← hs, ← hs'] at hS ⊢
  clear hs hs'
  have hte := text_eq s s'
  have HFIN : Hid (∀ o1 o2, Below w.heap.size w ((w.alloc o1).alloc o2)) := fun o1 o2 => ((Below.refl _ _).alloc (Nat.le_refl _) _).alloc (by simp) _
  have HT := Lib.hid hte
  have HSS := Lib.hid hS
  clear hte hS
  by_cases h1 : k = k'
  case neg =>
    have g1 : (k == k') = false := beq_eq_false_iff_ne.2 (by omega)
    have e : decide ((⟨k, t, ep, ob, se, body⟩ : Rc) = ⟨k', t', ep', ob', se', body'⟩) = false := decide_eq_false (fun h => by rw [Rc.mk.injEq] at h; exact h1 h.1)
    rw [e]
    clear e
    go_enter Tryd.func17, Tryd.ntmps17
    go_wp2_with fail
    go_ret
    exact ⟨by simp [*], HFIN.out _ _⟩
  have g1 : (k == k') = true := beq_iff_eq.2 (by omega)
  by_cases h2 : t = t'
  case neg =>
    have g2 : ((t : Int) == (t' : Int)) = false := beq_eq_false_iff_ne.2 (by omega)
    have e : decide ((⟨k, t, ep, ob, se, body⟩ : Rc) = ⟨k', t', ep', ob', se', body'⟩) = false := decide_eq_false (fun h => by rw [Rc.mk.injEq] at h; exact h2 h.2.1)
    rw [e]
    clear e
    go_enter Tryd.func17, Tryd.ntmps17
    go_wp2_with fail
    go_ret
    exact ⟨by simp [*], HFIN.out _ _⟩
  have g2 : ((t : Int) == (t' : Int)) = true := beq_iff_eq.2 (by omega)
  by_cases h3 : ep = ep'
  case neg =>
    have g3 : ((ep : Int) == (ep' : Int)) = false := beq_eq_false_iff_ne.2 (by omega)
    have e : decide ((⟨k, t, ep, ob, se, body⟩ : Rc) = ⟨k', t', ep', ob', se', body'⟩) = false := decide_eq_false (fun h => by rw [Rc.mk.injEq] at h; exact h3 h.2.2.1)
    rw [e]
    clear e
    go_enter Tryd.func17, Tryd.ntmps17
    go_wp2_with fail
    go_ret
    exact ⟨by simp [*], HFIN.out _ _⟩
  have g3 : ((ep : Int) == (ep' : Int)) = true := beq_iff_eq.2 (by omega)
  by_cases h4 : ob = ob'
  case neg =>
    have g4 : ((ob : Int) == (ob' : Int)) = false := beq_eq_false_iff_ne.2 (by omega)
    have e : decide ((⟨k, t, ep, ob, se, body⟩ : Rc) = ⟨k', t', ep', ob', se', body'⟩) = false := decide_eq_false (fun h => by rw [Rc.mk.injEq] at h; exact h4 h.2.2.2.1)
    rw [e]
    clear e
    go_enter Tryd.func17, Tryd.ntmps17
    go_wp2_with fail
    go_ret
    exact ⟨by simp [*], HFIN.out _ _⟩
  have g4 : ((ob : Int) == (ob' : Int)) = true := beq_iff_eq.2 (by omega)
  by_cases h5 : se = se'
  case neg =>
    have g5 : ((se : Int) == (se' : Int)) = false := beq_eq_false_iff_ne.2 (by omega)
    have e : decide ((⟨k, t, ep, ob, se, body⟩ : Rc) = ⟨k', t', ep', ob', se', body'⟩) = false := decide_eq_false (fun h => by rw [Rc.mk.injEq] at h; exact h5 h.2.2.2.2.1)
    rw [e]
    clear e
    go_enter Tryd.func17, Tryd.ntmps17
    go_wp2_with fail
    go_ret
    exact ⟨by simp [*], HFIN.out _ _⟩
  have g5 : ((se : Int) == (se' : Int)) = true := beq_iff_eq.2 (by omega)
  by_cases h6 : body = body'
  case neg =>
    have g6 : (s.toList == s'.toList) = false := by rw [HT.out]; exact decide_eq_false (fun h => h6 (HSS.out.1 h))
    have e : decide ((⟨k, t, ep, ob, se, body⟩ : Rc) = ⟨k', t', ep', ob', se', body'⟩) = false := decide_eq_false (fun h => by rw [Rc.mk.injEq] at h; exact h6 h.2.2.2.2.2)
    rw [e]
    clear e
    go_enter Tryd.func17, Tryd.ntmps17
    go_wp2_with fail
    go_ret
    exact ⟨by simp [*], HFIN.out _ _⟩
  have g6 : (s.toList == s'.toList) = true := by rw [HT.out]; exact decide_eq_true (HSS.out.2 h6)
  have e : decide ((⟨k, t, ep, ob, se, body⟩ : Rc) = ⟨k', t', ep', ob', se', body'⟩) = true := decide_eq_true (by rw [h1, h2, h3, h4, h5, h6])
  rw [e]
  clear e
  go_enter Tryd.func17, Tryd.ntmps17
  go_wp2_with fail
  go_ret
  exact ⟨by simp [*], HFIN.out _ _⟩
end Go.Proofs.YtjpgfdpgjfmnoaaDoor.Rec
