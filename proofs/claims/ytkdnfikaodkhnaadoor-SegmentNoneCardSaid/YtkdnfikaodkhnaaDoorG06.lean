/-
  Texts one behind the other: RecEq, RecTable, RecEnc.
-/
import Derived.Deep.DeepCutAuto
import Derived.Deep.RegionLaw
import Derived.Test.YtkdnfikaodkhnaaDoorRows
import Derived.Lib.LaidTab
import Derived.ProofKit
import Derived.OpenShut
import Derived.ShutString
import Derived.WideShapes
import Derived.Lib.AppendStr
import Derived.Deep.Onto
import Derived.Lib.SlBytesConst
import Derived.Laws.IdiomStrings
import Derived.Test.YtkdnfikaodkhnaaDoorG04
import Derived.Test.YtkdnfikaodkhnaaDoorG05
/-
  Proved: what Eq of two records, sumOf and Cut of a record return.
  Conditions: numbers and texts are those of values.
-/
namespace Go.Proofs.YtkdnfikaodkhnaaDoor.Rec
open Go.RowKit
set_option linter.unusedVariables false
set_option linter.unusedSimpArgs false
open Go.Proofs.YtkdnfikaodkhnaaDoor.Crc (Turned)

/-- The same record? -/
instance : DecidableEq Rc := fun a b => by
  cases a; cases b
  rw [Rc.mk.injEq]
  exact inferInstance
set_option maxRecDepth 100000 in
theorem sumOf_any (A C : Option Addr) (n c m d : Nat) (fs bs : List UInt8) (w : World) (hT : Turned w) (hA : Row w w.heap.size A n (bvs fs)) (hB : Row w w.heap.size C m (bvs bs)) (hn : n ≤ maxLen) (hm : m ≤ maxLen) :
    Calls Tryd.prog 66 #[.slice A n c, .slice C m d] w fun e w' => e = .returned (.int .u32 ((Crc.sum (fs ++ bs)).toNat : Int)) ∧ w' = w := by
  go_enter Tryd.func66, Tryd.ntmps66
  go_wp2_with (first
    | (go_at_call 79; refine (Crc.sum_any A n c fs _ hT hA hn).mono ?_; rintro e w' ⟨rfl, rfl⟩)
    | (go_at_call 78; refine (Crc.more_any (Crc.sum fs) C m d bs _ hT hB hm).mono ?_; rw [Crc.more_sum]; rintro e w' ⟨rfl, rfl⟩))
  go_ret
  exact ⟨rfl, rfl⟩
set_option maxRecDepth 100000 in
theorem cutText_any (s : ByteArray) (m : Nat) (w : World) (hs : s.size ≤ maxLen) (hm : m ≤ maxLen) :
    Calls Tryd.prog 30 #[.string s, .int .i64 (m : Int)] w fun e w' => e = .returned (.string (if m < s.size then s.extract 0 m else s)) ∧ w' = w := by
  unfold maxLen at hs hm
  by_cases h : m < s.size
  · rw [if_pos h]
    have h' : (m : Int) < (s.size : Int) := by omega
    go_enter Tryd.func30, Tryd.ntmps30
    go_wp2
    go_ret
    exact ⟨rfl, rfl⟩
  · rw [if_neg h]
    have h' : ¬ (m : Int) < (s.size : Int) := by omega
    go_enter Tryd.func30, Tryd.ntmps30
    go_wp2
    go_ret
    exact ⟨rfl, rfl⟩
theorem cut_str (l : List UInt8) (m : Nat) : (if m < (str l).size then (str l).extract 0 m else str l) = str (l.take m) := by
  rw [str_size]
  split
  · apply ByteArray.ext
    apply Array.ext'
    simp [str]
  · rw [List.take_of_length_le (by omega)]
def Rc.cut (x : Rc) (m : Nat) : Rc := { x with body := x.body.take m }
theorem zeroRec (w : World) : (zeroValue 33).run Tryd.prog w = .ok (.agg #[.int .i64 0, .int .u32 0, .int .u64 0, .int .u64 0, .int .u64 0, .string ⟨#[]⟩]) w := by kernel_rfl
theorem rec_info : (Tryd.prog.info? 33).map (·.size) = some 6 := by kernel_rfl
theorem Rc.vals_size (x : Rc) : x.vals.size = 6 := rfl
theorem Rc.vals_one (x : Rc) : x.vals.all (·.oneCell') = true := by simp [Rc.vals, Value.oneCell']
/-- A block that holds a record. -/
def RecAt (w : World) (g : Nat) (x : Rc) : Prop := Blk w g 33 x.vals
theorem blk_lt {w : World} {g : Nat} {t : TypeId} {cs : Array Value} (h : Blk w g t cs) : g < w.heap.size := by
  rcases Nat.lt_or_ge g w.heap.size with hh | hh
  · exact hh
  · unfold Blk at h; rw [Array.getElem?_eq_none hh] at h; cases h
theorem blk_kept {w w' : World} {g : Nat} {t : TypeId} {cs : Array Value} {row : Option Nat} (h : Blk w g t cs) (hg : w.grownBy w' row) (hne : some g ≠ row) : Blk w' g t cs := (hg.block g (blk_lt h) hne).trans h
theorem blk_below {w w' : World} {B g : Nat} {t : TypeId} {cs : Array Value} (h : Blk w g t cs) (hb : Below B w w') (hg : g < B) : Blk w' g t cs := (hb.block g hg).trans h
theorem RecAt.lt {w : World} {g : Nat} {x : Rc} (h : RecAt w g x) : g < w.heap.size := blk_lt h
theorem RecAt.below {w w' : World} {B g : Nat} {x : Rc} (h : RecAt w g x) (hb : Below B w w') (hg : g < B) : RecAt w' g x := blk_below h hb hg
theorem RecAt.kept {w w' : World} {g : Nat} {x : Rc} {row : Option Nat} (h : RecAt w g x) (hg : w.grownBy w' row) (hne : some g ≠ row) : RecAt w' g x := blk_kept h hg hne
theorem RecAt.new (w : World) (x : Rc) : RecAt (w.alloc (.cells x.vals 33)) w.heap.size x := Blk.new _ _ _
section
variable {w : World} {ops : Array Oper} {rest : List Oper} {o : Oper} {a : Act} {Q : Exit → Act → World → Prop}
/-- A record is loaded whole. -/
theorem load_rec {g : Nat} {x : Rc} (h : RecAt w g x) (hgd : o.guard = none) (y : Operand) (ho : o.op = .load 33 y) (hx : a.eval y = .pointer (some ⟨g, 0, none⟩))
    (k : wpList Tryd.prog ops Q rest (a.put o.dst (.agg x.vals)) w) : wpList Tryd.prog ops Q (o :: rest) a w :=
  wpList_load_row hgd 33 y ho g hx 33 x.vals (0, 0) _ h Tryd.underlying33 rfl rec_info k
/-- A record is stored whole. -/
theorem store_rec {g : Nat} {old : Array Value} (h : Blk w g 33 old) (hs : old.size = 6) (hgd : o.guard = none) (y z : Operand) (ho : o.op = .store 33 y z) (hx : a.eval y = .pointer (some ⟨g, 0, none⟩)) (x : Rc) (hy : a.eval z = .agg x.vals)
    (k : ∀ w', Hid (RecAt w' g x) → Hid (w.grownBy w' (some g)) → wpList Tryd.prog ops Q rest (a.put o.dst undef) w') : wpList Tryd.prog ops Q (o :: rest) a w :=
  wpList_store_blk hgd 33 y z ho g x.vals hx hy 33 old h rec_info hs x.vals_one k
end
theorem result_rec {w : World} {fn : Func} {p : Tmp} {g : Nat} {x : Rc} (h : RecAt w g x) (hr : fn.results = #[.cell p 33]) (tmps : Array Value) (hp : tmps.getD p undef = .pointer (some ⟨g, 0, none⟩)) :
    (results fn tmps).run Tryd.prog w = .ok (.agg x.vals) w :=
  results_cell_row hr tmps w g 33 x.vals (0, 0) _ hp h Tryd.underlying33 rfl rec_info
/-- A record's text is stored. -/
theorem RecAt.body {w : World} {g : Nat} {x : Rc} (h : RecAt w g x) (l : List UInt8) : RecAt (w.setCell ⟨g, 5, none⟩ (.string (str l))) g { x with body := l } := Blk.put h 5 _
def zeroRc : Rc := ⟨0, 0, 0, 0, 0, []⟩
set_option maxHeartbeats 1000000 in
set_option maxRecDepth 100000 in
theorem cut_any (x : Rc) (m : Nat) (w : World) (hs : x.body.length ≤ maxLen) (hm : m ≤ maxLen) :
    Calls Tryd.prog 10 #[.agg x.vals, .int .i64 (m : Int)] w fun e w' => e = .returned (.agg (x.cut m).vals) ∧ Below w.heap.size w w' := by
  have hz := zeroRec
  have HC := Lib.hid (fun w : World => cutText_any (str x.body) m w (by rw [str_size]; exact hs) hm)
  rw [cut_str] at HC
  go_enter Tryd.func10, Tryd.ntmps10
  go_upto_region 1 with fail
  obtain ⟨w2, hw2⟩ : ∃ w2, w2 = (w.alloc (.cells x.vals 33)).alloc (.cells #[.int .i64 0, .int .u32 0, .int .u64 0, .int .u64 0, .int .u64 0, .string ⟨#[]⟩] 33) := ⟨_, rfl⟩
  have X1 : RecAt w2 w.heap.size x := by
    rw [hw2]
    exact (Below.heap_alloc _ _ _ (by simp)).trans (Blk.new _ _ _)
  have X2 : RecAt w2 (w.heap.size + 1) zeroRc := by
    rw [hw2]
    have := Blk.new (w.alloc (.cells x.vals 33)) 33 zeroRc.vals
    rw [show (w.alloc (.cells x.vals 33)).heap.size = w.heap.size + 1 by simp] at this
    exact this
  have B2 : Hid (Below w.heap.size w w2) := by rw [hw2]; exact ((Below.refl _ _).alloc (Nat.le_refl _) _).alloc (by simp) _
  rw [← hw2]
  have x5 : w2.cell? ⟨w.heap.size, 5, none⟩ = some (.string (str x.body)) := X1.cell 5
  have f5 := X1.free 5
  have HX1 := Lib.hid X1
  have HX2 := Lib.hid X2
  clear X1 X2 hw2
  go_upto_region 2 with (go_at_call 30; refine (HC.out _).mono ?_; rintro e w' ⟨rfl, rfl⟩)
  have HX3 : Hid (RecAt (w'.setCell ⟨w.heap.size, 5, none⟩ (.string (str (x.body.take m)))) w.heap.size (x.cut m)) := HX1.out.body _
  have G3 := only_setCell w' ⟨w.heap.size, 5, none⟩ (.string (str (x.body.take m)))
  obtain ⟨w3, hw3⟩ : ∃ w3, w3 = w'.setCell ⟨w.heap.size, 5, none⟩ (.string (str (x.body.take m))) := ⟨_, rfl⟩
  rw [← hw3] at HX3 G3 ⊢
  have HX4 := Lib.hid (HX2.out.kept G3 (by simp))
  have HB3 := Lib.hid (below_only B2.out G3 (Nat.le_refl _) B2.out.size)
  clear x5 f5 hw3 HX1 HX2 G3 B2
  go_wp2_with (first
    | (refine load_rec HX3.out rfl (.tmp 2) rfl rfl ?_)
    | (refine store_rec HX4.out rfl rfl (.tmp 4) (.tmp 10) rfl rfl (x.cut m) rfl ?_; intro w5 G5 G6))
  refine bodyPost_ret (v := .agg (x.cut m).vals) (result_rec G5.out rfl _ rfl) rfl ?_
  exact ⟨rfl, below_only HB3.out (only_hid G6) (by omega) HB3.out.size⟩
set_option maxHeartbeats 2000000 in
set_option maxRecDepth 100000 in
theorem eq_any (x y : Rc) (w : World) :
    Calls Tryd.prog 48 #[.agg x.vals, .agg y.vals] w fun e w' => e = .returned (.bool (decide (x = y))) ∧ Below w.heap.size w w' := by
  obtain ⟨k, t, ep, ob, se, body⟩ := x
  obtain ⟨k', t', ep', ob', se', body'⟩ := y
  show Calls _ _ #[.agg #[.int .i64 k, .int .u32 (t : Int), .int .u64 (ep : Int), .int .u64 (ob : Int), .int .u64 (se : Int), .string (str body)], .agg #[.int .i64 k', .int .u32 (t' : Int), .int .u64 (ep' : Int), .int .u64 (ob' : Int), .int .u64 (se' : Int), .string (str body')]] _ _
  have hS : str body = str body' ↔ body = body' := ⟨str_inj, fun h => by rw [h]⟩
  obtain ⟨s, hs⟩ : ∃ s, s = str body := ⟨_, rfl⟩
  obtain ⟨s', hs'⟩ : ∃ s, s = str body' := ⟨_, rfl⟩
  rw [← hs, ← hs'] at hS ⊢
  clear hs hs'
  have hte := text_eq s s'
  have HFIN : Hid (∀ o1 o2, Below w.heap.size w ((w.alloc o1).alloc o2)) := fun o1 o2 => ((Below.refl _ _).alloc (Nat.le_refl _) _).alloc (by simp) _
  have HT := Lib.hid hte
  have HSS := Lib.hid hS
  clear hte hS
  by_cases h1 : k = k'
  case neg =>
    have g1 : (k == k') = false := beq_eq_false_iff_ne.2 (by omega)
    have e : decide ((⟨k, t, ep, ob, se, body⟩ : Rc) = ⟨k', t', ep', ob', se', body'⟩) = false := decide_eq_false (fun h => by rw [Rc.mk.injEq] at h; exact h1 h.1)
    rw [e]
    clear e
    go_enter Tryd.func48, Tryd.ntmps48
    go_wp2_with fail
    go_ret
    exact ⟨by simp [*], HFIN.out _ _⟩
  have g1 : (k == k') = true := beq_iff_eq.2 (by omega)
  by_cases h2 : t = t'
  case neg =>
    have g2 : ((t : Int) == (t' : Int)) = false := beq_eq_false_iff_ne.2 (by omega)
    have e : decide ((⟨k, t, ep, ob, se, body⟩ : Rc) = ⟨k', t', ep', ob', se', body'⟩) = false := decide_eq_false (fun h => by rw [Rc.mk.injEq] at h; exact h2 h.2.1)
    rw [e]
    clear e
    go_enter Tryd.func48, Tryd.ntmps48
    go_wp2_with fail
    go_ret
    exact ⟨by simp [*], HFIN.out _ _⟩
  have g2 : ((t : Int) == (t' : Int)) = true := beq_iff_eq.2 (by omega)
  by_cases h3 : ep = ep'
  case neg =>
    have g3 : ((ep : Int) == (ep' : Int)) = false := beq_eq_false_iff_ne.2 (by omega)
    have e : decide ((⟨k, t, ep, ob, se, body⟩ : Rc) = ⟨k', t', ep', ob', se', body'⟩) = false := decide_eq_false (fun h => by rw [Rc.mk.injEq] at h; exact h3 h.2.2.1)
    rw [e]
    clear e
    go_enter Tryd.func48, Tryd.ntmps48
    go_wp2_with fail
    go_ret
    exact ⟨by simp [*], HFIN.out _ _⟩
  have g3 : ((ep : Int) == (ep' : Int)) = true := beq_iff_eq.2 (by omega)
  by_cases h4 : ob = ob'
  case neg =>
    have g4 : ((ob : Int) == (ob' : Int)) = false := beq_eq_false_iff_ne.2 (by omega)
    have e : decide ((⟨k, t, ep, ob, se, body⟩ : Rc) = ⟨k', t', ep', ob', se', body'⟩) = false := decide_eq_false (fun h => by rw [Rc.mk.injEq] at h; exact h4 h.2.2.2.1)
    rw [e]
    clear e
    go_enter Tryd.func48, Tryd.ntmps48
    go_wp2_with fail
    go_ret
    exact ⟨by simp [*], HFIN.out _ _⟩
  have g4 : ((ob : Int) == (ob' : Int)) = true := beq_iff_eq.2 (by omega)
  by_cases h5 : se = se'
  case neg =>
    have g5 : ((se : Int) == (se' : Int)) = false := beq_eq_false_iff_ne.2 (by omega)
    have e : decide ((⟨k, t, ep, ob, se, body⟩ : Rc) = ⟨k', t', ep', ob', se', body'⟩) = false := decide_eq_false (fun h => by rw [Rc.mk.injEq] at h; exact h5 h.2.2.2.2.1)
    rw [e]
    clear e
    go_enter Tryd.func48, Tryd.ntmps48
    go_wp2_with fail
    go_ret
    exact ⟨by simp [*], HFIN.out _ _⟩
  have g5 : ((se : Int) == (se' : Int)) = true := beq_iff_eq.2 (by omega)
  by_cases h6 : body = body'
  case neg =>
    have g6 : (s.toList == s'.toList) = false := by rw [HT.out]; exact decide_eq_false (fun h => h6 (HSS.out.1 h))
    have e : decide ((⟨k, t, ep, ob, se, body⟩ : Rc) = ⟨k', t', ep', ob', se', body'⟩) = false := decide_eq_false (fun h => by rw [Rc.mk.injEq] at h; exact h6 h.2.2.2.2.2)
    rw [e]
    clear e
    go_enter Tryd.func48, Tryd.ntmps48
    go_wp2_with fail
    go_ret
    exact ⟨by simp [*], HFIN.out _ _⟩
  have g6 : (s.toList == s'.toList) = true := by rw [HT.out]; exact decide_eq_true (HSS.out.2 h6)
  have e : decide ((⟨k, t, ep, ob, se, body⟩ : Rc) = ⟨k', t', ep', ob', se', body'⟩) = true := decide_eq_true (by rw [h1, h2, h3, h4, h5, h6])
  rw [e]
  clear e
  go_enter Tryd.func48, Tryd.ntmps48
  go_wp2_with fail
  go_ret
  exact ⟨by simp [*], HFIN.out _ _⟩
end Go.Proofs.YtkdnfikaodkhnaaDoor.Rec
/-
  Plain facts: the table of half bytes out of a row's list; a record among a statement's arguments, as the form reads it.
-/
namespace Go.Proofs.YtkdnfikaodkhnaaDoor.Crc
open Go.RowKit
set_option linter.unusedVariables false

theorem g_turned : Tryd.prog.globalNamed "stillroom/crc.turned" = some 1 := by kernel_rfl
theorem t_turned : (Tryd.prog.globals[1]?).map (·.type) = some 128 := by kernel_rfl
theorem c_turned : Tryd.prog.cellsOf 128 = 16 := by kernel_rfl
theorem c_u32 : Tryd.prog.cellsOf 22 = 1 := by kernel_rfl
/-- What a row's list says of the table. -/
theorem turned_of {W : World} {rest : List (String × DataW Unit)} (h : laidMet Tryd.prog (("stillroom/crc.turned", Rows.laid_stillroom_crc_turned) :: rest) W) : Turned W := by
  have ht : Lib.TabIs Tryd.prog W "stillroom/crc.turned" .u32 (tab.map Int.ofNat) :=
    Lib.tabIs_of_head (rest := rest) g_turned t_turned Tryd.underlying128 Tryd.underlying22 c_u32 c_turned h
  intro i hi
  have := ht.cell g_turned i (by simp [tab]; omega)
  rw [this]
  have : tab.length = 16 := rfl
  simp [List.getD, List.getElem?_eq_getElem (l := tab) (i := i) (by omega)]

end Go.Proofs.YtkdnfikaodkhnaaDoor.Crc
namespace Go.Proofs.YtkdnfikaodkhnaaDoor.Rec
open Go.RowKit Go.ChangeShapes Go.WideShapes
/-- A record whose parts are those of a value. -/
structure Rc.Ok (x : Rc) : Prop where
  kind : -9223372036854775808 ≤ x.kind ∧ x.kind ≤ 9223372036854775807
  fits : x.Fits
  body : x.body.length ≤ maxLen
theorem six : ∀ (l : List Value), l.length = 6 → ∃ a b c d e f, l = [a, b, c, d, e, f]
  | [a, b, c, d, e, f], _ => ⟨a, b, c, d, e, f, rfl⟩
theorem str_toList (s : ByteArray) : str s.data.toList = s := by
  unfold str
  rfl
theorem rec_of_trod {H : Type} {enc : TypeId × Value → H} {W : World} {base : Nat} {held : Bool} {n : Nat} {cs : List Value} {x : DataW H × List MemPlace} (h : DataW.trod enc Tryd.prog W base (fun _ => true) held n 33 cs = some x) :
    ∃ y : Rc, y.Ok ∧ cs = y.vals.toList := by
  obtain ⟨xs, k, rfl, _, hl, hxl, hf⟩ := DataW.trod_struct Tryd.underlying33 h
  obtain ⟨c0, c1, c2, c3, c4, c5, rfl⟩ := six cs (by rw [hl]; kernel_rfl)
  have hz : xs.length = 6 := hxl
  have g0 : DataW.trod enc Tryd.prog W base (fun _ => true) held k 3 (([c0, c1, c2, c3, c4, c5].drop 0).take (Tryd.prog.cellsOf 3)) = xs[0]? := hf 0 _ rfl
  have g1 : DataW.trod enc Tryd.prog W base (fun _ => true) held k 22 (([c0, c1, c2, c3, c4, c5].drop 1).take (Tryd.prog.cellsOf 22)) = xs[1]? := hf 1 _ rfl
  have g2 : DataW.trod enc Tryd.prog W base (fun _ => true) held k 31 (([c0, c1, c2, c3, c4, c5].drop 2).take (Tryd.prog.cellsOf 31)) = xs[2]? := hf 2 _ rfl
  have g3 : DataW.trod enc Tryd.prog W base (fun _ => true) held k 31 (([c0, c1, c2, c3, c4, c5].drop 3).take (Tryd.prog.cellsOf 31)) = xs[3]? := hf 3 _ rfl
  have g4 : DataW.trod enc Tryd.prog W base (fun _ => true) held k 31 (([c0, c1, c2, c3, c4, c5].drop 4).take (Tryd.prog.cellsOf 31)) = xs[4]? := hf 4 _ rfl
  have g5 : DataW.trod enc Tryd.prog W base (fun _ => true) held k 9 (([c0, c1, c2, c3, c4, c5].drop 5).take (Tryd.prog.cellsOf 9)) = xs[5]? := hf 5 _ rfl
  rw [List.getElem?_eq_getElem (by omega)] at g0 g1 g2 g3 g4 g5
  have e1 : Tryd.prog.cellsOf 3 = 1 := by kernel_rfl
  have e2 : Tryd.prog.cellsOf 22 = 1 := by kernel_rfl
  have e3 : Tryd.prog.cellsOf 31 = 1 := by kernel_rfl
  have e4 : Tryd.prog.cellsOf 9 = 1 := by kernel_rfl
  simp only [e1, e2, e3, e4, List.drop_succ_cons, List.drop_zero, List.take_succ_cons, List.take_zero] at g0 g1 g2 g3 g4 g5
  obtain ⟨n0, r0, _, w0⟩ := DataW.trod_int Tryd.underlying3 g0
  obtain ⟨n1, r1, _, w1⟩ := DataW.trod_int Tryd.underlying22 g1
  obtain ⟨n2, r2, _, w2⟩ := DataW.trod_int Tryd.underlying31 g2
  obtain ⟨n3, r3, _, w3⟩ := DataW.trod_int Tryd.underlying31 g3
  obtain ⟨n4, r4, _, w4⟩ := DataW.trod_int Tryd.underlying31 g4
  obtain ⟨s5, r5, _, w5⟩ := DataW.trod_string Tryd.underlying9 g5
  injection r0 with r0
  injection r1 with r1
  injection r2 with r2
  injection r3 with r3
  injection r4 with r4
  injection r5 with r5
  subst r0 r1 r2 r3 r4 r5
  have b1 := bounds_u32 w1
  have b2 := bounds_u64 w2
  have b3 := bounds_u64 w3
  have b4 := bounds_u64 w4
  obtain ⟨m1, rfl⟩ : ∃ m : Nat, n1 = m := ⟨n1.toNat, by omega⟩
  obtain ⟨m2, rfl⟩ : ∃ m : Nat, n2 = m := ⟨n2.toNat, by omega⟩
  obtain ⟨m3, rfl⟩ : ∃ m : Nat, n3 = m := ⟨n3.toNat, by omega⟩
  obtain ⟨m4, rfl⟩ : ∃ m : Nat, n4 = m := ⟨n4.toNat, by omega⟩
  refine ⟨⟨n0, m1, m2, m3, m4, s5.data.toList⟩, ⟨bounds_i64 w0, ⟨?_, ?_, ?_, ?_⟩, ?_⟩, ?_⟩
  · show m1 < _; omega
  · show m2 < _; omega
  · show m3 < _; omega
  · show m4 < _; omega
  · show s5.data.toList.length ≤ maxLen
    rw [Array.length_toList]
    exact w5
  · show _ = [Value.int .i64 n0, .int .u32 (m1 : Int), .int .u64 (m2 : Int), .int .u64 (m3 : Int), .int .u64 (m4 : Int), .string (str s5.data.toList)]
    rw [str_toList]
theorem rec_of_form {H : Type} {enc : TypeId × Value → H} {W : World} {base : Nat} {held : Bool} {n : Nat} {cs : Array Value} {x : DataW H × List MemPlace} (h : DataW.trod enc Tryd.prog W base (fun _ => true) held n 33 cs.toList = some x) :
    ∃ y : Rc, y.Ok ∧ cs = y.vals := by
  obtain ⟨y, hy, e⟩ := rec_of_trod h
  exact ⟨y, hy, Array.toList_inj.1 e⟩
end Go.Proofs.YtkdnfikaodkhnaaDoor.Rec
/-
  Proved: bytes under way in a row of the call's own, beside a record's block: appends of them; a text as bytes.
  Conditions: the lengths are small.
-/
namespace Go.Proofs.YtkdnfikaodkhnaaDoor.Rec
open Go.RowKit
open Go.Proofs.YtkdnfikaodkhnaaDoor.Crc (Turned)
set_option linter.unusedVariables false
set_option linter.unusedSimpArgs false

theorem turned_below {w w' : World} {B : Nat} (h : Turned w) (hb : Below B w w') (hB : B = w.heap.size) : Turned w' := fun i hi => by
  subst hB
  exact (hb.cell (block_lt_of_cell (h i hi))).trans (h i hi)
/-- Bytes that are under way, in a row of the call's own, beside a record's block g. -/
structure Enc (w0 : World) (g : Nat) (x : Rc) (w : World) (v : Value) (bs : List UInt8) : Prop where
  at' : RecAt w g x
  row : w.ownsRow (g + 1) 5 1 v bs.length (bvs bs)
  below : Below w0.heap.size w0 w
  old : w0.heap.size = g
theorem Enc.lt {w0 w : World} {g : Nat} {x : Rc} {v : Value} {bs : List UInt8} (h : Enc w0 g x w v bs) : g < w.heap.size := h.at'.lt
/-- .. where nothing that lay has turned. -/
theorem Enc.all {w0 w w' : World} {g : Nat} {x : Rc} {v : Value} {bs : List UInt8} (h : Enc w0 g x w v bs) (hb : Below w.heap.size w w') : Enc w0 g x w' v bs := by
  exact ⟨h.at'.below hb h.lt, h.row.kept (row := none) ⟨hb.os, hb.tape, hb.output, hb.size, fun i hi _ => hb.block i hi⟩ (Classical.em _), h.below.trans (hb.mono h.below.size), h.old⟩
theorem enc_row {w0 w : World} {g : Nat} {x : Rc} {v : Value} {bs : List UInt8} (h : Enc w0 g x w v bs) : ∃ A c, v = .slice A bs.length c ∧ bs.length ≤ c ∧ c ≤ maxLen ∧ Row w w.heap.size A bs.length (bvs bs) := by
  obtain ⟨A, c, rfl, h1, h2⟩ := own_form h.row
  exact ⟨A, c, rfl, h1, h2, Row.own h.row⟩
theorem grown_at {w w' : World} {g : Nat} {x : Rc} {v : Value} {n : Nat} {vs : List Value} (h : RecAt w g x) (ho : w.ownsRow (g + 1) 5 1 v n vs) (hg : w.grownBy w' v.ownBlock) : RecAt w' g x :=
  h.kept hg fun e => by
    have := (ho.lt g e.symm).1
    omega
section
variable {w0 w : World} {g : Nat} {x : Rc} {v : Value} {bs : List UInt8} {ops : Array Oper} {rest : List Oper} {o : Oper} {a : Act} {Q : Exit → Act → World → Prop}
theorem enc_append (h : Enc w0 g x w v bs) (hgd : o.guard = none) (s y : Operand) (ho : o.op = .call { callee := .builtin .append, args := #[s, y], argTypes := #[43, 43] })
    (hs : a.eval s = v) (B : Nat) (A : Option Addr) (m c : Nat) (ps : List UInt8) (hy : a.eval y = .slice A m c) (hr : Row w B A m (bvs ps)) (hl : bs.length + m ≤ 1000000)
    (k : ∀ v' w', Hid (Enc w0 g x w' v' (bs ++ ps)) → wpList Tryd.prog ops Q rest (a.put o.dst v') w') : wpList Tryd.prog ops Q (o :: rest) a w := by
  have hm : ps.length = m := hr.size
  refine wpList_append_reads hgd s y 43 ho (g + 1) 5 (.int .u8 0) 1 Tryd.underlying43 u8_info rfl v bs.length (bvs bs) hs h.row B A m c _ hy hr (bvs_one _) (by unfold maxLen; omega) (by omega) h.lt ?_
  intro v' w' h1 h2
  refine k v' w' ⟨grown_at h.at' h.row h2, ?_, own_below h.row h.below (by have := h.old; omega) h.lt h2, h.old⟩
  rw [bvs_append] at h1
  rw [List.length_append, hm]
  exact h1
theorem enc_string (h : Enc w0 g x w v bs) (hgd : o.guard = none) (s y : Operand) (ho : o.op = .call { callee := .builtin .append, args := #[s, y], argTypes := #[43, 9] })
    (hs : a.eval s = v) (l : List UInt8) (hy : a.eval y = .string (str l)) (hl : bs.length + l.length ≤ 1000000)
    (k : ∀ v' w', Hid (Enc w0 g x w' v' (bs ++ l)) → wpList Tryd.prog ops Q rest (a.put o.dst v') w') : wpList Tryd.prog ops Q (o :: rest) a w := by
  obtain ⟨i, hi, hz0, hz1, hz2⟩ := u8_info3
  have e : Lib.strCells (str l) = bvs l := by simp [Lib.strCells, str, bvs, bv]
  refine Lib.wpList_append_own_string w hgd s y 43 9 ho (g + 1) 5 i Tryd.underlying43 Tryd.underlying9 hi hz0 hz1 hz2 v bs.length (bvs bs) hs h.row (str l) hy (by rw [str_size]; unfold maxLen; omega) (by rw [str_size]; omega) h.lt ?_
  intro v' w' h1 h2 _
  refine k v' w' ⟨grown_at h.at' h.row h2, ?_, own_below h.row h.below (by have := h.old; omega) h.lt h2, h.old⟩
  rw [e, bvs_append, str_size] at h1
  rw [List.length_append]
  exact h1
end
theorem enc_refput {w0 w : World} {g : Nat} {x : Rc} {v : Value} {bs : List UInt8} (h : Hid (Enc w0 g x w v bs)) (n k : Nat) (K : Int) (hK : K = (k : Int)) (hk : 1 ≤ k ∧ k ≤ 8) (hn : n < 18446744073709551616) :
    Calls Tryd.prog 35 #[.int .u64 (n : Int), .int .i64 K] w fun e w' => ∃ A c, e = .returned (.slice A k c) ∧ Hid (Enc w0 g x w' v bs) ∧ Hid (Row w' w'.heap.size A k (bvs (be n k))) ∧ Hid (Below w.heap.size w w') := by
  refine (refput_any n k K w hK hk hn).mono ?_
  rintro e w' ⟨u, rfl, ho, hb⟩
  obtain ⟨A, c, rfl, _, _⟩ := own_form ho
  exact ⟨A, c, rfl, h.out.all hb, Row.own ho, hb⟩
/-- The bytes of a text, in a new block that nothing may be written to. -/
theorem enc_bytes {w0 w : World} {g : Nat} {x : Rc} {v : Value} {bs : List UInt8} (h : Enc w0 g x w v bs) (o : Obj) : Enc w0 g x (w.alloc o) v bs := h.all (below_alloc w o)
theorem enc_may {x : Rc} (h : x.May) : enc x = x.bytes := if_pos h
theorem enc_not {x : Rc} (h : ¬ x.May) : enc x = [] := if_neg h
theorem may_true {x : Rc} (h : x.May) : x.may = true := decide_eq_true h
theorem may_false {x : Rc} (h : ¬ x.May) : x.may = false := decide_eq_false h
/-- '[]byte(s)' of any text. -/
theorem conv_bytes (w : World) (l : List UInt8) : ∃ c w', (convert 9 43 (.string (str l))).run Tryd.prog w = .ok (.slice (some ⟨w.heap.size, 0, none⟩) l.length c) w' ∧ Hid (Below w.heap.size w w') ∧ Hid (Row w' w'.heap.size (some ⟨w.heap.size, 0, none⟩) l.length (bvs l)) := by
  have h0 := run_bytes_of_string (P := Tryd.prog) w 9 43 5 (str l) Tryd.underlying9 Tryd.underlying43 Tryd.underlying5
  obtain ⟨cap, hcap⟩ : ∃ cap, cap = grownCap w (str l).size 0 5 := ⟨_, rfl⟩
  obtain ⟨C, hC⟩ : ∃ C, C = bytesRow (str l) cap := ⟨_, rfl⟩
  rw [← hcap, ← hC, str_size] at h0
  refine ⟨_, _, h0, (Below.refl _ _).drew.alloc (Nat.le_refl _) _, ?_⟩
  have h := Row.fresh w.drew 5 (C.size, C.size + 1) C
  have e0 : C.toList = bvs l ++ List.replicate (cap - l.length) (.int .u8 0) := by
    rw [hC]
    simp [bytesRow, str, bvs, bv, ByteArray.size]
  have hsz : l.length ≤ C.size := by
    rw [← Array.length_toList, e0, List.length_append, bvs_length]
    omega
  have h2 := h.take (k := l.length) hsz
  have e : C.toList.take l.length = bvs l := by
    rw [e0]
    exact List.take_left' (bvs_length l)
  rw [e] at h2
  have hs : (w.drew.alloc (.cells C 5 (C.size, C.size + 1))).heap.size = w.heap.size + 1 := by
    show (w.heap.push _).size = _
    simp
  show Row _ _ _ _ _
  rw [hs]
  exact h2
end Go.Proofs.YtkdnfikaodkhnaaDoor.Rec
