/-
  Texts one behind the other: RecTable, RecStore, RecRefDec.
-/
import Derived.Test.YtbljdcdcnnidkaaGreatDoorRows
import Derived.Lib.LaidTab
import Derived.ProofKit
import Derived.OpenShut
import Derived.ShutString
import Derived.WideShapes
import Derived.BigQuiet
import Derived.LoopN
import Derived.Test.YtbljdcdcnnidkaaGreatDoorG05
import Derived.Test.YtbljdcdcnnidkaaGreatDoorG06
/-
  Plain facts: the table of half bytes out of a row's list; a record among a statement's arguments, as the form reads it.
-/
namespace Go.Proofs.YtbljdcdcnnidkaaGreatDoor.Crc
open Go.RowKit
set_option linter.unusedVariables false

theorem g_turned : Tryz.prog.globalNamed "stillroom/crc.turned" = some 0 := by kernel_rfl
theorem t_turned : (Tryz.prog.globals[0]?).map (·.type) = some 122 := by kernel_rfl
theorem c_turned : Tryz.prog.cellsOf 122 = 16 := by kernel_rfl
theorem c_u32 : Tryz.prog.cellsOf 76 = 1 := by kernel_rfl
/-- What a row's list says of the table. -/
theorem turned_of {W : World} {rest : List (String × DataW Unit)} (h : laidMet Tryz.prog (("stillroom/crc.turned", Rows.laid_stillroom_crc_turned) :: rest) W) : Turned W := by
  have ht : Lib.TabIs Tryz.prog W "stillroom/crc.turned" .u32 (tab.map Int.ofNat) :=
    Lib.tabIs_of_head (rest := rest) g_turned t_turned Tryz.underlying122 Tryz.underlying76 c_u32 c_turned h
  intro i hi
  have := ht.cell g_turned i (by simp [tab]; omega)
  rw [this]
  have : tab.length = 16 := rfl
  simp [List.getD, List.getElem?_eq_getElem (l := tab) (i := i) (by omega)]

end Go.Proofs.YtbljdcdcnnidkaaGreatDoor.Crc
namespace Go.Proofs.YtbljdcdcnnidkaaGreatDoor.Rec
open Go.RowKit Go.ChangeShapes Go.WideShapes
/-- A record whose parts are those of a value. -/
structure Rc.Ok (x : Rc) : Prop where
  kind : -9223372036854775808 ≤ x.kind ∧ x.kind ≤ 9223372036854775807
  fits : x.Fits
  body : x.body.length ≤ maxLen
theorem six : ∀ (l : List Value), l.length = 6 → ∃ a b c d e f, l = [a, b, c, d, e, f]
  | [a, b, c, d, e, f], _ => ⟨a, b, c, d, e, f, rfl⟩
theorem str_toList (s : ByteArray) : str s.data.toList = s := by
  unfold str
  rfl
theorem rec_of_trod {H : Type} {enc : TypeId × Value → H} {W : World} {base : Nat} {held : Bool} {n : Nat} {cs : List Value} {x : DataW H × List MemPlace} (h : DataW.trod enc Tryz.prog W base (fun _ => true) held n 78 cs = some x) :
    ∃ y : Rc, y.Ok ∧ cs = y.vals.toList := by
  obtain ⟨xs, k, rfl, _, hl, hxl, hf⟩ := DataW.trod_struct Tryz.underlying78 h
  obtain ⟨c0, c1, c2, c3, c4, c5, rfl⟩ := six cs (by rw [hl]; kernel_rfl)
  have hz : xs.length = 6 := hxl
  have g0 : DataW.trod enc Tryz.prog W base (fun _ => true) held k 3 (([c0, c1, c2, c3, c4, c5].drop 0).take (Tryz.prog.cellsOf 3)) = xs[0]? := hf 0 _ rfl
  have g1 : DataW.trod enc Tryz.prog W base (fun _ => true) held k 76 (([c0, c1, c2, c3, c4, c5].drop 1).take (Tryz.prog.cellsOf 76)) = xs[1]? := hf 1 _ rfl
  have g2 : DataW.trod enc Tryz.prog W base (fun _ => true) held k 41 (([c0, c1, c2, c3, c4, c5].drop 2).take (Tryz.prog.cellsOf 41)) = xs[2]? := hf 2 _ rfl
  have g3 : DataW.trod enc Tryz.prog W base (fun _ => true) held k 41 (([c0, c1, c2, c3, c4, c5].drop 3).take (Tryz.prog.cellsOf 41)) = xs[3]? := hf 3 _ rfl
  have g4 : DataW.trod enc Tryz.prog W base (fun _ => true) held k 41 (([c0, c1, c2, c3, c4, c5].drop 4).take (Tryz.prog.cellsOf 41)) = xs[4]? := hf 4 _ rfl
  have g5 : DataW.trod enc Tryz.prog W base (fun _ => true) held k 9 (([c0, c1, c2, c3, c4, c5].drop 5).take (Tryz.prog.cellsOf 9)) = xs[5]? := hf 5 _ rfl
  rw [List.getElem?_eq_getElem (by omega)] at g0 g1 g2 g3 g4 g5
  have e1 : Tryz.prog.cellsOf 3 = 1 := by kernel_rfl
  have e2 : Tryz.prog.cellsOf 76 = 1 := by kernel_rfl
  have e3 : Tryz.prog.cellsOf 41 = 1 := by kernel_rfl
  have e4 : Tryz.prog.cellsOf 9 = 1 := by kernel_rfl
  simp only [e1, e2, e3, e4, List.drop_succ_cons, List.drop_zero, List.take_succ_cons, List.take_zero] at g0 g1 g2 g3 g4 g5
  obtain ⟨n0, r0, _, w0⟩ := DataW.trod_int Tryz.underlying3 g0
  obtain ⟨n1, r1, _, w1⟩ := DataW.trod_int Tryz.underlying76 g1
  obtain ⟨n2, r2, _, w2⟩ := DataW.trod_int Tryz.underlying41 g2
  obtain ⟨n3, r3, _, w3⟩ := DataW.trod_int Tryz.underlying41 g3
  obtain ⟨n4, r4, _, w4⟩ := DataW.trod_int Tryz.underlying41 g4
  obtain ⟨s5, r5, _, w5⟩ := DataW.trod_string Tryz.underlying9 g5
  injection r0 with r0
  injection r1 with r1
  injection r2 with r2
  injection r3 with r3
  injection r4 with r4
  injection r5 with r5
  subst r0 r1 r2 r3 r4 r5
  have b1 := bounds_u32 w1
  have b2 := bounds_u64 w2
  have b3 := bounds_u64 w3
  have b4 := bounds_u64 w4
  obtain ⟨m1, rfl⟩ : ∃ m : Nat, n1 = m := ⟨n1.toNat, by omega⟩
  obtain ⟨m2, rfl⟩ : ∃ m : Nat, n2 = m := ⟨n2.toNat, by omega⟩
  obtain ⟨m3, rfl⟩ : ∃ m : Nat, n3 = m := ⟨n3.toNat, by omega⟩
  obtain ⟨m4, rfl⟩ : ∃ m : Nat, n4 = m := ⟨n4.toNat, by omega⟩
  refine ⟨⟨n0, m1, m2, m3, m4, s5.data.toList⟩, ⟨bounds_i64 w0, ⟨?_, ?_, ?_, ?_⟩, ?_⟩, ?_⟩
  · show m1 < _; omega
  · show m2 < _; omega
  · show m3 < _; omega
  · show m4 < _; omega
  · show s5.data.toList.length ≤ maxLen
    rw [Array.length_toList]
    exact w5
  · show _ = [Value.int .i64 n0, .int .u32 (m1 : Int), .int .u64 (m2 : Int), .int .u64 (m3 : Int), .int .u64 (m4 : Int), .string (str s5.data.toList)]
    rw [str_toList]
theorem rec_of_form {H : Type} {enc : TypeId × Value → H} {W : World} {base : Nat} {held : Bool} {n : Nat} {cs : Array Value} {x : DataW H × List MemPlace} (h : DataW.trod enc Tryz.prog W base (fun _ => true) held n 78 cs.toList = some x) :
    ∃ y : Rc, y.Ok ∧ cs = y.vals := by
  obtain ⟨y, hy, e⟩ := rec_of_trod h
  exact ⟨y, hy, Array.toList_inj.1 e⟩
end Go.Proofs.YtbljdcdcnnidkaaGreatDoor.Rec
/-
  Records in memory: stores, loads behind guards and in regions that draw; rows of bytes of the call's own: a byte is written, a front is taken; small facts.
  Conditions: none.
-/
namespace Go.Proofs.YtbljdcdcnnidkaaGreatDoor.Rec
open Go.RowKit
open Go.Proofs.YtbljdcdcnnidkaaGreatDoor.Crc (Turned)
set_option linter.unusedVariables false
set_option linter.unusedSimpArgs false

/-- 'make([]byte, n)' reads as so many noughts. -/
theorem own_noughts {w : World} {base g n : Nat} {c : Nat} (h : w.ownsRow base 5 1 (.slice (some ⟨g, 0, none⟩) n c) n (madeCells (Value.int .u8 0).cells (n * 1)).toList) : Row w w.heap.size (some ⟨g, 0, none⟩) n (bvs (List.replicate n 0)) := by
  have := Row.own h
  have e : (madeCells (Value.int .u8 0).cells (n * 1)).toList = bvs (List.replicate n 0) := by
    apply List.ext_getElem?
    intro j
    by_cases hj : j < n
    · simp [madeCells, Value.cells, bvs, bv, hj, Nat.mod_one]
    · simp [madeCells, Value.cells, bvs, bv, hj]
  rwa [e] at this
/-- A record is stored whole; the frame stays as it is. -/
theorem store_recN {w : World} {ops : Array Oper} {rest : List Oper} {o : Oper} {a : Act} {Q : Exit → Act → World → Prop} {g : Nat} {old : Array Value} (h : Blk w g 78 old) (hs : old.size = 6) (hgd : o.guard = none) (y z : Operand) (ho : o.op = .store 78 y z) (hx : a.eval y = .pointer (some ⟨g, 0, none⟩)) (x : Rc) (hy : a.eval z = .agg x.vals) (hd : o.dst = none)
    (k : ∀ w', Hid (RecAt w' g x) → Hid (w.grownBy w' (some g)) → wpList Tryz.prog ops Q rest a w') : wpList Tryz.prog ops Q (o :: rest) a w :=
  store_rec h hs hgd y z ho hx x hy fun w' h1 h2 => by rw [hd]; exact k w' h1 h2
theorem wpList_want {P : Program} {w : World} {ops : Array Oper} {rest : List Oper} {o : Oper} {a : Act} {Q : Exit → Act → World → Prop} (hw : Region.wanted o (yielded ops a.tmps) = true)
    (h : ∀ K : Act → World → Prop, (∀ a w, wpList P ops Q rest a w → K a w) → o.wp P a w K Q) : wpList P ops Q (o :: rest) a w :=
  wpList_step fun K hK => by rw [if_pos hw]; exact h K hK
/-- A record is loaded whole, behind a guard. -/
theorem load_recG {w : World} {ops : Array Oper} {rest : List Oper} {o : Oper} {a : Act} {Q : Exit → Act → World → Prop} {g : Nat} {x : Rc} (h : RecAt w g x) (hw : Region.wanted o (yielded ops a.tmps) = true) (y : Operand) (ho : o.op = .load 78 y) (hx : a.eval y = .pointer (some ⟨g, 0, none⟩))
    (k : wpList Tryz.prog ops Q rest (a.put o.dst (.agg x.vals)) w) : wpList Tryz.prog ops Q (o :: rest) a w :=
  wpList_want hw fun _ hK => wp_load_row 78 y ho g hx 78 x.vals (0, 0) _ h Tryz.underlying78 rfl rec_info (hK _ _ k)
/-- A record is loaded whole in a region that draws. -/
theorem step_load_rec {ops : Array Oper} {o : Oper} {a : Act} {w : World} {K : Act → World → Prop} {Q : Exit → Act → World → Prop} {E : Prop} {g : Nat} {x : Rc} (h : RecAt w g x) (hw : Region.wanted o (yielded ops a.tmps) = true) (y : Operand) (ho : o.op = .load 78 y) (hx : a.eval y = .pointer (some ⟨g, 0, none⟩))
    (k : K (a.put o.dst (.agg x.vals)) w) : if Region.wanted o (yielded ops a.tmps) = true then Oper.wp Tryz.prog o a w K Q else E := by
  rw [if_pos hw]
  exact wp_load_row 78 y ho g hx 78 x.vals (0, 0) _ h Tryz.underlying78 rfl rec_info k
theorem rec_cells {w : World} {g : Nat} {z : Rc} (h : RecAt w g z) : w.cell? ⟨g, 0, none⟩ = some (.int .i64 z.kind) ∧ w.cell? ⟨g, 1, none⟩ = some (.int .u32 (z.tenant : Int)) ∧ w.cell? ⟨g, 2, none⟩ = some (.int .u64 (z.epoch : Int)) ∧ w.cell? ⟨g, 3, none⟩ = some (.int .u64 (z.object : Int)) ∧ w.cell? ⟨g, 4, none⟩ = some (.int .u64 (z.seq : Int)) ∧ w.cell? ⟨g, 5, none⟩ = some (.string (str z.body)) :=
  ⟨h.cell 0, h.cell 1, h.cell 2, h.cell 3, h.cell 4, h.cell 5⟩
theorem conv_row {w : World} {B n c : Nat} {A : Option Addr} {l : List UInt8} {s : ByteArray} (hR : Row w B A n (bvs l)) (hs : Hid (s = str l)) : (convert 31 9 (.slice A n c)).run Tryz.prog w = .ok (.string s) w := by
  rw [hs.out]
  exact bytes_string Tryz.underlying31 Tryz.underlying5 Tryz.underlying9 hR
theorem below_of_drew {w w' : World} (h : Below w.drew.heap.size w.drew w') : Hid (Below w.heap.size w w') := ⟨h.os, h.tape, h.output, h.size, h.block⟩
theorem conv_own {w : World} {base n : Nat} {u : Value} {l : List UInt8} {s : ByteArray} (h : w.ownsRow base 5 1 u n (bvs l)) (hs : Hid (s = str l)) : ∃ A c, u = .slice A n c ∧ (convert 31 9 (.slice A n c)).run Tryz.prog w = .ok (.string s) w := by
  obtain ⟨A, c, rfl, _, _⟩ := own_form h
  exact ⟨A, c, rfl, conv_row (Row.own h) hs⟩
theorem dec_enc (y : Rc) (hy : y.May) (hf : y.Fits) : dec (enc y) = .ok y (39 + y.body.length) := by
  have := dec_bytes y [] hy hf
  rw [List.append_nil] at this
  rw [enc_may hy]
  exact this
theorem xor_u8 (a b : UInt8) : bits .xor .u8 (a.toNat : Int) (b.toNat : Int) = ((a ^^^ b).toNat : Int) := by
  rw [u8_xor_nat _ _ a.toNat_lt b.toNat_lt, UInt8.toNat_xor]
theorem xor_ne (a b : UInt8) (h : b ≠ 0) : a ^^^ b ≠ a := by
  intro e
  refine h ?_
  have : a ^^^ (a ^^^ b) = a ^^^ a := by rw [e]
  rw [← UInt8.xor_assoc, UInt8.xor_self, UInt8.zero_xor] at this
  exact this
/-- A byte of a row of the call's own is written. -/
theorem own_put {w : World} {base g n c : Nat} {bs : List UInt8} (h : w.ownsRow base 5 1 (.slice (some ⟨g, 0, none⟩) n c) n (bvs bs)) (k : Nat) (z : UInt8) (hk : k < n) :
    Hid (Row (w.setCell ⟨g, k, none⟩ (.int .u8 (z.toNat : Int))) w.heap.size (some ⟨g, 0, none⟩) n (bvs (bs.set k z))) := by
  have hr := Row.own h
  have hs := hr.size
  obtain ⟨b, o, e, hlt, hc⟩ := hr.2 (by omega)
  injection e with e
  injection e with e1 e2
  subst e1 e2
  refine ⟨by rw [bvs_length, List.length_set, hs], fun _ => ⟨g, 0, rfl, hlt, fun i v hv => ?_⟩⟩
  obtain ⟨g', cap, cur, hv', _, hblk, _, _, hsz, _⟩ := own_block h (by omega)
  injection hv' with a1 a2 a3
  injection a1 with a1
  injection a1 with a1
  subst a1
  rw [Nat.zero_add, (hblk.put k _).cell i]
  rw [bvs, List.getElem?_map, List.getElem?_set] at hv
  by_cases hik : k = i
  · subst hik
    rw [if_pos rfl, if_pos (by omega)] at hv
    rw [Array.getElem?_setIfInBounds_self_of_lt (by omega)]
    exact hv
  · rw [if_neg hik] at hv
    rw [Array.getElem?_setIfInBounds_ne hik, ← hblk.cell i]
    have := hc i v (by rw [bvs, List.getElem?_map]; exact hv)
    rwa [Nat.zero_add] at this
theorem own_cells {w : World} {base g n c : Nat} {bs : List UInt8} (h : w.ownsRow base 5 1 (.slice (some ⟨g, 0, none⟩) n c) n (bvs bs)) (k : Nat) (hk : k < n) :
    w.cell? ⟨g, k, none⟩ = some (.int .u8 ((bs.getD k 0).toNat : Int)) ∧ w.frozen? ⟨g, k, none⟩ = false := by
  obtain ⟨b, o, e, hlt, hc⟩ := (Row.own h).byte (by omega)
  injection e with e
  injection e with e1 e2
  subst e1 e2
  obtain ⟨g', cap, cur, hv', _, hblk, _⟩ := own_block h (by omega)
  injection hv' with a1 a2 a3
  injection a1 with a1
  injection a1 with a1
  subst a1
  have := hc k hk
  rw [Nat.zero_add] at this
  exact ⟨this, hblk.free k⟩
theorem own_take {w : World} {base n c k : Nat} {A : Option Addr} {bs : List UInt8} (h : w.ownsRow base 5 1 (.slice A n c) n (bvs bs)) (hk : k ≤ n) : w.ownsRow base 5 1 (.slice A k c) k (bvs (bs.take k)) := by
  have hl : bs.length = n := by have := h.1; rw [bvs_length] at this; omega
  refine ⟨by rw [bvs_length, List.length_take]; omega, ?_⟩
  rcases h.2 with ⟨h0, hn⟩ | ⟨g, cap, cur, hv, hb, hg, hnc, hm, hs, hx⟩
  · injection h0 with h1 h2 h3
    subst h1 h3
    exact .inl ⟨by rw [show k = 0 by omega], by omega⟩
  · injection hv with h1 h2 h3
    subst h1 h3
    refine .inr ⟨g, c, cur, rfl, hb, hg, by omega, hm, hs, ?_⟩
    rw [← bvs_take, ← hx, List.take_take]
    congr 1
    omega
theorem Rc.Ok.cut {x : Rc} (h : x.Ok) (m : Nat) (hm : m ≤ maxLen) : (x.cut m).Ok :=
  ⟨h.kind, ⟨h.fits.tenant, h.fits.epoch, h.fits.object, h.fits.seq⟩, by show (x.body.take m).length ≤ maxLen; rw [List.length_take]; have := h.body; omega⟩
theorem cut_small (x : Rc) (m : Nat) : (x.cut m).body.length ≤ m := by
  show (x.body.take m).length ≤ m
  rw [List.length_take]
  omega
end Go.Proofs.YtbljdcdcnnidkaaGreatDoor.Rec
/-
  Proved: what the reference's Decode returns: what a list of bytes begins with.
  Conditions: the slice reads as bytes.
-/
namespace Go.Proofs.YtbljdcdcnnidkaaGreatDoor.Rec
open Go.RowKit
open Go.Proofs.YtbljdcdcnnidkaaGreatDoor.Crc (Turned)
set_option linter.unusedVariables false
set_option linter.unusedSimpArgs false


set_option maxRecDepth 100000 in
set_option maxHeartbeats 4000000 in
/-- The mark is wrong in its first byte. -/
theorem refdecode_b (b o n c : Nat) (bs : List UInt8) (w : World) (hR : Row w w.heap.size (some ⟨b, o, none⟩) n (bvs bs)) (hnc : n ≤ c) (hc : c ≤ maxLen) (h1 : 1 ≤ n) (h : bs.getD 0 0 ≠ 83) :
    Calls Tryz.prog 54 #[.slice (some ⟨b, o, none⟩) n c] w fun e w' => e = .returned (.tuple Out.bad.vals) ∧ Below w.heap.size w w' := by
  have hm : c ≤ 9223372036854775807 := by unfold maxLen at hc; exact hc
  have hz := zeroRec
  obtain ⟨w1, hw1⟩ : ∃ w1, w1 = w.alloc (.cells #[.int .i64 0, .int .u32 0, .int .u64 0, .int .u64 0, .int .u64 0, .string ⟨#[]⟩] 78) := ⟨_, rfl⟩
  have hB1 : Below w.heap.size w w1 := by rw [hw1]; exact below_alloc w _
  have HR1 : Hid (Row w1 w.heap.size (some ⟨b, o, none⟩) n (bvs bs)) := hR.below hB1
  have HZ : Hid (RecAt w1 w.heap.size zeroRc) := by rw [hw1]; exact zero_new w
  have HB1 := Lib.hid hB1
  have hl := hR.size
  have hnc' : n ≤ 9223372036854775807 := by omega
  obtain ⟨b', o', e', _, hcs⟩ := HR1.out.byte (by omega)
  injection e' with e'
  injection e' with e1 e2
  subst e1 e2
  have hcell : w1.cell? ⟨b, o, none⟩ = some (.int .u8 ((bs.getD 0 0).toNat : Int)) := hcs 0 (by omega)
  obtain ⟨q, hq⟩ : ∃ q, q = bs.getD 0 0 := ⟨_, rfl⟩
  rw [← hq] at hcell h
  have hs0 : ((((⟨#[83, 82]⟩ : ByteArray)[0]'(by decide)).toNat : Nat) : Int) = 83 := rfl
  have hd : ((q.toNat : Int) != ((((⟨#[83, 82]⟩ : ByteArray)[0]'(by decide)).toNat : Nat) : Int)) = true := bne_iff_ne.2 (fun e => h (UInt8.toNat.inj (by rw [hs0] at e; show q.toNat = 83; omega)))
  have hn1 : (0 : Int) < (n : Int) := by omega
  have hq8 := q.toNat_lt
  clear hcs hq h hl hR hB1
  go_enter Tryz.func54, Tryz.ntmps54
  go_upto_region 1 with fail
  rw [← hw1]
  clear hw1
  go_wp2_with fail
  refine wp_loop_rounds 3 ?_
  rw [rounds_succ]
  go_wp2_with fail
  go_quiet (fail)
  have HZ2 : Hid (RecAt (w1.drewN nq) w.heap.size zeroRc) := HZ.out
  have HB2 := Lib.hid (below_drewN HB1.out nq)
  go_wp2_with (refine store_recN HZ2.out rfl rfl (.tmp 2) (.tmp 27) rfl rfl zeroRc rfl rfl ?_; intro w2 G5 G6)
  refine bodyPost_ret (result_rec3 G5.out rfl _ rfl) rfl ?_
  exact ⟨rfl, below_only HB2.out (only_hid G6) (Nat.le_refl _) HB2.out.size⟩
set_option maxRecDepth 100000 in
set_option maxHeartbeats 4000000 in
/-- There is nothing. -/
theorem refdecode_a (A : Option Addr) (c : Nat) (w : World) (hc : c ≤ maxLen) :
    Calls Tryz.prog 54 #[.slice A 0 c] w fun e w' => e = .returned (.tuple Out.more.vals) ∧ Below w.heap.size w w' := by
  have hz := zeroRec
  obtain ⟨w1, hw1⟩ : ∃ w1, w1 = w.alloc (.cells #[.int .i64 0, .int .u32 0, .int .u64 0, .int .u64 0, .int .u64 0, .string ⟨#[]⟩] 78) := ⟨_, rfl⟩
  have HB1 : Hid (Below w.heap.size w w1) := by rw [hw1]; exact below_alloc w _
  have HZ : Hid (RecAt w1 w.heap.size zeroRc) := by rw [hw1]; exact zero_new w
  go_enter Tryz.func54, Tryz.ntmps54
  go_upto_region 1 with fail
  rw [← hw1]
  clear hw1
  go_wp2_with fail
  refine wp_loop_rounds 3 ?_
  rw [rounds_succ]
  go_wp2_with (refine store_recN HZ.out rfl rfl (.tmp 2) (.tmp 47) rfl rfl zeroRc rfl rfl ?_; intro w2 G5 G6)
  refine bodyPost_ret (result_rec3 G5.out rfl _ rfl) rfl ?_
  exact ⟨rfl, below_only HB1.out (only_hid G6) (Nat.le_refl _) HB1.out.size⟩
set_option maxRecDepth 100000 in
set_option maxHeartbeats 4000000 in
/-- One byte, the right one. -/
theorem refdecode_c (b o n c : Nat) (bs : List UInt8) (w : World) (hR : Row w w.heap.size (some ⟨b, o, none⟩) n (bvs bs)) (hnc : n ≤ c) (hc : c ≤ maxLen) (h1 : n = 1) (h0 : bs.getD 0 0 = 83) :
    Calls Tryz.prog 54 #[.slice (some ⟨b, o, none⟩) n c] w fun e w' => e = .returned (.tuple Out.more.vals) ∧ Below w.heap.size w w' := by
  have hm : c ≤ 9223372036854775807 := by unfold maxLen at hc; exact hc
  have hz := zeroRec
  obtain ⟨w1, hw1⟩ : ∃ w1, w1 = w.alloc (.cells #[.int .i64 0, .int .u32 0, .int .u64 0, .int .u64 0, .int .u64 0, .string ⟨#[]⟩] 78) := ⟨_, rfl⟩
  have hB1 : Below w.heap.size w w1 := by rw [hw1]; exact below_alloc w _
  have HR1 : Hid (Row w1 w.heap.size (some ⟨b, o, none⟩) n (bvs bs)) := hR.below hB1
  have HZ : Hid (RecAt w1 w.heap.size zeroRc) := by rw [hw1]; exact zero_new w
  have HB1 := Lib.hid hB1
  have hl := hR.size
  have hnc' : n ≤ 9223372036854775807 := by omega
  obtain ⟨b', o', e', _, hcs⟩ := HR1.out.byte (by omega)
  injection e' with e'
  injection e' with e1 e2
  subst e1 e2
  have hcell : w1.cell? ⟨b, o, none⟩ = some (.int .u8 ((bs.getD 0 0).toNat : Int)) := hcs 0 (by omega)
  rw [h0] at hcell
  have hs0 : ((((⟨#[83, 82]⟩ : ByteArray)[0]'(by decide)).toNat : Nat) : Int) = 83 := rfl
  have hd : ((83 : Int) != ((((⟨#[83, 82]⟩ : ByteArray)[0]'(by decide)).toNat : Nat) : Int)) = false := rfl
  have hcell' : w1.cell? ⟨b, o, none⟩ = some (.int .u8 83) := hcell
  subst h1
  clear hcs hl hR hB1 hcell h0
  go_enter Tryz.func54, Tryz.ntmps54
  go_upto_region 1 with fail
  rw [← hw1]
  clear hw1
  go_wp2_with fail
  refine wp_loop_rounds 3 ?_
  rw [rounds_succ]
  go_wp2_with fail
  go_quiet (fail)
  have HZ2 : Hid (RecAt (w1.drewN nq) w.heap.size zeroRc) := HZ.out
  have HB2 := Lib.hid (below_drewN HB1.out nq)
  go_wp2_with fail
  rw [rounds_succ]
  go_wp2_with (refine store_recN HZ2.out rfl rfl (.tmp 2) (.tmp 47) rfl rfl zeroRc rfl rfl ?_; intro w2 G5 G6)
  refine bodyPost_ret (result_rec3 G5.out rfl _ rfl) rfl ?_
  exact ⟨rfl, below_only HB2.out (only_hid G6) (Nat.le_refl _) HB2.out.size⟩
set_option maxRecDepth 100000 in
set_option maxHeartbeats 4000000 in
/-- The mark is wrong in its second byte. -/
theorem refdecode_d (b o n c : Nat) (bs : List UInt8) (w : World) (hR : Row w w.heap.size (some ⟨b, o, none⟩) n (bvs bs)) (hnc : n ≤ c) (hc : c ≤ maxLen) (h1 : 2 ≤ n) (h0 : bs.getD 0 0 = 83) (h : bs.getD 1 0 ≠ 82) :
    Calls Tryz.prog 54 #[.slice (some ⟨b, o, none⟩) n c] w fun e w' => e = .returned (.tuple Out.bad.vals) ∧ Below w.heap.size w w' := by
  have hm : c ≤ 9223372036854775807 := by unfold maxLen at hc; exact hc
  have hz := zeroRec
  obtain ⟨w1, hw1⟩ : ∃ w1, w1 = w.alloc (.cells #[.int .i64 0, .int .u32 0, .int .u64 0, .int .u64 0, .int .u64 0, .string ⟨#[]⟩] 78) := ⟨_, rfl⟩
  have hB1 : Below w.heap.size w w1 := by rw [hw1]; exact below_alloc w _
  have HR1 : Hid (Row w1 w.heap.size (some ⟨b, o, none⟩) n (bvs bs)) := hR.below hB1
  have HZ : Hid (RecAt w1 w.heap.size zeroRc) := by rw [hw1]; exact zero_new w
  have HB1 := Lib.hid hB1
  have hl := hR.size
  have hnc' : n ≤ 9223372036854775807 := by omega
  obtain ⟨b', o', e', _, hcs⟩ := HR1.out.byte (by omega)
  injection e' with e'
  injection e' with e1 e2
  subst e1 e2
  have hcell : w1.cell? ⟨b, o, none⟩ = some (.int .u8 ((bs.getD 0 0).toNat : Int)) := hcs 0 (by omega)
  rw [h0] at hcell
  have hs0 : ((((⟨#[83, 82]⟩ : ByteArray)[0]'(by decide)).toNat : Nat) : Int) = 83 := rfl
  have hd : ((83 : Int) != ((((⟨#[83, 82]⟩ : ByteArray)[0]'(by decide)).toNat : Nat) : Int)) = false := rfl
  have hcell' : w1.cell? ⟨b, o, none⟩ = some (.int .u8 83) := hcell
  have hs1 : ((((⟨#[83, 82]⟩ : ByteArray)[1]'(by decide)).toNat : Nat) : Int) = 82 := rfl
  obtain ⟨q, hq⟩ : ∃ q, q = bs.getD 1 0 := ⟨_, rfl⟩
  have hc1 : w1.cell? ⟨b, o + 1, none⟩ = some (.int .u8 ((bs.getD 1 0).toNat : Int)) := hcs 1 (by omega)
  rw [← hq] at hc1 h
  have hd2 : ((q.toNat : Int) != ((((⟨#[83, 82]⟩ : ByteArray)[1]'(by decide)).toNat : Nat) : Int)) = true := bne_iff_ne.2 (fun e => h (UInt8.toNat.inj (by rw [hs1] at e; show q.toNat = 82; omega)))
  have hn1 : (1 : Int) < (n : Int) := by omega
  have hn0 : (0 : Int) < (n : Int) := by omega
  have hq8 := q.toNat_lt
  have HC1 := Lib.hid hc1
  clear hcs hl hR hB1 hcell h0 hq h
  go_enter Tryz.func54, Tryz.ntmps54
  go_upto_region 1 with fail
  rw [← hw1]
  clear hw1
  go_wp2_with fail
  refine wp_loop_rounds 3 ?_
  rw [rounds_succ]
  go_wp2_with fail
  go_quiet (fail)
  obtain ⟨w2, hw2⟩ : ∃ w2, w2 = w1.drewN nq := ⟨_, rfl⟩
  have HZ2 : Hid (RecAt w2 w.heap.size zeroRc) := by rw [hw2]; exact HZ.out
  have HB2 : Hid (Below w.heap.size w w2) := by rw [hw2]; exact below_drewN HB1.out nq
  have hc2 : w2.cell? ⟨b, o + 1, none⟩ = some (.int .u8 (q.toNat : Int)) := by rw [hw2]; exact HC1.out
  rw [← hw2]
  clear hw2 HZ HB1 hc1 hcell'
  go_wp2_with fail
  rw [rounds_succ]
  go_wp2_with fail
  go_quiet (fail)
  have HZ3 : Hid (RecAt (w2.drewN nq) w.heap.size zeroRc) := HZ2.out
  have HB3 := Lib.hid (below_drewN HB2.out nq)
  go_wp2_with (refine store_recN HZ3.out rfl rfl (.tmp 2) (.tmp 27) rfl rfl zeroRc rfl rfl ?_; intro w4 G5 G6)
  refine bodyPost_ret (result_rec3 G5.out rfl _ rfl) rfl ?_
  exact ⟨rfl, below_only HB3.out (only_hid G6) (Nat.le_refl _) HB3.out.size⟩
end Go.Proofs.YtbljdcdcnnidkaaGreatDoor.Rec
