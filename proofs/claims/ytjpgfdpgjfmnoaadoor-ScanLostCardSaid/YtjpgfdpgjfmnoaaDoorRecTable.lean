/-
  Plain facts: the table of half bytes out of a row's list; a record among a statement's arguments, as the form reads it.
-/
import Derived.Test.YtjpgfdpgjfmnoaaDoorRows
import Derived.Test.YtjpgfdpgjfmnoaaDoorRecEq
import Derived.Lib.LaidTab
import Derived.ProofKit
import Derived.OpenShut
import Derived.ShutString
import Derived.WideShapes
namespace Go.Proofs.YtjpgfdpgjfmnoaaDoor.Crc
open Go.RowKit
set_option linter.unusedVariables false

theorem g_turned : Tryd.prog.globalNamed "stillroom/crc.turned" = some 0 := by kernel_rfl
theorem t_turned : (Tryd.prog.globals[0]?).map (·.type) = some 70 := by kernel_rfl
theorem c_turned : Tryd.prog.cellsOf 70 = 16 := by kernel_rfl
theorem c_u32 : Tryd.prog.cellsOf 29 = 1 := by kernel_rfl
/-- What a row's list says of the table. -/
theorem turned_of {W : World} {rest : List (String × DataW Unit)} (h : laidMet Tryd.prog (("stillroom/crc.turned", Rows.laid_stillroom_crc_turned) :: rest) W) : Turned W := by
  have ht : Lib.TabIs Tryd.prog W "stillroom/crc.turned" .u32 (tab.map Int.ofNat) :=
    Lib.tabIs_of_head (rest := rest) g_turned t_turned Tryd.underlying70 Tryd.underlying29 c_u32 c_turned h
  intro i hi
  have := ht.cell g_turned i (by simp [tab]; omega)
  rw [this]
  have : tab.length = 16 := rfl
  simp [List.getD, List.getElem?_eq_getElem (l := tab) (i := i) (by omega)]

end Go.Proofs.YtjpgfdpgjfmnoaaDoor.Crc
namespace Go.Proofs.YtjpgfdpgjfmnoaaDoor.Rec
open Go.RowKit Go.ChangeShapes Go.WideShapes
/-- A record whose parts are those of a value. -/
structure Rc.Ok (x : Rc) : Prop where
  kind : -9223372036854775808 ≤ x.kind ∧ x.kind ≤ 9223372036854775807
  fits : x.Fits
  body : x.body.length ≤ maxLen
theorem six : ∀ (l : List Value), l.length = 6 → ∃ a b c d e f, l = [a, b, c, d, e, f]
  | [a, b, c, d, e, f], _ => ⟨a, b, c, d, e, f, rfl⟩
theorem str_toList (s : ByteArray) : str s.data.toList = s := by
  unfold str
  rfl
theorem rec_of_trod {H : Type} {enc : TypeId × Value → H} {W : World} {base : Nat} {held : Bool} {n : Nat} {cs : List Value} {x : DataW H × List MemPlace} (h : DataW.trod enc Tryd.prog W base (fun _ => true) held n 32 cs = some x) :
    ∃ y : Rc, y.Ok ∧ cs = y.vals.toList := by
  obtain ⟨xs, k, rfl, _, hl, hxl, hf⟩ := DataW.trod_struct Tryd.underlying32 h
  obtain ⟨c0, c1, c2, c3, c4, c5, rfl⟩ := six cs (by rw [hl]; kernel_rfl)
  have hz : xs.length = 6 := hxl
  have g0 : DataW.trod enc Tryd.prog W base (fun _ => true) held k 3 (([c0, c1, c2, c3, c4, c5].drop 0).take (Tryd.prog.cellsOf 3)) = xs[0]? := hf 0 _ rfl
  have g1 : DataW.trod enc Tryd.prog W base (fun _ => true) held k 29 (([c0, c1, c2, c3, c4, c5].drop 1).take (Tryd.prog.cellsOf 29)) = xs[1]? := hf 1 _ rfl
  have g2 : DataW.trod enc Tryd.prog W base (fun _ => true) held k 30 (([c0, c1, c2, c3, c4, c5].drop 2).take (Tryd.prog.cellsOf 30)) = xs[2]? := hf 2 _ rfl
  have g3 : DataW.trod enc Tryd.prog W base (fun _ => true) held k 30 (([c0, c1, c2, c3, c4, c5].drop 3).take (Tryd.prog.cellsOf 30)) = xs[3]? := hf 3 _ rfl
  have g4 : DataW.trod enc Tryd.prog W base (fun _ => true) held k 30 (([c0, c1, c2, c3, c4, c5].drop 4).take (Tryd.prog.cellsOf 30)) = xs[4]? := hf 4 _ rfl
  have g5 : DataW.trod enc Tryd.prog W base (fun _ => true) held k 9 (([c0, c1, c2, c3, c4, c5].drop 5).take (Tryd.prog.cellsOf 9)) = xs[5]? := hf 5 _ rfl
  rw [List.getElem?_eq_getElem (by omega)] at g0 g1 g2 g3 g4 g5
  have e1 : Tryd.prog.cellsOf 3 = 1 := by kernel_rfl
  have e2 : Tryd.prog.cellsOf 29 = 1 := by kernel_rfl
  have e3 : Tryd.prog.cellsOf 30 = 1 := by kernel_rfl
  have e4 : Tryd.prog.cellsOf 9 = 1 := by kernel_rfl
  simp only [e1, e2, e3, e4, List.drop_succ_cons, List.drop_zero, List.take_succ_cons, List.take_zero] at g0 g1 g2 g3 g4 g5
  obtain ⟨n0, r0, _, w0⟩ := DataW.trod_int Tryd.underlying3 g0
  obtain ⟨n1, r1, _, w1⟩ := DataW.trod_int Tryd.underlying29 g1
  obtain ⟨n2, r2, _, w2⟩ := DataW.trod_int Tryd.underlying30 g2
  obtain ⟨n3, r3, _, w3⟩ := DataW.trod_int Tryd.underlying30 g3
  obtain ⟨n4, r4, _, w4⟩ := DataW.trod_int Tryd.underlying30 g4
  obtain ⟨s5, r5, _, w5⟩ := DataW.trod_string Tryd.underlying9 g5
  injection r0 with r0
  injection r1 with r1
  injection r2 with r2
  injection r3 with r3
  injection r4 with r4
  injection r5 with r5
  subst r0 r1 r2 r3 r4 r5
  have b1 := bounds_u32 w1
  have b2 := bounds_u64 w2
  have b3 := bounds_u64 w3
  have b4 := bounds_u64 w4
  obtain ⟨m1, rfl⟩ : ∃ m : Nat, n1 = m := ⟨n1.toNat, by omega⟩
  obtain ⟨m2, rfl⟩ : ∃ m : Nat, n2 = m := ⟨n2.toNat, by omega⟩
  obtain ⟨m3, rfl⟩ : ∃ m : Nat, n3 = m := ⟨n3.toNat, by omega⟩
  obtain ⟨m4, rfl⟩ : ∃ m : Nat, n4 = m := ⟨n4.toNat, by omega⟩
  refine ⟨⟨n0, m1, m2, m3, m4, s5.data.toList⟩, ⟨bounds_i64 w0, ⟨?_, ?_, ?_, ?_⟩, ?_⟩, ?_⟩
  · show m1 < _; omega
  · show m2 < _; omega
  · show m3 < _; omega
  · show m4 < _; omega
  · show s5.data.toList.length ≤ maxLen
    rw [Array.length_toList]
    exact w5
  · show _ = [Value.int .i64 n0, .int .u32 (m1 : Int), .int .u64 (m2 : Int), .int .u64 (m3 : Int), .int .u64 (m4 : Int), .string (str s5.data.toList)]
    rw [str_toList]
theorem rec_of_form {H : Type} {enc : TypeId × Value → H} {W : World} {base : Nat} {held : Bool} {n : Nat} {cs : Array Value} {x : DataW H × List MemPlace} (h : DataW.trod enc Tryd.prog W base (fun _ => true) held n 32 cs.toList = some x) :
    ∃ y : Rc, y.Ok ∧ cs = y.vals := by
  obtain ⟨y, hy, e⟩ := rec_of_trod h
  exact ⟨y, hy, Array.toList_inj.1 e⟩
end Go.Proofs.YtjpgfdpgjfmnoaaDoor.Rec
