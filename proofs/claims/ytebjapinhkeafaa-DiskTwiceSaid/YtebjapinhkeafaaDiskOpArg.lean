/-
  Plain facts: a slice of operations of law 5, as the form reads it: each one's seven cells.
-/
import Derived.Test.YtebjapinhkeafaaDiskSteps
import Derived.ProofKit
import Derived.OpenShut
import Derived.ShutString
import Derived.Deep.Grids
namespace Go.Proofs.Ytebjapinhkeafaa.Disk
open Go.RowKit Go.Maps Go.ChangeShapes Go.WideShapes
set_option linter.unusedVariables false
set_option linter.unusedSimpArgs false

/-- One operation, as a value. -/
structure OpV where
  k : Int
  n : Int
  m : Int
  name : ByteArray
  to : ByteArray
  A : Option Addr
  l : Nat
  c : Nat
  bs : List UInt8
  P : Option Addr
  pl : Nat
  pc : Nat
  keep : List Bool
def OpV.vals (x : OpV) : Array Value := #[.int .i64 x.k, .int .i64 x.n, .int .i64 x.m, .string x.name, .string x.to, .slice x.A x.l x.c, .slice x.P x.pl x.pc]
structure OpV.Ok (x : OpV) (w : World) : Prop where
  k : -9223372036854775808 ≤ x.k ∧ x.k ≤ 9223372036854775807
  n : -9223372036854775808 ≤ x.n ∧ x.n ≤ 9223372036854775807
  m : -9223372036854775808 ≤ x.m ∧ x.m ≤ 9223372036854775807
  name : x.name.size ≤ maxLen
  to : x.to.size ≤ maxLen
  row : Row w w.heap.size x.A x.l (bvs x.bs)
  lc : x.l ≤ x.c
  cm : x.c ≤ maxLen
  prow : Row w w.heap.size x.P x.pl (lvs x.keep)
  plc : x.pl ≤ x.pc
  pcm : x.pc ≤ maxLen
def OpsAt (w : World) (A : Option Addr) (n : Nat) : Prop := 0 < n → ∃ b o, A = some ⟨b, o, none⟩ ∧ b < w.heap.size ∧ ∀ i, i < n → ∃ x : OpV, x.Ok w ∧ ∀ j v, x.vals[j]? = some v → w.cell? ⟨b, o + i * 7 + j, none⟩ = some v
theorem seven : ∀ (l : List Value), l.length = 7 → ∃ a b c d e f g, l = [a, b, c, d, e, f, g]
  | [a, b, c, d, e, f, g], _ => ⟨a, b, c, d, e, f, g, rfl⟩
theorem op_of_trod {H : Type} {enc : TypeId × Value → H} {W : World} {base : Nat} {held : Bool} {n : Nat} {cs : List Value} {x : DataW H × List MemPlace} (h : DataW.trod enc Try.prog W base (fun _ => true) held n 50 cs = some x) :
    ∃ y : OpV, y.Ok W ∧ cs = y.vals.toList := by
  obtain ⟨xs, k, rfl, _, hl, hxl, hf⟩ := DataW.trod_struct Try.underlying50 h
  obtain ⟨c0, c1, c2, c3, c4, c5, c6, rfl⟩ := seven cs (by rw [hl]; kernel_rfl)
  obtain ⟨y, hy⟩ : ∃ y, y = xs := ⟨_, rfl⟩
  have hz : xs.length = 7 := hxl
  have g0 : DataW.trod enc Try.prog W base (fun _ => true) held k 3 (([c0, c1, c2, c3, c4, c5, c6].drop 0).take (Try.prog.cellsOf 3)) = xs[0]? := hf 0 _ rfl
  have g1 : DataW.trod enc Try.prog W base (fun _ => true) held k 3 (([c0, c1, c2, c3, c4, c5, c6].drop 1).take (Try.prog.cellsOf 3)) = xs[1]? := hf 1 _ rfl
  have g2 : DataW.trod enc Try.prog W base (fun _ => true) held k 3 (([c0, c1, c2, c3, c4, c5, c6].drop 2).take (Try.prog.cellsOf 3)) = xs[2]? := hf 2 _ rfl
  have g3 : DataW.trod enc Try.prog W base (fun _ => true) held k 9 (([c0, c1, c2, c3, c4, c5, c6].drop 3).take (Try.prog.cellsOf 9)) = xs[3]? := hf 3 _ rfl
  have g4 : DataW.trod enc Try.prog W base (fun _ => true) held k 9 (([c0, c1, c2, c3, c4, c5, c6].drop 4).take (Try.prog.cellsOf 9)) = xs[4]? := hf 4 _ rfl
  have g5 : DataW.trod enc Try.prog W base (fun _ => true) held k 22 (([c0, c1, c2, c3, c4, c5, c6].drop 5).take (Try.prog.cellsOf 22)) = xs[5]? := hf 5 _ rfl
  have g6 : DataW.trod enc Try.prog W base (fun _ => true) held k 23 (([c0, c1, c2, c3, c4, c5, c6].drop 6).take (Try.prog.cellsOf 23)) = xs[6]? := hf 6 _ rfl
  rw [List.getElem?_eq_getElem (by omega)] at g0 g1 g2 g3 g4 g5 g6
  have e1 : Try.prog.cellsOf 3 = 1 := by kernel_rfl
  have e2 : Try.prog.cellsOf 9 = 1 := by kernel_rfl
  have e3 : Try.prog.cellsOf 22 = 1 := by kernel_rfl
  have e4 : Try.prog.cellsOf 23 = 1 := by kernel_rfl
  simp only [e1, e2, e3, e4, List.drop_succ_cons, List.drop_zero, List.take_succ_cons, List.take_zero] at g0 g1 g2 g3 g4 g5 g6
  obtain ⟨n0, r0, _, w0⟩ := DataW.trod_int Try.underlying3 g0
  obtain ⟨n1, r1, _, w1⟩ := DataW.trod_int Try.underlying3 g1
  obtain ⟨n2, r2, _, w2⟩ := DataW.trod_int Try.underlying3 g2
  obtain ⟨s3, r3, _, w3⟩ := DataW.trod_string Try.underlying9 g3
  obtain ⟨s4, r4, _, w4⟩ := DataW.trod_string Try.underlying9 g4
  injection r0 with r0
  injection r1 with r1
  injection r2 with r2
  injection r3 with r3
  injection r4 with r4
  subst r0 r1 r2 r3 r4
  obtain ⟨A5, l5, k5, rfl, bs, q5, lc5, cm5⟩ : ∃ A l k, c5 = .slice A l k ∧ ∃ bs, Row W W.heap.size A l (bvs bs) ∧ l ≤ k ∧ k ≤ maxLen := by
    rcases open_ints Try.underlying22 Try.underlying5 (by kernel_rfl) g5 with ⟨hcs, _⟩ | ⟨x, l, c, zs, hcs, _, hl, hm, hz, _, hcell, hwz⟩
    · injection hcs with hcs
      exact ⟨none, 0, 0, hcs, row_of_bytes (.inl ⟨rfl, rfl, rfl⟩)⟩
    · injection hcs with hcs
      exact ⟨some x, l, c, hcs, row_of_bytes (.inr ⟨x, zs, rfl, hl, hm, by simpa using hz, hcell, hwz⟩)⟩
  obtain ⟨A6, l6, k6, rfl, ks, q6, lc6, cm6⟩ : ∃ A l k, c6 = .slice A l k ∧ ∃ bs, Row W W.heap.size A l (lvs bs) ∧ l ≤ k ∧ k ≤ maxLen := by
    rcases Deep.open_bools Try.underlying23 Try.underlying4 (by kernel_rfl) g6 with ⟨hcs, _⟩ | ⟨x, l, c, B, hcs, _, hl, hm, _, hcell⟩
    · injection hcs with hcs
      exact ⟨none, 0, 0, hcs, row_of_bools (.inl ⟨rfl, rfl, rfl⟩)⟩
    · injection hcs with hcs
      exact ⟨some x, l, c, hcs, row_of_bools (.inr ⟨x, B, rfl, hl, hm, hcell⟩)⟩
  exact ⟨⟨n0, n1, n2, s3, s4, A5, l5, k5, bs, A6, l6, k6, ks⟩, ⟨bounds_i64 w0, bounds_i64 w1, bounds_i64 w2, w3, w4, q5, lc5, cm5, q6, lc6, cm6⟩, rfl⟩
theorem ops_of_form {H : Type} {enc : TypeId × Value → H} {W : World} {base : Nat} {held : Bool} {n : Nat} {a : Option Addr} {len cap : Nat} {x : DataW H × List MemPlace} (h : DataW.trod enc Try.prog W base (fun _ => true) held n 48 [.slice a len cap] = some x) :
    OpsAt W a len ∧ len ≤ cap ∧ cap ≤ maxLen := by
  rcases Deep.open_slice Try.underlying48 h with ⟨hcs, _⟩ | ⟨p, l, c, m, k, D, Pl, hcs, _, hl, hm, hmm, _, hx⟩
  · injection hcs with hcs
    injection hcs with h1 h2 h3
    subst h1 h2 h3
    exact ⟨fun h => absurd h (by omega), Nat.le_refl _, by decide⟩
  · injection hcs with hcs
    injection hcs with h1 h2 h3
    subst h1 h2 h3
    have e7 : Try.prog.cellsOf 50 = 7 := by kernel_rfl
    simp only [if_true] at hmm
    subst hmm
    rw [e7] at hx
    refine ⟨fun hn => ?_, hl, hm⟩
    obtain ⟨b, off, spot⟩ := p
    obtain ⟨cs, h1, h2⟩ := hx 0 (by omega)
    obtain ⟨y, _, rfl⟩ := op_of_trod h2
    obtain ⟨_, hlen, hcell⟩ := World.cells?_some h1
    have h0 := hcell 0 (by decide)
    have hspot : spot = none := by
      have := World.cell?_spot h0
      simpa [Addr.add] using this
    subst hspot
    refine ⟨b, off, rfl, ?_, fun i hi => ?_⟩
    · simpa [Addr.add] using World.block_lt_of_cell? W _ h0
    obtain ⟨cs, h1, h2⟩ := hx i (by omega)
    obtain ⟨y, hy, rfl⟩ := op_of_trod h2
    obtain ⟨_, hlen, hcell⟩ := World.cells?_some h1
    refine ⟨y, hy, fun j v hv => ?_⟩
    have hj : j < 7 := (Array.getElem?_eq_some_iff.1 hv).1
    have h3 := hcell j (by simpa [OpV.vals] using hj)
    rw [Deep.add_add, add_plain] at h3
    have e : (y.vals.toList)[j]? = some v := by rw [Array.getElem?_toList]; exact hv
    rw [Nat.add_assoc]
    rw [h3]
    exact e
end Go.Proofs.Ytebjapinhkeafaa.Disk
