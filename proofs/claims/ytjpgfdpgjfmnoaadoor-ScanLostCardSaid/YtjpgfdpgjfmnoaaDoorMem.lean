/-
  Slices that read as a list of one-cell values, and how that is kept when memory grows: plain facts on worlds.
-/
import Derived.Test.YtjpgfdpgjfmnoaaDoorRows
import Derived.Below
import Derived.Laws.OwnMore
import Derived.Deep.Draws
import Derived.Laws.Rows
import Derived.WalkKit
import Derived.OpenShut
namespace Go.Proofs.YtjpgfdpgjfmnoaaDoor
open Go.RowKit

/-- A slice value with this address and length reads as these values, one cell each, in a block below B. -/
def Row (w : World) (B : Nat) (A : Option Addr) (n : Nat) (vs : List Value) : Prop :=
  vs.length = n ∧ (0 < n → ∃ b o, A = some ⟨b, o, none⟩ ∧ b < B ∧ ∀ i v, vs[i]? = some v → w.cell? ⟨b, o + i, none⟩ = some v)

theorem Row.keep {w w' : World} {B n : Nat} {A : Option Addr} {vs : List Value} (h : Row w B A n vs)
    (hk : ∀ b o, b < B → w'.cell? ⟨b, o, none⟩ = w.cell? ⟨b, o, none⟩) : Row w' B A n vs := by
  refine ⟨h.1, fun hn => ?_⟩
  obtain ⟨b, o, e, hb, hc⟩ := h.2 hn
  exact ⟨b, o, e, hb, fun i v hv => (hk b _ hb).trans (hc i v hv)⟩
theorem Row.below {w w' : World} {B n : Nat} {A : Option Addr} {vs : List Value} (h : Row w B A n vs) (hb : Below B w w') : Row w' B A n vs :=
  h.keep fun _ _ hlt => hb.cell hlt
theorem Row.more {w : World} {B B' n : Nat} {A : Option Addr} {vs : List Value} (h : Row w B A n vs) (hB : B ≤ B') : Row w B' A n vs := by
  refine ⟨h.1, fun hn => ?_⟩
  obtain ⟨b, o, e, hb, hc⟩ := h.2 hn
  exact ⟨b, o, e, by omega, hc⟩
theorem Row.nil (w : World) (B : Nat) : Row w B none 0 [] := ⟨rfl, fun h => absurd h (by omega)⟩

/-- A block that was just laid reads as its cells. -/
theorem Row.fresh (w : World) (t : TypeId) (fr : Nat × Nat) (cs : Array Value) : Row (w.alloc (.cells cs t fr)) (w.heap.size + 1) (some ⟨w.heap.size, 0, none⟩) cs.size cs.toList := by
  refine ⟨by simp, fun _ => ⟨w.heap.size, 0, rfl, by omega, fun i v hv => ?_⟩⟩
  rw [Nat.zero_add, cell_of_row _ w.heap.size i cs t fr (heap_alloc_new w _)]
  simpa using hv

/-- A byte as the model holds it. -/
def bv (c : UInt8) : Value := .int .u8 (c.toNat : Int)
def bvs (bs : List UInt8) : List Value := bs.map bv
theorem bvs_length (bs : List UInt8) : (bvs bs).length = bs.length := by simp [bvs]
theorem Row.size {w : World} {B n : Nat} {A : Option Addr} {bs : List UInt8} (h : Row w B A n (bvs bs)) : bs.length = n := by
  have := h.1; rwa [bvs_length] at this
/-- Where there is a byte: its cell. -/
theorem Row.byte {w : World} {B n : Nat} {A : Option Addr} {bs : List UInt8} (h : Row w B A n (bvs bs)) (hn : 0 < n) :
    ∃ b o, A = some ⟨b, o, none⟩ ∧ b < B ∧ ∀ i, i < n → w.cell? ⟨b, o + i, none⟩ = some (.int .u8 ((bs.getD i 0).toNat : Int)) := by
  obtain ⟨b, o, e, hb, hc⟩ := h.2 hn
  refine ⟨b, o, e, hb, fun i hi => hc i _ ?_⟩
  have hl := h.size
  rw [bvs, List.getElem?_map, List.getD_eq_getElem?_getD, List.getElem?_eq_getElem (by omega)]
  rfl
theorem getD_snoc (bs : List UInt8) (k : Nat) (h : k < bs.length) : bs.take (k + 1) = bs.take k ++ [bs.getD k 0] := by
  rw [List.take_succ_eq_append_getElem h, List.getD_eq_getElem?_getD, List.getElem?_eq_getElem h]
  rfl
theorem Row.take {w : World} {B n k : Nat} {A : Option Addr} {vs : List Value} (h : Row w B A n vs) (hk : k ≤ n) : Row w B A k (vs.take k) := by
  refine ⟨by rw [List.length_take, h.1]; omega, fun h0 => ?_⟩
  obtain ⟨b, o, e, hb, hc⟩ := h.2 (by omega)
  refine ⟨b, o, e, hb, fun i v hv => hc i v ?_⟩
  rw [List.getElem?_take] at hv
  split at hv
  · exact hv
  · cases hv
theorem Row.drop {w : World} {B n k b o : Nat} {vs : List Value} (h : Row w B (some ⟨b, o, none⟩) n vs) (hk : k < n) : Row w B (some ⟨b, o + k, none⟩) (n - k) (vs.drop k) := by
  refine ⟨by rw [List.length_drop, h.1], fun _ => ?_⟩
  obtain ⟨b', o', e, hb, hc⟩ := h.2 (by omega)
  injection e with e
  injection e with e1 e2
  subst e1 e2
  refine ⟨b, o + k, rfl, hb, fun i v hv => ?_⟩
  rw [List.getElem?_drop] at hv
  rw [Nat.add_assoc]
  exact hc _ v hv
theorem Row.cut {w : World} {B n k m : Nat} {A : Option Addr} {vs : List Value} (h : Row w B A n vs) (hk : k < m) (hm : m ≤ n) :
    Row w B (A.map (·.add k)) (m - k) ((vs.drop k).take (m - k)) := by
  obtain ⟨b, o, rfl, _, _⟩ := h.2 (by omega)
  have h1 := (h.drop (k := k) (by omega)).take (k := m - k) (by omega)
  have e : Option.map (·.add k) (some (⟨b, o, none⟩ : Addr)) = some ⟨b, o + k, none⟩ := by
    show some _ = some _
    unfold Addr.add
    split
    · rename_i h0; subst h0; rfl
    · rfl
  rw [e]
  exact h1
theorem bvs_take (bs : List UInt8) (k : Nat) : (bvs bs).take k = bvs (bs.take k) := by simp [bvs]
theorem bvs_drop (bs : List UInt8) (k : Nat) : (bvs bs).drop k = bvs (bs.drop k) := by simp [bvs]

/-- An int as the model holds it. -/
def ivs (zs : List Int) : List Value := zs.map fun z => .int .i64 z
theorem Row.int {w : World} {B n : Nat} {A : Option Addr} {zs : List Int} (h : Row w B A n (ivs zs)) (hn : 0 < n) :
    ∃ b o, A = some ⟨b, o, none⟩ ∧ b < B ∧ ∀ i, i < n → w.cell? ⟨b, o + i, none⟩ = some (.int .i64 (zs.getD i 0)) := by
  obtain ⟨b, o, e, hb, hc⟩ := h.2 hn
  refine ⟨b, o, e, hb, fun i hi => hc i _ ?_⟩
  have hl : zs.length = n := by have := h.1; rwa [ivs, List.length_map] at this
  rw [ivs, List.getElem?_map, List.getD_eq_getElem?_getD, List.getElem?_eq_getElem (by omega)]
  rfl

/-! A block that is known whole. -/
def Blk (w : World) (g : Nat) (t : TypeId) (cs : Array Value) : Prop := w.heap[g]? = some (.cells cs t (0, 0))
theorem Blk.cell {w : World} {g : Nat} {t : TypeId} {cs : Array Value} (h : Blk w g t cs) (i : Nat) : w.cell? ⟨g, i, none⟩ = cs[i]? := cell_of_row w g i cs t (0, 0) h
theorem Blk.free {w : World} {g : Nat} {t : TypeId} {cs : Array Value} (h : Blk w g t cs) (i : Nat) : w.frozen? ⟨g, i, none⟩ = false := by
  unfold Blk at h
  simp [World.frozen?, h]
theorem Blk.new (w : World) (t : TypeId) (cs : Array Value) : Blk (w.alloc (.cells cs t)) w.heap.size t cs := heap_alloc_new w _
theorem Blk.put {w : World} {g : Nat} {t : TypeId} {cs : Array Value} (h : Blk w g t cs) (i : Nat) (u : Value) : Blk (w.setCell ⟨g, i, none⟩ u) g t (cs.setIfInBounds i u) := by
  unfold Blk at h ⊢
  simp [World.setCell, Array.getElem?_modify, h]
theorem Blk.row {w : World} {g : Nat} {t : TypeId} {cs : Array Value} (h : Blk w g t cs) : Row w w.heap.size (some ⟨g, 0, none⟩) cs.size cs.toList := by
  have hlt : g < w.heap.size := by
    rcases Nat.lt_or_ge g w.heap.size with hh | hh
    · exact hh
    · unfold Blk at h; rw [Array.getElem?_eq_none hh] at h; cases h
  refine ⟨by simp, fun _ => ⟨g, 0, rfl, hlt, fun i v hv => ?_⟩⟩
  rw [Nat.zero_add, h.cell i]
  simpa using hv

/-! From what a row of the form says of an argument. -/
theorem row_of_cells {W : World} {a : Option Addr} {len cap : Nat} {vs : List Value}
    (h : (a = none ∧ len = 0 ∧ cap = 0 ∧ vs = []) ∨ ∃ x, a = some x ∧ len ≤ cap ∧ cap ≤ maxLen ∧ len ≤ vs.length ∧ (∀ i v, vs[i]? = some v → W.cell? (x.add i) = some v)) :
    Row W W.heap.size a len (vs.take len) ∧ len ≤ cap ∧ cap ≤ maxLen := by
  rcases h with ⟨rfl, rfl, rfl, rfl⟩ | ⟨x, rfl, hl, hm, hz, hcell⟩
  · exact ⟨Row.nil _ _, Nat.le_refl _, by decide⟩
  · refine ⟨⟨by rw [List.length_take]; omega, fun hn => ?_⟩, hl, hm⟩
    obtain ⟨b, off, spot⟩ := x
    have h0 := hcell 0 vs[0] (List.getElem?_eq_getElem (by omega))
    have hspot : spot = none := by simpa [Addr.add] using World.cell?_spot h0
    subst hspot
    refine ⟨b, off, rfl, by simpa [Addr.add] using World.block_lt_of_cell? W _ h0, fun i v hv => ?_⟩
    rw [List.getElem?_take] at hv
    split at hv
    · have := hcell i v hv
      unfold Addr.add at this
      split at this
      · rename_i hi; subst hi; exact this
      · exact this
    · cases hv
theorem row_of_bytes {W : World} {a : Option Addr} {len cap : Nat}
    (h : (a = none ∧ len = 0 ∧ cap = 0) ∨ ∃ (x : Addr) (zs : List Int), a = some x ∧ len ≤ cap ∧ cap ≤ maxLen ∧ zs.length = cap ∧ (∀ i, i < zs.length → W.cell? (x.add i) = some (.int .u8 (zs.getD i 0))) ∧ ∀ n ∈ zs, (Lit.int .u8 n).wf = true) :
    ∃ bs, Row W W.heap.size a len (bvs bs) ∧ len ≤ cap ∧ cap ≤ maxLen := by
  rcases h with ⟨rfl, rfl, rfl⟩ | ⟨x, zs, rfl, hl, hm, hz, hcell, hwz⟩
  · exact ⟨[], row_of_cells (vs := []) (.inl ⟨rfl, rfl, rfl, rfl⟩)⟩
  · have e : (bvs (zs.map fun z => UInt8.ofNat z.toNat)) = zs.map fun z => Value.int .u8 z := by
      rw [bvs, List.map_map]
      apply List.map_congr_left
      intro z hzm
      obtain ⟨h0, h1⟩ := bounds_u8 (hwz z hzm)
      show Value.int .u8 ((UInt8.ofNat z.toNat).toNat : Int) = .int .u8 z
      rw [UInt8.toNat_ofNat', Nat.mod_eq_of_lt (by omega)]
      congr 1
      omega
    refine ⟨(zs.map fun z => UInt8.ofNat z.toNat).take len, ?_⟩
    rw [← bvs_take, e]
    refine row_of_cells (.inr ⟨x, rfl, hl, hm, by simp; omega, fun i v hv => ?_⟩)
    rw [List.getElem?_map] at hv
    obtain ⟨z, hz1, rfl⟩ := Option.map_eq_some_iff.1 hv
    have hi := (List.getElem?_eq_some_iff.1 hz1).1
    rw [hcell i hi, List.getD_eq_getElem?_getD, hz1]
    rfl
theorem row_of_ints {W : World} {a : Option Addr} {len cap : Nat}
    (h : (a = none ∧ len = 0 ∧ cap = 0) ∨ ∃ (x : Addr) (zs : List Int), a = some x ∧ len ≤ cap ∧ cap ≤ maxLen ∧ zs.length = cap ∧ (∀ i, i < zs.length → W.cell? (x.add i) = some (.int .i64 (zs.getD i 0))) ∧ ∀ n ∈ zs, (Lit.int .i64 n).wf = true) :
    ∃ zs, Row W W.heap.size a len (ivs zs) ∧ len ≤ cap ∧ cap ≤ maxLen ∧ ∀ i, -9223372036854775808 ≤ zs.getD i 0 ∧ zs.getD i 0 ≤ 9223372036854775807 := by
  rcases h with ⟨rfl, rfl, rfl⟩ | ⟨x, zs, rfl, hl, hm, hz, hcell, hwz⟩
  · obtain ⟨h1, h2, h3⟩ := row_of_cells (W := W) (a := none) (len := 0) (cap := 0) (vs := []) (.inl ⟨rfl, rfl, rfl, rfl⟩)
    exact ⟨[], h1, h2, h3, fun i => by simp⟩
  · obtain ⟨h1, h2, h3⟩ := row_of_cells (W := W) (a := some x) (len := len) (cap := cap) (vs := ivs zs) (.inr ⟨x, rfl, hl, hm, by simp [ivs]; omega, fun i v hv => by
      rw [ivs, List.getElem?_map] at hv
      obtain ⟨z, hz1, rfl⟩ := Option.map_eq_some_iff.1 hv
      have hi := (List.getElem?_eq_some_iff.1 hz1).1
      rw [hcell i hi, List.getD_eq_getElem?_getD, hz1]
      rfl⟩)
    refine ⟨zs.take len, by rw [ivs, List.map_take]; exact h1, h2, h3, fun i => ?_⟩
    have := range_i64 (zs := zs.take len) (fun n hn => hwz n (List.mem_of_mem_take hn)) i
    rwa [List.getD_eq_getElem?_getD]
theorem int_bounds {n : Int} (h : (Lit.int .i64 n).wf = true) : -9223372036854775808 ≤ n ∧ n ≤ 9223372036854775807 := bounds_i64 h
end Go.Proofs.YtjpgfdpgjfmnoaaDoor
