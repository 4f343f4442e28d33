/-
  Texts one behind the other: Mem, CrcWalks, Own.
-/
import Derived.Test.YtcmlchicpmnhdaaGreatDoorRows
import Derived.Below
import Derived.Laws.OwnMore
import Derived.Deep.Draws
import Derived.Laws.Rows
import Derived.WalkKit
import Derived.OpenShut
import Derived.Lib.Hide
import Derived.Lib.LaidTab
import Derived.Laws.BitsAllLaws
import Derived.Laws.AppendOwn
import Derived.OwnWalk
import Derived.Test.YtcmlchicpmnhdaaGreatDoorG01
/-
  Slices that read as a list of one-cell values, and how that is kept when memory grows: plain facts on worlds.
-/
namespace Go.Proofs.YtcmlchicpmnhdaaGreatDoor
open Go.RowKit

/-- A slice value with this address and length reads as these values, one cell each, in a block below B. -/
def Row (w : World) (B : Nat) (A : Option Addr) (n : Nat) (vs : List Value) : Prop :=
  vs.length = n ∧ (0 < n → ∃ b o, A = some ⟨b, o, none⟩ ∧ b < B ∧ ∀ i v, vs[i]? = some v → w.cell? ⟨b, o + i, none⟩ = some v)

theorem Row.keep {w w' : World} {B n : Nat} {A : Option Addr} {vs : List Value} (h : Row w B A n vs)
    (hk : ∀ b o, b < B → w'.cell? ⟨b, o, none⟩ = w.cell? ⟨b, o, none⟩) : Row w' B A n vs := by
  refine ⟨h.1, fun hn => ?_⟩
  obtain ⟨b, o, e, hb, hc⟩ := h.2 hn
  exact ⟨b, o, e, hb, fun i v hv => (hk b _ hb).trans (hc i v hv)⟩
theorem Row.below {w w' : World} {B n : Nat} {A : Option Addr} {vs : List Value} (h : Row w B A n vs) (hb : Below B w w') : Row w' B A n vs :=
  h.keep fun _ _ hlt => hb.cell hlt
theorem Row.more {w : World} {B B' n : Nat} {A : Option Addr} {vs : List Value} (h : Row w B A n vs) (hB : B ≤ B') : Row w B' A n vs := by
  refine ⟨h.1, fun hn => ?_⟩
  obtain ⟨b, o, e, hb, hc⟩ := h.2 hn
  exact ⟨b, o, e, by omega, hc⟩
theorem Row.nil (w : World) (B : Nat) : Row w B none 0 [] := ⟨rfl, fun h => absurd h (by omega)⟩

/-- A block that was just laid reads as its cells. -/
theorem Row.fresh (w : World) (t : TypeId) (fr : Nat × Nat) (cs : Array Value) : Row (w.alloc (.cells cs t fr)) (w.heap.size + 1) (some ⟨w.heap.size, 0, none⟩) cs.size cs.toList := by
  refine ⟨by simp, fun _ => ⟨w.heap.size, 0, rfl, by omega, fun i v hv => ?_⟩⟩
  rw [Nat.zero_add, cell_of_row _ w.heap.size i cs t fr (heap_alloc_new w _)]
  simpa using hv

/-- A byte as the model holds it. -/
def bv (c : UInt8) : Value := .int .u8 (c.toNat : Int)
def bvs (bs : List UInt8) : List Value := bs.map bv
theorem bvs_length (bs : List UInt8) : (bvs bs).length = bs.length := by simp [bvs]
theorem Row.size {w : World} {B n : Nat} {A : Option Addr} {bs : List UInt8} (h : Row w B A n (bvs bs)) : bs.length = n := by
  have := h.1; rwa [bvs_length] at this
/-- Where there is a byte: its cell. -/
theorem Row.byte {w : World} {B n : Nat} {A : Option Addr} {bs : List UInt8} (h : Row w B A n (bvs bs)) (hn : 0 < n) :
    ∃ b o, A = some ⟨b, o, none⟩ ∧ b < B ∧ ∀ i, i < n → w.cell? ⟨b, o + i, none⟩ = some (.int .u8 ((bs.getD i 0).toNat : Int)) := by
  obtain ⟨b, o, e, hb, hc⟩ := h.2 hn
  refine ⟨b, o, e, hb, fun i hi => hc i _ ?_⟩
  have hl := h.size
  rw [bvs, List.getElem?_map, List.getD_eq_getElem?_getD, List.getElem?_eq_getElem (by omega)]
  rfl
theorem getD_snoc (bs : List UInt8) (k : Nat) (h : k < bs.length) : bs.take (k + 1) = bs.take k ++ [bs.getD k 0] := by
  rw [List.take_succ_eq_append_getElem h, List.getD_eq_getElem?_getD, List.getElem?_eq_getElem h]
  rfl
theorem Row.take {w : World} {B n k : Nat} {A : Option Addr} {vs : List Value} (h : Row w B A n vs) (hk : k ≤ n) : Row w B A k (vs.take k) := by
  refine ⟨by rw [List.length_take, h.1]; omega, fun h0 => ?_⟩
  obtain ⟨b, o, e, hb, hc⟩ := h.2 (by omega)
  refine ⟨b, o, e, hb, fun i v hv => hc i v ?_⟩
  rw [List.getElem?_take] at hv
  split at hv
  · exact hv
  · cases hv
theorem Row.drop {w : World} {B n k b o : Nat} {vs : List Value} (h : Row w B (some ⟨b, o, none⟩) n vs) (hk : k < n) : Row w B (some ⟨b, o + k, none⟩) (n - k) (vs.drop k) := by
  refine ⟨by rw [List.length_drop, h.1], fun _ => ?_⟩
  obtain ⟨b', o', e, hb, hc⟩ := h.2 (by omega)
  injection e with e
  injection e with e1 e2
  subst e1 e2
  refine ⟨b, o + k, rfl, hb, fun i v hv => ?_⟩
  rw [List.getElem?_drop] at hv
  rw [Nat.add_assoc]
  exact hc _ v hv
theorem Row.cut {w : World} {B n k m : Nat} {A : Option Addr} {vs : List Value} (h : Row w B A n vs) (hk : k < m) (hm : m ≤ n) :
    Row w B (A.map (·.add k)) (m - k) ((vs.drop k).take (m - k)) := by
  obtain ⟨b, o, rfl, _, _⟩ := h.2 (by omega)
  have h1 := (h.drop (k := k) (by omega)).take (k := m - k) (by omega)
  have e : Option.map (·.add k) (some (⟨b, o, none⟩ : Addr)) = some ⟨b, o + k, none⟩ := by
    show some _ = some _
    unfold Addr.add
    split
    · rename_i h0; subst h0; rfl
    · rfl
  rw [e]
  exact h1
theorem bvs_take (bs : List UInt8) (k : Nat) : (bvs bs).take k = bvs (bs.take k) := by simp [bvs]
theorem bvs_drop (bs : List UInt8) (k : Nat) : (bvs bs).drop k = bvs (bs.drop k) := by simp [bvs]

/-- An int as the model holds it. -/
def ivs (zs : List Int) : List Value := zs.map fun z => .int .i64 z
theorem Row.int {w : World} {B n : Nat} {A : Option Addr} {zs : List Int} (h : Row w B A n (ivs zs)) (hn : 0 < n) :
    ∃ b o, A = some ⟨b, o, none⟩ ∧ b < B ∧ ∀ i, i < n → w.cell? ⟨b, o + i, none⟩ = some (.int .i64 (zs.getD i 0)) := by
  obtain ⟨b, o, e, hb, hc⟩ := h.2 hn
  refine ⟨b, o, e, hb, fun i hi => hc i _ ?_⟩
  have hl : zs.length = n := by have := h.1; rwa [ivs, List.length_map] at this
  rw [ivs, List.getElem?_map, List.getD_eq_getElem?_getD, List.getElem?_eq_getElem (by omega)]
  rfl

/-! A block that is known whole. -/
def Blk (w : World) (g : Nat) (t : TypeId) (cs : Array Value) : Prop := w.heap[g]? = some (.cells cs t (0, 0))
theorem Blk.cell {w : World} {g : Nat} {t : TypeId} {cs : Array Value} (h : Blk w g t cs) (i : Nat) : w.cell? ⟨g, i, none⟩ = cs[i]? := cell_of_row w g i cs t (0, 0) h
theorem Blk.free {w : World} {g : Nat} {t : TypeId} {cs : Array Value} (h : Blk w g t cs) (i : Nat) : w.frozen? ⟨g, i, none⟩ = false := by
  unfold Blk at h
  simp [World.frozen?, h]
theorem Blk.new (w : World) (t : TypeId) (cs : Array Value) : Blk (w.alloc (.cells cs t)) w.heap.size t cs := heap_alloc_new w _
theorem Blk.put {w : World} {g : Nat} {t : TypeId} {cs : Array Value} (h : Blk w g t cs) (i : Nat) (u : Value) : Blk (w.setCell ⟨g, i, none⟩ u) g t (cs.setIfInBounds i u) := by
  unfold Blk at h ⊢
  simp [World.setCell, Array.getElem?_modify, h]
theorem Blk.row {w : World} {g : Nat} {t : TypeId} {cs : Array Value} (h : Blk w g t cs) : Row w w.heap.size (some ⟨g, 0, none⟩) cs.size cs.toList := by
  have hlt : g < w.heap.size := by
    rcases Nat.lt_or_ge g w.heap.size with hh | hh
    · exact hh
    · unfold Blk at h; rw [Array.getElem?_eq_none hh] at h; cases h
  refine ⟨by simp, fun _ => ⟨g, 0, rfl, hlt, fun i v hv => ?_⟩⟩
  rw [Nat.zero_add, h.cell i]
  simpa using hv

/-! From what a row of the form says of an argument. -/
theorem row_of_cells {W : World} {a : Option Addr} {len cap : Nat} {vs : List Value}
    (h : (a = none ∧ len = 0 ∧ cap = 0 ∧ vs = []) ∨ ∃ x, a = some x ∧ len ≤ cap ∧ cap ≤ maxLen ∧ len ≤ vs.length ∧ (∀ i v, vs[i]? = some v → W.cell? (x.add i) = some v)) :
    Row W W.heap.size a len (vs.take len) ∧ len ≤ cap ∧ cap ≤ maxLen := by
  rcases h with ⟨rfl, rfl, rfl, rfl⟩ | ⟨x, rfl, hl, hm, hz, hcell⟩
  · exact ⟨Row.nil _ _, Nat.le_refl _, by decide⟩
  · refine ⟨⟨by rw [List.length_take]; omega, fun hn => ?_⟩, hl, hm⟩
    obtain ⟨b, off, spot⟩ := x
    have h0 := hcell 0 vs[0] (List.getElem?_eq_getElem (by omega))
    have hspot : spot = none := by simpa [Addr.add] using World.cell?_spot h0
    subst hspot
    refine ⟨b, off, rfl, by simpa [Addr.add] using World.block_lt_of_cell? W _ h0, fun i v hv => ?_⟩
    rw [List.getElem?_take] at hv
    split at hv
    · have := hcell i v hv
      unfold Addr.add at this
      split at this
      · rename_i hi; subst hi; exact this
      · exact this
    · cases hv
theorem row_of_bytes {W : World} {a : Option Addr} {len cap : Nat}
    (h : (a = none ∧ len = 0 ∧ cap = 0) ∨ ∃ (x : Addr) (zs : List Int), a = some x ∧ len ≤ cap ∧ cap ≤ maxLen ∧ zs.length = cap ∧ (∀ i, i < zs.length → W.cell? (x.add i) = some (.int .u8 (zs.getD i 0))) ∧ ∀ n ∈ zs, (Lit.int .u8 n).wf = true) :
    ∃ bs, Row W W.heap.size a len (bvs bs) ∧ len ≤ cap ∧ cap ≤ maxLen := by
  rcases h with ⟨rfl, rfl, rfl⟩ | ⟨x, zs, rfl, hl, hm, hz, hcell, hwz⟩
  · exact ⟨[], row_of_cells (vs := []) (.inl ⟨rfl, rfl, rfl, rfl⟩)⟩
  · have e : (bvs (zs.map fun z => UInt8.ofNat z.toNat)) = zs.map fun z => Value.int .u8 z := by
      rw [bvs, List.map_map]
      apply List.map_congr_left
      intro z hzm
      obtain ⟨h0, h1⟩ := bounds_u8 (hwz z hzm)
      show Value.int .u8 ((UInt8.ofNat z.toNat).toNat : Int) = .int .u8 z
      rw [UInt8.toNat_ofNat', Nat.mod_eq_of_lt (by omega)]
      congr 1
      omega
    refine ⟨(zs.map fun z => UInt8.ofNat z.toNat).take len, ?_⟩
    rw [← bvs_take, e]
    refine row_of_cells (.inr ⟨x, rfl, hl, hm, by simp; omega, fun i v hv => ?_⟩)
    rw [List.getElem?_map] at hv
    obtain ⟨z, hz1, rfl⟩ := Option.map_eq_some_iff.1 hv
    have hi := (List.getElem?_eq_some_iff.1 hz1).1
    rw [hcell i hi, List.getD_eq_getElem?_getD, hz1]
    rfl
theorem row_of_ints {W : World} {a : Option Addr} {len cap : Nat}
    (h : (a = none ∧ len = 0 ∧ cap = 0) ∨ ∃ (x : Addr) (zs : List Int), a = some x ∧ len ≤ cap ∧ cap ≤ maxLen ∧ zs.length = cap ∧ (∀ i, i < zs.length → W.cell? (x.add i) = some (.int .i64 (zs.getD i 0))) ∧ ∀ n ∈ zs, (Lit.int .i64 n).wf = true) :
    ∃ zs, Row W W.heap.size a len (ivs zs) ∧ len ≤ cap ∧ cap ≤ maxLen ∧ ∀ i, -9223372036854775808 ≤ zs.getD i 0 ∧ zs.getD i 0 ≤ 9223372036854775807 := by
  rcases h with ⟨rfl, rfl, rfl⟩ | ⟨x, zs, rfl, hl, hm, hz, hcell, hwz⟩
  · obtain ⟨h1, h2, h3⟩ := row_of_cells (W := W) (a := none) (len := 0) (cap := 0) (vs := []) (.inl ⟨rfl, rfl, rfl, rfl⟩)
    exact ⟨[], h1, h2, h3, fun i => by simp⟩
  · obtain ⟨h1, h2, h3⟩ := row_of_cells (W := W) (a := some x) (len := len) (cap := cap) (vs := ivs zs) (.inr ⟨x, rfl, hl, hm, by simp [ivs]; omega, fun i v hv => by
      rw [ivs, List.getElem?_map] at hv
      obtain ⟨z, hz1, rfl⟩ := Option.map_eq_some_iff.1 hv
      have hi := (List.getElem?_eq_some_iff.1 hz1).1
      rw [hcell i hi, List.getD_eq_getElem?_getD, hz1]
      rfl⟩)
    refine ⟨zs.take len, by rw [ivs, List.map_take]; exact h1, h2, h3, fun i => ?_⟩
    have := range_i64 (zs := zs.take len) (fun n hn => hwz n (List.mem_of_mem_take hn)) i
    rwa [List.getD_eq_getElem?_getD]
theorem int_bounds {n : Int} (h : (Lit.int .i64 n).wf = true) : -9223372036854775808 ≤ n ∧ n ≤ 9223372036854775807 := bounds_i64 h
end Go.Proofs.YtcmlchicpmnhdaaGreatDoor
/-
  Proved: what the functions halfByte, More and Sum of package crc, and Sum of package stillroomref1, return: the sums of the text CrcMath, in the world that they were called in.
  Conditions: the slice reads as bytes; the table crc.turned holds its sixteen words.
-/
namespace Go.Proofs.YtcmlchicpmnhdaaGreatDoor.Crc
open Go.RowKit

/-- What the table of half bytes holds. -/
def Turned (w : World) : Prop := ∀ i, i < 16 → w.cell? ⟨0, i, none⟩ = some (.int .u32 (tab.getD i 0 : Nat))

theorem tab_lt (i : Nat) : tab.getD i 0 < 4294967296 := by
  by_cases h : i < 16
  · have : ∀ j, j < 16 → tab.getD j 0 < 4294967296 := by decide
    exact this i h
  · have : tab[i]? = none := List.getElem?_eq_none (by simp [tab]; omega)
    simp [List.getD, this]
theorem half_toNat (r : BitVec 32) : ((half r).toNat : Int) = bits .xor .u32 ((r.toNat : Int) / 16) (tab.getD (r.toNat % 16) 0 : Nat) := by
  have hr : r.toNat < 4294967296 := r.isLt
  have e : ((r.toNat : Int) / 16) = ((r.toNat / 16 : Nat) : Int) := by omega
  rw [e, u32_xor_nat _ _ (by omega) (tab_lt _)]
  unfold half
  rw [BitVec.toNat_xor, BitVec.toNat_ushiftRight, BitVec.toNat_ofNat, Nat.mod_eq_of_lt (tab_lt _), Nat.shiftRight_eq_div_pow]
theorem and15 (r : BitVec 32) : bits .and .u32 (r.toNat : Int) 15 = ((r.toNat % 16 : Nat) : Int) := by
  have hr : r.toNat < 4294967296 := r.isLt
  have := u32_and_nat r.toNat 15 hr (by decide)
  rw [show ((15 : Nat) : Int) = 15 from rfl] at this
  rw [this, show 15 = 2 ^ 4 - 1 from rfl, Nat.and_two_pow_sub_one_eq_mod]
theorem ret_int {k : IntKind} {a b : Int} (h : a = b) : Ending.returned (.int k a) = .returned (.int k b) := by rw [h]

theorem half_any (r : BitVec 32) (w : World) (hT : Turned w) :
    Calls Tryz.prog 104 #[.int .u32 (r.toNat : Int)] w fun e w' => e = .returned (.int .u32 ((half r).toNat : Int)) ∧ w = w' := by
  have hr : r.toNat < 4294967296 := r.isLt
  have hb := and15 r
  have h0 : (0 : Int) ≤ bits .and .u32 (r.toNat : Int) 15 := by omega
  have h1 : bits .and .u32 (r.toNat : Int) 15 < 16 := by omega
  have hcell : w.cell? ⟨0, (bits .and .u32 (r.toNat : Int) 15).toNat, none⟩ = some (.int .u32 (tab.getD (r.toNat % 16) 0 : Nat)) := by
    rw [hb]; exact hT _ (by omega)
  have HT := Lib.hid hT
  have HB := Lib.hid hb
  clear hT hb
  go_enter Tryz.func104, Tryz.ntmps104
  go_wp2
  go_ret
  exact ⟨ret_int (half_toNat r).symm, rfl⟩
theorem not_u32 (s : BitVec 32) : bits .xor .u32 IntKind.u32.max (s.toNat : Int) = ((~~~ s).toNat : Int) := by
  have hs : s.toNat < 4294967296 := s.isLt
  rw [show IntKind.u32.max = ((4294967295 : Nat) : Int) from rfl, u32_xor_nat _ _ (by decide) hs]
  congr 1
theorem xor_byte (r : BitVec 32) (c : UInt8) : bits .xor .u32 (r.toNat : Int) (c.toNat : Int) = ((r ^^^ byteOf c).toNat : Int) := by
  have hr : r.toNat < 4294967296 := r.isLt
  have hc := c.toNat_lt
  rw [u32_xor_nat _ _ hr (by omega), BitVec.toNat_xor, byteOf_toNat]
theorem int_u32 {a b : BitVec 32} (h : a = b) : Value.int .u32 (a.toNat : Int) = .int .u32 (b.toNat : Int) := by rw [h]

set_option maxHeartbeats 400000 in
theorem more_any (s : BitVec 32) (A : Option Addr) (n c : Nat) (bs : List UInt8) (w : World) (hT : Turned w) (hR : Row w w.heap.size A n (bvs bs)) (hn : n ≤ maxLen) :
    Calls Tryz.prog 93 #[.int .u32 (s.toNat : Int), .slice A n c] w fun e w' => e = .returned (.int .u32 ((more s bs).toNat : Int)) ∧ w = w' := by
  have hm : n ≤ 9223372036854775807 := by unfold maxLen at hn; exact hn
  have HT := Lib.hid hT
  have HL := Lib.hid hR.size
  have HB := Lib.hid (hR.byte)
  have HN := Lib.hid (not_u32 s)
  clear hT hR
  go_enter Tryz.func93, Tryz.ntmps93
  go_wp2
  go_loop [5, 12] (fun r i => ∃ k : Nat, ∃ R : BitVec 32, k ≤ n ∧ Hid (R = run (~~~ s) (bs.take k)) ∧ r = .int .u32 (R.toNat : Int) ∧ i = .int .i64 k) (fun _ i => n - (RowKit.intOf i).toNat)
  case atStart => exact ⟨0, ~~~ s, Nat.zero_le _, rfl, by rw [HN.out], rfl⟩
  case round =>
    obtain ⟨k, R, hk, HR, rfl, rfl⟩ := hrel
    by_cases hlt : k < n
    · obtain ⟨b, o, rfl, _, hcs⟩ := HB.out (by omega)
      have hcell := hcs k hlt
      have HS := Lib.hid (getD_snoc bs k (by rw [HL.out]; exact hlt))
      obtain ⟨C, HC⟩ : ∃ C, Hid (C = bs.getD k 0) := ⟨_, rfl⟩
      rw [← HC.out] at hcell
      obtain ⟨X, HX⟩ : ∃ X, Hid (X = R ^^^ byteOf C) := ⟨_, rfl⟩
      have hx : bits .xor .u32 (R.toNat : Int) (C.toNat : Int) = (X.toNat : Int) := by rw [HX.out]; exact xor_byte R C
      have hC := C.toNat_lt
      clear hcs HB
      go_wp2_with (go_at_call 104; refine (half_any _ _ HT.out).mono ?_; rintro e w' ⟨rfl, rfl⟩)
      go_round
      case rel =>
        refine ⟨k + 1, half (half X), by omega, ?_, rfl, by go_num⟩
        show half (half X) = run (~~~ s) (bs.take (k + 1))
        rw [HS.out, run_snoc, ← HR.out, ← HC.out, HX.out]
        rfl
      case measure => simp [RowKit.intOf]; omega
    · obtain rfl : k = n := by omega
      go_wp2
      go_ret
      refine ⟨ret_int ?_, rfl⟩
      rw [not_u32 R, HR.out, List.take_of_length_le (by rw [HL.out]; exact Nat.le_refl _)]
      rfl
theorem sum_any (A : Option Addr) (n c : Nat) (bs : List UInt8) (w : World) (hT : Turned w) (hR : Row w w.heap.size A n (bvs bs)) (hn : n ≤ maxLen) :
    Calls Tryz.prog 94 #[.slice A n c] w fun e w' => e = .returned (.int .u32 ((sum bs).toNat : Int)) ∧ w = w' := by
  go_enter Tryz.func94, Tryz.ntmps94
  go_wp2_with (go_at_call 93; refine (more_any 0#32 A n c bs w hT hR hn).mono ?_; rintro e w' ⟨rfl, rfl⟩)
  go_ret
  exact ⟨rfl, rfl⟩

/-- The same, for a region that draws its order. -/
theorem sum_quiet {A : Option Addr} {n c : Nat} {bs : List UInt8} {w : World} (hT : Turned w) (hR : Row w w.heap.size A n (bvs bs)) (hn : n ≤ maxLen) {S : BitVec 32} (hS : sum bs = S) (q : Nat) :
    Calls Tryz.prog 94 #[.slice A n c] (w.drewN q) fun e w' => e = .returned (.int .u32 (S.toNat : Int)) ∧ ∃ m, w' = w.drewN m :=
  (sum_any A n c bs (w.drewN q) hT hR hn).mono fun _ _ h => ⟨by rw [h.1, hS], q, h.2.symm⟩

/-! The sum by another road, bit by bit. -/
theorem bit1_odd {R : BitVec 32} (h : R.toNat % 2 = 1) : bits .xor .u32 ((R.toNat : Int) / 2) 2197175160 = ((bit1 R).toNat : Int) := by
  have hR : R.toNat < 4294967296 := R.isLt
  have h0 : R.getLsbD 0 = true := by rw [BitVec.getLsbD, Nat.testBit_zero]; simp [h]
  rw [show ((R.toNat : Int) / 2) = ((R.toNat / 2 : Nat) : Int) by omega, show (2197175160 : Int) = ((2197175160 : Nat) : Int) from rfl,
    u32_xor_nat _ _ (by omega) (by decide)]
  unfold bit1
  rw [h0, BitVec.toNat_xor, BitVec.toNat_ushiftRight, Nat.shiftRight_eq_div_pow]
  rfl
theorem bit1_not_odd {R : BitVec 32} (h : ¬ R.toNat % 2 = 1) : (R.toNat : Int) / 2 = ((bit1 R).toNat : Int) := by
  have h0 : R.getLsbD 0 = false := by rw [BitVec.getLsbD, Nat.testBit_zero]; simp [h]
  rw [bit1_even h0, BitVec.toNat_ushiftRight, Nat.shiftRight_eq_div_pow]
  omega
/-- The first k bits. -/
def bitN : Nat → BitVec 32 → BitVec 32
  | 0, r => r
  | k + 1, r => bit1 (bitN k r)
theorem bitN_eight (r : BitVec 32) : bitN 8 r = bit8 r := rfl

set_option maxHeartbeats 400000 in
theorem ref_sum (A : Option Addr) (n c : Nat) (bs : List UInt8) (w : World) (hR : Row w w.heap.size A n (bvs bs)) (hn : n ≤ maxLen) :
    Calls Tryz.prog 72 #[.slice A n c] w fun e w' => e = .returned (.int .u32 ((sum bs).toNat : Int)) ∧ w = w' := by
  have hm : n ≤ 9223372036854775807 := by unfold maxLen at hn; exact hn
  have HL := Lib.hid hR.size
  have HB := Lib.hid (hR.byte)
  clear hR
  go_enter Tryz.func72, Tryz.ntmps72
  go_wp2
  go_loop [3, 4] (fun r i => ∃ k : Nat, ∃ R : BitVec 32, k ≤ n ∧ Hid (R = run (~~~ 0#32) (bs.take k)) ∧ r = .int .u32 (R.toNat : Int) ∧ i = .int .i64 k) (fun _ i => n - (RowKit.intOf i).toNat)
  case atStart => exact ⟨0, ~~~ 0#32, Nat.zero_le _, rfl, rfl, rfl⟩
  case round =>
    obtain ⟨k, R, hk, HR, rfl, rfl⟩ := hrel
    by_cases hlt : k < n
    · obtain ⟨b, o, rfl, _, hcs⟩ := HB.out (by omega)
      have hcell := hcs k hlt
      have HS := Lib.hid (getD_snoc bs k (by rw [HL.out]; exact hlt))
      obtain ⟨C, HC⟩ : ∃ C, Hid (C = bs.getD k 0) := ⟨_, rfl⟩
      rw [← HC.out] at hcell
      obtain ⟨X, HX⟩ : ∃ X, Hid (X = R ^^^ byteOf C) := ⟨_, rfl⟩
      have hx : bits .xor .u32 (R.toNat : Int) (C.toNat : Int) = (X.toNat : Int) := by rw [HX.out]; exact xor_byte R C
      have hC := C.toNat_lt
      clear hcs HB
      go_wp2
      clear hx
      go_loop [3, 5] (fun r i => ∃ j : Nat, ∃ Y : BitVec 32, j ≤ 8 ∧ Hid (Y = bitN j X) ∧ r = .int .u32 (Y.toNat : Int) ∧ i = .int .i64 j) (fun _ i => 8 - (RowKit.intOf i).toNat)
      case atStart => exact ⟨0, X, Nat.zero_le _, rfl, rfl, rfl⟩
      case round =>
        obtain ⟨j, Y, hj, HY, rfl, rfl⟩ := hrel
        have hY : Y.toNat < 4294967296 := Y.isLt
        by_cases hj8 : j < 8
        · by_cases hodd : Y.toNat % 2 = 1
          · have HO := Lib.hid (bit1_odd hodd)
            have ht : (((Y.toNat : Int) % 2) == 1) = true := by simp; omega
            clear hodd
            go_wp2
            go_round
            case rel => exact ⟨j + 1, bit1 Y, by omega, by show bit1 Y = bitN (j + 1) X; rw [HY.out]; rfl, by rw [HO.out], by go_num⟩
            case measure => simp [RowKit.intOf]; omega
          · have HO := Lib.hid (bit1_not_odd hodd)
            have ht : (((Y.toNat : Int) % 2) == 1) = false := by simp; omega
            clear hodd
            go_wp2
            go_round
            case rel => exact ⟨j + 1, bit1 Y, by omega, by show bit1 Y = bitN (j + 1) X; rw [HY.out]; rfl, by rw [HO.out], by go_num⟩
            case measure => simp [RowKit.intOf]; omega
        · obtain rfl : j = 8 := by omega
          go_wp2
          go_round
          case rel =>
            refine ⟨k + 1, Y, by omega, ?_, rfl, by go_num⟩
            show Y = run (~~~ 0#32) (bs.take (k + 1))
            rw [HS.out, run_snoc, ← HR.out, ← HC.out, HY.out, bitN_eight, HX.out, step_bit8]
          case measure => simp [RowKit.intOf]; omega
    · obtain rfl : k = n := by omega
      go_wp2
      go_ret
      refine ⟨ret_int ?_, rfl⟩
      rw [not_u32 R, HR.out, List.take_of_length_le (by rw [HL.out]; exact Nat.le_refl _)]
      rfl
end Go.Proofs.YtcmlchicpmnhdaaGreatDoor.Crc
/-
  Proved: appends of bytes onto a row that the call itself made, whatever slice of bytes comes behind (nil, empty or not); how such a row reads.
  Conditions: the lengths together are at most 2 to the 46th.
-/
namespace Go.Proofs.YtcmlchicpmnhdaaGreatDoor
open Go.RowKit

/-- A row that the call owns reads as its values. -/
theorem Row.own {w : World} {base : Nat} {e : TypeId} {A : Option Addr} {n c : Nat} {vs : List Value} (h : w.ownsRow base e 1 (.slice A n c) n vs) : Row w w.heap.size A n vs := by
  refine ⟨by rw [h.1, Nat.mul_one], fun hn => ?_⟩
  rcases h.2 with ⟨_, h0⟩ | ⟨g, cap, cur, hv, _, hg, hnc, hm, hcs, hx⟩
  · omega
  · injection hv with h1 h2 h3
    subst h1
    have hlt : g < w.heap.size := by
      rcases Nat.lt_or_ge g w.heap.size with h | h
      · exact h
      · rw [Array.getElem?_eq_none h] at hg; cases hg
    refine ⟨g, 0, rfl, hlt, fun i v hv => ?_⟩
    rw [Nat.zero_add, cell_of_row w g i cur e (0, 0) hg]
    rw [← hx, List.getElem?_take] at hv
    split at hv
    · simpa using hv
    · cases hv
theorem own_form {w : World} {base : Nat} {e : TypeId} {size n : Nat} {v : Value} {vs : List Value} (h : w.ownsRow base e size v n vs) : ∃ A c, v = .slice A n c ∧ n ≤ c ∧ c ≤ maxLen := by
  rcases h.2 with ⟨h0, h1⟩ | ⟨g, cap, cur, hv, _, _, hnc, hm, _, _⟩
  · subst h1; exact ⟨none, 0, h0, Nat.le_refl _, by decide⟩
  · exact ⟨_, cap, hv, hnc, hm⟩
theorem own_block {w : World} {base : Nat} {e : TypeId} {n : Nat} {v : Value} {vs : List Value} (h : w.ownsRow base e 1 v n vs) (hn : 0 < n) :
    ∃ g cap cur, v = .slice (some ⟨g, 0, none⟩) n cap ∧ base ≤ g ∧ Blk w g e cur ∧ n ≤ cap ∧ cap ≤ maxLen ∧ cur.size = cap ∧ cur.toList.take n = vs := by
  rcases h.2 with ⟨_, h0⟩ | ⟨g, cap, cur, hv, hb, hg, hnc, hm, hcs, hx⟩
  · omega
  · exact ⟨g, cap, cur, hv, hb, hg, hnc, hm, by omega, by simpa using hx⟩
theorem own_below {w w' a : World} {base B : Nat} {e : TypeId} {size n : Nat} {v : Value} {vs : List Value} (h : w.ownsRow base e size v n vs) (hb : Below B a w) (hB : B ≤ base) (hs : base ≤ w.heap.size) (hg : w.grownBy w' v.ownBlock) : Below B a w' :=
  hb.grown hg (Nat.le_trans hB hs) (fun k hk => Nat.le_trans hB (h.lt k hk).1)

variable {P : Program}
theorem append_nothing (w : World) (base : Nat) (t ty e : TypeId) (i : TypeInfo) (size : Nat) (ht : P.underlying t = some (.slice e)) (hi : P.info? e = some i)
    (v : Value) (n : Nat) (xs : List Value) (hown : w.ownsRow base e size v n xs) (c : Nat) : (Builtin.append_ #[t, t] ty #[v, .slice none 0 c]).run P w = .ok v w := by
  obtain ⟨A, k, rfl, hk, _⟩ := own_form hown
  rcases hown.2 with ⟨h0, rfl⟩ | ⟨g, cap, cur, h0, _⟩
  · injection h0 with h1 h2 h3
    subst h1 h3
    simp [Builtin.append_, run_underlying ht, sizeOf, typeInfo, hi, Builtin.lenOf, Builtin.firstCells]
  · injection h0 with h1 h2 h3
    subst h1
    simp [Builtin.append_, run_underlying ht, sizeOf, typeInfo, hi, Builtin.lenOf, Builtin.firstCells, hk, storeCells]
/-- append onto a row of the call's own, of any one-cell type: the source is any slice that reads as a list. -/
theorem wpList_append_reads {w : World} {ops : Array Oper} {rest : List Oper} {o : Oper} {a : Act} {Q : Exit → Act → World → Prop} (hgd : o.guard = none) (s x : Operand) (t : TypeId)
    (ho : o.op = .call { callee := .builtin .append, args := #[s, x], argTypes := #[t, t] })
    (base : Nat) (e : TypeId) (z : Value) (bytes : Nat) (ht : P.underlying t = some (.slice e)) (hinfo : (P.info? e).map (fun i => (i.zero, i.size, i.bytes)) = some (some z, 1, bytes)) (hz1 : z.cells = #[z])
    (v : Value) (n : Nat) (xs : List Value) (hs : a.eval s = v) (hown : w.ownsRow base e 1 v n xs)
    (B : Nat) (A : Option Addr) (m c : Nat) (news : List Value) (hx : a.eval x = .slice A m c) (hr : Row w B A m news) (h1 : ∀ u ∈ news, u.oneCell' = true)
    (h63 : n + m ≤ maxLen) (hbytes : (n + m) * bytes ≤ 140737488355328) (hbase : base ≤ w.heap.size)
    (h : ∀ v' w', w'.ownsRow base e 1 v' (n + m) (xs ++ news) → w.grownBy w' v.ownBlock → wpList P ops Q rest (a.put o.dst v') w') : wpList P ops Q (o :: rest) a w := by
  obtain ⟨i, hi, hzz⟩ := Option.map_eq_some_iff.1 hinfo
  simp only [Prod.mk.injEq] at hzz
  obtain ⟨hz, hsz, hb⟩ := hzz
  by_cases h0 : 0 < m
  · obtain ⟨b, off, rfl, _, hc⟩ := hr.2 h0
    refine wpList_append_own (w := w) hgd s x t ho base e i z 1 bytes ht hi hz hsz hb (by rw [hz1]; rfl) (by decide) v n xs hs hown ⟨b, off, none⟩ m c news hx (by rw [hr.1, Nat.mul_one]) ?_ h1 h63 hbytes hbase
      (fun v' w' h2 h3 _ => h v' w' h2 h3)
    intro j u hu
    have := hc j u hu
    unfold Addr.add
    split
    · rename_i hj; subst hj; exact this
    · exact this
  · obtain rfl : m = 0 := by omega
    obtain rfl : news = [] := List.eq_nil_of_length_eq_zero hr.1
    rcases A with _ | ad
    · refine wpList_plain hgd fun K hK => ?_
      have hrun := append_nothing (P := P) w base t o.type e i 1 ht hi v n xs hown c
      unfold Oper.wp
      simp [execOp, ho, resolve, invoke, builtin, hs, hx, hrun, Result.andThen]
      exact hK _ _ (h v w (by simpa using hown) (World.grownBy.refl w _))
    · exact wpList_append_own (w := w) hgd s x t ho base e i z 1 bytes ht hi hz hsz hb (by rw [hz1]; rfl) (by decide) v n xs hs hown ad 0 c [] hx rfl (fun j u hu => by simp at hu) h1 h63 hbytes hbase
        (fun v' w' h2 h3 _ => h v' w' h2 h3)
theorem bvs_one (bs : List UInt8) : ∀ u ∈ bvs bs, u.oneCell' = true := by
  intro u hu
  obtain ⟨c, _, rfl⟩ := List.mem_map.1 hu
  rfl
theorem bvs_append (a b : List UInt8) : bvs a ++ bvs b = bvs (a ++ b) := by simp [bvs]
end Go.Proofs.YtcmlchicpmnhdaaGreatDoor
