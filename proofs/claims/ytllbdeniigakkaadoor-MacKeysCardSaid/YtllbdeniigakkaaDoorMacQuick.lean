/-
  Proved: what quick of package stillroomref1 returns: the digest.
  Conditions: the slice reads as bytes, fewer than 2 to the 45th.
-/
import Derived.Test.YtllbdeniigakkaaDoorRefDigest
import Derived.Test.YtllbdeniigakkaaDoorMacLeaf
import Derived.Great.BuildSlice
namespace Go.Proofs.YtllbdeniigakkaaDoor.Sha
open Go.RowKit

/-- An array literal of integers, its cells named. -/
theorem wpList_build_cells {P : Program} {ops : Array Oper} {rest : List Oper} {o : Oper} {a : Act} {w : World} {Q : Exit → Act → World → Prop} (hg : o.guard = none) (t e : TypeId) (n : Nat) (parts : Array (Nat × Operand)) (ho : o.op = .build t parts)
    (k : IntKind) (zs : List Int) (cells : Array Value) (hu : P.underlying t = some (.array n e)) (hsz : (P.info? e).map (·.size) = some 1) (hz : ((P.info? t).bind (·.zero)).map (·.cells.size) = some zs.length)
    (hparts : parts.toList = (zs.zipIdx 0).map fun x => (x.2, Operand.const (Value.int k x.1))) (hc : (zs.map (Value.int k)).toArray = cells)
    (h : wpList P ops Q rest (a.put o.dst (.agg cells)) w) : wpList P ops Q (o :: rest) a w := by
  subst hc
  exact wpList_buildFlatArr hg t e n parts ho k zs hu hsz hz hparts h
/-- The constants as numbers. -/
def kInts : List Int := K.map Int.ofNat
theorem kInts_cells : (kInts.map (Value.int .u32)).toArray = kCells := by kernel_rfl
def sInts : List Int := start.list.map fun x => (x.toNat : Int)
theorem sInts_cells : (sInts.map (Value.int .u32)).toArray = (uvs start.list).toArray := by kernel_rfl

set_option maxHeartbeats 1000000 in
theorem quick_any (A : Option Addr) (n c : Nat) (bs : List UInt8) (w : World) (hR : Row w w.heap.size A n (bvs bs)) (hl : n < 35184372088832) :
    Calls Tryd.prog 15 #[.slice A n c] w fun e w' => e = .returned (.agg (bvs (digest bs)).toArray) ∧ Below w.heap.size w w' := by
  have hzero' := zero_sum
  have hzero64 := zero_64
  obtain ⟨res, hres⟩ : ∃ res, res = (bvs (digest bs)).toArray := ⟨_, rfl⟩
  have hr32 : res.size = 32 := by rw [hres, bvs_toArray_size, digest_length]
  have hr1 : res.all (·.oneCell') = true := by rw [hres]; exact bvs_all' _
  rw [← hres]
  have HRES := Lib.hid hres
  have HR32 := Lib.hid hr32
  have HR1 := Lib.hid hr1
  have HR := Lib.hid hR
  obtain ⟨st, hst⟩ : ∃ st, st = (uvs start.list).toArray := ⟨_, rfl⟩
  have HST := Lib.hid hst
  have HS8 : Hid (st.size = 8) := by show st.size = 8; rw [hst]; rfl
  have HS1 : Hid (st.all (·.oneCell') = true) := by show _ = _; rw [hst]; exact uvs_one _
  have HK1 : Hid (kCells.all (·.oneCell') = true) := uvs_one _
  clear hR hres hr32 hr1 hst
  have hsc : (sInts.map (Value.int .u32)).toArray = st := by rw [HST.out]; exact sInts_cells
  have HSC := Lib.hid hsc
  clear hsc
  go_enter Tryd.func15, Tryd.ntmps15
  go_wp2_with (first
    | (refine wpList_build_cells rfl 43 42 64 _ rfl .u32 kInts kCells Tryd.underlying43 (by kernel_rfl) (by kernel_rfl) (by kernel_rfl) kInts_cells ?_)
    | (refine wpList_build_cells rfl 44 42 8 _ rfl .u32 sInts st Tryd.underlying44 (by kernel_rfl) (by kernel_rfl) (by kernel_rfl) HSC.out ?_)
    | (refine wpList_store_blk rfl 43 (.tmp 3) (.tmp 5) rfl (w.heap.size + 1) kCells rfl rfl 43 zero64 (heap_alloc2_new _ _ _) (by rw [kCells_size]; kernel_rfl) (by rw [kCells_size]; rfl) HK1.out ?_
       intro w1 G1 G2
       have hz1 : w.heap.size + 2 ≤ w1.heap.size := by have := (only_hid G2).size; simpa using this
       have HB1 : Hid (Below w.heap.size w w1) := below_only (((Below.refl _ _).alloc (Nat.le_refl _) _).alloc (by simp) _) (only_hid G2) (by omega) (by simp; omega)
       have HS : Hid (Blk w1 w.heap.size 25 zeroSum) := (G2.out.block w.heap.size (by simp; omega) (by intro e; injection e; omega)).trans (heap_alloc2_old _ _ _))
    | (refine wpList_store_blk rfl 44 (.tmp 4) (.tmp 6) rfl w1.heap.size st rfl rfl 44 _ (heap_alloc_new _ _) (by rw [HS8.out]; kernel_rfl) (by rw [HS8.out]; rfl) HS1.out ?_
       intro w2 G3 G4
       have hz2 : w1.heap.size + 1 ≤ w2.heap.size := by have := (only_hid G4).size; simpa using this
       have HB2 : Hid (Below w.heap.size w w2) := below_only (HB1.out.alloc (by omega) _) (only_hid G4) (by omega) (by simp; omega)
       have HS2 : Hid (Blk w2 w.heap.size 25 zeroSum) := (G4.out.block w.heap.size (by simp; omega) (by intro e; injection e; omega)).trans ((Below.heap_alloc w1 _ _ (by omega)).trans HS.out)
       have HK2 : Hid (Blk w2 (w.heap.size + 1) 43 kCells) := (G4.out.block (w.heap.size + 1) (by simp; omega) (by intro e; injection e; omega)).trans ((Below.heap_alloc w1 _ _ (by omega)).trans G1.out))
    | (refine wpList_load_row rfl 43 (.tmp 3) rfl (w.heap.size + 1) rfl 43 kCells (0, 0) _ HK2.out Tryd.underlying43 rfl (by rw [kCells_size]; kernel_rfl) ?_)
    | (refine wpList_load_row rfl 44 (.tmp 4) rfl w1.heap.size rfl 44 st (0, 0) _ G3.out Tryd.underlying44 rfl (by rw [HS8.out]; kernel_rfl) ?_))
  have hdg := refdigest_any A n c bs w2 ((HR.out.below HB2.out).more (by omega)) hl
  rw [← HST.out, ← HRES.out] at hdg
  with_reducible refine hdg.mono ?_
  rintro e w3 ⟨rfl, hb3⟩
  have HS3 := Lib.hid ((hb3.block _ (by omega)).trans HS2.out)
  have HB3 := Lib.hid (HB2.out.trans (hb3.mono (by omega)))
  clear hb3 hdg
  go_wp2_with (refine wpList_store_blk rfl 25 (.tmp 2) (.tmp 10) rfl w.heap.size res rfl rfl 25 zeroSum HS3.out (by rw [HR32.out]; kernel_rfl) (by rw [HR32.out]; rfl) HR1.out ?_; intro w6 G5 G6)
  refine bodyPost_ret (v := .agg res) (results_cell_row rfl _ _ w.heap.size 25 _ (0, 0) _ rfl G5.out Tryd.underlying25 rfl (by rw [HR32.out]; kernel_rfl)) rfl ?_
  exact ⟨rfl, below_only HB3.out (only_hid G6) (Nat.le_refl _) HB3.out.size⟩
end Go.Proofs.YtllbdeniigakkaaDoor.Sha
