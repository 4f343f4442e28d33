/-
  Proved: what mix of package sha returns: what a state becomes of a block.
  Conditions: the slice reads as at least 64 bytes; the table sha.rounds holds its 64 words.
-/
import Derived.Test.YtllbdeniigakkaaDoorShaMix
namespace Go.Proofs.YtllbdeniigakkaaDoor.Sha
open Go.RowKit

/-- What the tables hold. -/
def Tables (w : World) : Prop := (∀ i, i < 64 → w.cell? ⟨1, i, none⟩ = some (.int .u32 ((k32 i).toNat : Int))) ∧ (∃ t fr, w.heap[0]? = some (.cells (uvs start.list).toArray t fr)) ∧ 1 < w.heap.size ∧ 0 < w.heap.size
theorem Tables.below {w w' : World} {B : Nat} (h : Tables w) (hb : Below B w w') (hB : 1 < B ∧ 0 < B) : Tables w' :=
  ⟨fun i hi => (hb.cell hB.1).trans (h.1 i hi), (by obtain ⟨t, fr, e⟩ := h.2.1; exact ⟨t, fr, (hb.block _ hB.2).trans e⟩), Nat.lt_of_lt_of_le h.2.2.1 hb.size, Nat.lt_of_lt_of_le h.2.2.2 hb.size⟩
theorem Tables.all {w w' : World} (h : Tables w) (hb : Below w.heap.size w w') : Tables w' := h.below hb h.2.2
theorem Tables.only {w w' : World} {g : Nat} (h : Tables w) (hg : w.grownBy w' (some g)) (h1 : 1 < g) (_h2 : 0 < g) : Tables w' :=
  ⟨fun i hi => (World.cell?_of_block (hg.block 1 h.2.2.1 (by intro e; injection e; omega))).trans (h.1 i hi), (by obtain ⟨t, fr, e⟩ := h.2.1; exact ⟨t, fr, (hg.block _ h.2.2.2 (by intro e; injection e; omega)).trans e⟩), Nat.lt_of_lt_of_le h.2.2.1 hg.size, Nat.lt_of_lt_of_le h.2.2.2 hg.size⟩

theorem round_e (e f g h d y x : BitVec 32) :
    ((d.toNat : Int) + ((h.toNat : Int) + bits .xor .u32 (bits .xor .u32 ((rotr e 6).toNat : Int) ((rotr e 11).toNat : Int)) ((rotr e 25).toNat : Int) +
      bits .xor .u32 (bits .and .u32 (e.toNat : Int) (f.toNat : Int)) (bits .and .u32 (bits .xor .u32 IntKind.u32.max (e.toNat : Int)) (g.toNat : Int)) + (y.toNat : Int) + (x.toNat : Int)) % 4294967296) % 4294967296 =
      ((d + (h + big1 e + pick e f g + y + x)).toNat : Int) := by
  rw [u32_not_bv, u32_xor_bv, u32_xor_bv, u32_and_bv, u32_and_bv, u32_xor_bv]
  simp only [← u32_add_bv, Int.emod_add_emod, Int.add_emod_emod]
  rfl
theorem round_a (a b c e f g h y x : BitVec 32) :
    (((h.toNat : Int) + bits .xor .u32 (bits .xor .u32 ((rotr e 6).toNat : Int) ((rotr e 11).toNat : Int)) ((rotr e 25).toNat : Int) +
      bits .xor .u32 (bits .and .u32 (e.toNat : Int) (f.toNat : Int)) (bits .and .u32 (bits .xor .u32 IntKind.u32.max (e.toNat : Int)) (g.toNat : Int)) + (y.toNat : Int) + (x.toNat : Int) +
      bits .xor .u32 (bits .xor .u32 ((rotr a 2).toNat : Int) ((rotr a 13).toNat : Int)) ((rotr a 22).toNat : Int)) % 4294967296 +
      bits .xor .u32 (bits .xor .u32 (bits .and .u32 (a.toNat : Int) (b.toNat : Int)) (bits .and .u32 (a.toNat : Int) (c.toNat : Int))) (bits .and .u32 (b.toNat : Int) (c.toNat : Int))) % 4294967296 =
      ((h + big1 e + pick e f g + y + x + big0 a + most a b c).toNat : Int) := by
  rw [u32_not_bv]
  simp only [u32_xor_bv, u32_and_bv]
  simp only [← u32_add_bv, Int.emod_add_emod]
  rfl
set_option maxRecDepth 100000 in
set_option maxHeartbeats 400000 in
theorem mix_any (s : St) (A : Option Addr) (n c : Nat) (bs : List UInt8) (B : Nat) (w : World) (hT : Tables w) (hR : Row w B A n (bvs bs)) (hn : 64 ≤ n) (hB : B ≤ w.heap.size) (hc : n ≤ c) (hm : c ≤ maxLen) :
    Calls Tryd.prog 22 #[.agg (uvs s.list).toArray, .slice A n c] w fun e w' => e = .returned (.agg (uvs (block s bs).list).toArray) ∧ Below w.heap.size w w' := by
  have hsp := fun (w' : World) (hb : Below w.heap.size w w') => spread_any A n c bs B w' (hR.below (hb.mono hB)) hn (Nat.le_trans hB hb.size) hc hm
  have hT' := fun (w' : World) (hb : Below w.heap.size w w') => (hT.all hb).1
  obtain ⟨ws, hws⟩ : ∃ ws, ws = (uvs (words bs 64)).toArray := ⟨_, rfl⟩
  rw [← hws] at hsp
  have hs1 : ws.size = 64 := by rw [hws]; simp [uvs, words_length]
  have hs2 : ws.all (·.oneCell') = true := by rw [hws]; exact uvs_one _
  have SP := Lib.hid hsp
  have HT := Lib.hid hT'
  have HW := Lib.hid hws
  have H1 := Lib.hid hs1
  have H2 := Lib.hid hs2
  clear hT hsp hT' hws hs1 hs2 hR hn hB hc hm
  unfold uvs St.list uv
  go_enter Tryd.func22, Tryd.ntmps22
  go_wp2_with fail
  refine (SP.out _ (((Below.refl _ _).alloc (Nat.le_refl _) _).alloc (by simp) _)).mono ?_
  rintro e w1 ⟨rfl, hb1⟩
  have ha : Blk w1 w.heap.size 44 #[Value.int .u32 s.a.toNat, Value.int .u32 s.b.toNat, Value.int .u32 s.c.toNat, Value.int .u32 s.d.toNat, Value.int .u32 s.e.toNat, Value.int .u32 s.f.toNat, Value.int .u32 s.g.toNat, Value.int .u32 s.h.toNat] :=
    (hb1.block w.heap.size (by simp; omega)).trans (heap_alloc2_old _ _ _)
  have hr : Blk w1 (w.heap.size + 1) 44 #[Value.int .u32 0, Value.int .u32 0, Value.int .u32 0, Value.int .u32 0, Value.int .u32 0, Value.int .u32 0, Value.int .u32 0, Value.int .u32 0] :=
    (hb1.block (w.heap.size + 1) (by simp)).trans (heap_alloc2_new _ _ _)
  have hz : w.heap.size + 1 < w1.heap.size := by have := hb1.size; simp at this; omega
  have hb : Below w.heap.size w w1 := (((Below.refl _ _).alloc (Nat.le_refl _) _).alloc (by simp) _).trans (hb1.mono (by simp; omega))
  have HA := Lib.hid ha
  have HR := Lib.hid hr
  have HB := Lib.hid hb
  clear ha hr hb hb1 SP
  go_wp2_with (refine wpList_store_blk rfl 43 (.tmp 5) (.tmp 21) rfl w1.heap.size ws rfl rfl 43 _ (heap_alloc_new _ _) (by rw [H1.out]; kernel_rfl) (by rw [H1.out]; rfl) H2.out ?_; intro w2 G1 G2)
  have ha2 : Blk w2 w.heap.size 44 #[Value.int .u32 s.a.toNat, Value.int .u32 s.b.toNat, Value.int .u32 s.c.toNat, Value.int .u32 s.d.toNat, Value.int .u32 s.e.toNat, Value.int .u32 s.f.toNat, Value.int .u32 s.g.toNat, Value.int .u32 s.h.toNat] :=
    ((only_hid (row := some w1.heap.size) G2).block w.heap.size (by simp; omega) (by intro e; injection e; omega)).trans ((Below.heap_alloc w1 _ w.heap.size (by omega)).trans HA.out)
  have hr2 : Blk w2 (w.heap.size + 1) 44 #[Value.int .u32 0, Value.int .u32 0, Value.int .u32 0, Value.int .u32 0, Value.int .u32 0, Value.int .u32 0, Value.int .u32 0, Value.int .u32 0] :=
    ((only_hid (row := some w1.heap.size) G2).block (w.heap.size + 1) (by simp; omega) (by intro e; injection e; omega)).trans ((Below.heap_alloc w1 _ (w.heap.size + 1) (by omega)).trans HR.out)
  have hb2 : Below w.heap.size w w2 := below_only (HB.out.alloc HB.out.size _) (only_hid G2) HB.out.size (by simp; omega)
  have hk := HT.out w2 hb2
  have f0 : w2.cell? ⟨w.heap.size, 0, none⟩ = some (.int .u32 s.a.toNat) := ha2.cell 0
  have f1 : w2.cell? ⟨w.heap.size, 1, none⟩ = some (.int .u32 s.b.toNat) := ha2.cell 1
  have f2 : w2.cell? ⟨w.heap.size, 2, none⟩ = some (.int .u32 s.c.toNat) := ha2.cell 2
  have f3 : w2.cell? ⟨w.heap.size, 3, none⟩ = some (.int .u32 s.d.toNat) := ha2.cell 3
  have f4 : w2.cell? ⟨w.heap.size, 4, none⟩ = some (.int .u32 s.e.toNat) := ha2.cell 4
  have f5 : w2.cell? ⟨w.heap.size, 5, none⟩ = some (.int .u32 s.f.toNat) := ha2.cell 5
  have f6 : w2.cell? ⟨w.heap.size, 6, none⟩ = some (.int .u32 s.g.toNat) := ha2.cell 6
  have f7 : w2.cell? ⟨w.heap.size, 7, none⟩ = some (.int .u32 s.h.toNat) := ha2.cell 7
  have HR2 := Lib.hid hr2
  have HB2 := Lib.hid hb2
  have HK := Lib.hid hk
  clear HA HR HB HT ha2 hr2 hb2 hk G2 hz
  go_wp2_with fail
  go_quiet (fail)
  go_wp2_with fail
  go_quiet (fail)
  go_wp2_with (refine wpList_load_row rfl 43 (.tmp 5) rfl w1.heap.size rfl 43 ws (0, 0) _ G1.out Tryd.underlying43 rfl (by rw [H1.out]; kernel_rfl) ?_)
  clear G1 H2
  go_loop [6, 7, 8, 9, 10, 11, 12, 13, 39] (fun a b c d e f g h i => ∃ k : Nat, ∃ t : St, k ≤ 64 ∧ Hid (t = rounds (words bs 64) s k) ∧ a = .int .u32 t.a.toNat ∧ b = .int .u32 t.b.toNat ∧ c = .int .u32 t.c.toNat ∧ d = .int .u32 t.d.toNat ∧
      e = .int .u32 t.e.toNat ∧ f = .int .u32 t.f.toNat ∧ g = .int .u32 t.g.toNat ∧ h = .int .u32 t.h.toNat ∧ i = .int .i64 k) (fun _ _ _ _ _ _ _ _ i => 64 - (intOf i).toNat)
  case atStart => exact ⟨0, s, Nat.zero_le _, rfl, rfl, rfl, rfl, rfl, rfl, rfl, rfl, rfl, rfl⟩
  case round =>
    obtain ⟨k, ⟨a, b, c', d, e, f, g, hh⟩, hk, HT, rfl, rfl, rfl, rfl, rfl, rfl, rfl, rfl, rfl⟩ := hrel
    by_cases hlt : k < 64
    · obtain ⟨x, HX⟩ : ∃ x, Hid (x = (words bs 64).getD k 0) := ⟨_, rfl⟩
      obtain ⟨y, HY⟩ : ∃ y, Hid (y = k32 k) := ⟨_, rfl⟩
      have hix : ∀ w : World, (Instr.index 43 (.agg ws) (.int .i64 (k : Int))).run Tryd.prog w = .ok (.int .u32 (x.toNat : Int)) w := fun w =>
        run_index_agg Tryd.underlying43 Tryd.underlying42 (by kernel_rfl) ws k _ hlt (by rw [HW.out, HX.out, List.getElem?_toArray]; exact uvs_get (by rw [words_length]; exact hlt)) .i64 w
      have hcell := HK.out k hlt
      rw [← HY.out] at hcell
      have hm0 := a.isLt
      go_wp2_with fail
      refine (rot6 e _).mono ?_
      rintro e' w' ⟨rfl, rfl⟩
      go_wp2_with fail
      refine (rot11 e _).mono ?_
      rintro e' w' ⟨rfl, rfl⟩
      go_wp2_with fail
      refine (rot25 e _).mono ?_
      rintro e' w' ⟨rfl, rfl⟩
      go_wp2_with fail
      refine (rot2 a _).mono ?_
      rintro e' w' ⟨rfl, rfl⟩
      go_wp2_with fail
      refine (rot13 a _).mono ?_
      rintro e' w' ⟨rfl, rfl⟩
      go_wp2_with fail
      refine (rot22 a _).mono ?_
      rintro e' w' ⟨rfl, rfl⟩
      go_wp2_with fail
      go_round
      case rel =>
        refine ⟨k + 1, rnd ⟨a, b, c', d, e, f, g, hh⟩ y x, by omega, ?_, ?_, rfl, rfl, rfl, ?_, rfl, rfl, rfl, by go_num⟩
        · show rnd ⟨a, b, c', d, e, f, g, hh⟩ y x = rounds (words bs 64) s (k + 1)
          rw [rounds, ← HT.out, HX.out, HY.out]
        · rw [round_a]
          rfl
        · rw [round_e]
          rfl
      case measure => simp [intOf]; omega
    · obtain rfl : k = 64 := by omega
      go_wp2_with (refine wpList_store_blk rfl 44 (.tmp 4) (.tmp 136) rfl (w.heap.size + 1) #[Value.int .u32 (((s.a.toNat : Int) + (a.toNat : Int)) % 4294967296), Value.int .u32 (((s.b.toNat : Int) + (b.toNat : Int)) % 4294967296), Value.int .u32 (((s.c.toNat : Int) + (c'.toNat : Int)) % 4294967296), Value.int .u32 (((s.d.toNat : Int) + (d.toNat : Int)) % 4294967296), Value.int .u32 (((s.e.toNat : Int) + (e.toNat : Int)) % 4294967296), Value.int .u32 (((s.f.toNat : Int) + (f.toNat : Int)) % 4294967296), Value.int .u32 (((s.g.toNat : Int) + (g.toNat : Int)) % 4294967296), Value.int .u32 (((s.h.toNat : Int) + (hh.toNat : Int)) % 4294967296)] rfl rfl 44 _ HR2.out (by kernel_rfl) rfl (by simp [Value.oneCell']) ?_; intro w4 G3 G4)
      rw [u32_add_bv, u32_add_bv, u32_add_bv, u32_add_bv, u32_add_bv, u32_add_bv, u32_add_bv, u32_add_bv] at G3
      refine bodyPost_ret (v := .agg _) (results_cell_row rfl _ _ (w.heap.size + 1) 44 _ (0, 0) _ rfl G3.out Tryd.underlying44 rfl (by kernel_rfl)) rfl ?_
      refine ⟨?_, below_only (below_drewN HB2.out _) (only_hid G4) (by omega) HB2.out.size⟩
      rw [block, ← HT.out]
      rfl
end Go.Proofs.YtllbdeniigakkaaDoor.Sha
