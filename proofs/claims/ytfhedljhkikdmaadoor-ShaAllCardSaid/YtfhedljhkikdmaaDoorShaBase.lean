/-
  Proved: what begun of package stillroomlaw2, and Short of package stillroomlaw1, return; what Write of a nil Hash does; what a row's list says of the tables sha.start and sha.rounds.
  Conditions: the tables hold their words.
-/
import Derived.Test.YtfhedljhkikdmaaDoorShaSum
import Derived.Test.YtfhedljhkikdmaaDoorShaUnhex
import Derived.Test.YtfhedljhkikdmaaDoorShaKnown
import Derived.Lib.SlBytesConst
namespace Go.Proofs.YtfhedljhkikdmaaDoor.Sha
open Go.RowKit

theorem blk_get {w : World} {g : Nat} {t : TypeId} {bs : List UInt8} (h : Blk w g t (bvs bs).toArray) (i : Nat) (x : UInt8) (hx : bs[i]? = some x) : w.cell? ⟨g, i, none⟩ = some (.int .u8 (x.toNat : Int)) := by
  rw [blk_cell h, bvs, List.getElem?_map, hx]
  rfl
theorem bvs_all (bs : List UInt8) : (bvs bs).toArray.all (·.oneCell') = true := by
  rw [Array.all_eq_true_iff_forall_mem]
  intro v hv
  exact bvs_one _ v (by simpa using hv)
theorem unhex_0aff : unhexL (⟨#[48, 97, 102, 102]⟩ : ByteArray).data.toList = some [10, 255] := by decide +kernel
theorem hex_0aff : hexL [10, 255] = [48, 97, 102, 102] := by decide +kernel

set_option maxRecDepth 100000 in
set_option maxHeartbeats 1000000 in
theorem begun_any (w : World) (hT : Tables w) :
    Calls Tryd.prog 8 #[] w fun e w' => e = .returned (.bool true) ∧ Below w.heap.size w w' := by
  have hzero' := zero_sum
  have HT := Lib.hid hT
  clear hT
  go_enter Tryd.func8, Tryd.ntmps8
  go_wp2_with fail
  refine (sum_any none 0 0 [] w HT.out (Row.nil _ _) (Nat.le_refl _) (by decide) (by decide)).mono ?_
  rintro e w1 ⟨rfl, hb1⟩
  obtain ⟨res, hres⟩ : ∃ res, res = (bvs (digest [])).toArray := ⟨_, rfl⟩
  have hr32 : res.size = 32 := by rw [hres, List.size_toArray, bvs_length]; rfl
  have hr1 : res.all (·.oneCell') = true := by rw [hres]; exact bvs_all _
  rw [← hres]
  have HB1 := Lib.hid hb1
  have HRES := Lib.hid hres
  have HR32 := Lib.hid hr32
  have HR1 := Lib.hid hr1
  clear hb1 hres hr32 hr1
  go_wp2_with (
    refine wpList_store_blk rfl 25 (.tmp 1) (.tmp 4) rfl w1.heap.size res rfl rfl 25 zeroSum (heap_alloc_new _ _) (by rw [HR32.out]; kernel_rfl) (by rw [HR32.out]; rfl) HR1.out ?_
    intro w2 G1 G2)
  refine (unhex_any _ w2 (by decide)).mono ?_
  intro e w3 hu
  obtain ⟨A, n, rfl, hrow, hlen⟩ := hu.1 [10, 255] unhex_0aff
  obtain rfl : n = 2 := hlen.symm
  have hb3 := hu.2.2
  obtain ⟨b, o, rfl, hblk, hcell⟩ := hrow.byte (by omega)
  have k1 : w3.cell? ⟨b, o + 1, none⟩ = some (.int .u8 255) := hcell 1 (by omega)
  have hg3 : Blk w3 w1.heap.size 25 (bvs (digest [])).toArray := (hb3.block w1.heap.size (blk_lt G1.out)).trans (by rw [← HRES.out]; exact G1.out)
  have d0 : w3.cell? ⟨w1.heap.size, 0, none⟩ = some (.int .u8 227) := blk_get hg3 0 227 (by rw [digest_nil]; rfl)
  have d1 : w3.cell? ⟨w1.heap.size, 1, none⟩ = some (.int .u8 176) := blk_get hg3 1 176 (by rw [digest_nil]; rfl)
  have d31 : w3.cell? ⟨w1.heap.size, 31, none⟩ = some (.int .u8 85) := blk_get hg3 31 85 (by rw [digest_nil]; rfl)
  have hbw : Below w.heap.size w w3 := (below_only (HB1.out.alloc HB1.out.size _) (only_hid G2) HB1.out.size (Nat.le_trans HB1.out.size (by simp))).trans (hb3.mono (Nat.le_trans HB1.out.size (Nat.le_of_lt (blk_lt G1.out))))
  have HBW := Lib.hid hbw
  have HHEX : Hid (∀ (W : World), Row W W.heap.size (some ⟨w3.heap.size, 0, none⟩) 2 (bvs [10, 255]) → Calls Tryd.prog 16 #[.slice (some ⟨w3.heap.size, 0, none⟩) 2 2] W fun e w' => e = .returned (.string ⟨#[48, 97, 102, 102]⟩) ∧ Below W.heap.size W w') := fun W hW => by
    have := hex_any (some ⟨w3.heap.size, 0, none⟩) 2 2 [10, 255] W hW (by decide)
    rw [hex_0aff] at this
    exact this
  clear hu hrow hcell hb3 hg3 hbw
  go_wp2_with fail
  refine (HHEX.out _ ((show Row _ (w3.heap.size + 1) _ 2 (bvs [10, 255]) from Row.fresh w3 5 (0, 0) _).more (by simp))).mono ?_
  rintro e w4 ⟨rfl, hb4⟩
  have k4 : w4.cell? ⟨b, o + 1, none⟩ = some (.int .u8 255) := (hb4.cell (by simp; omega)).trans ((((Below.refl w3.heap.size w3).alloc (Nat.le_refl _) _).cell hblk).trans k1)
  have hbw : Below w.heap.size w w4 := (HBW.out.alloc HBW.out.size _).trans (hb4.mono (Nat.le_trans HBW.out.size (by simp)))
  have HBW4 := Lib.hid hbw
  clear hb4 hbw
  go_wp2_with fail
  go_ret
  exact ⟨rfl, HBW4.out⟩

theorem short_any (A : Option Addr) (n c : Nat) (m : Nat) (w : World) (hn : n ≤ c) (_hc : c ≤ maxLen) :
    Calls Tryd.prog 9 #[.slice A n c, .int .i64 (m : Int)] w fun e w' => e = .returned (.slice A (min n m) c) ∧ w = w' := by
  unfold maxLen at _hc
  by_cases h : m < n
  · rw [Nat.min_eq_right (Nat.le_of_lt h)]
    go_enter Tryd.func9, Tryd.ntmps9
    go_wp2
    go_ret
    exact ⟨rfl, rfl⟩
  · rw [Nat.min_eq_left (by omega)]
    go_enter Tryd.func9, Tryd.ntmps9
    go_wp2
    go_ret
    exact ⟨rfl, rfl⟩
/-- What is left of a slice behind 'Short', in the world behind 'begun'. -/
theorem short_row {w w1 : World} {A : Option Addr} {n m : Nat} {bs : List UInt8} (hb : Below w.heap.size w w1) (hR : Row w w.heap.size A n (bvs bs)) :
    Row w1 w.heap.size A (min n m) (bvs (bs.take m)) := by
  have h := (hR.below hb).take (k := min n m) (Nat.min_le_left _ _)
  rw [bvs_take] at h
  have hl := hR.size
  have : bs.take (min n m) = bs.take m := by
    rw [← hl, ← List.take_take, List.take_of_length_le]
    exact List.length_take_le' _ _
  rwa [this] at h
theorem write_nil (A : Option Addr) (n c : Nat) (w : World) :
    Calls Tryd.prog 13 #[.pointer none, .slice A n c] w fun e w' => e = .returned undef ∧ w = w' := by
  go_enter Tryd.func13, Tryd.ntmps13
  go_wp2_with fail
  refine bodyPost_ret (results_none rfl _ _ _) rfl ?_
  exact ⟨rfl, rfl⟩

theorem g_start : Tryd.prog.globalNamed "stillroom/sha.start" = some 0 := by kernel_rfl
theorem t_start : (Tryd.prog.globals[0]?).map (·.type) = some 40 := by kernel_rfl
theorem c_start : Tryd.prog.cellsOf 40 = 8 := by kernel_rfl
theorem g_rounds : Tryd.prog.globalNamed "stillroom/sha.rounds" = some 1 := by kernel_rfl
theorem t_rounds : (Tryd.prog.globals[1]?).map (·.type) = some 46 := by kernel_rfl
theorem c_rounds : Tryd.prog.cellsOf 46 = 64 := by kernel_rfl
theorem c_u32 : Tryd.prog.cellsOf 39 = 1 := by kernel_rfl
theorem var_block {P : Program} {w : World} {name : String} {g : Nat} {cs : Array Value} (hg : P.globalNamed name = some g) (h : w.var? P name = some cs) : ∃ t fr, w.heap[g]? = some (.cells cs t fr) := by
  simp only [World.var?, hg, Option.bind_some] at h
  split at h
  · rename_i c t fr e
    obtain rfl := Option.some.inj h
    exact ⟨t, fr, e⟩
  · cases h
/-- What a row's list says of the tables. -/
theorem tables_of {W : World} {rest : List (String × DataW Unit)} (h : laidMet Tryd.prog (("stillroom/sha.start", Rows.laid_stillroom_sha_start) :: ("stillroom/sha.rounds", Rows.laid_stillroom_sha_rounds) :: rest) W) : Tables W := by
  have hs : Lib.TabIs Tryd.prog W "stillroom/sha.start" .u32 (start.list.map fun x => (x.toNat : Int)) :=
    Lib.tabIs_of_head (rest := ("stillroom/sha.rounds", Rows.laid_stillroom_sha_rounds) :: rest) g_start t_start Tryd.underlying40 Tryd.underlying39 c_u32 c_start h
  have hr : Lib.TabIs Tryd.prog W "stillroom/sha.rounds" .u32 (K.map Int.ofNat) := by
    obtain ⟨ps, ⟨g1, t1, cs1, f1, p1, q1, _, _, _, _, hq, _⟩, _⟩ := h
    obtain ⟨g', t', cs, fuel, p, q, hg', ht', hvar, hd, _, _⟩ := hq
    obtain rfl := Option.some.inj (g_rounds.symm.trans hg')
    obtain rfl := Option.some.inj (t_rounds.symm.trans ht')
    unfold Lib.TabIs
    rw [hvar, ← Lib.cells_of_tab Tryd.underlying46 Tryd.underlying39 c_u32 c_rounds hd]
  obtain ⟨t0, fr0, hb⟩ := var_block g_start hs
  obtain ⟨t2, fr2, hb2⟩ := var_block g_rounds hr
  refine ⟨fun i hi => ?_, ⟨t0, fr0, ?_⟩, ?_, ?_⟩
  · have hk : i < K.length := hi
    have e := hr.cell g_rounds i (by simpa using hk)
    rw [e, k32, BitVec.toNat_ofNat, List.getD_eq_getElem?_getD, List.getElem?_map, List.getD_eq_getElem?_getD, List.getElem?_eq_getElem hk]
    have hlt : ∀ j : Fin 64, K.getD j.val 0 < 4294967296 := by decide
    have := hlt ⟨i, hi⟩
    rw [List.getD_eq_getElem?_getD, List.getElem?_eq_getElem hk] at this
    simp only [Option.map_some, Option.getD_some] at this ⊢
    rw [Nat.mod_eq_of_lt this]
    rfl
  · exact hb
  · rcases Nat.lt_or_ge 1 W.heap.size with hh | hh
    · exact hh
    · rw [Array.getElem?_eq_none hh] at hb2; cases hb2
  · rcases Nat.lt_or_ge 0 W.heap.size with hh | hh
    · exact hh
    · rw [Array.getElem?_eq_none hh] at hb; cases hb
end Go.Proofs.YtfhedljhkikdmaaDoor.Sha
