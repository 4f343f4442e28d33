/-
  Proved: what Short of package stillroomlaw1 returns; what a row's list says of the tables sha.start and sha.rounds; bytes of a block known whole; == and != of two digests; slices of bytes.
  Conditions: none.
-/
import Derived.Test.YtllbdeniigakkaaDoorShaSum
import Derived.Test.YtllbdeniigakkaaDoorShaKnown
import Derived.Lib.SlBytesConst
namespace Go.Proofs.YtllbdeniigakkaaDoor.Sha
open Go.RowKit

theorem blk_get {w : World} {g : Nat} {t : TypeId} {bs : List UInt8} (h : Blk w g t (bvs bs).toArray) (i : Nat) (x : UInt8) (hx : bs[i]? = some x) : w.cell? ⟨g, i, none⟩ = some (.int .u8 (x.toNat : Int)) := by
  rw [blk_cell h, bvs, List.getElem?_map, hx]
  rfl
theorem bvs_all (bs : List UInt8) : (bvs bs).toArray.all (·.oneCell') = true := by
  rw [Array.all_eq_true_iff_forall_mem]
  intro v hv
  exact bvs_one _ v (by simpa using hv)
theorem short_any (A : Option Addr) (n c : Nat) (m : Nat) (w : World) (hn : n ≤ c) (_hc : c ≤ maxLen) :
    Calls Tryd.prog 7 #[.slice A n c, .int .i64 (m : Int)] w fun e w' => e = .returned (.slice A (min n m) c) ∧ w = w' := by
  unfold maxLen at _hc
  by_cases h : m < n
  · rw [Nat.min_eq_right (Nat.le_of_lt h)]
    go_enter Tryd.func7, Tryd.ntmps7
    go_wp2
    go_ret
    exact ⟨rfl, rfl⟩
  · rw [Nat.min_eq_left (by omega)]
    go_enter Tryd.func7, Tryd.ntmps7
    go_wp2
    go_ret
    exact ⟨rfl, rfl⟩
/-- What is left of a slice behind 'Short', in the world behind 'begun'. -/
theorem short_row {w w1 : World} {A : Option Addr} {n m : Nat} {bs : List UInt8} (hb : Below w.heap.size w w1) (hR : Row w w.heap.size A n (bvs bs)) :
    Row w1 w.heap.size A (min n m) (bvs (bs.take m)) := by
  have h := (hR.below hb).take (k := min n m) (Nat.min_le_left _ _)
  rw [bvs_take] at h
  have hl := hR.size
  have : bs.take (min n m) = bs.take m := by
    rw [← hl, ← List.take_take, List.take_of_length_le]
    exact List.length_take_le' _ _
  rwa [this] at h
theorem g_start : Tryd.prog.globalNamed "stillroom/sha.start" = some 0 := by kernel_rfl
theorem t_start : (Tryd.prog.globals[0]?).map (·.type) = some 44 := by kernel_rfl
theorem c_start : Tryd.prog.cellsOf 44 = 8 := by kernel_rfl
theorem g_rounds : Tryd.prog.globalNamed "stillroom/sha.rounds" = some 1 := by kernel_rfl
theorem t_rounds : (Tryd.prog.globals[1]?).map (·.type) = some 43 := by kernel_rfl
theorem c_rounds : Tryd.prog.cellsOf 43 = 64 := by kernel_rfl
theorem c_u32 : Tryd.prog.cellsOf 42 = 1 := by kernel_rfl
theorem var_block {P : Program} {w : World} {name : String} {g : Nat} {cs : Array Value} (hg : P.globalNamed name = some g) (h : w.var? P name = some cs) : ∃ t fr, w.heap[g]? = some (.cells cs t fr) := by
  simp only [World.var?, hg, Option.bind_some] at h
  split at h
  · rename_i c t fr e
    obtain rfl := Option.some.inj h
    exact ⟨t, fr, e⟩
  · cases h
/-- What a row's list says of the tables. -/
theorem tables_of {W : World} {rest : List (String × DataW Unit)} (h : laidMet Tryd.prog (("stillroom/sha.start", Rows.laid_stillroom_sha_start) :: ("stillroom/sha.rounds", Rows.laid_stillroom_sha_rounds) :: rest) W) : Tables W := by
  have hs : Lib.TabIs Tryd.prog W "stillroom/sha.start" .u32 (start.list.map fun x => (x.toNat : Int)) :=
    Lib.tabIs_of_head (rest := ("stillroom/sha.rounds", Rows.laid_stillroom_sha_rounds) :: rest) g_start t_start Tryd.underlying44 Tryd.underlying42 c_u32 c_start h
  have hr : Lib.TabIs Tryd.prog W "stillroom/sha.rounds" .u32 (K.map Int.ofNat) := by
    obtain ⟨ps, ⟨g1, t1, cs1, f1, p1, q1, _, _, _, _, hq, _⟩, _⟩ := h
    obtain ⟨g', t', cs, fuel, p, q, hg', ht', hvar, hd, _, _⟩ := hq
    obtain rfl := Option.some.inj (g_rounds.symm.trans hg')
    obtain rfl := Option.some.inj (t_rounds.symm.trans ht')
    unfold Lib.TabIs
    rw [hvar, ← Lib.cells_of_tab Tryd.underlying43 Tryd.underlying42 c_u32 c_rounds hd]
  obtain ⟨t0, fr0, hb⟩ := var_block g_start hs
  obtain ⟨t2, fr2, hb2⟩ := var_block g_rounds hr
  refine ⟨fun i hi => ?_, ⟨t0, fr0, ?_⟩, ?_, ?_⟩
  · have hk : i < K.length := hi
    have e := hr.cell g_rounds i (by simpa using hk)
    rw [e, k32, BitVec.toNat_ofNat, List.getD_eq_getElem?_getD, List.getElem?_map, List.getD_eq_getElem?_getD, List.getElem?_eq_getElem hk]
    have hlt : ∀ j : Fin 64, K.getD j.val 0 < 4294967296 := by decide
    have := hlt ⟨i, hi⟩
    rw [List.getD_eq_getElem?_getD, List.getElem?_eq_getElem hk] at this
    simp only [Option.map_some, Option.getD_some] at this ⊢
    rw [Nat.mod_eq_of_lt this]
    rfl
  · exact hb
  · rcases Nat.lt_or_ge 1 W.heap.size with hh | hh
    · exact hh
    · rw [Array.getElem?_eq_none hh] at hb2; cases hb2
  · rcases Nat.lt_or_ge 0 W.heap.size with hh | hh
    · exact hh
    · rw [Array.getElem?_eq_none hh] at hb; cases hb
theorem eq_same {res : Array Value} {bs : List UInt8} (hres : res = (bvs bs).toArray) (hb : bs.length = 32) (w : World) : (binOp .eql 25 (.agg res) (.agg res)).run Tryd.prog w = .ok (.bool true) w := by
  subst hres
  rw [run_eql_bytes (P := Tryd.prog) Tryd.underlying25 Tryd.underlying5 (by kernel_rfl) bs bs hb hb w]
  simp
theorem eq_guard : Tryd.prog.eqGuardType Tryd.prog.depth 25 = false := by kernel_rfl

theorem bvs_zeros (m : Nat) : List.replicate m (Value.int .u8 0) = bvs (List.replicate m 0) := by
  simp [bvs, bv]

theorem bvs_made (n : Nat) : madeCells #[Value.int .u8 0] n = (bvs (List.replicate n 0)).toArray := by
  apply Array.ext'
  rw [toList_madeCells_one]
  simp [bvs, bv]
theorem bvs_set (l : List UInt8) (i : Nat) (c : UInt8) : (bvs l).toArray.setIfInBounds i (bv c) = (bvs (l.set i c)).toArray := by
  simp [bvs]
theorem byte_value {x : Int} (h0 : 0 ≤ x) (h1 : x ≤ 255) : ∃ c : UInt8, Value.int .u8 x = bv c := by
  refine ⟨UInt8.ofNat x.toNat, ?_⟩
  rw [bv, UInt8.toNat_ofNat']
  congr 1
  have : x.toNat % 2 ^ 8 = x.toNat := Nat.mod_eq_of_lt (by omega)
  rw [this]
  omega
theorem blk_row_u8 {w : World} {g : Nat} {t : TypeId} {l : List UInt8} {n : Nat} (h : Blk w g t (bvs l).toArray) (hn : l.length = n) : Row w w.heap.size (some ⟨g, 0, none⟩) n (bvs l) := by
  have e : (bvs l).toArray.size = n := by rw [List.size_toArray, bvs_length, hn]
  rw [← e]
  exact h.row

theorem ne_same {res : Array Value} {bs : List UInt8} (hres : res = (bvs bs).toArray) (hb : bs.length = 32) (w : World) : (binOp .neq 25 (.agg res) (.agg res)).run Tryd.prog w = .ok (.bool false) w := by
  subst hres
  rw [run_neq_bytes (P := Tryd.prog) Tryd.underlying25 Tryd.underlying5 (by kernel_rfl) bs bs hb hb w]
  simp
theorem src_cut {w wr : World} {g N k m : Nat} {A : Option Addr} {ys : List UInt8} (hR : Row w w.heap.size A N (bvs ys)) (hw : Below w.heap.size w wr) (hg : w.heap.size ≤ g) (hk : k ≤ m) (hm : m ≤ N) :
    Src wr g (A.map (·.add k)) (m - k) (bvs ((ys.drop k).take (m - k))) := by
  rcases Nat.lt_or_ge k m with h | h
  · have hr := (hR.below hw).cut h hm
    rw [bvs_drop, bvs_take] at hr
    exact hr.src hw.size hg
  · have e : m - k = 0 := by omega
    rw [e]
    exact ⟨by simp [bvs], fun h0 => absurd h0 (by omega)⟩
theorem src_zero {w : World} {g : Nat} {A : Option Addr} (n : Nat) (hn : n = 0) : Src w g A n (bvs []) := by
  subst hn
  exact ⟨rfl, fun h => absurd h (by omega)⟩
theorem row_front {w wr : World} {N m : Nat} {A : Option Addr} {ys : List UInt8} (hR : Row w w.heap.size A N (bvs ys)) (hw : Below w.heap.size w wr) (hm : m ≤ N) : Row wr wr.heap.size A m (bvs (ys.take m)) := by
  have h := ((hR.below hw).more hw.size).take hm
  rw [bvs_take] at h
  exact h

end Go.Proofs.YtllbdeniigakkaaDoor.Sha
