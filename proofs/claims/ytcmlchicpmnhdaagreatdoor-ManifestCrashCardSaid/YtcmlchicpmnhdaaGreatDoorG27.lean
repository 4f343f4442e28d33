/-
  Texts one behind the other: DiskFill, DiskCrashed.
-/
import Derived.Lib.SliceRun
import Derived.Test.YtcmlchicpmnhdaaGreatDoorG26
/-
  Proved: clear and copy of a part of a row of the call's own.
-/
namespace Go.Proofs.YtcmlchicpmnhdaaGreatDoor.Disk
open Go.RowKit Go.Maps
set_option linter.unusedVariables false
set_option linter.unusedSimpArgs false

/-- A slice of the bytes of a row, from lo to hi. -/
def CutOf (A : Option Addr) (c lo hi : Nat) (D : Value) : Prop := (c = lo ∧ D = .slice A 0 0) ∨ (c ≠ lo ∧ D = .slice (Option.map (fun x => x.add lo) A) (hi - lo) (c - lo))
theorem cut_exists (A : Option Addr) (c lo hi : Nat) : ∃ D, CutOf A c lo hi D := by
  by_cases e : c = lo
  · exact ⟨_, .inl ⟨e, rfl⟩⟩
  · exact ⟨_, .inr ⟨e, rfl⟩⟩
theorem add_at (g a : Nat) : (⟨g, 0, none⟩ : Addr).add a = ⟨g, a, none⟩ := by
  unfold Addr.add
  split
  · rename_i hj; subst hj; rfl
  · simp
theorem add_off (b q j : Nat) : (⟨b, q, none⟩ : Addr).add j = ⟨b, q + j, none⟩ := by
  unfold Addr.add
  split
  · rename_i hj; subst hj; rfl
  · rfl
theorem splice_row {w : World} {base gb cn n lo : Nat} {cur : Array Value} {b ys : List UInt8} (hb : Blk w gb 5 cur) (hbase : base ≤ gb) (h1 : n ≤ cn) (h2 : cn ≤ maxLen) (h3 : cur.size = cn) (h4 : cur.toList.take n = bvs b) (hl : b.length = n) (hfit : lo + ys.length ≤ n) :
    (w.setRow gb (cur.toList.take lo ++ bvs ys ++ cur.toList.drop (lo + (bvs ys).length)).toArray).ownsRow base 5 1 (.slice (some ⟨gb, 0, none⟩) n cn) n (bvs (b.take lo ++ ys ++ b.drop (lo + ys.length))) := by
  have hrest : cur.toList = bvs b ++ cur.toList.drop n := by rw [← h4, List.take_append_drop]
  have hbl : (bvs b).length = n := by rw [bvs_length, hl]
  have hyl : (bvs ys).length = ys.length := bvs_length ys
  refine ⟨?_, .inr ⟨gb, cn, _, rfl, hbase, setRow_heap w gb cur _ _ _ hb, h1, h2, ?_, ?_⟩⟩
  · rw [bvs_length]
    simp
    omega
  · rw [List.size_toArray, List.length_append, List.length_append, hyl, List.length_take, List.length_drop, Array.length_toList]
    omega
  · rw [hrest, Nat.mul_one, splice_take (bvs b) _ (bvs ys) lo n hbl (by omega), hyl, bvs_take, bvs_drop, bvs_append, bvs_append]
theorem clear_onto {w : World} {base : Nat} {A : Option Addr} {n c : Nat} {b : List UInt8} (hrow : w.ownsRow base 5 1 (.slice A n c) n (bvs b)) {lo hi : Nat} (hlo : lo ≤ hi) (hhi : hi ≤ n) {D : Value} (hD : CutOf A c lo hi D) (ty : TypeId) :
    ∃ w', (Builtin.clear_ #[51] ty #[D]).run Tryz.prog w = .ok (.tuple #[]) w' ∧ w'.ownsRow base 5 1 (.slice A n c) n (bvs (b.take lo ++ List.replicate (hi - lo) 0 ++ b.drop hi)) ∧ w.grownBy w' (Value.slice A n c).ownBlock := by
  have hv : ∀ w, (zeroValue 5).run Tryz.prog w = .ok (.int .u8 0) w := fun w => by kernel_rfl
  have hl : b.length = n := by have := hrow.1; rwa [bvs_length, Nat.mul_one] at this
  by_cases h0 : hi - lo = 0
  · have e : b.take lo ++ List.replicate (hi - lo) 0 ++ b.drop hi = b := by
      have : hi = lo := by omega
      subst this
      simp
    refine ⟨w, ?_, by rw [e]; exact hrow, World.grownBy.refl w _⟩
    rcases hD with ⟨_, rfl⟩ | ⟨_, rfl⟩
    · cases A <;> simp [Builtin.clear_, run_underlying Tryz.underlying51, hv]
    · rw [h0]
      cases A <;> simp [Builtin.clear_, run_underlying Tryz.underlying51, hv]
  · obtain ⟨gb, cap, cur, e, hbase, hb, h1, h2, h3, h4⟩ := own_block hrow (by omega)
    injection e with e1 e2 e3
    subst e1 e3
    rcases hD with ⟨e, _⟩ | ⟨_, rfl⟩
    · omega
    · obtain ⟨m, hm⟩ : ∃ m, hi - lo = m + 1 := ⟨hi - lo - 1, by omega⟩
      have hz : Builtin.zeroCells (Value.int .u8 0).cells (m + 1) = (bvs (List.replicate (m + 1) 0)).toArray := by
        apply Array.ext'
        apply List.ext_getElem?
        intro j
        by_cases hj : j < m + 1
        · simp [Builtin.zeroCells, Value.cells, hj, Nat.mod_one, bvs, bv]
        · simp [Builtin.zeroCells, Value.cells, hj, bvs]
      have hfit : lo + (bvs (List.replicate (m + 1) 0)).length ≤ cur.size := by rw [bvs_length, List.length_replicate]; omega
      have hst := run_storeCells_at (P := Tryz.prog) gb lo 5 (bvs (List.replicate (m + 1) 0)) 0 cur w hb (by simpa using hfit) (bvs_one _)
      simp only [Nat.add_zero] at hst
      have hsp := splice_row (lo := lo) (ys := List.replicate (m + 1) 0) hb hbase h1 h2 (by omega) h4 hl (by simp; omega)
      have e2 : lo + (List.replicate (m + 1) (0 : UInt8)).length = hi := by simp; omega
      rw [e2] at hsp
      rw [hm]
      refine ⟨_, ?_, hsp, only_setRow w gb _⟩
      show (Builtin.clear_ _ _ #[.slice (some ((⟨gb, 0, none⟩ : Addr).add lo)) _ _]).run _ _ = _
      rw [add_at]
      simp [Builtin.clear_, run_underlying Tryz.underlying51, hv, hz, hst]
theorem copy_cut {w : World} {base : Nat} {A : Option Addr} {n c : Nat} {b : List UInt8} (hrow : w.ownsRow base 5 1 (.slice A n c) n (bvs b)) {lo hi : Nat} (hlo : lo ≤ hi) (hhi : hi ≤ n) {D : Value} (hD : CutOf A c lo hi D)
    {B : Nat} {As : Option Addr} {m cs : Nat} {bs : List UInt8} (hR : Row w B As m (bvs bs)) (ty : TypeId) :
    ∃ w', (Builtin.copy_ #[51, 51] ty #[D, .slice As m cs]).run Tryz.prog w = .ok (.int .i64 ((min (hi - lo) m : Nat) : Int)) w' ∧
      w'.ownsRow base 5 1 (.slice A n c) n (bvs (b.take lo ++ bs.take (min (hi - lo) m) ++ b.drop (lo + min (hi - lo) m))) ∧ w.grownBy w' (Value.slice A n c).ownBlock := by
  have hsz : (Tryz.prog.info? 5).map (·.size) = some 1 := by kernel_rfl
  have hl : b.length = n := by have := hrow.1; rwa [bvs_length, Nat.mul_one] at this
  have hlb := hR.size
  obtain ⟨o, ho⟩ : ∃ o, o = min (hi - lo) m := ⟨_, rfl⟩
  rw [← ho]
  by_cases h0 : o = 0
  · subst h0
    refine ⟨w, ?_, ?_, World.grownBy.refl w _⟩
    · rcases hD with ⟨e, rfl⟩ | ⟨_, rfl⟩
      · exact run_copy_none w _ _ _ _ _ _ _ _ _ _ Tryz.underlying51 hsz (Nat.min_eq_right (Nat.zero_le _))
      · exact run_copy_none w _ _ _ _ _ _ _ _ _ _ Tryz.underlying51 hsz (by rw [Nat.min_comm] at ho; exact ho.symm)
    · rw [List.take_zero, List.append_nil, Nat.add_zero, List.take_append_drop]
      exact hrow
  · obtain ⟨gb, cap, cur, e, hbase, hb, h1, h2, h3, h4⟩ := own_block hrow (by omega)
    injection e with e1 e2 e3
    subst e1 e3
    rcases hD with ⟨e, _⟩ | ⟨_, rfl⟩
    · omega
    · obtain ⟨bb, ob, rfl, _, hcell⟩ := hR.2 (by omega)
      have htl : (bs.take o).length = o := by rw [List.length_take]; omega
      have hcs : (bvs (bs.take o)).length = o := by rw [bvs_length, htl]
      have hr := run_copy_row (P := Tryz.prog) w 51 51 ty 5 gb lo (hi - lo) (c - lo) ⟨bb, ob, none⟩ m cs cur 5 (bvs (bs.take o)) Tryz.underlying51 hsz hb (by rw [hcs, ho, Nat.min_comm])
        (fun j u hu => by
          rw [add_off]
          refine hcell j u ?_
          rw [← bvs_take, List.getElem?_take] at hu
          split at hu
          · exact hu
          · cases hu) (by rw [hcs]; omega) (bvs_one _)
      have hsp := splice_row (lo := lo) (ys := bs.take o) hb hbase h1 h2 (by omega) h4 hl (by rw [htl]; omega)
      rw [htl] at hsp
      refine ⟨_, ?_, hsp, only_setRow w gb _⟩
      show (Builtin.copy_ _ _ #[.slice (some ((⟨gb, 0, none⟩ : Addr).add lo)) _ _, _]).run _ _ = _
      rw [add_at, hr, hcs]
      rfl
end Go.Proofs.YtcmlchicpmnhdaaGreatDoor.Disk
/-
  Proved: what crashed of package disk returns: a new file, with the bytes that a crash leaves.
-/
namespace Go.Proofs.YtcmlchicpmnhdaaGreatDoor.Disk
open Go.RowKit Go.Maps
set_option linter.unusedVariables false
set_option linter.unusedSimpArgs false

/-- A sector of which the first p bytes were written: the others as they were. -/
def fixSec (was : List UInt8) (Z s p : Nat) (b : List UInt8) : List UInt8 :=
  b.take (min (64 * s + p) Z) ++ ((((was.drop (64 * s)).take 64).drop p).take (min (64 * s + 64) Z - min (64 * s + p) Z) ++
    List.replicate (min (64 * s + 64) Z - min (64 * s + p) Z - (((was.drop (64 * s)).take 64).drop p).length) 0) ++ b.drop (min (64 * s + 64) Z)
def crashK (now was : List UInt8) (Z : Nat) (secs parts : Nat → Nat) : Nat → List UInt8
  | 0 => now.take Z
  | k + 1 => fixSec was Z (secs k) (parts k) (crashK now was Z secs parts k)
theorem fixSec_length {was b : List UInt8} {Z s p : Nat} (hb : b.length = Z) (hp : p ≤ 64) : (fixSec was Z s p b).length = Z := by
  unfold fixSec
  simp only [List.length_append, List.length_take, List.length_replicate, List.length_drop]
  omega
theorem crashK_length {now was : List UInt8} {Z : Nat} {secs parts : Nat → Nat} (hZ : Z ≤ now.length) (hp : ∀ k, parts k ≤ 64) : ∀ k, (crashK now was Z secs parts k).length = Z
  | 0 => by show (now.take Z).length = Z; rw [List.length_take]; omega
  | k + 1 => fixSec_length (crashK_length hZ hp k) (hp k)
/-- What clear and copy make of the bytes. -/
theorem fix_steps (was b : List UInt8) (Z s p lo hi pm : Nat) (old : List UInt8) (hold : old = (was.drop (64 * s)).take 64) (hb : b.length = Z) (hlo : lo = min (64 * s + p) Z) (hhi : hi = min (64 * s + 64) Z) (hp : p ≤ 64) (hpm : pm = min p old.length) :
    (b.take lo ++ List.replicate (hi - lo) 0 ++ b.drop hi).take lo ++ (old.drop pm).take (min (hi - lo) (old.length - pm)) ++ (b.take lo ++ List.replicate (hi - lo) 0 ++ b.drop hi).drop (lo + min (hi - lo) (old.length - pm)) = fixSec was Z s p b := by
  have hle : lo ≤ hi := by omega
  have hhz : hi ≤ Z := by omega
  have htl : (b.take lo).length = lo := by rw [List.length_take]; omega
  have e1 : (b.take lo ++ List.replicate (hi - lo) 0 ++ b.drop hi).take lo = b.take lo := by
    rw [List.append_assoc, List.take_append_of_le_length (by omega), List.take_of_length_le (by omega)]
  have e2 : old.drop pm = old.drop p := by
    rcases Nat.le_total p old.length with h | h
    · rw [show pm = p by omega]
    · rw [show pm = old.length by omega, List.drop_eq_nil_of_le (Nat.le_refl _), List.drop_eq_nil_of_le h]
  have e3 : (old.drop p).length = old.length - pm := by rw [← e2, List.length_drop]
  have e4 : (old.drop p).take (min (hi - lo) (old.length - pm)) = (old.drop p).take (hi - lo) := by
    rcases Nat.le_total (hi - lo) (old.length - pm) with h | h
    · rw [Nat.min_eq_left h]
    · rw [Nat.min_eq_right h, List.take_of_length_le (by omega), List.take_of_length_le (by omega)]
  have e5 : (b.take lo ++ List.replicate (hi - lo) 0 ++ b.drop hi).drop (lo + min (hi - lo) (old.length - pm)) = List.replicate (hi - lo - (old.drop p).length) 0 ++ b.drop hi := by
    rw [List.append_assoc, List.drop_append, htl, List.drop_eq_nil_of_le (by omega), List.nil_append, show lo + min (hi - lo) (old.length - pm) - lo = min (hi - lo) (old.length - pm) by omega,
      List.drop_append_of_le_length (by rw [List.length_replicate]; omega), List.drop_replicate, e3]
    congr 2
    omega
  rw [e1, e5, e2, e4]
  unfold fixSec
  rw [← hlo, ← hhi, ← hold]
  simp only [List.append_assoc]
theorem sget_at {L : Secs} (h : L.Pairwise fun p q => p.1 < q.1) {k : Nat} (hk : k < L.length) : sget ((L.map (·.1)).getD k 0) L = some L[k].2 := by
  have e : (L.map (·.1)).getD k 0 = L[k].1 := by
    rw [List.getD_eq_getElem?_getD, List.getElem?_map, List.getElem?_eq_getElem hk]
    rfl
  rw [e]
  unfold sget
  have hm : L[k] ∈ L := List.getElem_mem hk
  cases hf : L.find? (fun p => decide (p.1 = L[k].1)) with
  | none =>
    have := List.find?_eq_none.1 hf L[k] hm
    simp at this
  | some q =>
    have hq := List.mem_of_find?_eq_some hf
    have hq1 : q.1 = L[k].1 := by simpa using List.find?_some hf
    have : q = L[k] := by
      obtain ⟨i, hi, ei⟩ := List.getElem_of_mem hq
      rcases Nat.lt_trichotomy i k with hlt | heq | hgt
      · have := List.pairwise_iff_getElem.1 h i k hi hk hlt
        rw [ei] at this
        omega
      · subst heq; exact ei.symm
      · have := List.pairwise_iff_getElem.1 h k i hk hi hgt
        rw [ei] at this
        omega
    rw [this]
    rfl
theorem sec_get {w : World} {ob n s : Nat} {L : Secs} {v : Value} (h : w.ownsMap Tryz.prog 3 held ob n (secMap L)) (hs : s < 9223372036854775808) (hg : sget s L = some v) :
    (Instr.lookup 76 (.map (some ob)) (.int .i64 (s : Int)) false).run Tryz.prog w = .ok v w := by
  obtain ⟨v', ps, hrun, hv⟩ := h.lookup lawI Tryz.underlying76 (zeroBytes w) (zd := .held (.slice none 0 0)) (zp := []) rfl (keyI s hs)
  rw [secMap_at, hg] at hv
  rw [hrun, held_inv hv]
theorem own_base {w : World} {base : Nat} {e : TypeId} {size n : Nat} {v : Value} {xs : List Value} (h : w.ownsRow base e size v n xs) : w.ownsRow 0 e size v n xs := by
  refine ⟨h.1, ?_⟩
  rcases h.2 with h | ⟨g, cap, cur, h1, _, h3⟩
  · exact .inl h
  · exact .inr ⟨g, cap, cur, h1, Nat.zero_le _, h3⟩
theorem own_base_le {w : World} {base base' : Nat} {e : TypeId} {size n : Nat} {v : Value} {xs : List Value} (h : w.ownsRow base e size v n xs) (hb : base' ≤ base) : w.ownsRow base' e size v n xs := by
  refine ⟨h.1, ?_⟩
  rcases h.2 with h | ⟨g, cap, cur, h1, h2, h3⟩
  · exact .inl h
  · exact .inr ⟨g, cap, cur, h1, Nat.le_trans hb h2, h3⟩
theorem crashed_end {own : Own} {w w2 wr : World} {f' Z cb : Nat} {Ab : Option Addr} {bs : List UInt8} (ht : ∀ b p, own b = some p → b < w.heap.size) (hr : wr.ownsRow w2.heap.size 5 1 (.slice Ab Z cb) Z (bvs bs)) (hl : bs.length = Z) (hz : Z ≤ 4194304) (hb : Below w.heap.size w wr) (hs : w.heap.size ≤ w2.heap.size) :
    ∃ own' g', Ending.returned (Value.pointer (some ⟨wr.heap.size + 1, 0, none⟩)) = .returned (.pointer (some ⟨g', 0, none⟩)) ∧ w.heap.size ≤ g' ∧
      FileAt own' ((wr.alloc (.map #[] 0)).alloc (.cells #[.slice Ab Z cb, .int .i64 (Z : Int), .map (some wr.heap.size)] 78)) f' g' ⟨bs, bs, []⟩ ∧ Below w.heap.size w ((wr.alloc (.map #[] 0)).alloc (.cells #[.slice Ab Z cb, .int .i64 (Z : Int), .map (some wr.heap.size)] 78)) ∧ (∀ b, b < w.heap.size → own' b = own b) ∧
      (∀ b p, own' b = some p → b < ((wr.alloc (.map #[] 0)).alloc (.cells #[.slice Ab Z cb, .int .i64 (Z : Int), .map (some wr.heap.size)] 78)).heap.size) ∧ (∀ b p, w.heap.size ≤ b → own' b = some p → p.1 = f') := by
  subst hl
  obtain ⟨h1, h2, h3, h4⟩ := fileNew (own := own) (w0 := w) (w := wr) (f := f') ht hb.size (fun b hb => Nat.le_trans hs (hr.lt b hb).1) (own_base hr) hz
  exact ⟨_, _, rfl, Nat.le_trans hb.size (Nat.le_succ _), ⟨_, _, h1⟩, hb.trans ((fileWorld_below wr _ _).mono hb.size), h2, h3, h4⟩
/-- The bytes that a crash leaves of a file. -/
def Fl.crashLen (x : Fl) (parts : List Nat) : Nat := csize x.now.length x.was.length (fun i => (x.soiled.map (·.1)).getD i 0) (fun i => parts.getD i 0) x.soiled.length
def Fl.crash (x : Fl) (parts : List Nat) : List UInt8 := crashK x.now x.was (x.crashLen parts) (fun i => (x.soiled.map (·.1)).getD i 0) (fun i => parts.getD i 0) x.soiled.length

set_option maxRecDepth 100000 in
set_option maxHeartbeats 1000000 in
theorem crashed_any {own : Own} {w : World} {f f' g : Nat} {x : Fl} {v : Value} {ob : Nat} (h : FileIn own w f g x v ob) (ht : ∀ b p, own b = some p → b < w.heap.size) {B c2 : Nat} {A2 : Option Addr} {parts : List Nat} (hB : B ≤ w.heap.size) (h2 : Row w B A2 x.soiled.length (nvs parts))
    (hp : ∀ i, parts.getD i 0 ≤ 64) (hc2 : x.soiled.length ≤ c2) (hc2m : c2 ≤ maxLen) :
    Calls Tryz.prog 32 #[.pointer (some ⟨g, 0, none⟩), .slice A2 x.soiled.length c2] w fun e w' => ∃ own' g', e = .returned (.pointer (some ⟨g', 0, none⟩)) ∧ w.heap.size ≤ g' ∧
      FileAt own' w' f' g' ⟨x.crash parts, x.crash parts, []⟩ ∧ Below w.heap.size w w' ∧ (∀ b, b < w.heap.size → own' b = own b) ∧ (∀ b p, own' b = some p → b < w'.heap.size) ∧ (∀ b p, w.heap.size ≤ b → own' b = some p → p.1 = f') := by
  obtain ⟨A, c, rfl, hc, hcm⟩ := own_form h.row
  have cg0 : w.cell? ⟨g, 0, none⟩ = some (.slice A x.now.length c) := Blk.cell h.blk 0
  have cg2 : w.cell? ⟨g, 2, none⟩ = some (.map (some ob)) := Blk.cell h.blk 2
  have hgl := blk_lt' h.blk
  have hcount := h.ok.count
  have hmx := h.ok.max
  have hle := h.ok.le
  have hsec : ∀ i, 64 * (x.soiled.map (·.1)).getD i 0 < 4194304 := by
    intro i
    rw [List.getD_eq_getElem?_getD, List.getElem?_map]
    rcases Nat.lt_or_ge i x.soiled.length with hi | hi
    · rw [List.getElem?_eq_getElem hi]
      exact h.ok.within _ (List.getElem_mem hi)
    · rw [List.getElem?_eq_none hi]
      show 64 * 0 < _
      omega
  obtain ⟨Z, hZ⟩ : ∃ Z, Z = x.crashLen parts := ⟨_, rfl⟩
  have hZle : Z ≤ x.now.length := by rw [hZ]; exact csize_le hle _
  obtain ⟨by_, hby⟩ : ∃ by_ : Nat → List UInt8, ∀ k, by_ k = crashK x.now x.was Z (fun i => (x.soiled.map (·.1)).getD i 0) (fun i => parts.getD i 0) k := ⟨_, fun _ => rfl⟩
  have hbl : ∀ k, (by_ k).length = Z := fun k => by rw [hby]; exact crashK_length hZle hp k
  have hb0 : by_ 0 = x.now.take Z := by rw [hby]; rfl
  have hbn : ∀ k, by_ (k + 1) = fixSec x.was Z ((x.soiled.map (·.1)).getD k 0) (parts.getD k 0) (by_ k) := fun k => by rw [hby, hby]; rfl
  have hbe : by_ x.soiled.length = x.crash parts := by rw [hby, Fl.crash, hZ]
  have CI := sortedI_any h.map h.ok.rising (by omega)
  rw [nvs_secs] at CI
  have HC := fun (W : World) (hW : Below w.heap.size w W) (A1 : Option Addr) (c1 : Nat) (h1 : Row W W.heap.size A1 x.soiled.length (nvs (x.soiled.map (·.1)))) =>
    crashedSize_any (own := own) (f := f) (x := x) (h.keep hW.size (fun _ _ => rfl) (fun b hb _ => hW.block b hb)) (c1 := c1) (c2 := c2) (Nat.le_refl _) h1 (Row.more (Row.below (Row.more h2 hB) hW) hW.size) (fun i => by have := hsec i; omega) hp hcount
  have hcl : csize x.now.length x.was.length (fun i => (x.soiled.map (·.1)).getD i 0) (fun i => parts.getD i 0) x.soiled.length = Z := by rw [hZ]; rfl
  rw [hcl] at HC
  have CLN : ∀ W, Below w.heap.size w W → Calls Tryz.prog 63 #[.slice A Z c] W fun e w' => ∃ v, e = .returned v ∧ w'.ownsRow W.heap.size 5 1 v Z (bvs (x.now.take Z)) ∧ Below W.heap.size W w' := by
    intro W hW
    have hr : W.ownsRow 0 5 1 (.slice A x.now.length c) x.now.length (bvs x.now) := row_keep h.row fun b hb => hW.block b (row_lt h.row b hb)
    have hR := (Row.own hr).take (k := Z) hZle
    rw [bvs_take] at hR
    refine clone_any c hR (by omega) ?_
    rintro rfl
    rcases h.row.2 with ⟨e, _⟩ | ⟨g, cap, cur, e, _⟩
    · injection e
    · injection e with e; cases e
  have SG : ∀ (k : Nat) (W : World), k < x.soiled.length → Below w.heap.size w W → ∃ Ao no co, (Instr.lookup 76 (.map (some ob)) (.int .i64 (((x.soiled.map (·.1)).getD k 0 : Nat) : Int)) false).run Tryz.prog W = .ok (.slice Ao no co) W ∧ no ≤ co ∧ co ≤ maxLen ∧
      Row W w.heap.size Ao no (bvs ((x.was.drop (64 * (x.soiled.map (·.1)).getD k 0)).take 64)) := by
    intro k W hk hW
    have hm := map_keep h.map (hW.block ob h.map.lt)
    have hs := hsec k
    have hg := sget_at h.ok.rising hk
    obtain ⟨Ao, no, co, e1, e2, e3, e4, _⟩ := h.olds _ (List.getElem_mem hk)
    refine ⟨Ao, no, co, ?_, e2, e3, ?_⟩
    · rw [sec_get hm (by omega) hg, e1]
    · have hidx : (x.soiled.map (·.1)).getD k 0 = x.soiled[k].1 := by
        rw [List.getD_eq_getElem?_getD, List.getElem?_map, List.getElem?_eq_getElem hk]
        rfl
      rw [hidx]
      exact (Row.below e4.row hW)
  generalize hn : x.soiled.length = n at *
  have HSL := Lib.hid hn
  have HH := Lib.hid h
  have HT := Lib.hid ht
  have H2 := Lib.hid h2
  have HP := Lib.hid hp
  have HSEC := Lib.hid hsec
  have HBL := Lib.hid hbl
  have HB0 := Lib.hid hb0
  have HBN := Lib.hid hbn
  have HBE := Lib.hid hbe
  have HCI := Lib.hid CI
  have HHC := Lib.hid HC
  have HCLN := Lib.hid CLN
  have HSG := Lib.hid SG
  have hc2' : c2 ≤ 9223372036854775807 := by unfold maxLen at hc2m; omega
  clear h ht h2 hp hsec hbl hb0 hbn hbe CI HC CLN SG hcl hby hZ hc2m hn
  go_enter Tryz.func32, Tryz.ntmps32
  go_wp2_with (first
    | (go_at_call 61; refine (keysI_any _ _).mono ?_; rintro e w' ⟨rfl, rfl⟩)
    | (go_at_call 60; refine HCI.out.mono ?_; rintro e w1 ⟨v1, rfl, r1, b1⟩; obtain ⟨A1, c1, rfl, hc1, hc1m⟩ := own_form r1; have R1 := Lib.hid (Row.own r1); have B1 := Lib.hid b1; clear r1 b1)
    | (go_at_call 62; refine (HHC.out _ B1.out _ _ R1.out).mono ?_; rintro e w2 ⟨rfl, b2⟩; have B2 : Hid (Below w.heap.size w w2) := B1.out.trans (b2.mono B1.out.size); have R2 : Hid (Row w2 w2.heap.size A1 n (nvs (x.soiled.map (·.1)))) := Row.more (Row.below R1.out b2) b2.size; have cg02 := (World.cell?_of_block (B2.out.block g hgl)).trans cg0; clear b2)
    | fail)
  refine (HCLN.out w2 B2.out).mono ?_
  rintro e w3 ⟨vb, rfl, r3, b3⟩
  obtain ⟨Ab, cb, rfl, hcb, hcbm⟩ := own_form r3
  have R3 : Hid (w3.ownsRow w2.heap.size 5 1 (.slice Ab Z cb) Z (bvs (by_ 0))) := by rw [HB0.out]; exact r3
  have B3 := Lib.hid b3
  have hcb' : cb ≤ 9223372036854775807 := by unfold maxLen at hcbm; omega
  clear r3 b3 cg02 hcbm
  go_wp2_with fail
  go_loopw [32] (fun y wr => ∃ k : Nat, y = .int .i64 (k : Int) ∧ k ≤ n ∧ Hid (wr.ownsRow w2.heap.size 5 1 (.slice Ab Z cb) Z (bvs (by_ k))) ∧ Hid (Below w2.heap.size w2 wr)) (fun y _ => n - (RowKit.intOf y).toNat)
  case atStart => exact ⟨0, rfl, Nat.zero_le _, R3, B3⟩
  case round =>
    obtain ⟨k, rfl, hk, RK, BK⟩ := hrel
    by_cases hlt : k < n
    · obtain ⟨bs1, o1, rfl, hb1, hcell1⟩ := Row.nat R2.out (by omega)
      obtain ⟨bs2, o2, rfl, hb2, hcell2⟩ := Row.nat H2.out (by omega)
      have hBw : Hid (Below w.heap.size w wr) := B2.out.trans (BK.out.mono B2.out.size)
      have q1 : wr.cell? ⟨bs1, o1 + k, none⟩ = some (.int .i64 (((x.soiled.map (·.1)).getD k 0 : Nat) : Int)) := (BK.out.cell (p := ⟨bs1, o1 + k, none⟩) hb1).trans (hcell1 k hlt)
      have q2 : wr.cell? ⟨bs2, o2 + k, none⟩ = some (.int .i64 ((parts.getD k 0 : Nat) : Int)) := (hBw.out.cell (p := ⟨bs2, o2 + k, none⟩) (show bs2 < w.heap.size by omega)).trans (hcell2 k hlt)
      have qg : wr.cell? ⟨g, 2, none⟩ = some (.map (some ob)) := (hBw.out.cell (p := ⟨g, 2, none⟩) hgl).trans cg2
      obtain ⟨Ao, no, co, lk, hno, hco, hold⟩ := HSG.out k wr hlt hBw.out
      have hs64 := HSEC.out k
      have hp64 := HP.out k
      have hbk := HBL.out k
      have hbn := HBN.out k
      generalize (x.soiled.map (·.1)).getD k 0 = s at *
      generalize hpe : parts.getD k 0 = p at *
      have hol := hold.size
      obtain ⟨lo, hlo⟩ : ∃ lo, lo = min (64 * s + p) Z := ⟨_, rfl⟩
      obtain ⟨hi, hhi⟩ : ∃ hi, hi = min (64 * s + 64) Z := ⟨_, rfl⟩
      obtain ⟨pm, hpm⟩ : ∃ pm, pm = min p no := ⟨_, rfl⟩
      have e1 : min ((s : Int) * 64 + (p : Int)) (Z : Int) = (lo : Int) := by omega
      have e2 : min ((s : Int) * 64 + 64) (Z : Int) = (hi : Int) := by omega
      have e3 : min (p : Int) (no : Int) = (pm : Int) := by omega
      have hlh : lo ≤ hi := by omega
      have hhZ : hi ≤ Z := by omega
      have hpn : pm ≤ no := by omega
      obtain ⟨D1, hD1⟩ := cut_exists Ab cb lo hi
      obtain ⟨w4, hcl, r4, g4⟩ := clear_onto RK.out hlh hhZ hD1 0
      have B4 : Hid (Below w2.heap.size w2 w4) := BK.out.grown g4 BK.out.size (fun q hq => (RK.out.lt q hq).1)
      have hB4w : Hid (Below w.heap.size w w4) := B2.out.trans (B4.out.mono B2.out.size)
      have q22 : w4.cell? ⟨bs2, o2 + k, none⟩ = some (.int .i64 (p : Int)) := by rw [← hpe]; exact (hB4w.out.cell (p := ⟨bs2, o2 + k, none⟩) (show bs2 < w.heap.size by omega)).trans (hcell2 k hlt)
      obtain ⟨A', c', hA', hsrc⟩ : ∃ A' c', ((co = pm ∧ A' = Ao ∧ c' = 0) ∨ (co ≠ pm ∧ A' = Option.map (fun x => x.add pm) Ao ∧ c' = co - pm)) ∧ Row w4 w.heap.size A' (no - pm) (bvs (((x.was.drop (64 * s)).take 64).drop pm)) := by
        have hold4 : Row w4 w.heap.size Ao no (bvs ((x.was.drop (64 * s)).take 64)) := by
          refine ⟨hold.1, fun hn0 => ?_⟩
          obtain ⟨b, o, e, hb, hc⟩ := hold.2 hn0
          exact ⟨b, o, e, hb, fun i u hu => ((hB4w.out.cell (p := ⟨b, o + i, none⟩) hb).trans (hBw.out.cell (p := ⟨b, o + i, none⟩) hb).symm).trans (hc i u hu)⟩
        by_cases e : co = pm
        · refine ⟨_, _, .inl ⟨e, rfl, rfl⟩, ?_⟩
          have e0 : no - pm = 0 := by omega
          rw [e0, List.drop_eq_nil_of_le (by omega)]
          exact ⟨rfl, fun h => absurd h (by omega)⟩
        · refine ⟨_, _, .inr ⟨e, rfl, rfl⟩, ?_⟩
          rcases Nat.lt_or_ge pm no with hlt' | hge
          · have := Row.cut hold4 hlt' (Nat.le_refl _)
            rw [bvs_drop, bvs_take, List.take_of_length_le (by rw [List.length_drop]; omega)] at this
            exact this
          · have e0 : no - pm = 0 := by omega
            rw [e0, List.drop_eq_nil_of_le (by omega)]
            exact ⟨rfl, fun h => absurd h (by omega)⟩
      obtain ⟨w5, hcp, r5, g5⟩ := copy_cut (cs := c') r4 hlh hhZ hD1 hsrc 3
      have R5 : Hid (w5.ownsRow w2.heap.size 5 1 (.slice Ab Z cb) Z (bvs (by_ (k + 1)))) := by
        have := fix_steps x.was (by_ k) Z s p lo hi pm _ rfl hbk hlo hhi hp64 (by rw [hol]; exact hpm)
        rw [hol] at this
        rw [hbn, ← this]
        exact r5
      have B5 : Hid (Below w2.heap.size w2 w5) := B4.out.grown g5 B4.out.size (fun q hq => (r4.lt q hq).1)
      have hkn : (k : Int) < (n : Int) := by omega
      have hco' : co ≤ 9223372036854775807 := by unfold maxLen at hco; omega
      have hpcb : (p : Int) ≤ 64 := by omega
      clear hcell1 hcell2 hbn hbk r4 g4 r5 g5 hsrc hold hlo hhi hpm hco hpe hol
      rcases hD1 with ⟨hd1, rfl⟩ | ⟨hd1, rfl⟩ <;> rcases hA' with ⟨hd2, rfl, rfl⟩ | ⟨hd2, rfl, rfl⟩
      · subst hd1
        obtain rfl : hi = cb := by omega
        subst hd2
        obtain rfl : no = co := by omega
        rw [Nat.sub_self] at hcp
        go_wp2_with fail
        exact ⟨⟨k + 1, by go_num, by omega, R5, B5⟩, by simp [RowKit.intOf]; omega⟩
      · subst hd1
        obtain rfl : hi = cb := by omega
        go_wp2_with fail
        exact ⟨⟨k + 1, by go_num, by omega, R5, B5⟩, by simp [RowKit.intOf]; omega⟩
      · subst hd2
        obtain rfl : no = co := by omega
        rw [Nat.sub_self] at hcp
        go_wp2_with fail
        exact ⟨⟨k + 1, by go_num, by omega, R5, B5⟩, by simp [RowKit.intOf]; omega⟩
      · go_wp2_with fail
        exact ⟨⟨k + 1, by go_num, by omega, R5, B5⟩, by simp [RowKit.intOf]; omega⟩
    · obtain rfl : k = n := by omega
      have HRB : Hid (wr.ownsRow w2.heap.size 5 1 (.slice Ab Z cb) Z (bvs (x.crash parts))) := by rw [← HBE.out]; exact RK.out
      have HZL : Hid ((x.crash parts).length = Z) := by show _ = _; rw [← HBE.out]; exact HBL.out k
      go_wp2_with (go_at_call 64; refine (newFile_any Ab Z cb _).mono ?_; rintro e w' ⟨rfl, rfl⟩)
      go_ret
      exact crashed_end HT.out HRB.out HZL.out (by omega) (B2.out.trans (BK.out.mono B2.out.size)) B2.out.size
end Go.Proofs.YtcmlchicpmnhdaaGreatDoor.Disk
