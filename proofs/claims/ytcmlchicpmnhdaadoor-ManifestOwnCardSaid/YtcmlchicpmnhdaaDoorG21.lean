/-
  Texts one behind the other: DiskRead, DiskSort, DiskSize, DiskFill, DiskCrashed.
-/
import Derived.Shelf.AbstractIn
import Derived.Deep.QuietTactic
import Derived.BigQuiet
import Derived.Lib.SliceRun
import Derived.Test.YtcmlchicpmnhdaaDoorG20
/-
  Proved: what Read, Size and Sync of package disk do.
-/
namespace Go.Proofs.YtcmlchicpmnhdaaDoor.Disk
open Go.RowKit Go.Maps
set_option linter.unusedVariables false
set_option linter.unusedSimpArgs false

theorem DiskIn.look {own : Own} {w : World} {f K nb sb g : Nat} {d : Dk} {wv : Value} {s : ByteArray} (h : DiskIn own w f d K nb sb wv) (hx : dget s.data.toList d.N = some g) : g ≠ f ∧ FileAt own w f g (d.fl g) :=
  h.files g (.inl (List.mem_map.2 ⟨_, dget_mem hx, rfl⟩))
theorem size_none {own : Own} {w : World} {f K : Nat} {d : Dk} (s : ByteArray) (h : DiskAt own w f d K) (hs : s.size ≤ maxLen) (hx : dget s.data.toList d.N = none) :
    Calls Tryd.prog 40 #[.pointer (some ⟨f, 0, none⟩), .string s] w fun e w' => e = .returned (.int .i64 (-1)) ∧ w' = w := by
  obtain ⟨nb, sb, wv, h⟩ := h
  have b1 : w.cell? ⟨f, 1, none⟩ = some (.map (some nb)) := Blk.cell h.blk 1
  have lk := dir_look_none h.mapN hs hx
  clear h
  go_enter Tryd.func40, Tryd.ntmps40
  go_wp2
  go_ret
  exact ⟨rfl, rfl⟩
theorem size_some {own : Own} {w : World} {f K g : Nat} {d : Dk} (s : ByteArray) (h : DiskAt own w f d K) (hs : s.size ≤ maxLen) (hx : dget s.data.toList d.N = some g) :
    Calls Tryd.prog 40 #[.pointer (some ⟨f, 0, none⟩), .string s] w fun e w' => e = .returned (.int .i64 ((d.fl g).now.length : Int)) ∧ w' = w := by
  obtain ⟨nb, sb, wv, h⟩ := h
  have b1 : w.cell? ⟨f, 1, none⟩ = some (.map (some nb)) := Blk.cell h.blk 1
  have lk := dir_look_some h.mapN hs hx
  obtain ⟨_, v, ob, hf⟩ := h.look hx
  obtain ⟨A, c, rfl, _, _⟩ := own_form hf.row
  have cg : w.cell? ⟨g, 0, none⟩ = some (.slice A (d.fl g).now.length c) := Blk.cell hf.blk 0
  have hmx := hf.ok.max
  clear h hf
  go_enter Tryd.func40, Tryd.ntmps40
  go_wp2
  go_ret
  exact ⟨rfl, rfl⟩
theorem read_none {own : Own} {w : World} {f K : Nat} {d : Dk} (s : ByteArray) (a n : Int) (h : DiskAt own w f d K) (hs : s.size ≤ maxLen) (hx : dget s.data.toList d.N = none) :
    Calls Tryd.prog 64 #[.pointer (some ⟨f, 0, none⟩), .string s, .int .i64 a, .int .i64 n] w fun e w' => e = .returned (.tuple #[.slice none 0 0, .int .i64 1]) ∧ w' = w := by
  obtain ⟨nb, sb, wv, h⟩ := h
  have b1 : w.cell? ⟨f, 1, none⟩ = some (.map (some nb)) := Blk.cell h.blk 1
  have lk := dir_look_none h.mapN hs hx
  clear h
  go_enter Tryd.func64, Tryd.ntmps64
  go_wp2
  go_ret2
  exact ⟨rfl, rfl⟩
theorem read_range {own : Own} {w : World} {f K g : Nat} {d : Dk} (s : ByteArray) (a n : Int) (h : DiskAt own w f d K) (hs : s.size ≤ maxLen) (hx : dget s.data.toList d.N = some g)
    (hbad : a < 0 ∨ ((d.fl g).now.length : Int) < a ∨ n < 0 ∨ ((d.fl g).now.length : Int) - a < n) :
    Calls Tryd.prog 64 #[.pointer (some ⟨f, 0, none⟩), .string s, .int .i64 a, .int .i64 n] w fun e w' => e = .returned (.tuple #[.slice none 0 0, .int .i64 6]) ∧ w' = w := by
  obtain ⟨nb, sb, wv, h⟩ := h
  have b1 : w.cell? ⟨f, 1, none⟩ = some (.map (some nb)) := Blk.cell h.blk 1
  have lk := dir_look_some h.mapN hs hx
  obtain ⟨_, v, ob, hf⟩ := h.look hx
  obtain ⟨A, c, rfl, _, _⟩ := own_form hf.row
  have cg : w.cell? ⟨g, 0, none⟩ = some (.slice A (d.fl g).now.length c) := Blk.cell hf.blk 0
  have hmx := hf.ok.max
  clear h hf
  generalize (d.fl g).now.length = N at *
  by_cases h1 : a < 0
  · go_enter Tryd.func64, Tryd.ntmps64
    go_wp2
    go_ret2
    exact ⟨rfl, rfl⟩
  · have h1' : 0 ≤ a := by omega
    by_cases h2 : (N : Int) < a
    · go_enter Tryd.func64, Tryd.ntmps64
      go_wp2
      go_ret2
      exact ⟨rfl, rfl⟩
    · have h2' : a ≤ (N : Int) := by omega
      by_cases h3 : n < 0
      · go_enter Tryd.func64, Tryd.ntmps64
        go_wp2
        go_ret2
        exact ⟨rfl, rfl⟩
      · have h3' : 0 ≤ n := by omega
        have h4 : (N : Int) - a < n := by omega
        clear hbad h1 h2 h3
        go_enter Tryd.func64, Tryd.ntmps64
        go_wp2
        go_ret2
        exact ⟨rfl, rfl⟩
/-- A slice of a file's own bytes, as the walk has it. -/
theorem cut_row {w : World} {A : Option Addr} {n c : Nat} {now : List UInt8} (hrow : w.ownsRow 0 5 1 (.slice A n c) n (bvs now)) (F T : Nat) (hFT : F ≤ T) (hT : T ≤ n) (D : Value)
    (hD : (c = F ∧ D = .slice A 0 0) ∨ (c ≠ F ∧ D = .slice (Option.map (fun x => x.add F) A) (T - F) (c - F))) (hm : n ≤ 140737488355328) :
    Calls Tryd.prog 71 #[D] w fun e w' => ∃ v, e = .returned v ∧ w'.ownsRow w.heap.size 5 1 v (T - F) (bvs ((now.drop F).take (T - F))) ∧ Below w.heap.size w w' := by
  obtain ⟨_, _, e, hnc, _⟩ := own_form hrow
  injection e with _ _ e
  subst e
  have hR := Row.own hrow
  rcases hD with ⟨hc, rfl⟩ | ⟨hc, rfl⟩
  · have e0 : T - F = 0 := by omega
    rw [e0, List.take_zero]
    exact clone_any (B := 0) 0 ⟨rfl, fun h => absurd h (by omega)⟩ (by omega) (fun _ => rfl)
  · have hA : A ≠ none := by
      rintro rfl
      rcases hrow.2 with ⟨e, _⟩ | ⟨g, cap, cur, e, _⟩
      · injection e with _ _ e; omega
      · injection e with e; cases e
    have hR' : Row w w.heap.size (Option.map (fun x => x.add F) A) (T - F) (bvs ((now.drop F).take (T - F))) := by
      rcases Nat.lt_or_ge F T with hlt | hge
      · have := Row.cut hR hlt hT
        rw [bvs_drop, bvs_take] at this
        exact this
      · have e0 : T - F = 0 := by omega
        rw [e0, List.take_zero]
        exact ⟨rfl, fun h => absurd h (by omega)⟩
    exact clone_any (c - F) hR' (by omega) (fun h => absurd (Option.map_eq_none_iff.1 h) hA)
def Dk.read (d : Dk) (n : Nat) : Dk := { d with reads := d.reads + n }
set_option maxRecDepth 100000 in
theorem read_ok {own : Own} {w : World} {f K g : Nat} {d : Dk} (s : ByteArray) (a n : Nat) (h : DiskAt own w f d K) (hs : s.size ≤ maxLen) (hx : dget s.data.toList d.N = some g) (hn : a + n ≤ (d.fl g).now.length) (hK : K + 1 ≤ 1073741824) :
    Calls Tryd.prog 64 #[.pointer (some ⟨f, 0, none⟩), .string s, .int .i64 (a : Int), .int .i64 (n : Int)] w fun e w' => ∃ v, e = .returned (.tuple #[v, .int .i64 0]) ∧
      w'.ownsRow w.heap.size 5 1 v n (bvs (((d.fl g).now.drop a).take n)) ∧ DiskAt own w' f (d.read n) (K + 1) ∧ Step own own f w w' := by
  obtain ⟨nb, sb, wv, h⟩ := h
  have b1 : w.cell? ⟨f, 1, none⟩ = some (.map (some nb)) := Blk.cell h.blk 1
  have b5 : w.cell? ⟨f, 5, none⟩ = some (.int .i64 d.reads) := Blk.cell h.blk 5
  have fr5 := Blk.free h.blk 5
  have lk := dir_look_some h.mapN hs hx
  obtain ⟨hgf, v, ob, hf⟩ := h.look hx
  obtain ⟨A, c, rfl, hc1, hc2⟩ := own_form hf.row
  have cg : w.cell? ⟨g, 0, none⟩ = some (.slice A (d.fl g).now.length c) := Blk.cell hf.blk 0
  have hmx := hf.ok.max
  have hrd := h.ok.reads
  have hKb := h.ok.big
  have hmid : DiskIn own (w.setCell ⟨f, 5, none⟩ (.int .i64 (d.reads + n))) f (d.read n) (K + 1) nb sb wv := by
    refine h.put (only_setCell w ⟨f, 5, none⟩ _) (Blk.put h.blk 5 _) rfl rfl rfl rfl ?_
    obtain ⟨k1, k2, k3, k4, k5, k6, k7, k8⟩ := h.ok
    refine ⟨hK, k2, ?_, ?_, k5, ?_, ?_, k8⟩
    · show d.N.length ≤ _; omega
    · show d.S.length + d.wait.length ≤ _; omega
    · show 0 ≤ d.calls ∧ d.calls ≤ _; omega
    · show 0 ≤ d.reads + n ∧ d.reads + n ≤ _; omega
  have hst : Step own own f w (w.setCell ⟨f, 5, none⟩ (.int .i64 (d.reads + n))) := Step.of_grown h.top h.of (only_setCell w ⟨f, 5, none⟩ _)
  have hsz : (w.setCell ⟨f, 5, none⟩ (.int .i64 (d.reads + n))).heap.size = w.heap.size := by simp [World.setCell]
  have hrow : (w.setCell ⟨f, 5, none⟩ (.int .i64 (d.reads + n))).ownsRow 0 5 1 (.slice A (d.fl g).now.length c) (d.fl g).now.length (bvs (d.fl g).now) := by
    refine row_keep hf.row fun b hb => (only_setCell w ⟨f, 5, none⟩ _).block b (row_lt hf.row b hb) ?_
    intro e
    have e' : b = f := Option.some.inj e
    have h1 := hf.orow b hb
    rw [e', h.of] at h1
    injection h1 with h1
    injection h1 with _ h1
    exact hgf h1.symm
  have cg1 : (w.setCell ⟨f, 5, none⟩ (.int .i64 (d.reads + n))).cell? ⟨g, 0, none⟩ = some (.slice A (d.fl g).now.length c) :=
    (World.cell?_of_block ((only_setCell w ⟨f, 5, none⟩ _).block g (blk_lt' hf.blk) (fun e => hgf (Option.some.inj e)))).trans cg
  have HM := Lib.hid hmid
  have HST := Lib.hid hst
  have HSZ := Lib.hid hsz
  generalize hNN : (d.fl g).now = now at *
  have HRW := Lib.hid hrow
  have HNN := Lib.hid hNN
  clear hmid hst hrow hf h hsz hNN
  by_cases hca : c = a
  · have hn0 : n = 0 := by omega
    subst hca
    subst hn0
    have CL := cut_row HRW.out c c (Nat.le_refl _) (by omega) (.slice A 0 0) (.inl ⟨rfl, rfl⟩) (by omega)
    rw [Nat.sub_self] at CL
    have HCL := Lib.hid CL
    have hz : d.reads + ((0 : Nat) : Int) = d.reads := by simp
    rw [hz] at HCL HM HST HSZ
    clear CL hz
    go_enter Tryd.func64, Tryd.ntmps64
    go_wp2_with (go_at_call 71; refine HCL.out.mono ?_; rintro e w2 ⟨v, rfl, r2, b2⟩)
    go_ret2
    exact ⟨v, rfl, by rw [HSZ.out] at r2; exact r2, DiskAt.below ⟨nb, sb, wv, HM.out⟩ b2, HST.out.trans (Step.of_below HM.out.top b2)⟩
  · have CL := cut_row HRW.out a (a + n) (by omega) (by omega) (.slice (Option.map (fun x => x.add a) A) (a + n - a) (c - a)) (.inr ⟨hca, rfl⟩) (by omega)
    have e1 : a + n - a = n := by omega
    rw [e1] at CL
    have HCL := Lib.hid CL
    clear CL e1
    go_enter Tryd.func64, Tryd.ntmps64
    go_wp2_with (go_at_call 71; refine HCL.out.mono ?_; rintro e w2 ⟨v, rfl, r2, b2⟩)
    go_ret2
    exact ⟨v, rfl, by rw [HSZ.out] at r2; exact r2, DiskAt.below ⟨nb, sb, wv, HM.out⟩ b2, HST.out.trans (Step.of_below HM.out.top b2)⟩
end Go.Proofs.YtcmlchicpmnhdaaDoor.Disk
/-
  Proved: a directory's names, and a file's dirty sectors, rising: what slices.Sorted of maps.Keys returns of them.
-/
namespace Go.Proofs.YtcmlchicpmnhdaaDoor.Disk
open Go.RowKit Go.Maps Go.Sort Go.Shelf
set_option linter.unusedVariables false
set_option linter.unusedSimpArgs false

theorem sorted_names {N : Dir} (h : N.Pairwise fun p q => bytesBefore p.1 q.1 = true) {ss : List Nm} (hp : ss.Perm (strKeys (dirMap N))) : ss.mergeSort (fun x y => decide (x ≤ y)) = N.map (·.1) := by
  rw [dirMap_keys] at hp
  have hlt : ∀ a b : Nm, bytesBefore a b = true → a ≤ b := by
    intro a
    induction a with
    | nil => intro b _; exact List.nil_le b
    | cons x r ih =>
      intro b hb
      cases b with
      | nil => simp [bytesBefore] at hb
      | cons y q =>
        simp only [bytesBefore, Bool.or_eq_true, Bool.and_eq_true, decide_eq_true_eq, beq_iff_eq] at hb
        rw [List.cons_le_cons_iff]
        rcases hb with hb | ⟨e, hb⟩
        · exact .inl hb
        · exact .inr ⟨e, ih q hb⟩
  have e := mergeSort_of_perm hp
  unfold leB at e
  rw [e]
  refine List.mergeSort_of_pairwise ?_
  rw [List.pairwise_map]
  exact h.imp fun {p q} hpq => decide_eq_true (hlt p.1 q.1 hpq)
theorem dir_rising {w : World} {nb n : Nat} {N : Dir} (h : w.ownsMap Tryd.prog 9 held nb n (dirMap N)) : N.Pairwise fun p q => bytesBefore p.1 q.1 = true := by
  obtain ⟨es, e, hr, _⟩ := h.canon lawS
  injection e with e
  subst e
  rw [List.pairwise_map] at hr
  exact hr
theorem sorted_secs {L : Secs} (h : L.Pairwise fun p q => p.1 < q.1) {ss : List Int} (hp : ss.Perm (intKeys (secMap L))) : ss.mergeSort (fun x y => decide (x ≤ y)) = L.map fun p => (p.1 : Int) := by
  rw [secMap_keys] at hp
  have e := mergeSort_of_perm_i hp
  unfold leI at e
  rw [e]
  refine List.mergeSort_of_pairwise ?_
  rw [List.pairwise_map]
  exact h.imp fun {p q} hpq => decide_eq_true (by have : p.1 < q.1 := hpq; omega)
end Go.Proofs.YtcmlchicpmnhdaaDoor.Disk
/-
  Proved: what crashedSize of package disk returns.
-/
namespace Go.Proofs.YtcmlchicpmnhdaaDoor.Disk
open Go.RowKit Go.Maps
set_option linter.unusedVariables false
set_option linter.unusedSimpArgs false

/-- How long a file is behind a crash, the first k of its dirty sectors looked at. -/
def csize (n S : Nat) (secs parts : Nat → Nat) : Nat → Nat
  | 0 => S
  | k + 1 => if 0 < parts k then max (csize n S secs parts k) (min (64 * secs k + parts k) n) else csize n S secs parts k
theorem csize_le {n S : Nat} {secs parts : Nat → Nat} (h : S ≤ n) : ∀ k, csize n S secs parts k ≤ n
  | 0 => h
  | k + 1 => by
    have := csize_le (secs := secs) (parts := parts) h k
    unfold csize
    split <;> omega
def secAt (L : Secs) (k : Nat) : Nat := (L.map (·.1)).getD k 0
def nvs (l : List Nat) : List Value := l.map fun (n : Nat) => Value.int .i64 (n : Int)
theorem nvs_secs (L : Secs) : ivs (L.map fun p => (p.1 : Int)) = nvs (L.map (·.1)) := by
  simp [ivs, nvs]
theorem Row.nat {w : World} {B n : Nat} {A : Option Addr} {l : List Nat} (h : Row w B A n (nvs l)) (hn : 0 < n) :
    ∃ b o, A = some ⟨b, o, none⟩ ∧ b < B ∧ ∀ i, i < n → w.cell? ⟨b, o + i, none⟩ = some (.int .i64 ((l.getD i 0 : Nat) : Int)) := by
  obtain ⟨b, o, e, hb, hc⟩ := h.2 hn
  refine ⟨b, o, e, hb, fun i hi => hc i _ ?_⟩
  have hl : l.length = n := by have := h.1; rwa [nvs, List.length_map] at this
  rw [nvs, List.getElem?_map, List.getD_eq_getElem?_getD, List.getElem?_eq_getElem (by omega)]
  rfl
end Go.Proofs.YtcmlchicpmnhdaaDoor.Disk
/-
  Proved: clear and copy of a part of a row of the call's own.
-/
namespace Go.Proofs.YtcmlchicpmnhdaaDoor.Disk
open Go.RowKit Go.Maps
set_option linter.unusedVariables false
set_option linter.unusedSimpArgs false

/-- A slice of the bytes of a row, from lo to hi. -/
def CutOf (A : Option Addr) (c lo hi : Nat) (D : Value) : Prop := (c = lo ∧ D = .slice A 0 0) ∨ (c ≠ lo ∧ D = .slice (Option.map (fun x => x.add lo) A) (hi - lo) (c - lo))
theorem cut_exists (A : Option Addr) (c lo hi : Nat) : ∃ D, CutOf A c lo hi D := by
  by_cases e : c = lo
  · exact ⟨_, .inl ⟨e, rfl⟩⟩
  · exact ⟨_, .inr ⟨e, rfl⟩⟩
theorem add_at (g a : Nat) : (⟨g, 0, none⟩ : Addr).add a = ⟨g, a, none⟩ := by
  unfold Addr.add
  split
  · rename_i hj; subst hj; rfl
  · simp
theorem add_off (b q j : Nat) : (⟨b, q, none⟩ : Addr).add j = ⟨b, q + j, none⟩ := by
  unfold Addr.add
  split
  · rename_i hj; subst hj; rfl
  · rfl
theorem splice_row {w : World} {base gb cn n lo : Nat} {cur : Array Value} {b ys : List UInt8} (hb : Blk w gb 5 cur) (hbase : base ≤ gb) (h1 : n ≤ cn) (h2 : cn ≤ maxLen) (h3 : cur.size = cn) (h4 : cur.toList.take n = bvs b) (hl : b.length = n) (hfit : lo + ys.length ≤ n) :
    (w.setRow gb (cur.toList.take lo ++ bvs ys ++ cur.toList.drop (lo + (bvs ys).length)).toArray).ownsRow base 5 1 (.slice (some ⟨gb, 0, none⟩) n cn) n (bvs (b.take lo ++ ys ++ b.drop (lo + ys.length))) := by
  have hrest : cur.toList = bvs b ++ cur.toList.drop n := by rw [← h4, List.take_append_drop]
  have hbl : (bvs b).length = n := by rw [bvs_length, hl]
  have hyl : (bvs ys).length = ys.length := bvs_length ys
  refine ⟨?_, .inr ⟨gb, cn, _, rfl, hbase, setRow_heap w gb cur _ _ _ hb, h1, h2, ?_, ?_⟩⟩
  · rw [bvs_length]
    simp
    omega
  · rw [List.size_toArray, List.length_append, List.length_append, hyl, List.length_take, List.length_drop, Array.length_toList]
    omega
  · rw [hrest, Nat.mul_one, splice_take (bvs b) _ (bvs ys) lo n hbl (by omega), hyl, bvs_take, bvs_drop, bvs_append, bvs_append]
theorem clear_onto {w : World} {base : Nat} {A : Option Addr} {n c : Nat} {b : List UInt8} (hrow : w.ownsRow base 5 1 (.slice A n c) n (bvs b)) {lo hi : Nat} (hlo : lo ≤ hi) (hhi : hi ≤ n) {D : Value} (hD : CutOf A c lo hi D) (ty : TypeId) :
    ∃ w', (Builtin.clear_ #[44] ty #[D]).run Tryd.prog w = .ok (.tuple #[]) w' ∧ w'.ownsRow base 5 1 (.slice A n c) n (bvs (b.take lo ++ List.replicate (hi - lo) 0 ++ b.drop hi)) ∧ w.grownBy w' (Value.slice A n c).ownBlock := by
  have hv : ∀ w, (zeroValue 5).run Tryd.prog w = .ok (.int .u8 0) w := fun w => by kernel_rfl
  have hl : b.length = n := by have := hrow.1; rwa [bvs_length, Nat.mul_one] at this
  by_cases h0 : hi - lo = 0
  · have e : b.take lo ++ List.replicate (hi - lo) 0 ++ b.drop hi = b := by
      have : hi = lo := by omega
      subst this
      simp
    refine ⟨w, ?_, by rw [e]; exact hrow, World.grownBy.refl w _⟩
    rcases hD with ⟨_, rfl⟩ | ⟨_, rfl⟩
    · cases A <;> simp [Builtin.clear_, run_underlying Tryd.underlying44, hv]
    · rw [h0]
      cases A <;> simp [Builtin.clear_, run_underlying Tryd.underlying44, hv]
  · obtain ⟨gb, cap, cur, e, hbase, hb, h1, h2, h3, h4⟩ := own_block hrow (by omega)
    injection e with e1 e2 e3
    subst e1 e3
    rcases hD with ⟨e, _⟩ | ⟨_, rfl⟩
    · omega
    · obtain ⟨m, hm⟩ : ∃ m, hi - lo = m + 1 := ⟨hi - lo - 1, by omega⟩
      have hz : Builtin.zeroCells (Value.int .u8 0).cells (m + 1) = (bvs (List.replicate (m + 1) 0)).toArray := by
        apply Array.ext'
        apply List.ext_getElem?
        intro j
        by_cases hj : j < m + 1
        · simp [Builtin.zeroCells, Value.cells, hj, Nat.mod_one, bvs, bv]
        · simp [Builtin.zeroCells, Value.cells, hj, bvs]
      have hfit : lo + (bvs (List.replicate (m + 1) 0)).length ≤ cur.size := by rw [bvs_length, List.length_replicate]; omega
      have hst := run_storeCells_at (P := Tryd.prog) gb lo 5 (bvs (List.replicate (m + 1) 0)) 0 cur w hb (by simpa using hfit) (bvs_one _)
      simp only [Nat.add_zero] at hst
      have hsp := splice_row (lo := lo) (ys := List.replicate (m + 1) 0) hb hbase h1 h2 (by omega) h4 hl (by simp; omega)
      have e2 : lo + (List.replicate (m + 1) (0 : UInt8)).length = hi := by simp; omega
      rw [e2] at hsp
      rw [hm]
      refine ⟨_, ?_, hsp, only_setRow w gb _⟩
      show (Builtin.clear_ _ _ #[.slice (some ((⟨gb, 0, none⟩ : Addr).add lo)) _ _]).run _ _ = _
      rw [add_at]
      simp [Builtin.clear_, run_underlying Tryd.underlying44, hv, hz, hst]
theorem copy_cut {w : World} {base : Nat} {A : Option Addr} {n c : Nat} {b : List UInt8} (hrow : w.ownsRow base 5 1 (.slice A n c) n (bvs b)) {lo hi : Nat} (hlo : lo ≤ hi) (hhi : hi ≤ n) {D : Value} (hD : CutOf A c lo hi D)
    {B : Nat} {As : Option Addr} {m cs : Nat} {bs : List UInt8} (hR : Row w B As m (bvs bs)) (ty : TypeId) :
    ∃ w', (Builtin.copy_ #[44, 44] ty #[D, .slice As m cs]).run Tryd.prog w = .ok (.int .i64 ((min (hi - lo) m : Nat) : Int)) w' ∧
      w'.ownsRow base 5 1 (.slice A n c) n (bvs (b.take lo ++ bs.take (min (hi - lo) m) ++ b.drop (lo + min (hi - lo) m))) ∧ w.grownBy w' (Value.slice A n c).ownBlock := by
  have hsz : (Tryd.prog.info? 5).map (·.size) = some 1 := by kernel_rfl
  have hl : b.length = n := by have := hrow.1; rwa [bvs_length, Nat.mul_one] at this
  have hlb := hR.size
  obtain ⟨o, ho⟩ : ∃ o, o = min (hi - lo) m := ⟨_, rfl⟩
  rw [← ho]
  by_cases h0 : o = 0
  · subst h0
    refine ⟨w, ?_, ?_, World.grownBy.refl w _⟩
    · rcases hD with ⟨e, rfl⟩ | ⟨_, rfl⟩
      · exact run_copy_none w _ _ _ _ _ _ _ _ _ _ Tryd.underlying44 hsz (Nat.min_eq_right (Nat.zero_le _))
      · exact run_copy_none w _ _ _ _ _ _ _ _ _ _ Tryd.underlying44 hsz (by rw [Nat.min_comm] at ho; exact ho.symm)
    · rw [List.take_zero, List.append_nil, Nat.add_zero, List.take_append_drop]
      exact hrow
  · obtain ⟨gb, cap, cur, e, hbase, hb, h1, h2, h3, h4⟩ := own_block hrow (by omega)
    injection e with e1 e2 e3
    subst e1 e3
    rcases hD with ⟨e, _⟩ | ⟨_, rfl⟩
    · omega
    · obtain ⟨bb, ob, rfl, _, hcell⟩ := hR.2 (by omega)
      have htl : (bs.take o).length = o := by rw [List.length_take]; omega
      have hcs : (bvs (bs.take o)).length = o := by rw [bvs_length, htl]
      have hr := run_copy_row (P := Tryd.prog) w 44 44 ty 5 gb lo (hi - lo) (c - lo) ⟨bb, ob, none⟩ m cs cur 5 (bvs (bs.take o)) Tryd.underlying44 hsz hb (by rw [hcs, ho, Nat.min_comm])
        (fun j u hu => by
          rw [add_off]
          refine hcell j u ?_
          rw [← bvs_take, List.getElem?_take] at hu
          split at hu
          · exact hu
          · cases hu) (by rw [hcs]; omega) (bvs_one _)
      have hsp := splice_row (lo := lo) (ys := bs.take o) hb hbase h1 h2 (by omega) h4 hl (by rw [htl]; omega)
      rw [htl] at hsp
      refine ⟨_, ?_, hsp, only_setRow w gb _⟩
      show (Builtin.copy_ _ _ #[.slice (some ((⟨gb, 0, none⟩ : Addr).add lo)) _ _, _]).run _ _ = _
      rw [add_at, hr, hcs]
      rfl
end Go.Proofs.YtcmlchicpmnhdaaDoor.Disk
/-
  Proved: what crashed of package disk returns: a new file, with the bytes that a crash leaves.
-/
namespace Go.Proofs.YtcmlchicpmnhdaaDoor.Disk
open Go.RowKit Go.Maps
set_option linter.unusedVariables false
set_option linter.unusedSimpArgs false

/-- A sector of which the first p bytes were written: the others as they were. -/
def fixSec (was : List UInt8) (Z s p : Nat) (b : List UInt8) : List UInt8 :=
  b.take (min (64 * s + p) Z) ++ ((((was.drop (64 * s)).take 64).drop p).take (min (64 * s + 64) Z - min (64 * s + p) Z) ++
    List.replicate (min (64 * s + 64) Z - min (64 * s + p) Z - (((was.drop (64 * s)).take 64).drop p).length) 0) ++ b.drop (min (64 * s + 64) Z)
def crashK (now was : List UInt8) (Z : Nat) (secs parts : Nat → Nat) : Nat → List UInt8
  | 0 => now.take Z
  | k + 1 => fixSec was Z (secs k) (parts k) (crashK now was Z secs parts k)
theorem fixSec_length {was b : List UInt8} {Z s p : Nat} (hb : b.length = Z) (hp : p ≤ 64) : (fixSec was Z s p b).length = Z := by
  unfold fixSec
  simp only [List.length_append, List.length_take, List.length_replicate, List.length_drop]
  omega
theorem crashK_length {now was : List UInt8} {Z : Nat} {secs parts : Nat → Nat} (hZ : Z ≤ now.length) (hp : ∀ k, parts k ≤ 64) : ∀ k, (crashK now was Z secs parts k).length = Z
  | 0 => by show (now.take Z).length = Z; rw [List.length_take]; omega
  | k + 1 => fixSec_length (crashK_length hZ hp k) (hp k)
/-- What clear and copy make of the bytes. -/
theorem fix_steps (was b : List UInt8) (Z s p lo hi pm : Nat) (old : List UInt8) (hold : old = (was.drop (64 * s)).take 64) (hb : b.length = Z) (hlo : lo = min (64 * s + p) Z) (hhi : hi = min (64 * s + 64) Z) (hp : p ≤ 64) (hpm : pm = min p old.length) :
    (b.take lo ++ List.replicate (hi - lo) 0 ++ b.drop hi).take lo ++ (old.drop pm).take (min (hi - lo) (old.length - pm)) ++ (b.take lo ++ List.replicate (hi - lo) 0 ++ b.drop hi).drop (lo + min (hi - lo) (old.length - pm)) = fixSec was Z s p b := by
  have hle : lo ≤ hi := by omega
  have hhz : hi ≤ Z := by omega
  have htl : (b.take lo).length = lo := by rw [List.length_take]; omega
  have e1 : (b.take lo ++ List.replicate (hi - lo) 0 ++ b.drop hi).take lo = b.take lo := by
    rw [List.append_assoc, List.take_append_of_le_length (by omega), List.take_of_length_le (by omega)]
  have e2 : old.drop pm = old.drop p := by
    rcases Nat.le_total p old.length with h | h
    · rw [show pm = p by omega]
    · rw [show pm = old.length by omega, List.drop_eq_nil_of_le (Nat.le_refl _), List.drop_eq_nil_of_le h]
  have e3 : (old.drop p).length = old.length - pm := by rw [← e2, List.length_drop]
  have e4 : (old.drop p).take (min (hi - lo) (old.length - pm)) = (old.drop p).take (hi - lo) := by
    rcases Nat.le_total (hi - lo) (old.length - pm) with h | h
    · rw [Nat.min_eq_left h]
    · rw [Nat.min_eq_right h, List.take_of_length_le (by omega), List.take_of_length_le (by omega)]
  have e5 : (b.take lo ++ List.replicate (hi - lo) 0 ++ b.drop hi).drop (lo + min (hi - lo) (old.length - pm)) = List.replicate (hi - lo - (old.drop p).length) 0 ++ b.drop hi := by
    rw [List.append_assoc, List.drop_append, htl, List.drop_eq_nil_of_le (by omega), List.nil_append, show lo + min (hi - lo) (old.length - pm) - lo = min (hi - lo) (old.length - pm) by omega,
      List.drop_append_of_le_length (by rw [List.length_replicate]; omega), List.drop_replicate, e3]
    congr 2
    omega
  rw [e1, e5, e2, e4]
  unfold fixSec
  rw [← hlo, ← hhi, ← hold]
  simp only [List.append_assoc]
theorem sget_at {L : Secs} (h : L.Pairwise fun p q => p.1 < q.1) {k : Nat} (hk : k < L.length) : sget ((L.map (·.1)).getD k 0) L = some L[k].2 := by
  have e : (L.map (·.1)).getD k 0 = L[k].1 := by
    rw [List.getD_eq_getElem?_getD, List.getElem?_map, List.getElem?_eq_getElem hk]
    rfl
  rw [e]
  unfold sget
  have hm : L[k] ∈ L := List.getElem_mem hk
  cases hf : L.find? (fun p => decide (p.1 = L[k].1)) with
  | none =>
    have := List.find?_eq_none.1 hf L[k] hm
    simp at this
  | some q =>
    have hq := List.mem_of_find?_eq_some hf
    have hq1 : q.1 = L[k].1 := by simpa using List.find?_some hf
    have : q = L[k] := by
      obtain ⟨i, hi, ei⟩ := List.getElem_of_mem hq
      rcases Nat.lt_trichotomy i k with hlt | heq | hgt
      · have := List.pairwise_iff_getElem.1 h i k hi hk hlt
        rw [ei] at this
        omega
      · subst heq; exact ei.symm
      · have := List.pairwise_iff_getElem.1 h k i hk hi hgt
        rw [ei] at this
        omega
    rw [this]
    rfl
theorem sec_get {w : World} {ob n s : Nat} {L : Secs} {v : Value} (h : w.ownsMap Tryd.prog 3 held ob n (secMap L)) (hs : s < 9223372036854775808) (hg : sget s L = some v) :
    (Instr.lookup 100 (.map (some ob)) (.int .i64 (s : Int)) false).run Tryd.prog w = .ok v w := by
  obtain ⟨v', ps, hrun, hv⟩ := h.lookup lawI Tryd.underlying100 (zeroBytes w) (zd := .held (.slice none 0 0)) (zp := []) rfl (keyI s hs)
  rw [secMap_at, hg] at hv
  rw [hrun, held_inv hv]
theorem own_base {w : World} {base : Nat} {e : TypeId} {size n : Nat} {v : Value} {xs : List Value} (h : w.ownsRow base e size v n xs) : w.ownsRow 0 e size v n xs := by
  refine ⟨h.1, ?_⟩
  rcases h.2 with h | ⟨g, cap, cur, h1, _, h3⟩
  · exact .inl h
  · exact .inr ⟨g, cap, cur, h1, Nat.zero_le _, h3⟩
theorem own_base_le {w : World} {base base' : Nat} {e : TypeId} {size n : Nat} {v : Value} {xs : List Value} (h : w.ownsRow base e size v n xs) (hb : base' ≤ base) : w.ownsRow base' e size v n xs := by
  refine ⟨h.1, ?_⟩
  rcases h.2 with h | ⟨g, cap, cur, h1, h2, h3⟩
  · exact .inl h
  · exact .inr ⟨g, cap, cur, h1, Nat.le_trans hb h2, h3⟩
theorem crashed_end {own : Own} {w w2 wr : World} {f' Z cb : Nat} {Ab : Option Addr} {bs : List UInt8} (ht : ∀ b p, own b = some p → b < w.heap.size) (hr : wr.ownsRow w2.heap.size 5 1 (.slice Ab Z cb) Z (bvs bs)) (hl : bs.length = Z) (hz : Z ≤ 4194304) (hb : Below w.heap.size w wr) (hs : w.heap.size ≤ w2.heap.size) :
    ∃ own' g', Ending.returned (Value.pointer (some ⟨wr.heap.size + 1, 0, none⟩)) = .returned (.pointer (some ⟨g', 0, none⟩)) ∧ w.heap.size ≤ g' ∧
      FileAt own' ((wr.alloc (.map #[] 0)).alloc (.cells #[.slice Ab Z cb, .int .i64 (Z : Int), .map (some wr.heap.size)] 102)) f' g' ⟨bs, bs, []⟩ ∧ Below w.heap.size w ((wr.alloc (.map #[] 0)).alloc (.cells #[.slice Ab Z cb, .int .i64 (Z : Int), .map (some wr.heap.size)] 102)) ∧ (∀ b, b < w.heap.size → own' b = own b) ∧
      (∀ b p, own' b = some p → b < ((wr.alloc (.map #[] 0)).alloc (.cells #[.slice Ab Z cb, .int .i64 (Z : Int), .map (some wr.heap.size)] 102)).heap.size) ∧ (∀ b p, w.heap.size ≤ b → own' b = some p → p.1 = f') := by
  subst hl
  obtain ⟨h1, h2, h3, h4⟩ := fileNew (own := own) (w0 := w) (w := wr) (f := f') ht hb.size (fun b hb => Nat.le_trans hs (hr.lt b hb).1) (own_base hr) hz
  exact ⟨_, _, rfl, Nat.le_trans hb.size (Nat.le_succ _), ⟨_, _, h1⟩, hb.trans ((fileWorld_below wr _ _).mono hb.size), h2, h3, h4⟩
/-- The bytes that a crash leaves of a file. -/
def Fl.crashLen (x : Fl) (parts : List Nat) : Nat := csize x.now.length x.was.length (fun i => (x.soiled.map (·.1)).getD i 0) (fun i => parts.getD i 0) x.soiled.length
def Fl.crash (x : Fl) (parts : List Nat) : List UInt8 := crashK x.now x.was (x.crashLen parts) (fun i => (x.soiled.map (·.1)).getD i 0) (fun i => parts.getD i 0) x.soiled.length

end Go.Proofs.YtcmlchicpmnhdaaDoor.Disk
