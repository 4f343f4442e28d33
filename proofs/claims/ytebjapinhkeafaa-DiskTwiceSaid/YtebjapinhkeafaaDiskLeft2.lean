/-
  Plain facts: the disk that a crash lays: its files one by one, and its end.
-/
import Derived.Test.YtebjapinhkeafaaDiskLeft
namespace Go.Proofs.Ytebjapinhkeafaa.Disk
open Go.RowKit Go.Maps
set_option linter.unusedVariables false
set_option linter.unusedSimpArgs false

def foldDir (S : Dir) (wait : List Chg) (k : Nat) : Dir := (wait.take k).foldl (fun N c => c.on N) S
theorem foldDir_next {S : Dir} {wait : List Chg} {k : Nat} {c : Chg} (h : wait[k]? = some c) : foldDir S wait (k + 1) = c.on (foldDir S wait k) := by
  unfold foldDir
  have e : wait.take (k + 1) = wait.take k ++ [c] := by
    rw [List.take_add_one, h]
    rfl
  rw [e, List.foldl_append]
  rfl
theorem foldDir_stop {S : Dir} {wait : List Chg} {k : Nat} (h : wait[k]? = none) : foldDir S wait (k + 1) = foldDir S wait k := by
  have hl := List.getElem?_eq_none_iff.1 h
  unfold foldDir
  rw [List.take_of_length_le (by omega), List.take_of_length_le hl]
theorem foldDir_len (S : Dir) (wait : List Chg) : ∀ k, (foldDir S wait k).length ≤ S.length + k
  | 0 => by simp [foldDir]
  | k + 1 => by
    have ih := foldDir_len S wait k
    cases h : wait[k]? with
    | none => rw [foldDir_stop h]; omega
    | some c =>
      have := c.on_len (foldDir S wait k)
      rw [foldDir_next h]; omega
theorem foldDir_refs (d : Dk) : ∀ k, ∀ p ∈ foldDir d.S d.wait k, d.refs p.2
  | 0, p, hp => .inr (.inl (List.mem_map.2 ⟨p, by simpa [foldDir] using hp, rfl⟩))
  | k + 1, p, hp => by
    cases h : d.wait[k]? with
    | none => rw [foldDir_stop h] at hp; exact foldDir_refs d k p hp
    | some c =>
      rw [foldDir_next h] at hp
      rcases Chg.on_mem hp with hc | hp
      · exact .inr (.inr ⟨c, List.mem_of_getElem? h, hc⟩)
      · exact foldDir_refs d k p hp
theorem Left.drewN {own own1 : Own} {w wr : World} {f' nb' sb' : Nat} {rm : Int} {fn : News} {rest : Dir} (h : Left own own1 w wr f' nb' sb' rm fn rest) (q : Nat) : Left own own1 w (wr.drewN q) f' nb' sb' rm fn rest :=
  h.all (below_drewN (Below.refl _ wr) q)
theorem dget_mid {n : Nm} {g : Nat} {pre post : Dir} (h : (pre ++ (n, g) :: post).Pairwise fun p q => bytesBefore p.1 q.1 = true) : dget n (pre ++ (n, g) :: post) = some g := by
  obtain ⟨_, _, h3⟩ := List.pairwise_append.1 h
  unfold dget
  have e : pre.find? (fun p => p.1 == n) = none := by
    rw [List.find?_eq_none]
    intro p hp hx
    have := h3 p hp (n, g) (by simp)
    rw [beq_iff_eq] at hx
    rw [hx, WideAt.bytes_irrefl] at this
    cases this
  rw [List.find?_append, e]
  simp
/-- The names of a directory are no longer than a string may be. -/
theorem dir_names {w : World} {nb n : Nat} {N : Dir} (h : w.ownsMap Try.prog 9 held nb n (dirMap N)) : ∀ p ∈ N, p.1.length ≤ maxLen := by
  intro p hp
  obtain ⟨es, e, hk⟩ := h.keysOf
  injection e with e
  subst e
  obtain ⟨v, hv⟩ := hk (dirEnt p) (List.mem_map.2 ⟨p, hp, rfl⟩)
  obtain ⟨x, _, e, hx⟩ := Maps.keyOf_str Try.underlying9 hv
  have e' : Lit.string p.1 = Lit.string x := e
  rw [Lit.string.injEq] at e'
  rw [e']
  exact hx
/-- Between two rounds over the names. -/
structure Round (d : Dk) (keep : List Bool) (torn : Int) (NN : Dir) (own own1 : Own) (w w3 wr : World) (f' nb' sb' : Nat) (fn : News) (k fst : Nat) : Prop where
  left : Left own own1 w wr f' nb' sb' d.room fn (NN.drop k)
  len : fn.length = k
  spec : (fn.map fun t => (t.1, t.2.2)) ++ crashFiles d.fl keep torn fst (NN.drop k) = crashFiles d.fl keep torn 0 NN
  fstb : fst ≤ 65536 * k
  grown : w3.grownBy wr (some sb')
/-- The ints of the parts, j of them laid. -/
def filled (ps : List Nat) (j : Nat) : List Value := nvs (ps.take j) ++ List.replicate (ps.length - j) (.int .i64 0)
theorem filled_len (ps : List Nat) {j : Nat} (h : j ≤ ps.length) : (filled ps j).length = ps.length := by
  simp [filled, nvs]
  omega
theorem filled_at (ps : List Nat) {j : Nat} (h : j < ps.length) : (filled ps j)[j]? = some (.int .i64 0) := by
  have hl : (nvs (ps.take j)).length = j := by simp [nvs]; omega
  rw [filled, List.getElem?_append_right (by omega), hl, Nat.sub_self, List.getElem?_replicate, if_pos (by omega)]
theorem filled_put (ps : List Nat) {j : Nat} (h : j < ps.length) : (filled ps j).toArray.setIfInBounds j (.int .i64 ((ps.getD j 0 : Nat) : Int)) = (filled ps (j + 1)).toArray := by
  have hl : (nvs (ps.take j)).length = j := by simp [nvs]; omega
  apply Array.ext'
  rw [Array.toList_setIfInBounds]
  show (nvs (ps.take j) ++ _).set j _ = nvs (ps.take (j + 1)) ++ _
  rw [List.set_append_right _ _ (by omega), hl, Nat.sub_self]
  obtain ⟨q, hq⟩ : ∃ q, ps.length - j = q + 1 := ⟨ps.length - j - 1, by omega⟩
  have e : nvs (ps.take (j + 1)) = nvs (ps.take j) ++ [Value.int .i64 ((ps.getD j 0 : Nat) : Int)] := by
    rw [List.getD_eq_getElem?_getD, List.take_add_one, List.getElem?_eq_getElem h]
    unfold nvs
    rw [List.map_append]
    rfl
  rw [hq, List.replicate_succ, List.set_cons_zero, show ps.length - (j + 1) = q by omega, e, List.append_assoc]
  rfl
theorem filled_all (ps : List Nat) : filled ps ps.length = nvs ps := by simp [filled]
theorem filled_none (ps : List Nat) : (madeCells #[Value.int .i64 0] ps.length) = (filled ps 0).toArray := by
  apply Array.ext'
  rw [toList_madeCells_one]
  simp [filled, nvs]
theorem crashFiles_names (fl : Nat → Fl) (keep : List Bool) (torn : Int) : ∀ (fst : Nat) (N : Dir), (crashFiles fl keep torn fst N).map (·.1) = N.map (·.1)
  | _, [] => rfl
  | fst, p :: r => by rw [crashFiles, List.map_cons, List.map_cons, crashFiles_names fl keep torn _ r]
/-- The end: the disk is whole. -/
def newsFl (fn : News) (g : Nat) : Fl := match fn.find? (fun t => decide (t.2.1 = g)) with | some t => ⟨t.2.2, t.2.2, []⟩ | none => emptyFl
theorem newsFl_at : ∀ {fn : News}, fn.Pairwise (fun s t => s.2.1 < t.2.1) → ∀ t ∈ fn, newsFl fn t.2.1 = ⟨t.2.2, t.2.2, []⟩
  | [], _, t, ht => by cases ht
  | s :: r, h, t, ht => by
    obtain ⟨h1, h2⟩ := List.pairwise_cons.1 h
    rcases List.mem_cons.1 ht with rfl | ht
    · simp [newsFl]
    · have hlt := h1 t ht
      have ih := newsFl_at h2 t ht
      unfold newsFl at ih ⊢
      rw [List.find?_cons_of_neg (by simp; omega)]
      exact ih
def newDk (rm : Int) (fn : News) : Dk := ⟨rm, News.dir fn, News.dir fn, [], 0, 0, false, 0, newsFl fn⟩
theorem Left.done {own own1 : Own} {w wr w2 : World} {f' nb' sb' m K : Nat} {rm : Int} {fn : News} (h : Left own own1 w wr f' nb' sb' rm fn []) (hg : wr.grownBy w2 (some nb')) (hN : w2.ownsMap Try.prog 9 held nb' m (dirMap (News.dir fn))) (hrm : 0 ≤ rm ∧ rm ≤ 4194304) (hK : fn.length ≤ K) (hKb : K ≤ 1073741824) :
    DiskAt own1 w2 f' (newDk rm fn) K := by
  have hS := h.mapS
  rw [List.append_nil] at hS
  have hk : ∀ b, b < wr.heap.size → b ≠ nb' → w2.heap[b]? = wr.heap[b]? := fun b hb hne => hg.block b hb (fun e => hne (Option.some.inj e))
  have hfnb : f' ≠ nb' := by
    intro e
    obtain ⟨es, clock, hx, _⟩ := h.mapN
    rw [← e, h.blk] at hx
    injection hx with hx
    cases hx
  have t1 := map_tight hN
  have t2 := map_tight (map_keep hS (hk sb' hS.lt h.ne.symm))
  rw [dirMap_size] at t1 t2
  have hdl : (News.dir fn).length = fn.length := by simp [News.dir]
  refine ⟨nb', sb', .slice none 0 0, ⟨hKb, hrm, by show (News.dir fn).length ≤ K; omega, by show (News.dir fn).length + 0 ≤ K; omega, (by intro c hc; cases hc), ⟨Int.le_refl _, by show (0 : Int) ≤ K; omega⟩, ⟨Int.le_refl _, by show (0 : Int) ≤ K * 4194304; omega⟩, ⟨Int.le_refl _, by show (0 : Int) ≤ _; omega⟩⟩,
    fun b p hp => Nat.lt_of_lt_of_le (h.top b p hp) hg.size, (hk f' (blk_lt' h.blk) hfnb).trans h.blk, h.of, h.on, h.os, h.ne, t1, t2, World.ownsRow_nil w2 0 _ 3, (fun b hb => by cases hb), ?_⟩
  intro g hg'
  have hm : g ∈ (News.dir fn).map (·.2) := by
    rcases hg' with hg' | hg' | ⟨c, hc, _⟩
    · exact hg'
    · exact hg'
    · cases hc
  obtain ⟨p, hp, rfl⟩ := List.mem_map.1 hm
  obtain ⟨t, ht, rfl⟩ := List.mem_map.1 hp
  obtain ⟨h1, _, v, ob, hf⟩ := h.files t ht
  refine ⟨h1, ?_⟩
  show FileAt own1 w2 f' t.2.1 (newsFl fn t.2.1)
  rw [newsFl_at h.inc t ht]
  refine ⟨v, ob, hf.keep hg.size (fun _ _ => rfl) fun b hb hp' => hk b hb ?_⟩
  rintro rfl
  rw [h.on] at hp'
  injection hp' with hp'
  injection hp' with _ hp'
  exact h1 hp'.symm
theorem newDk_crashed {d : Dk} {n torn : Int} {keep : List Bool} {fn : News} (hinc : fn.Pairwise fun s t => s.2.1 < t.2.1) (h : (fn.map fun t => (t.1, t.2.2)) = crashFiles d.fl keep torn 0 (d.crashDir n)) : d.Crashed (newDk d.room fn) n keep torn := by
  refine ⟨rfl, ?_, rfl, rfl, rfl, rfl, rfl, rfl⟩
  rw [← h]
  show ((News.dir fn).map fun p => (p.1, newsFl fn p.2)) = _
  rw [News.dir, List.map_map, List.map_map]
  apply List.map_congr_left
  intro t ht
  show (t.1, newsFl fn t.2.1) = (t.1, _)
  rw [newsFl_at hinc t ht]
end Go.Proofs.Ytebjapinhkeafaa.Disk
