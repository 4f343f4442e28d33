/-
  Texts one behind the other: DiskLeft, DiskLeft2.
-/
import Derived.Test.YtcmlchicpmnhdaaGreatDoorG27
/-
  Plain facts: what a crash leaves of a disk, as a value; how the disk that a crash lays is under way in memory.
-/
namespace Go.Proofs.YtcmlchicpmnhdaaGreatDoor.Disk
open Go.RowKit Go.Maps
set_option linter.unusedVariables false
set_option linter.unusedSimpArgs false

/-- How many of the first bytes of each of n dirty sectors were written, counted from fst. -/
def partsFor (fst n : Nat) (keep : List Bool) (torn : Int) : List Nat := (List.range n).map fun j => partOf (fst + j) keep torn
theorem partOf_le (i : Nat) (keep : List Bool) (torn : Int) : partOf i keep torn ≤ 64 := by
  unfold partOf
  split
  · omega
  · split <;> omega
theorem partsFor_length (fst n : Nat) (keep : List Bool) (torn : Int) : (partsFor fst n keep torn).length = n := by simp [partsFor]
theorem partsFor_le (fst n : Nat) (keep : List Bool) (torn : Int) (i : Nat) : (partsFor fst n keep torn).getD i 0 ≤ 64 := by
  unfold partsFor
  rw [List.getD_eq_getElem?_getD, List.getElem?_map]
  cases (List.range n)[i]? with
  | none => show 0 ≤ 64; omega
  | some j => exact partOf_le _ _ _
/-- The files that a crash leaves of a directory: names and bytes. -/
def crashFiles (fl : Nat → Fl) (keep : List Bool) (torn : Int) : Nat → Dir → List (Nm × List UInt8)
  | _, [] => []
  | fst, p :: r => (p.1, (fl p.2).crash (partsFor fst (fl p.2).soiled.length keep torn)) :: crashFiles fl keep torn (fst + (fl p.2).soiled.length) r
def Dk.crashDir (d : Dk) (n : Int) : Dir := (d.wait.take (min (max n 0) d.wait.length).toNat).foldl (fun N c => c.on N) d.S
/-- Files by their names. -/
def Dk.files (d : Dk) : List (Nm × Fl) := d.N.map fun p => (p.1, d.fl p.2)
/-- A disk that a crash has left. -/
structure Dk.Crashed (d d' : Dk) (n : Int) (keep : List Bool) (torn : Int) : Prop where
  room : d'.room = d.room
  files : d'.files = (crashFiles d.fl keep torn 0 (d.crashDir n)).map fun p => (p.1, ⟨p.2, p.2, []⟩)
  synced : d'.S = d'.N
  wait : d'.wait = []
  calls : d'.calls = 0
  reads : d'.reads = 0
  failing : d'.failing = false
  others : d'.others = 0
theorem merge_empty {w : World} {k : TypeId} {b n : Nat} {R : Value → Option (DataW Value × List MemPlace)} {D : DataW Value} (h : w.ownsMap Tryz.prog k R b n D) (K : Keyed Tryz.prog k) : Lib.mergeD (.map []) D = D := by
  obtain ⟨es, rfl, hr, hk⟩ := h.canonK K
  have hk' : ∀ p ∈ es, WideAt.IsKeyLit p.1 := fun p hp => K.one.key (hk p hp)
  have c0 : CanonK (KeysOf Tryz.prog k) (.map [] : DataW Value) := ⟨[], rfl, List.Pairwise.nil, fun p hp => by cases hp⟩
  have c1 := canonK_fold K.one es (.map []) hk c0
  have c2 : CanonK (KeysOf Tryz.prog k) (.map es) := ⟨es, rfl, hr, hk⟩
  refine Maps.ext (c1.canon K.one) (c2.canon K.one) (fun kl => ?_) (fun kl z _ => ?_)
  · have := has_foldPut kl es (.map [] : DataW Value) isMap_empty hk'
    refine Eq.trans this ?_
    show (false || _) = _
    rw [Bool.false_or, has_eq]
  · have := atKey_foldPut kl z es (.map [] : DataW Value) isMap_empty hk' (apart_of_rising hr)
    exact Eq.trans this rfl
theorem dput_here {n : Nm} {g g' : Nat} {pre post : Dir} (h : (pre ++ (n, g) :: post).Pairwise fun p q => bytesBefore p.1 q.1 = true) : dput n g' (pre ++ (n, g) :: post) = pre ++ (n, g') :: post := by
  have hirr : ∀ a : Nm, bytesBefore a a = false := WideAt.bytes_irrefl
  obtain ⟨h1, h2, h3⟩ := List.pairwise_append.1 h
  obtain ⟨h4, h5⟩ := List.pairwise_cons.1 h2
  have e1 : ddel n (pre ++ (n, g) :: post) = pre ++ post := by
    unfold ddel
    rw [List.filter_append, List.filter_cons]
    have e2 : (pre.filter fun p => !(p.1 == n)) = pre := List.filter_eq_self.2 fun p hp => by
      have := h3 p hp (n, g) (by simp)
      cases hx : p.1 == n
      · rfl
      · rw [beq_iff_eq] at hx; rw [hx, hirr] at this; cases this
    have e3 : (post.filter fun p => !(p.1 == n)) = post := List.filter_eq_self.2 fun p hp => by
      have := h4 p hp
      cases hx : p.1 == n
      · rfl
      · rw [beq_iff_eq] at hx; rw [hx, hirr] at this; cases this
    rw [e2, e3]
    simp
  rw [dput, e1]
  clear e1
  induction pre with
  | nil =>
    cases post with
    | nil => rfl
    | cons q r =>
      show (if bytesBefore n q.1 = true then _ else _) = _
      rw [if_pos (h4 q (by simp))]
      rfl
  | cons q r ih =>
    have hq : bytesBefore n q.1 = false := by
      have h6 := h3 q (by simp) (n, g) (by simp)
      cases hx : bytesBefore n q.1
      · rfl
      · have := WideShapes.bytes_trans _ _ _ h6 hx
        rw [hirr] at this; cases this
    show (if bytesBefore n q.1 = true then _ else _) = _
    rw [if_neg (by rw [hq]; simp)]
    have h' := List.pairwise_cons.1 (show ((q :: (r ++ (n, g) :: post)).Pairwise _) from h)
    have h1' := List.pairwise_cons.1 h1
    show q :: dins (n, g') (r ++ post) = q :: (r ++ (n, g') :: post)
    rw [ih h'.2 h1'.2 (fun a ha b hb => h3 a (by simp [ha]) b hb)]
/-- The directory of a disk under way: some files are new, the others as they were. -/
abbrev News := List (Nm × Nat × List UInt8)
def News.dir (fn : News) : Dir := fn.map fun t => (t.1, t.2.1)
structure Left (own own1 : Own) (w wr : World) (f' nb' sb' : Nat) (rm : Int) (fn : News) (rest : Dir) : Prop where
  blk : Blk wr f' 58 #[.int .i64 rm, .map (some nb'), .map (some sb'), .slice none 0 0, .int .i64 0, .int .i64 0, .bool false, .int .i64 0]
  of : own1 f' = some (f', f')
  on : own1 nb' = some (f', f')
  os : own1 sb' = some (f', f')
  ne : nb' ≠ sb'
  fge : w.heap.size ≤ f'
  sge : w.heap.size ≤ sb'
  nge : w.heap.size ≤ nb'
  mapN : wr.ownsMap Tryz.prog 9 held nb' 0 (dirMap [])
  mapS : wr.ownsMap Tryz.prog 9 held sb' (fn.length + rest.length) (dirMap (News.dir fn ++ rest))
  files : ∀ t ∈ fn, t.2.1 ≠ f' ∧ t.2.1 < wr.heap.size ∧ FileAt own1 wr f' t.2.1 ⟨t.2.2, t.2.2, []⟩
  inc : fn.Pairwise fun s t => s.2.1 < t.2.1
  below : Below w.heap.size w wr
  same : ∀ b, b < w.heap.size → own1 b = own b
  top : ∀ b p, own1 b = some p → b < wr.heap.size
  new : ∀ b p, w.heap.size ≤ b → own1 b = some p → p.1 = f'
/-- .. while only other blocks turn. -/
theorem Left.keep {own own1 : Own} {w wr w2 : World} {f' nb' sb' : Nat} {rm : Int} {fn : News} {rest : Dir} (h : Left own own1 w wr f' nb' sb' rm fn rest) (hb : Below w.heap.size wr w2) (hk : ∀ b, own1 b ≠ none → w2.heap[b]? = wr.heap[b]?) : Left own own1 w w2 f' nb' sb' rm fn rest where
  blk := (hk f' (by rw [h.of]; simp)).trans h.blk
  of := h.of
  on := h.on
  os := h.os
  ne := h.ne
  fge := h.fge
  sge := h.sge
  nge := h.nge
  mapN := map_keep h.mapN (hk nb' (by rw [h.on]; simp))
  mapS := map_keep h.mapS (hk sb' (by rw [h.os]; simp))
  files := fun t ht => by
    obtain ⟨h1, h2, v, ob, hf⟩ := h.files t ht
    exact ⟨h1, Nat.lt_of_lt_of_le h2 hb.size, v, ob, hf.keep hb.size (fun _ _ => rfl) fun b _ hp => hk b (by rw [hp]; simp)⟩
  inc := h.inc
  below := h.below.trans hb
  same := h.same
  top := fun b p hp => Nat.lt_of_lt_of_le (h.top b p hp) hb.size
  new := h.new
theorem Left.all {own own1 : Own} {w wr w2 : World} {f' nb' sb' : Nat} {rm : Int} {fn : News} {rest : Dir} (h : Left own own1 w wr f' nb' sb' rm fn rest) (hb : Below wr.heap.size wr w2) : Left own own1 w w2 f' nb' sb' rm fn rest :=
  h.keep (hb.mono h.below.size) fun b hne => hb.block b (by
    cases hp : own1 b with
    | none => exact absurd hp hne
    | some p => exact h.top b p hp)
/-- One more file is new. -/
theorem Left.next {own own1 own2 : Own} {w wr w2 w3 : World} {f' nb' sb' g g' m : Nat} {rm : Int} {fn : News} {rest : Dir} {nm : Nm} {bs : List UInt8} (h : Left own own1 w wr f' nb' sb' rm fn ((nm, g) :: rest))
    (hge : wr.heap.size ≤ g') (hf : FileAt own2 w2 f' g' ⟨bs, bs, []⟩) (hb : Below wr.heap.size wr w2) (hs : ∀ b, b < wr.heap.size → own2 b = own1 b) (ht : ∀ b p, own2 b = some p → b < w2.heap.size) (hn : ∀ b p, wr.heap.size ≤ b → own2 b = some p → p.1 = f')
    (hm : w3.ownsMap Tryz.prog 9 held sb' m ((dirMap (News.dir fn ++ (nm, g) :: rest)).put (.string nm) (.held (fp g')))) (hg : w2.grownBy w3 (some sb')) : Left own own2 w w3 f' nb' sb' rm (fn ++ [(nm, g', bs)]) rest := by
  have hfl := blk_lt' h.blk
  have hnl := h.mapN.lt
  have hsl := h.mapS.lt
  have hbw := h.below.size
  have hob := (hs sb' hsl).trans h.os
  have hk : ∀ b, b < wr.heap.size → b ≠ sb' → w3.heap[b]? = wr.heap[b]? := fun b hbl hne => (hg.block b (Nat.lt_of_lt_of_le hbl hb.size) (fun e => hne (Option.some.inj e))).trans (hb.block b hbl)
  have hfsb : f' ≠ sb' := by
    intro e
    obtain ⟨es, clock, hx, _⟩ := h.mapS
    rw [← e, h.blk] at hx
    injection hx with hx
    cases hx
  have hap := dir_rising h.mapS
  have hdir : News.dir (fn ++ [(nm, g', bs)]) ++ rest = News.dir fn ++ (nm, g') :: rest := by simp [News.dir]
  refine ⟨(hk f' hfl hfsb).trans h.blk, (hs f' hfl).trans h.of, (hs nb' hnl).trans h.on, hob, h.ne, h.fge, h.sge, h.nge, map_keep h.mapN (hk nb' hnl h.ne), ?_, ?_, ?_, ?_, ?_, ?_, ?_⟩
  · rw [dirMap_put, dput_here hap] at hm
    rw [hdir]
    have := map_tight hm
    rw [dirMap_size] at this
    refine this.mono ?_
    simp [News.dir]
    omega
  · intro t ht'
    rcases List.mem_append.1 ht' with ht' | ht'
    · obtain ⟨h1, h2, v, ob, hfile⟩ := h.files t ht'
      refine ⟨h1, by have := hb.size; have := hg.size; omega, v, ob, hfile.keep (by have := hb.size; have := hg.size; omega) hs fun b hbl hp => hk b hbl ?_⟩
      rintro rfl
      rw [h.os] at hp
      injection hp with hp
      injection hp with _ hp
      exact h1 hp.symm
    · obtain rfl := List.mem_singleton.1 ht'
      obtain ⟨v, ob, hfile⟩ := hf
      refine ⟨by show g' ≠ f'; omega, Nat.lt_of_lt_of_le (blk_lt' hfile.blk) hg.size, v, ob, hfile.keep hg.size (fun _ _ => rfl) fun b hbl hp => hg.block b hbl ?_⟩
      intro e
      have e' : b = sb' := Option.some.inj e
      have hp' : own2 b = some (f', g') := hp
      rw [e', hob] at hp'
      injection hp' with hp'
      injection hp' with _ hp'
      omega
  · rw [List.pairwise_append]
    refine ⟨h.inc, by simp, fun s hs' t ht' => ?_⟩
    obtain rfl := List.mem_singleton.1 ht'
    have := (h.files s hs').2.1
    show s.2.1 < g'
    omega
  · refine h.below.trans ?_
    exact (hb.mono hbw).grown hg (by have := hb.size; omega) (fun k hk => by
      have := Option.some.inj hk
      have := h.sge
      omega)
  · intro b hbl
    exact (hs b (by omega)).trans (h.same b hbl)
  · intro b p hp
    exact Nat.lt_of_lt_of_le (ht b p hp) hg.size
  · intro b p hbl hp
    rcases Nat.lt_or_ge b wr.heap.size with hh | hh
    · exact h.new b p hbl ((hs b hh).symm.trans hp)
    · exact hn b p hh hp
end Go.Proofs.YtcmlchicpmnhdaaGreatDoor.Disk
/-
  Plain facts: the disk that a crash lays: its files one by one, and its end.
-/
namespace Go.Proofs.YtcmlchicpmnhdaaGreatDoor.Disk
open Go.RowKit Go.Maps
set_option linter.unusedVariables false
set_option linter.unusedSimpArgs false

def foldDir (S : Dir) (wait : List Chg) (k : Nat) : Dir := (wait.take k).foldl (fun N c => c.on N) S
theorem foldDir_next {S : Dir} {wait : List Chg} {k : Nat} {c : Chg} (h : wait[k]? = some c) : foldDir S wait (k + 1) = c.on (foldDir S wait k) := by
  unfold foldDir
  have e : wait.take (k + 1) = wait.take k ++ [c] := by
    rw [List.take_add_one, h]
    rfl
  rw [e, List.foldl_append]
  rfl
theorem foldDir_stop {S : Dir} {wait : List Chg} {k : Nat} (h : wait[k]? = none) : foldDir S wait (k + 1) = foldDir S wait k := by
  have hl := List.getElem?_eq_none_iff.1 h
  unfold foldDir
  rw [List.take_of_length_le (by omega), List.take_of_length_le hl]
theorem foldDir_len (S : Dir) (wait : List Chg) : ∀ k, (foldDir S wait k).length ≤ S.length + k
  | 0 => by simp [foldDir]
  | k + 1 => by
    have ih := foldDir_len S wait k
    cases h : wait[k]? with
    | none => rw [foldDir_stop h]; omega
    | some c =>
      have := c.on_len (foldDir S wait k)
      rw [foldDir_next h]; omega
theorem foldDir_refs (d : Dk) : ∀ k, ∀ p ∈ foldDir d.S d.wait k, d.refs p.2
  | 0, p, hp => .inr (.inl (List.mem_map.2 ⟨p, by simpa [foldDir] using hp, rfl⟩))
  | k + 1, p, hp => by
    cases h : d.wait[k]? with
    | none => rw [foldDir_stop h] at hp; exact foldDir_refs d k p hp
    | some c =>
      rw [foldDir_next h] at hp
      rcases Chg.on_mem hp with hc | hp
      · exact .inr (.inr ⟨c, List.mem_of_getElem? h, hc⟩)
      · exact foldDir_refs d k p hp
theorem Left.drewN {own own1 : Own} {w wr : World} {f' nb' sb' : Nat} {rm : Int} {fn : News} {rest : Dir} (h : Left own own1 w wr f' nb' sb' rm fn rest) (q : Nat) : Left own own1 w (wr.drewN q) f' nb' sb' rm fn rest :=
  h.all (below_drewN (Below.refl _ wr) q)
theorem dget_mid {n : Nm} {g : Nat} {pre post : Dir} (h : (pre ++ (n, g) :: post).Pairwise fun p q => bytesBefore p.1 q.1 = true) : dget n (pre ++ (n, g) :: post) = some g := by
  obtain ⟨_, _, h3⟩ := List.pairwise_append.1 h
  unfold dget
  have e : pre.find? (fun p => p.1 == n) = none := by
    rw [List.find?_eq_none]
    intro p hp hx
    have := h3 p hp (n, g) (by simp)
    rw [beq_iff_eq] at hx
    rw [hx, WideAt.bytes_irrefl] at this
    cases this
  rw [List.find?_append, e]
  simp
/-- The names of a directory are no longer than a string may be. -/
theorem dir_names {w : World} {nb n : Nat} {N : Dir} (h : w.ownsMap Tryz.prog 9 held nb n (dirMap N)) : ∀ p ∈ N, p.1.length ≤ maxLen := by
  intro p hp
  obtain ⟨es, e, hk⟩ := h.keysOf
  injection e with e
  subst e
  obtain ⟨v, hv⟩ := hk (dirEnt p) (List.mem_map.2 ⟨p, hp, rfl⟩)
  obtain ⟨x, _, e, hx⟩ := Maps.keyOf_str Tryz.underlying9 hv
  have e' : Lit.string p.1 = Lit.string x := e
  rw [Lit.string.injEq] at e'
  rw [e']
  exact hx
/-- Between two rounds over the names. -/
structure Round (d : Dk) (keep : List Bool) (torn : Int) (NN : Dir) (own own1 : Own) (w w3 wr : World) (f' nb' sb' : Nat) (fn : News) (k fst : Nat) : Prop where
  left : Left own own1 w wr f' nb' sb' d.room fn (NN.drop k)
  len : fn.length = k
  spec : (fn.map fun t => (t.1, t.2.2)) ++ crashFiles d.fl keep torn fst (NN.drop k) = crashFiles d.fl keep torn 0 NN
  fstb : fst ≤ 65536 * k
  grown : w3.grownBy wr (some sb')
/-- The ints of the parts, j of them laid. -/
def filled (ps : List Nat) (j : Nat) : List Value := nvs (ps.take j) ++ List.replicate (ps.length - j) (.int .i64 0)
theorem filled_len (ps : List Nat) {j : Nat} (h : j ≤ ps.length) : (filled ps j).length = ps.length := by
  simp [filled, nvs]
  omega
theorem filled_at (ps : List Nat) {j : Nat} (h : j < ps.length) : (filled ps j)[j]? = some (.int .i64 0) := by
  have hl : (nvs (ps.take j)).length = j := by simp [nvs]; omega
  rw [filled, List.getElem?_append_right (by omega), hl, Nat.sub_self, List.getElem?_replicate, if_pos (by omega)]
theorem filled_put (ps : List Nat) {j : Nat} (h : j < ps.length) : (filled ps j).toArray.setIfInBounds j (.int .i64 ((ps.getD j 0 : Nat) : Int)) = (filled ps (j + 1)).toArray := by
  have hl : (nvs (ps.take j)).length = j := by simp [nvs]; omega
  apply Array.ext'
  rw [Array.toList_setIfInBounds]
  show (nvs (ps.take j) ++ _).set j _ = nvs (ps.take (j + 1)) ++ _
  rw [List.set_append_right _ _ (by omega), hl, Nat.sub_self]
  obtain ⟨q, hq⟩ : ∃ q, ps.length - j = q + 1 := ⟨ps.length - j - 1, by omega⟩
  have e : nvs (ps.take (j + 1)) = nvs (ps.take j) ++ [Value.int .i64 ((ps.getD j 0 : Nat) : Int)] := by
    rw [List.getD_eq_getElem?_getD, List.take_add_one, List.getElem?_eq_getElem h]
    unfold nvs
    rw [List.map_append]
    rfl
  rw [hq, List.replicate_succ, List.set_cons_zero, show ps.length - (j + 1) = q by omega, e, List.append_assoc]
  rfl
theorem filled_all (ps : List Nat) : filled ps ps.length = nvs ps := by simp [filled]
theorem filled_none (ps : List Nat) : (madeCells #[Value.int .i64 0] ps.length) = (filled ps 0).toArray := by
  apply Array.ext'
  rw [toList_madeCells_one]
  simp [filled, nvs]
theorem crashFiles_names (fl : Nat → Fl) (keep : List Bool) (torn : Int) : ∀ (fst : Nat) (N : Dir), (crashFiles fl keep torn fst N).map (·.1) = N.map (·.1)
  | _, [] => rfl
  | fst, p :: r => by rw [crashFiles, List.map_cons, List.map_cons, crashFiles_names fl keep torn _ r]
/-- The end: the disk is whole. -/
def newsFl (fn : News) (g : Nat) : Fl := match fn.find? (fun t => decide (t.2.1 = g)) with | some t => ⟨t.2.2, t.2.2, []⟩ | none => emptyFl
theorem newsFl_at : ∀ {fn : News}, fn.Pairwise (fun s t => s.2.1 < t.2.1) → ∀ t ∈ fn, newsFl fn t.2.1 = ⟨t.2.2, t.2.2, []⟩
  | [], _, t, ht => by cases ht
  | s :: r, h, t, ht => by
    obtain ⟨h1, h2⟩ := List.pairwise_cons.1 h
    rcases List.mem_cons.1 ht with rfl | ht
    · simp [newsFl]
    · have hlt := h1 t ht
      have ih := newsFl_at h2 t ht
      unfold newsFl at ih ⊢
      rw [List.find?_cons_of_neg (by simp; omega)]
      exact ih
def newDk (rm : Int) (fn : News) : Dk := ⟨rm, News.dir fn, News.dir fn, [], 0, 0, false, 0, newsFl fn⟩
theorem Left.done {own own1 : Own} {w wr w2 : World} {f' nb' sb' m K : Nat} {rm : Int} {fn : News} (h : Left own own1 w wr f' nb' sb' rm fn []) (hg : wr.grownBy w2 (some nb')) (hN : w2.ownsMap Tryz.prog 9 held nb' m (dirMap (News.dir fn))) (hrm : 0 ≤ rm ∧ rm ≤ 4194304) (hK : fn.length ≤ K) (hKb : K ≤ 1073741824) :
    DiskAt own1 w2 f' (newDk rm fn) K := by
  have hS := h.mapS
  rw [List.append_nil] at hS
  have hk : ∀ b, b < wr.heap.size → b ≠ nb' → w2.heap[b]? = wr.heap[b]? := fun b hb hne => hg.block b hb (fun e => hne (Option.some.inj e))
  have hfnb : f' ≠ nb' := by
    intro e
    obtain ⟨es, clock, hx, _⟩ := h.mapN
    rw [← e, h.blk] at hx
    injection hx with hx
    cases hx
  have t1 := map_tight hN
  have t2 := map_tight (map_keep hS (hk sb' hS.lt h.ne.symm))
  rw [dirMap_size] at t1 t2
  have hdl : (News.dir fn).length = fn.length := by simp [News.dir]
  refine ⟨nb', sb', .slice none 0 0, ⟨hKb, hrm, by show (News.dir fn).length ≤ K; omega, by show (News.dir fn).length + 0 ≤ K; omega, (by intro c hc; cases hc), ⟨Int.le_refl _, by show (0 : Int) ≤ K; omega⟩, ⟨Int.le_refl _, by show (0 : Int) ≤ K * 4194304; omega⟩, ⟨Int.le_refl _, by show (0 : Int) ≤ _; omega⟩⟩,
    fun b p hp => Nat.lt_of_lt_of_le (h.top b p hp) hg.size, (hk f' (blk_lt' h.blk) hfnb).trans h.blk, h.of, h.on, h.os, h.ne, t1, t2, World.ownsRow_nil w2 0 _ 3, (fun b hb => by cases hb), ?_⟩
  intro g hg'
  have hm : g ∈ (News.dir fn).map (·.2) := by
    rcases hg' with hg' | hg' | ⟨c, hc, _⟩
    · exact hg'
    · exact hg'
    · cases hc
  obtain ⟨p, hp, rfl⟩ := List.mem_map.1 hm
  obtain ⟨t, ht, rfl⟩ := List.mem_map.1 hp
  obtain ⟨h1, _, v, ob, hf⟩ := h.files t ht
  refine ⟨h1, ?_⟩
  show FileAt own1 w2 f' t.2.1 (newsFl fn t.2.1)
  rw [newsFl_at h.inc t ht]
  refine ⟨v, ob, hf.keep hg.size (fun _ _ => rfl) fun b hb hp' => hk b hb ?_⟩
  rintro rfl
  rw [h.on] at hp'
  injection hp' with hp'
  injection hp' with _ hp'
  exact h1 hp'.symm
theorem newDk_crashed {d : Dk} {n torn : Int} {keep : List Bool} {fn : News} (hinc : fn.Pairwise fun s t => s.2.1 < t.2.1) (h : (fn.map fun t => (t.1, t.2.2)) = crashFiles d.fl keep torn 0 (d.crashDir n)) : d.Crashed (newDk d.room fn) n keep torn := by
  refine ⟨rfl, ?_, rfl, rfl, rfl, rfl, rfl, rfl⟩
  rw [← h]
  show ((News.dir fn).map fun p => (p.1, newsFl fn p.2)) = _
  rw [News.dir, List.map_map, List.map_map]
  apply List.map_congr_left
  intro t ht
  show (t.1, newsFl fn t.2.1) = (t.1, _)
  rw [newsFl_at hinc t ht]
end Go.Proofs.YtcmlchicpmnhdaaGreatDoor.Disk
