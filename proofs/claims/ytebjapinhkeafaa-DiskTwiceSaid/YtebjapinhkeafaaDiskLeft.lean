/-
  Plain facts: what a crash leaves of a disk, as a value; how the disk that a crash lays is under way in memory.
-/
import Derived.Test.YtebjapinhkeafaaDiskCrashed
namespace Go.Proofs.Ytebjapinhkeafaa.Disk
open Go.RowKit Go.Maps
set_option linter.unusedVariables false
set_option linter.unusedSimpArgs false

/-- How many of the first bytes of each of n dirty sectors were written, counted from fst. -/
def partsFor (fst n : Nat) (keep : List Bool) (torn : Int) : List Nat := (List.range n).map fun j => partOf (fst + j) keep torn
theorem partOf_le (i : Nat) (keep : List Bool) (torn : Int) : partOf i keep torn ≤ 64 := by
  unfold partOf
  split
  · omega
  · split <;> omega
theorem partsFor_length (fst n : Nat) (keep : List Bool) (torn : Int) : (partsFor fst n keep torn).length = n := by simp [partsFor]
theorem partsFor_le (fst n : Nat) (keep : List Bool) (torn : Int) (i : Nat) : (partsFor fst n keep torn).getD i 0 ≤ 64 := by
  unfold partsFor
  rw [List.getD_eq_getElem?_getD, List.getElem?_map]
  cases (List.range n)[i]? with
  | none => show 0 ≤ 64; omega
  | some j => exact partOf_le _ _ _
/-- The files that a crash leaves of a directory: names and bytes. -/
def crashFiles (fl : Nat → Fl) (keep : List Bool) (torn : Int) : Nat → Dir → List (Nm × List UInt8)
  | _, [] => []
  | fst, p :: r => (p.1, (fl p.2).crash (partsFor fst (fl p.2).soiled.length keep torn)) :: crashFiles fl keep torn (fst + (fl p.2).soiled.length) r
def Dk.crashDir (d : Dk) (n : Int) : Dir := (d.wait.take (min (max n 0) d.wait.length).toNat).foldl (fun N c => c.on N) d.S
/-- Files by their names. -/
def Dk.files (d : Dk) : List (Nm × Fl) := d.N.map fun p => (p.1, d.fl p.2)
/-- A disk that a crash has left. -/
structure Dk.Crashed (d d' : Dk) (n : Int) (keep : List Bool) (torn : Int) : Prop where
  room : d'.room = d.room
  files : d'.files = (crashFiles d.fl keep torn 0 (d.crashDir n)).map fun p => (p.1, ⟨p.2, p.2, []⟩)
  synced : d'.S = d'.N
  wait : d'.wait = []
  calls : d'.calls = 0
  reads : d'.reads = 0
  failing : d'.failing = false
  others : d'.others = 0
theorem merge_empty {w : World} {k : TypeId} {b n : Nat} {R : Value → Option (DataW Value × List MemPlace)} {D : DataW Value} (h : w.ownsMap Try.prog k R b n D) (K : Keyed Try.prog k) : Lib.mergeD (.map []) D = D := by
  obtain ⟨es, rfl, hr, hk⟩ := h.canonK K
  have hk' : ∀ p ∈ es, WideAt.IsKeyLit p.1 := fun p hp => K.one.key (hk p hp)
  have c0 : CanonK (KeysOf Try.prog k) (.map [] : DataW Value) := ⟨[], rfl, List.Pairwise.nil, fun p hp => by cases hp⟩
  have c1 := canonK_fold K.one es (.map []) hk c0
  have c2 : CanonK (KeysOf Try.prog k) (.map es) := ⟨es, rfl, hr, hk⟩
  refine Maps.ext (c1.canon K.one) (c2.canon K.one) (fun kl => ?_) (fun kl z _ => ?_)
  · have := has_foldPut kl es (.map [] : DataW Value) isMap_empty hk'
    refine Eq.trans this ?_
    show (false || _) = _
    rw [Bool.false_or, has_eq]
  · have := atKey_foldPut kl z es (.map [] : DataW Value) isMap_empty hk' (apart_of_rising hr)
    exact Eq.trans this rfl
theorem dput_here {n : Nm} {g g' : Nat} {pre post : Dir} (h : (pre ++ (n, g) :: post).Pairwise fun p q => bytesBefore p.1 q.1 = true) : dput n g' (pre ++ (n, g) :: post) = pre ++ (n, g') :: post := by
  have hirr : ∀ a : Nm, bytesBefore a a = false := WideAt.bytes_irrefl
  obtain ⟨h1, h2, h3⟩ := List.pairwise_append.1 h
  obtain ⟨h4, h5⟩ := List.pairwise_cons.1 h2
  have e1 : ddel n (pre ++ (n, g) :: post) = pre ++ post := by
    unfold ddel
    rw [List.filter_append, List.filter_cons]
    have e2 : (pre.filter fun p => !(p.1 == n)) = pre := List.filter_eq_self.2 fun p hp => by
      have := h3 p hp (n, g) (by simp)
      cases hx : p.1 == n
      · rfl
      · rw [beq_iff_eq] at hx; rw [hx, hirr] at this; cases this
    have e3 : (post.filter fun p => !(p.1 == n)) = post := List.filter_eq_self.2 fun p hp => by
      have := h4 p hp
      cases hx : p.1 == n
      · rfl
      · rw [beq_iff_eq] at hx; rw [hx, hirr] at this; cases this
    rw [e2, e3]
    simp
  rw [dput, e1]
  clear e1
  induction pre with
  | nil =>
    cases post with
    | nil => rfl
    | cons q r =>
      show (if bytesBefore n q.1 = true then _ else _) = _
      rw [if_pos (h4 q (by simp))]
      rfl
  | cons q r ih =>
    have hq : bytesBefore n q.1 = false := by
      have h6 := h3 q (by simp) (n, g) (by simp)
      cases hx : bytesBefore n q.1
      · rfl
      · have := WideShapes.bytes_trans _ _ _ h6 hx
        rw [hirr] at this; cases this
    show (if bytesBefore n q.1 = true then _ else _) = _
    rw [if_neg (by rw [hq]; simp)]
    have h' := List.pairwise_cons.1 (show ((q :: (r ++ (n, g) :: post)).Pairwise _) from h)
    have h1' := List.pairwise_cons.1 h1
    show q :: dins (n, g') (r ++ post) = q :: (r ++ (n, g') :: post)
    rw [ih h'.2 h1'.2 (fun a ha b hb => h3 a (by simp [ha]) b hb)]
/-- The directory of a disk under way: some files are new, the others as they were. -/
abbrev News := List (Nm × Nat × List UInt8)
def News.dir (fn : News) : Dir := fn.map fun t => (t.1, t.2.1)
structure Left (own own1 : Own) (w wr : World) (f' nb' sb' : Nat) (rm : Int) (fn : News) (rest : Dir) : Prop where
  blk : Blk wr f' 58 #[.int .i64 rm, .map (some nb'), .map (some sb'), .slice none 0 0, .int .i64 0, .int .i64 0, .bool false, .int .i64 0]
  of : own1 f' = some (f', f')
  on : own1 nb' = some (f', f')
  os : own1 sb' = some (f', f')
  ne : nb' ≠ sb'
  fge : w.heap.size ≤ f'
  sge : w.heap.size ≤ sb'
  nge : w.heap.size ≤ nb'
  mapN : wr.ownsMap Try.prog 9 held nb' 0 (dirMap [])
  mapS : wr.ownsMap Try.prog 9 held sb' (fn.length + rest.length) (dirMap (News.dir fn ++ rest))
  files : ∀ t ∈ fn, t.2.1 ≠ f' ∧ t.2.1 < wr.heap.size ∧ FileAt own1 wr f' t.2.1 ⟨t.2.2, t.2.2, []⟩
  inc : fn.Pairwise fun s t => s.2.1 < t.2.1
  below : Below w.heap.size w wr
  same : ∀ b, b < w.heap.size → own1 b = own b
  top : ∀ b p, own1 b = some p → b < wr.heap.size
  new : ∀ b p, w.heap.size ≤ b → own1 b = some p → p.1 = f'
/-- .. while only other blocks turn. -/
theorem Left.keep {own own1 : Own} {w wr w2 : World} {f' nb' sb' : Nat} {rm : Int} {fn : News} {rest : Dir} (h : Left own own1 w wr f' nb' sb' rm fn rest) (hb : Below w.heap.size wr w2) (hk : ∀ b, own1 b ≠ none → w2.heap[b]? = wr.heap[b]?) : Left own own1 w w2 f' nb' sb' rm fn rest where
  blk := (hk f' (by rw [h.of]; simp)).trans h.blk
  of := h.of
  on := h.on
  os := h.os
  ne := h.ne
  fge := h.fge
  sge := h.sge
  nge := h.nge
  mapN := map_keep h.mapN (hk nb' (by rw [h.on]; simp))
  mapS := map_keep h.mapS (hk sb' (by rw [h.os]; simp))
  files := fun t ht => by
    obtain ⟨h1, h2, v, ob, hf⟩ := h.files t ht
    exact ⟨h1, Nat.lt_of_lt_of_le h2 hb.size, v, ob, hf.keep hb.size (fun _ _ => rfl) fun b _ hp => hk b (by rw [hp]; simp)⟩
  inc := h.inc
  below := h.below.trans hb
  same := h.same
  top := fun b p hp => Nat.lt_of_lt_of_le (h.top b p hp) hb.size
  new := h.new
theorem Left.all {own own1 : Own} {w wr w2 : World} {f' nb' sb' : Nat} {rm : Int} {fn : News} {rest : Dir} (h : Left own own1 w wr f' nb' sb' rm fn rest) (hb : Below wr.heap.size wr w2) : Left own own1 w w2 f' nb' sb' rm fn rest :=
  h.keep (hb.mono h.below.size) fun b hne => hb.block b (by
    cases hp : own1 b with
    | none => exact absurd hp hne
    | some p => exact h.top b p hp)
/-- One more file is new. -/
theorem Left.next {own own1 own2 : Own} {w wr w2 w3 : World} {f' nb' sb' g g' m : Nat} {rm : Int} {fn : News} {rest : Dir} {nm : Nm} {bs : List UInt8} (h : Left own own1 w wr f' nb' sb' rm fn ((nm, g) :: rest))
    (hge : wr.heap.size ≤ g') (hf : FileAt own2 w2 f' g' ⟨bs, bs, []⟩) (hb : Below wr.heap.size wr w2) (hs : ∀ b, b < wr.heap.size → own2 b = own1 b) (ht : ∀ b p, own2 b = some p → b < w2.heap.size) (hn : ∀ b p, wr.heap.size ≤ b → own2 b = some p → p.1 = f')
    (hm : w3.ownsMap Try.prog 9 held sb' m ((dirMap (News.dir fn ++ (nm, g) :: rest)).put (.string nm) (.held (fp g')))) (hg : w2.grownBy w3 (some sb')) : Left own own2 w w3 f' nb' sb' rm (fn ++ [(nm, g', bs)]) rest := by
  have hfl := blk_lt' h.blk
  have hnl := h.mapN.lt
  have hsl := h.mapS.lt
  have hbw := h.below.size
  have hob := (hs sb' hsl).trans h.os
  have hk : ∀ b, b < wr.heap.size → b ≠ sb' → w3.heap[b]? = wr.heap[b]? := fun b hbl hne => (hg.block b (Nat.lt_of_lt_of_le hbl hb.size) (fun e => hne (Option.some.inj e))).trans (hb.block b hbl)
  have hfsb : f' ≠ sb' := by
    intro e
    obtain ⟨es, clock, hx, _⟩ := h.mapS
    rw [← e, h.blk] at hx
    injection hx with hx
    cases hx
  have hap := dir_rising h.mapS
  have hdir : News.dir (fn ++ [(nm, g', bs)]) ++ rest = News.dir fn ++ (nm, g') :: rest := by simp [News.dir]
  refine ⟨(hk f' hfl hfsb).trans h.blk, (hs f' hfl).trans h.of, (hs nb' hnl).trans h.on, hob, h.ne, h.fge, h.sge, h.nge, map_keep h.mapN (hk nb' hnl h.ne), ?_, ?_, ?_, ?_, ?_, ?_, ?_⟩
  · rw [dirMap_put, dput_here hap] at hm
    rw [hdir]
    have := map_tight hm
    rw [dirMap_size] at this
    refine this.mono ?_
    simp [News.dir]
    omega
  · intro t ht'
    rcases List.mem_append.1 ht' with ht' | ht'
    · obtain ⟨h1, h2, v, ob, hfile⟩ := h.files t ht'
      refine ⟨h1, by have := hb.size; have := hg.size; omega, v, ob, hfile.keep (by have := hb.size; have := hg.size; omega) hs fun b hbl hp => hk b hbl ?_⟩
      rintro rfl
      rw [h.os] at hp
      injection hp with hp
      injection hp with _ hp
      exact h1 hp.symm
    · obtain rfl := List.mem_singleton.1 ht'
      obtain ⟨v, ob, hfile⟩ := hf
      refine ⟨by show g' ≠ f'; omega, Nat.lt_of_lt_of_le (blk_lt' hfile.blk) hg.size, v, ob, hfile.keep hg.size (fun _ _ => rfl) fun b hbl hp => hg.block b hbl ?_⟩
      intro e
      have e' : b = sb' := Option.some.inj e
      have hp' : own2 b = some (f', g') := hp
      rw [e', hob] at hp'
      injection hp' with hp'
      injection hp' with _ hp'
      omega
  · rw [List.pairwise_append]
    refine ⟨h.inc, by simp, fun s hs' t ht' => ?_⟩
    obtain rfl := List.mem_singleton.1 ht'
    have := (h.files s hs').2.1
    show s.2.1 < g'
    omega
  · refine h.below.trans ?_
    exact (hb.mono hbw).grown hg (by have := hb.size; omega) (fun k hk => by
      have := Option.some.inj hk
      have := h.sge
      omega)
  · intro b hbl
    exact (hs b (by omega)).trans (h.same b hbl)
  · intro b p hp
    exact Nat.lt_of_lt_of_le (ht b p hp) hg.size
  · intro b p hbl hp
    rcases Nat.lt_or_ge b wr.heap.size with hh | hh
    · exact h.new b p hbl ((hs b hh).symm.trans hp)
    · exact hn b p hh hp
end Go.Proofs.Ytebjapinhkeafaa.Disk
