/-
  Texts one behind the other: ScanLostMath, ScanChain, SegMath, ScanGood.
-/
import Derived.Test.YtkdnfikaodkhnaaDoorG09
import Derived.Test.YtkdnfikaodkhnaaDoorG10
import Derived.Test.YtkdnfikaodkhnaaDoorG23
/-
  Plain facts: what stands in a text of records one behind the other of which one was spoilt.
-/
namespace Go.Proofs.YtkdnfikaodkhnaaDoor.Rec
open Go.RowKit
set_option linter.unusedVariables false
set_option linter.unusedSimpArgs false

/-- The bytes of records one behind the other. -/
def cat (g : List Rc) : List UInt8 := g.flatMap enc
theorem cat_cons (x : Rc) (g : List Rc) : cat (x :: g) = enc x ++ cat g := rfl
theorem cat_append (a b : List Rc) : cat (a ++ b) = cat a ++ cat b := by unfold cat; rw [List.flatMap_append]
theorem cat_snoc (a : List Rc) (x : Rc) : cat (a ++ [x]) = cat a ++ enc x := by rw [cat_append, cat_cons]; simp [cat]
/-- Where they stand, from a place on. -/
def places : Nat → List Rc → List (Nat × Rc)
  | _, [] => []
  | p, x :: g => (p, x) :: places (p + (enc x).length) g
theorem places_length (g : List Rc) : ∀ p, (places p g).length = g.length := by
  induction g with
  | nil => intro p; rfl
  | cons x g ih => intro p; show _ + 1 = _ + 1; rw [ih]
theorem places_get (g : List Rc) : ∀ p i x, g[i]? = some x → (places p g)[i]? = some (p + (cat (g.take i)).length, x) := by
  induction g with
  | nil => intro p i x h; simp at h
  | cons y g ih =>
    intro p i x h
    cases i with
    | zero =>
      have e : y = x := by simpa using h
      subst e
      show some (p, y) = _
      rw [List.take_zero]
      rfl
    | succ i =>
      have h' : g[i]? = some x := by simpa using h
      show (places (p + (enc y).length) g)[i]? = _
      rw [ih _ i x h', List.take_succ_cons, cat_cons, List.length_append, Nat.add_assoc]
def AllGood (g : List Rc) : Prop := ∀ x ∈ g, x.May ∧ x.Fits
theorem drop_len (P R : List UInt8) : (P ++ R).drop P.length = R := List.drop_left
theorem front_cat (g : List Rc) : ∀ (P R : List UInt8), AllGood g → (∀ x n, dec R ≠ .ok x n) → frontFrom P.length (P ++ (cat g ++ R)) = places P.length g ∧ endOf P.length (frontFrom P.length (P ++ (cat g ++ R))) = P.length + (cat g).length := by
  induction g with
  | nil =>
    intro P R _ hR
    have hno : ∀ x n, dec ((P ++ (cat [] ++ R)).drop P.length) ≠ .ok x n := by
      rw [drop_len]
      exact hR
    rw [frontFrom_no hno]
    exact ⟨rfl, rfl⟩
  | cons x g ih =>
    intro P R hg hR
    obtain ⟨hm, hf⟩ := hg x (by simp)
    have hel := enc_length x hm
    have e : P ++ (cat (x :: g) ++ R) = P ++ (enc x ++ (cat g ++ R)) := by rw [cat_cons, List.append_assoc]
    have hd : dec ((P ++ (cat (x :: g) ++ R)).drop P.length) = .ok x (39 + x.body.length) := by
      rw [e]
      exact dec_behind P (cat g ++ R) x hm hf rfl
    have e2 : P ++ (cat (x :: g) ++ R) = (P ++ enc x) ++ (cat g ++ R) := by rw [e, List.append_assoc]
    have hl : P.length + (39 + x.body.length) = (P ++ enc x).length := by rw [List.length_append, hel]
    obtain ⟨i1, i2⟩ := ih (P ++ enc x) R (fun y hy => hg y (List.mem_cons_of_mem _ hy)) hR
    rw [front_end hd, frontFrom_ok hd, hl, e2, i1]
    rw [i1] at i2
    refine ⟨?_, ?_⟩
    · show _ = (P.length, x) :: places (P.length + (enc x).length) g
      rw [List.length_append]
    · rw [i2, cat_cons, List.length_append, List.length_append, Nat.add_assoc]
theorem all_cat (g : List Rc) : ∀ (P R : List UInt8), AllGood g → allFrom P.length (P ++ (cat g ++ R)) = places P.length g ++ allFrom (P.length + (cat g).length) (P ++ (cat g ++ R)) := by
  induction g with
  | nil => intro P R _; rfl
  | cons x g ih =>
    intro P R hg
    obtain ⟨hm, hf⟩ := hg x (by simp)
    have hel := enc_length x hm
    have e : P ++ (cat (x :: g) ++ R) = P ++ (enc x ++ (cat g ++ R)) := by rw [cat_cons, List.append_assoc]
    have hd : dec ((P ++ (cat (x :: g) ++ R)).drop P.length) = .ok x (39 + x.body.length) := by
      rw [e]
      exact dec_behind P (cat g ++ R) x hm hf rfl
    have e2 : P ++ (cat (x :: g) ++ R) = (P ++ enc x) ++ (cat g ++ R) := by rw [e, List.append_assoc]
    have hl : P.length + (39 + x.body.length) = (P ++ enc x).length := by rw [List.length_append, hel]
    have hlt : P.length < (P ++ (cat (x :: g) ++ R)).length := by rw [e2, List.length_append, ← hl]; omega
    rw [allFrom_ok hlt hd, hl, e2, ih (P ++ enc x) R (fun y hy => hg y (List.mem_cons_of_mem _ hy))]
    show _ = ((P.length, x) :: places (P.length + (enc x).length) g) ++ _
    rw [cat_cons, List.length_append, List.length_append, Nat.add_assoc]
    rfl
/-- Places at which none stands are passed over. -/
theorem all_skip (bs : List UInt8) : ∀ (f a : Nat), a + f ≤ bs.length → (∀ p, a ≤ p → p < a + f → ∀ x n, dec (bs.drop p) ≠ .ok x n) → allFrom a bs = allFrom (a + f) bs := by
  intro f
  induction f with
  | zero => intro a _ _; rfl
  | succ f ih =>
    intro a hl h
    rw [allFrom_no (by omega) (h a (Nat.le_refl _) (by omega)), ih (a + 1) (by omega) (fun p h1 h2 => h p (by omega) (by omega)), show a + 1 + f = a + (f + 1) by omega]
/-- What follows a whole record changes nothing. -/
theorem dec_more (p q : List UInt8) (h39 : 39 ≤ p.length) (hl : 39 + lenOf p ≤ p.length) : dec (p ++ q) = dec p := by
  have e1 : Front (p ++ q) ↔ Front p := by
    unfold Front
    rw [getD_front p q 0 (by omega), getD_front p q 1 (by omega), getD_front p q 2 (by omega), List.length_append]
    exact ⟨fun h => ⟨fun _ => h.1 (by omega), fun _ => h.2.1 (by omega), fun _ => h.2.2 (by omega)⟩, fun h => ⟨fun _ => h.1 (by omega), fun _ => h.2.1 (by omega), fun _ => h.2.2 (by omega)⟩⟩
  have e2 : headOf (p ++ q) = headOf p := by
    unfold headOf
    rw [part_front p q 3 7 (by omega), part_front p q 7 15 (by omega), part_front p q 15 23 (by omega), part_front p q 23 31 (by omega), getD_front p q 2 (by omega)]
  have e3 : lenOf (p ++ q) = lenOf p := by
    unfold lenOf
    rw [part_front p q 31 35 (by omega)]
  have e4 : sumRight (p ++ q) ↔ sumRight p := by
    unfold sumRight
    rw [e3, part_front p q 39 _ hl, part_front p q 35 39 (by omega), List.take_append_of_le_length (by omega)]
  unfold dec
  rw [e2, e3, part_front p q 39 _ hl, List.length_append]
  have c1 : (p.length + q.length < 39) ↔ (p.length < 39) := ⟨fun h => by omega, fun h => by omega⟩
  have c2 : (p.length + q.length < 39 + lenOf p) ↔ (p.length < 39 + lenOf p) := ⟨fun h => by omega, fun h => by omega⟩
  simp only [e1, e4, c1, c2]
theorem len_spoilt (x : Rc) (k : Nat) (c : UInt8) (h : x.May) (hn : ¬ (31 ≤ k ∧ k < 35)) : lenOf (x.bytes.set k c) = x.body.length := by
  have := p_len x [] h
  rw [List.append_nil] at this
  rw [← this]
  unfold lenOf
  by_cases h31 : k < 31
  · rw [part_set, if_pos h31]
  · rw [part_set_beyond _ _ _ _ _ (by omega) (by omega)]
/-- A record of which one byte was changed, with anything behind it, is none. -/
theorem dec_lost (y : Rc) (k : Nat) (z : UInt8) (q : List UInt8) (hy : y.May) (hf : y.Fits) (hk : k < (enc y).length) (hz : z ≠ 0) (hn : ¬ (31 ≤ k ∧ k < 35)) : ∀ x n, dec ((enc y).set k ((enc y).getD k 0 ^^^ z) ++ q) ≠ .ok x n := by
  intro x n h
  rw [enc_length y hy] at hk
  rw [enc_may hy] at h
  have hl : (y.bytes.set k (y.bytes.getD k 0 ^^^ z)).length = 39 + y.body.length := by rw [List.length_set, y.bytes_length]
  rw [dec_more _ _ (by rw [hl]; omega) (by rw [hl, len_spoilt y k _ hy hn]; exact Nat.le_refl _), dec_spoilt y k _ hy hf hk (xor_ne _ _ hz) hn] at h
  cases h
/-- No two letters that begin a record stand at a place. -/
def Plain (bs : List UInt8) (p : Nat) : Prop := ¬ (bs.getD p 0 = 83 ∧ p + 1 < bs.length ∧ bs.getD (p + 1) 0 = 82)
theorem dec_plain (bs : List UInt8) (p : Nat) (hp : p < bs.length) (h : Plain bs p) : ∀ x n, dec (bs.drop p) ≠ .ok x n := by
  have hl : (bs.drop p).length = bs.length - p := List.length_drop
  have g0 : (bs.drop p).getD 0 0 = bs.getD p 0 := by rw [List.getD_eq_getElem?_getD, List.getElem?_drop, Nat.add_zero, ← List.getD_eq_getElem?_getD]
  have g1 : (bs.drop p).getD 1 0 = bs.getD (p + 1) 0 := by rw [List.getD_eq_getElem?_getD, List.getElem?_drop, ← List.getD_eq_getElem?_getD]
  by_cases h0 : bs.getD p 0 = 83
  · by_cases h1 : p + 1 < bs.length
    · exact dec_head2 (by omega) (by rw [g1]; exact fun e => h ⟨h0, h1, e⟩)
    · exact dec_short (by omega)
  · exact dec_head (by omega) (by rw [g0]; exact h0)
/-- The text of which one record was spoilt: what stands at its front, and what stands in it. -/
theorem lost_stands (a d : List Rc) (y : Rc) (k : Nat) (z : UInt8) (ha : AllGood a) (hd : AllGood d) (hy : y.May) (hf : y.Fits) (hk : k < (enc y).length) (hz : z ≠ 0) (hn : ¬ (31 ≤ k ∧ k < 35)) (B : List UInt8)
    (hB : B = cat a ++ ((enc y).set k ((enc y).getD k 0 ^^^ z) ++ cat d)) (hp : ∀ p, (cat a).length + 1 ≤ p → p < (cat a).length + (enc y).length → Plain B p) :
    frontFrom 0 B = places 0 a ∧ endOf 0 (frontFrom 0 B) = (cat a).length ∧ allFrom 0 B = places 0 a ++ places ((cat a).length + (enc y).length) d := by
  have hno := dec_lost y k z (cat d) hy hf hk hz hn
  have hlen : ((enc y).set k ((enc y).getD k 0 ^^^ z)).length = (enc y).length := List.length_set
  obtain ⟨Y, hY⟩ : ∃ Y, Y = (enc y).set k ((enc y).getD k 0 ^^^ z) := ⟨_, rfl⟩
  rw [← hY] at hB hno hlen
  have hf0 := front_cat a [] (Y ++ cat d) ha hno
  have ha0 := all_cat a [] (Y ++ cat d) ha
  simp only [List.nil_append, List.length_nil, Nat.zero_add, ← hB] at hf0 ha0
  refine ⟨hf0.1, hf0.2, ?_⟩
  rw [ha0]
  congr 1
  have hBl : B.length = (cat a).length + (enc y).length + (cat d).length := by rw [hB, List.length_append, List.length_append, hlen]; omega
  have hs := all_skip B (enc y).length (cat a).length (by omega) (fun p h1 h2 => by
    rcases Nat.lt_or_ge (cat a).length p with h | h
    · exact dec_plain B p (by omega) (hp p h h2)
    · obtain rfl : p = (cat a).length := by omega
      rw [hB, drop_len]
      exact hno)
  rw [hs]
  have hc := all_cat d (cat a ++ Y) [] hd
  rw [List.append_nil, List.append_assoc, ← hB, List.length_append, hlen] at hc
  rw [hc, allFrom_end _ _ (by omega), List.append_nil]
end Go.Proofs.YtkdnfikaodkhnaaDoor.Rec
/-
  Plain facts: what All finds are whole records, each behind the one ahead of it.
-/
namespace Go.Proofs.YtkdnfikaodkhnaaDoor.Rec
open Go.RowKit
set_option linter.unusedVariables false
set_option linter.unusedSimpArgs false

/-- Whole records of a text, each from a place on behind the one ahead of it. -/
def Chain (bs : List UInt8) : Nat → List (Nat × Rc) → Prop
  | _, [] => True
  | p, q :: l => p ≤ q.1 ∧ dec (bs.drop q.1) = .ok q.2 (39 + q.2.body.length) ∧ Chain bs (q.1 + (39 + q.2.body.length)) l
theorem Chain.from {bs : List UInt8} {p r : Nat} {l : List (Nat × Rc)} (h : Chain bs p l) (hr : r ≤ p) : Chain bs r l := by
  cases l with
  | nil => trivial
  | cons q l => exact ⟨Nat.le_trans hr h.1, h.2⟩
theorem all_chain (bs : List UInt8) : ∀ (f p : Nat), Chain bs p (allF f p bs) := by
  intro f
  induction f with
  | zero => intro p; trivial
  | succ f ih =>
    intro p
    rw [allF]
    split
    · trivial
    · cases hd : dec (bs.drop p) with
      | ok x n =>
        have hn := (dec_ok hd).1
        subst hn
        exact ⟨Nat.le_refl _, hd, ih _⟩
      | more => exact (ih (p + 1)).from (Nat.le_succ _)
      | bad => exact (ih (p + 1)).from (Nat.le_succ _)
/-- One record out of a chain. -/
theorem chain_one {bs : List UInt8} {e : Nat} {L : List (Nat × Rc)} {p : Nat} {q : Nat × Rc} (h : Chain bs e (L.drop p)) (hq : L[p]? = some q) :
    e ≤ q.1 ∧ q.1 + (39 + q.2.body.length) ≤ bs.length ∧ q.2.May ∧ q.2.Fits ∧ enc q.2 = (bs.drop q.1).take (39 + q.2.body.length) ∧ Chain bs (q.1 + (39 + q.2.body.length)) (L.drop (p + 1)) := by
  obtain ⟨hp, e'⟩ := List.getElem?_eq_some_iff.1 hq
  rw [List.drop_eq_getElem_cons hp, e'] at h
  obtain ⟨h1, h2, h3⟩ := h
  obtain ⟨_, k2, k3, k4, k5⟩ := dec_ok h2
  rw [List.length_drop] at k2
  exact ⟨h1, by omega, k3, k4, by rw [enc_may k3, k5], h3⟩
end Go.Proofs.YtkdnfikaodkhnaaDoor.Rec
/-
  Plain facts: the names of segments' files; which of a text's records are one tenant's.
-/
namespace Go.Proofs.YtkdnfikaodkhnaaDoor.Seg
open Go.RowKit Go.Proofs.YtkdnfikaodkhnaaDoor.Rec Go.Proofs.YtkdnfikaodkhnaaDoor.Disk
set_option linter.unusedVariables false
set_option linter.unusedSimpArgs false

/-- A number's digits. -/
def digitsF : Nat → Nat → List UInt8
  | 0, _ => []
  | f + 1, n => if n < 10 then [UInt8.ofNat (48 + n)] else digitsF f (n / 10) ++ [UInt8.ofNat (48 + n % 10)]
theorem digitsF_enough : ∀ (f g n : Nat), n < f → n < g → digitsF f n = digitsF g n := by
  intro f
  induction f with
  | zero => intro g n h; omega
  | succ f ih =>
    intro g n h1 h2
    cases g with
    | zero => omega
    | succ g =>
      rw [digitsF, digitsF]
      by_cases h : n < 10
      · rw [if_pos h, if_pos h]
      · rw [if_neg h, if_neg h, ih g (n / 10) (by omega) (by omega)]
def digits (n : Nat) : List UInt8 := digitsF (n + 1) n
theorem digits_low {n : Nat} (h : n < 10) : digits n = [UInt8.ofNat (48 + n)] := by unfold digits; rw [digitsF, if_pos h]
theorem digits_high {n : Nat} (h : ¬ n < 10) : digits n = digits (n / 10) ++ [UInt8.ofNat (48 + n % 10)] := by
  unfold digits
  rw [digitsF, if_neg h, digitsF_enough n (n / 10 + 1) (n / 10) (by omega) (by omega)]
theorem digits_all (n : Nat) : ∀ c ∈ digits n, 48 ≤ c.toNat ∧ c.toNat ≤ 57 := by
  induction n using Nat.strongRecOn with
  | _ n ih =>
    intro c hc
    by_cases h : n < 10
    · rw [digits_low h] at hc
      obtain rfl := List.mem_singleton.1 hc
      rw [UInt8.toNat_ofNat']
      omega
    · rw [digits_high h] at hc
      rcases List.mem_append.1 hc with hc | hc
      · exact ih (n / 10) (by omega) c hc
      · obtain rfl := List.mem_singleton.1 hc
        rw [UInt8.toNat_ofNat']
        omega
theorem digits_length (k : Nat) : ∀ n, n < 10 ^ (k + 1) → (digits n).length ≤ k + 1 := by
  induction k with
  | zero => intro n h; rw [digits_low (by simpa using h)]; exact Nat.le_refl _
  | succ k ih =>
    intro n h
    by_cases h1 : n < 10
    · rw [digits_low h1]; simp
    · rw [digits_high h1, List.length_append]
      have := ih (n / 10) (by rw [Nat.pow_succ] at h; omega)
      simp
      exact this
theorem digits_pos (n : Nat) : 0 < (digits n).length := by
  by_cases h : n < 10
  · rw [digits_low h]; simp
  · rw [digits_high h]; simp
/-- The name of a segment's file, as bytes. -/
def segName (id num : Nat) : List UInt8 := [116] ++ digits id ++ [46] ++ digits num
theorem segName_length {id num : Nat} (h1 : id < 4294967296) (h2 : num ≤ 1099511627776) : (segName id num).length ≤ 25 := by
  have a := digits_length 9 id (by omega)
  have b := digits_length 12 num (by omega)
  unfold segName
  simp only [List.length_append, List.length_cons, List.length_nil]
  omega
theorem segName_good {id num : Nat} (h1 : id < 4294967296) (h2 : num ≤ 1099511627776) : goodName (segName id num) = true := by
  have hl := segName_length h1 h2
  have hp : 0 < (segName id num).length := by simp [segName]
  have hd : ∀ n, ∀ c ∈ digits n, nameByte c = true := fun n c hc => by
    have := digits_all n c hc
    unfold nameByte
    simp only [Bool.or_eq_true, Bool.and_eq_true, decide_eq_true_eq]
    omega
  unfold goodName
  rw [decide_eq_true hp, decide_eq_true (show (segName id num).length ≤ 32 by omega), Bool.true_and, Bool.true_and, List.all_eq_true]
  intro c hc
  unfold segName at hc
  simp only [List.mem_append, List.mem_singleton] at hc
  rcases hc with ((rfl | hc) | rfl) | hc
  · decide
  · exact hd id c hc
  · decide
  · exact hd num c hc
/-! Which records of a text are one tenant's. -/
/-- The first ones, up to the first of another tenant. -/
def ownOf (id : Nat) (l : List (Nat × Rc)) : List (Nat × Rc) := l.takeWhile fun q => decide (q.2.tenant = id)
theorem ownOf_all {id : Nat} {l : List (Nat × Rc)} (h : ∀ q ∈ l, q.2.tenant = id) : ownOf id l = l := by
  unfold ownOf
  induction l with
  | nil => rfl
  | cons q l ih => rw [List.takeWhile_cons, if_pos (decide_eq_true (h q (by simp))), ih (fun p hp => h p (by simp [hp]))]
theorem ownOf_cons_yes {id : Nat} {q : Nat × Rc} {l : List (Nat × Rc)} (h : q.2.tenant = id) : ownOf id (q :: l) = q :: ownOf id l := by
  unfold ownOf
  rw [List.takeWhile_cons, if_pos (decide_eq_true h)]
theorem ownOf_cons_no {id : Nat} {q : Nat × Rc} {l : List (Nat × Rc)} (h : q.2.tenant ≠ id) : ownOf id (q :: l) = [] := by
  unfold ownOf
  rw [List.takeWhile_cons, if_neg (by simpa using h)]
theorem ownOf_le (id : Nat) (l : List (Nat × Rc)) : (ownOf id l).length ≤ l.length := by
  unfold ownOf
  induction l with
  | nil => exact Nat.le_refl _
  | cons q l ih =>
    rw [List.takeWhile_cons]
    split
    · rw [List.length_cons, List.length_cons]; omega
    · exact Nat.zero_le _
/-- A text of records one behind the other, all of them whole and one tenant's. -/
theorem places_tenant {id : Nat} {g : List Rc} (h : ∀ x ∈ g, x.tenant = id) : ∀ p, ∀ q ∈ places p g, q.2.tenant = id := by
  induction g with
  | nil => intro p q hq; simp [places] at hq
  | cons x g ih =>
    intro p q hq
    rcases List.mem_cons.1 (show q ∈ (p, x) :: places (p + (enc x).length) g from hq) with rfl | hq
    · exact h x (by simp)
    · exact ih (fun y hy => h y (by simp [hy])) _ q hq
theorem front_whole {g : List Rc} (hg : AllGood g) : frontFrom 0 (cat g) = places 0 g ∧ endOf 0 (frontFrom 0 (cat g)) = (cat g).length := by
  have h := front_cat g [] [] hg (fun x n h => by rw [dec_nil] at h; cases h)
  simp only [List.nil_append, List.append_nil, List.length_nil, Nat.zero_add] at h
  exact h
/-- A record stands at its place, and none a byte behind it. -/
theorem dec_place {g : List Rc} (hg : AllGood g) {i : Nat} {x : Rc} (h : g[i]? = some x) : dec ((cat g).drop (cat (g.take i)).length) = .ok x (39 + x.body.length) := by
  obtain ⟨hi, e⟩ := List.getElem?_eq_some_iff.1 h
  have hs : cat g = cat (g.take i) ++ (enc x ++ cat (g.drop (i + 1))) := by
    conv => lhs; rw [← List.take_append_drop i g, List.drop_eq_getElem_cons hi, e, cat_append, cat_cons]
  obtain ⟨hm, hf⟩ := hg x (List.mem_of_getElem? h)
  rw [hs]
  exact dec_behind _ _ x hm hf rfl
theorem dec_beside {g : List Rc} (hg : AllGood g) {i : Nat} {x : Rc} (h : g[i]? = some x) : ∀ y n, dec ((cat g).drop ((cat (g.take i)).length + 1)) ≠ .ok y n := by
  obtain ⟨hi, e⟩ := List.getElem?_eq_some_iff.1 h
  have hs : cat g = cat (g.take i) ++ (enc x ++ cat (g.drop (i + 1))) := by
    conv => lhs; rw [← List.take_append_drop i g, List.drop_eq_getElem_cons hi, e, cat_append, cat_cons]
  obtain ⟨hm, hf⟩ := hg x (List.mem_of_getElem? h)
  have hl := enc_length x hm
  rw [hs, ← List.drop_drop, drop_len]
  have e1 : ∃ r, enc x = 83 :: 82 :: r := by
    rw [enc_may hm]
    exact ⟨_, rfl⟩
  obtain ⟨r, hr⟩ := e1
  rw [hr]
  exact dec_head (by simp) (by simp)
end Go.Proofs.YtkdnfikaodkhnaaDoor.Seg
/-
  Proved: what Good of law 6 returns: records that may be, none too long, not too many.
  Conditions: the slice reads as records.
-/
namespace Go.Proofs.YtkdnfikaodkhnaaDoor.Rec
open Go.RowKit
set_option linter.unusedVariables false
set_option linter.unusedSimpArgs false

/-- Records so far: a row of the call's own. -/
structure Rs (w0 w : World) (v : Value) (l : List Rc) : Prop where
  row : w.ownsRow w0.heap.size 33 6 v l.length (rflat l)
  below : Below w0.heap.size w0 w
theorem Rs.nil (w : World) : Rs w w (.slice none 0 0) [] := ⟨World.ownsRow_nil _ _ _ _, Below.refl _ _⟩
theorem Rs.all {w0 w w' : World} {v : Value} {l : List Rc} (h : Rs w0 w v l) (hb : Below w.heap.size w w') : Rs w0 w' v l :=
  ⟨h.row.kept (row := none) ⟨hb.os, hb.tape, hb.output, hb.size, fun i hi _ => hb.block i hi⟩ (Classical.em _), h.below.trans (hb.mono h.below.size)⟩
theorem rec_zero : (Tryd.prog.info? 33).map (fun i => (i.zero, i.size, i.bytes)) = some (some (.agg #[.int .i64 0, .int .u32 0, .int .u64 0, .int .u64 0, .int .u64 0, .string ⟨#[]⟩]), 6, 56) := by kernel_rfl
theorem slice_rec (x : Rc) : Tryd.prog.builtSlice 33 1 [(0, .agg x.vals)] = some x.vals := by kernel_rfl
theorem rec_cells1 (w : World) (t : TypeId) (fr : Nat × Nat) (x : Rc) : ∀ j u, x.vals.toList[j]? = some u → (w.alloc (.cells x.vals t fr)).cell? ⟨w.heap.size, j, none⟩ = some u := by
  intro j u hu
  rw [cell_of_row _ w.heap.size j x.vals t fr (heap_alloc_new w _), ← Array.getElem?_toList]
  exact hu
section
variable {w0 w : World} {v : Value} {l : List Rc} {ops : Array Oper} {rest : List Oper} {o : Oper} {a : Act} {Q : Exit → Act → World → Prop}
theorem rs_append (h : Rs w0 w v l) (hgd : o.guard = none) (s y : Operand) (ho : o.op = .call { callee := .builtin .append, args := #[s, y], argTypes := #[23, 23] }) (hs : a.eval s = v)
    (g c : Nat) (x : Rc) (hy : a.eval y = .slice (some ⟨g, 0, none⟩) 1 c) (hq : ∀ j u, x.vals.toList[j]? = some u → w.cell? ⟨g, j, none⟩ = some u) (hl : l.length ≤ 1000000)
    (k : ∀ v' w', Hid (Rs w0 w' v' (l ++ [x])) → wpList Tryd.prog ops Q rest (a.put o.dst v') w') : wpList Tryd.prog ops Q (o :: rest) a w := by
  obtain ⟨i, hii, hzz⟩ := Option.map_eq_some_iff.1 rec_zero
  simp only [Prod.mk.injEq] at hzz
  obtain ⟨hz0, hs1, hb1⟩ := hzz
  refine wpList_append_own (w := w) hgd s y 23 ho w0.heap.size 33 i _ 6 56 Tryd.underlying23 hii hz0 hs1 hb1 rfl (by decide) v l.length (rflat l) hs h.row ⟨g, 0, none⟩ 1 c x.vals.toList hy (rcells_length x) ?_ (rcells_one x) (by unfold maxLen; omega) ?_ h.below.size ?_
  · intro j u hu
    have := hq j u hu
    rw [Addr.add_lit, Nat.zero_add]
    exact this
  · omega
  · intro v' w' h1 h2 _
    refine k v' w' ⟨?_, own_below h.row h.below (Nat.le_refl _) h.below.size h2⟩
    rw [rflat_snoc] at h1
    rw [List.length_append]
    exact h1
theorem build_oneRec (hg : o.guard = none) (y : Operand) (ho : o.op = .buildSlice 23 1 #[(0, y)]) (d : Option Tmp) (hd : o.dst = d) (x : Rc) (hy : a.eval y = .agg x.vals)
    (k : wpList Tryd.prog ops Q rest (a.put d (.slice (some ⟨w.heap.size, 0, none⟩) 1 1)) (w.alloc (.cells x.vals 33))) : wpList Tryd.prog ops Q (o :: rest) a w :=
  build_one hg 23 33 y ho d hd Tryd.underlying23 (.agg x.vals) hy x.vals (slice_rec x) k
end
/-- Records that Good hands on. -/
def Rc.Good (x : Rc) : Prop := x.May ∧ x.Fits ∧ x.body.length ≤ 200
theorem rs_store {w0 w w' : World} {t : TypeId} {v : Value} {l : List Rc} {cs : Array Value} (h : Rs w0 w v l) (hg : (w.alloc (.cells cs t)).grownBy w' (some w.heap.size)) : Hid (Rs w0 w' v l) := by
  have hb : Below w.heap.size w w' := below_only (below_alloc w (.cells cs t)) hg (Nat.le_refl _) (by simp)
  exact h.all hb
set_option maxRecDepth 100000 in
set_option maxHeartbeats 8000000 in
theorem good_any (A : Option Addr) (n c m : Nat) (l : List Rc) (w : World) (hR : Row w w.heap.size A (n * 6) (rflat l)) (hl : l.length = n) (hok : ∀ x ∈ l, x.Ok) (hnc : n ≤ c) (hc : c ≤ maxLen) (hm : m ≤ 100) :
    Calls Tryd.prog 34 #[.slice A n c, .int .i64 (m : Int)] w fun e w' => ∃ v, e = .returned v ∧ ∃ g, Rs w w' v g ∧ g.length ≤ m ∧ ∀ x ∈ g, x.Good := by
  have hcm : c ≤ 9223372036854775807 := by unfold maxLen at hc; exact hc
  have HR := Lib.hid hR
  have HL := Lib.hid hl
  have HOK := Lib.hid hok
  have hz := zeroRec
  clear hR hc hl hok
  go_enter Tryd.func34, Tryd.ntmps34
  go_wp2_with fail
  go_loopw [5, 6] (fun v i wr => ∃ (p : Nat) (g : List Rc), i = .int .i64 (p : Int) ∧ p ≤ n ∧ g.length ≤ m ∧ Hid (Rs w wr v g) ∧ Hid (∀ x ∈ g, x.Good)) (fun _ i _ => n - (RowKit.intOf i).toNat)
  case atStart => exact ⟨0, [], rfl, Nat.zero_le _, Nat.zero_le _, Rs.nil w, fun x h => by simp at h⟩
  case round =>
    obtain ⟨p, g, rfl, hp, hgm, HS, HG⟩ := hrel
    obtain ⟨A2, c2, rfl, hgc, hc2, _⟩ := own_row HS.out.row
    by_cases hlt : p < n
    · by_cases hgl : g.length < m
      · obtain ⟨b, o, rfl, hb, _⟩ := HR.out.2 (by omega)
        obtain ⟨x, hx⟩ : ∃ x, l[p]? = some x := ⟨l[p]'(by rw [HL.out]; exact hlt), List.getElem?_eq_getElem _⟩
        have hxok : x.Ok := HOK.out x (List.mem_of_getElem? hx)
        have HIT : Hid (wr.rangeAt b (o + p * 6) x.vals.toList) := rec_item (HR.out.below HS.out.below) p x hx
        have CC := Lib.hid (cut_any x 200 wr hxok.body (by decide))
        obtain ⟨y, hy⟩ : ∃ y, y = x.cut 200 := ⟨_, rfl⟩
        have hyl : y.body.length ≤ 200 := by rw [hy]; exact cut_small x 200
        have hyf : y.Fits := by rw [hy]; exact (hxok.cut 200 (by decide)).fits
        rw [← hy] at CC
        have HYF := Lib.hid hyf
        have CM : Hid (∀ W, Calls Tryd.prog 11 #[.agg y.vals] W fun e w' => e = .returned (.bool y.may) ∧ Below W.heap.size W w') := fun W => refmay_any y W (by unfold maxLen; omega)
        have hgl' : (g.length : Int) < (m : Int) := by omega
        clear hx hxok hy hyf
        go_upto_region 6 with (first
          | (refine load_recM HIT.out rfl (.tmp 22) rfl rfl ?_)
          | (go_at_call 10; refine CC.out.mono ?_; rintro e w2 ⟨rfl, hb2⟩; have HS2 := Lib.hid (HS.out.all hb2); clear hb2)
          | (refine store_recN (zero_new w2) rfl rfl (.tmp 7) (.tmp 24) rfl rfl y rfl rfl ?_; intro w3 X3 G3))
        have HS3 := rs_store HS2.out G3.out
        clear G3
        by_cases hmay : y.May
        · have em := may_true hmay
          have HM := Lib.hid hmay
          clear hmay
          rw [em] at CM
          have h3 := X3.out.lt
          go_upto_region 7 with (first
            | (refine load_rec X3.out rfl (.tmp 7) rfl rfl ?_)
            | (go_at_call 11; refine (CM.out _).mono ?_; rintro e w4 ⟨rfl, hb4⟩; have X4 := Lib.hid (X3.out.below hb4 h3); have HS4 := Lib.hid (HS3.out.all hb4); clear hb4))
          have HS5 := Lib.hid (HS4.out.all (below_alloc w4 (.cells y.vals 33)))
          have HONE := Lib.hid (rec_cells1 w4 33 (0, 0) y)
          have hl6 : g.length ≤ 1000000 := by omega
          go_wp2_with (first
            | (refine load_rec X4.out rfl (.tmp 7) rfl rfl ?_)
            | (refine build_oneRec rfl (.tmp 28) rfl (some 29) rfl y rfl ?_)
            | (at_builtin; refine rs_append HS5.out rfl (.tmp 27) (.tmp 29) rfl rfl w4.heap.size 1 y rfl HONE.out hl6 ?_; intro v6 w6 HS6))
          go_roundw
          case rel =>
            refine ⟨p + 1, g ++ [y], by go_num, by omega, by rw [List.length_append]; show g.length + 1 ≤ m; omega, HS6, fun z hz => ?_⟩
            rcases List.mem_append.1 hz with hz | hz
            · exact HG.out z hz
            · obtain rfl := List.mem_singleton.1 hz
              exact ⟨HM.out, HYF.out, hyl⟩
          case measure => (simp [RowKit.intOf]; omega)
        · have em := may_false hmay
          clear hmay
          rw [em] at CM
          go_wp2_with (first
            | (refine load_rec X3.out rfl (.tmp 7) rfl rfl ?_)
            | (go_at_call 11; refine (CM.out _).mono ?_; rintro e w4 ⟨rfl, hb4⟩; have HS4 := Lib.hid (HS3.out.all hb4); clear hb4))
          go_roundw
          case rel => exact ⟨p + 1, g, by go_num, by omega, hgm, HS4, HG⟩
          case measure => (simp [RowKit.intOf]; omega)
      · have hgl' : ¬ (g.length : Int) < (m : Int) := by omega
        go_wp2_with fail
        go_ret
        exact ⟨_, rfl, g, HS.out, hgm, HG.out⟩
    · obtain rfl : p = n := by omega
      go_wp2_with fail
      go_ret
      exact ⟨_, rfl, g, HS.out, hgm, HG.out⟩
end Go.Proofs.YtkdnfikaodkhnaaDoor.Rec
