/-
  Plain facts: what stands in a text of records one behind the other of which one was spoilt.
-/
import Derived.Test.YtjpgfdpgjfmnoaaDoorScanArgs
namespace Go.Proofs.YtjpgfdpgjfmnoaaDoor.Rec
open Go.RowKit
set_option linter.unusedVariables false
set_option linter.unusedSimpArgs false

/-- The bytes of records one behind the other. -/
def cat (g : List Rc) : List UInt8 := g.flatMap enc
theorem cat_cons (x : Rc) (g : List Rc) : cat (x :: g) = enc x ++ cat g := rfl
theorem cat_append (a b : List Rc) : cat (a ++ b) = cat a ++ cat b := by unfold cat; rw [List.flatMap_append]
theorem cat_snoc (a : List Rc) (x : Rc) : cat (a ++ [x]) = cat a ++ enc x := by rw [cat_append, cat_cons]; simp [cat]
/-- Where they stand, from a place on. -/
def places : Nat → List Rc → List (Nat × Rc)
  | _, [] => []
  | p, x :: g => (p, x) :: places (p + (enc x).length) g
theorem places_length (g : List Rc) : ∀ p, (places p g).length = g.length := by
  induction g with
  | nil => intro p; rfl
  | cons x g ih => intro p; show _ + 1 = _ + 1; rw [ih]
theorem places_get (g : List Rc) : ∀ p i x, g[i]? = some x → (places p g)[i]? = some (p + (cat (g.take i)).length, x) := by
  induction g with
  | nil => intro p i x h; simp at h
  | cons y g ih =>
    intro p i x h
    cases i with
    | zero =>
      have e : y = x := by simpa using h
      subst e
      show some (p, y) = _
      rw [List.take_zero]
      rfl
    | succ i =>
      have h' : g[i]? = some x := by simpa using h
      show (places (p + (enc y).length) g)[i]? = _
      rw [ih _ i x h', List.take_succ_cons, cat_cons, List.length_append, Nat.add_assoc]
def AllGood (g : List Rc) : Prop := ∀ x ∈ g, x.May ∧ x.Fits
theorem drop_len (P R : List UInt8) : (P ++ R).drop P.length = R := List.drop_left
theorem front_cat (g : List Rc) : ∀ (P R : List UInt8), AllGood g → (∀ x n, dec R ≠ .ok x n) → frontFrom P.length (P ++ (cat g ++ R)) = places P.length g ∧ endOf P.length (frontFrom P.length (P ++ (cat g ++ R))) = P.length + (cat g).length := by
  induction g with
  | nil =>
    intro P R _ hR
    have hno : ∀ x n, dec ((P ++ (cat [] ++ R)).drop P.length) ≠ .ok x n := by
      rw [drop_len]
      exact hR
    rw [frontFrom_no hno]
    exact ⟨rfl, rfl⟩
  | cons x g ih =>
    intro P R hg hR
    obtain ⟨hm, hf⟩ := hg x (by simp)
    have hel := enc_length x hm
    have e : P ++ (cat (x :: g) ++ R) = P ++ (enc x ++ (cat g ++ R)) := by rw [cat_cons, List.append_assoc]
    have hd : dec ((P ++ (cat (x :: g) ++ R)).drop P.length) = .ok x (39 + x.body.length) := by
      rw [e]
      exact dec_behind P (cat g ++ R) x hm hf rfl
    have e2 : P ++ (cat (x :: g) ++ R) = (P ++ enc x) ++ (cat g ++ R) := by rw [e, List.append_assoc]
    have hl : P.length + (39 + x.body.length) = (P ++ enc x).length := by rw [List.length_append, hel]
    obtain ⟨i1, i2⟩ := ih (P ++ enc x) R (fun y hy => hg y (List.mem_cons_of_mem _ hy)) hR
    rw [front_end hd, frontFrom_ok hd, hl, e2, i1]
    rw [i1] at i2
    refine ⟨?_, ?_⟩
    · show _ = (P.length, x) :: places (P.length + (enc x).length) g
      rw [List.length_append]
    · rw [i2, cat_cons, List.length_append, List.length_append, Nat.add_assoc]
theorem all_cat (g : List Rc) : ∀ (P R : List UInt8), AllGood g → allFrom P.length (P ++ (cat g ++ R)) = places P.length g ++ allFrom (P.length + (cat g).length) (P ++ (cat g ++ R)) := by
  induction g with
  | nil => intro P R _; rfl
  | cons x g ih =>
    intro P R hg
    obtain ⟨hm, hf⟩ := hg x (by simp)
    have hel := enc_length x hm
    have e : P ++ (cat (x :: g) ++ R) = P ++ (enc x ++ (cat g ++ R)) := by rw [cat_cons, List.append_assoc]
    have hd : dec ((P ++ (cat (x :: g) ++ R)).drop P.length) = .ok x (39 + x.body.length) := by
      rw [e]
      exact dec_behind P (cat g ++ R) x hm hf rfl
    have e2 : P ++ (cat (x :: g) ++ R) = (P ++ enc x) ++ (cat g ++ R) := by rw [e, List.append_assoc]
    have hl : P.length + (39 + x.body.length) = (P ++ enc x).length := by rw [List.length_append, hel]
    have hlt : P.length < (P ++ (cat (x :: g) ++ R)).length := by rw [e2, List.length_append, ← hl]; omega
    rw [allFrom_ok hlt hd, hl, e2, ih (P ++ enc x) R (fun y hy => hg y (List.mem_cons_of_mem _ hy))]
    show _ = ((P.length, x) :: places (P.length + (enc x).length) g) ++ _
    rw [cat_cons, List.length_append, List.length_append, Nat.add_assoc]
    rfl
/-- Places at which none stands are passed over. -/
theorem all_skip (bs : List UInt8) : ∀ (f a : Nat), a + f ≤ bs.length → (∀ p, a ≤ p → p < a + f → ∀ x n, dec (bs.drop p) ≠ .ok x n) → allFrom a bs = allFrom (a + f) bs := by
  intro f
  induction f with
  | zero => intro a _ _; rfl
  | succ f ih =>
    intro a hl h
    rw [allFrom_no (by omega) (h a (Nat.le_refl _) (by omega)), ih (a + 1) (by omega) (fun p h1 h2 => h p (by omega) (by omega)), show a + 1 + f = a + (f + 1) by omega]
/-- What follows a whole record changes nothing. -/
theorem dec_more (p q : List UInt8) (h39 : 39 ≤ p.length) (hl : 39 + lenOf p ≤ p.length) : dec (p ++ q) = dec p := by
  have e1 : Front (p ++ q) ↔ Front p := by
    unfold Front
    rw [getD_front p q 0 (by omega), getD_front p q 1 (by omega), getD_front p q 2 (by omega), List.length_append]
    exact ⟨fun h => ⟨fun _ => h.1 (by omega), fun _ => h.2.1 (by omega), fun _ => h.2.2 (by omega)⟩, fun h => ⟨fun _ => h.1 (by omega), fun _ => h.2.1 (by omega), fun _ => h.2.2 (by omega)⟩⟩
  have e2 : headOf (p ++ q) = headOf p := by
    unfold headOf
    rw [part_front p q 3 7 (by omega), part_front p q 7 15 (by omega), part_front p q 15 23 (by omega), part_front p q 23 31 (by omega), getD_front p q 2 (by omega)]
  have e3 : lenOf (p ++ q) = lenOf p := by
    unfold lenOf
    rw [part_front p q 31 35 (by omega)]
  have e4 : sumRight (p ++ q) ↔ sumRight p := by
    unfold sumRight
    rw [e3, part_front p q 39 _ hl, part_front p q 35 39 (by omega), List.take_append_of_le_length (by omega)]
  unfold dec
  rw [e2, e3, part_front p q 39 _ hl, List.length_append]
  have c1 : (p.length + q.length < 39) ↔ (p.length < 39) := ⟨fun h => by omega, fun h => by omega⟩
  have c2 : (p.length + q.length < 39 + lenOf p) ↔ (p.length < 39 + lenOf p) := ⟨fun h => by omega, fun h => by omega⟩
  simp only [e1, e4, c1, c2]
theorem len_spoilt (x : Rc) (k : Nat) (c : UInt8) (h : x.May) (hn : ¬ (31 ≤ k ∧ k < 35)) : lenOf (x.bytes.set k c) = x.body.length := by
  have := p_len x [] h
  rw [List.append_nil] at this
  rw [← this]
  unfold lenOf
  by_cases h31 : k < 31
  · rw [part_set, if_pos h31]
  · rw [part_set_beyond _ _ _ _ _ (by omega) (by omega)]
/-- A record of which one byte was changed, with anything behind it, is none. -/
theorem dec_lost (y : Rc) (k : Nat) (z : UInt8) (q : List UInt8) (hy : y.May) (hf : y.Fits) (hk : k < (enc y).length) (hz : z ≠ 0) (hn : ¬ (31 ≤ k ∧ k < 35)) : ∀ x n, dec ((enc y).set k ((enc y).getD k 0 ^^^ z) ++ q) ≠ .ok x n := by
  intro x n h
  rw [enc_length y hy] at hk
  rw [enc_may hy] at h
  have hl : (y.bytes.set k (y.bytes.getD k 0 ^^^ z)).length = 39 + y.body.length := by rw [List.length_set, y.bytes_length]
  rw [dec_more _ _ (by rw [hl]; omega) (by rw [hl, len_spoilt y k _ hy hn]; exact Nat.le_refl _), dec_spoilt y k _ hy hf hk (xor_ne _ _ hz) hn] at h
  cases h
/-- No two letters that begin a record stand at a place. -/
def Plain (bs : List UInt8) (p : Nat) : Prop := ¬ (bs.getD p 0 = 83 ∧ p + 1 < bs.length ∧ bs.getD (p + 1) 0 = 82)
theorem dec_plain (bs : List UInt8) (p : Nat) (hp : p < bs.length) (h : Plain bs p) : ∀ x n, dec (bs.drop p) ≠ .ok x n := by
  have hl : (bs.drop p).length = bs.length - p := List.length_drop
  have g0 : (bs.drop p).getD 0 0 = bs.getD p 0 := by rw [List.getD_eq_getElem?_getD, List.getElem?_drop, Nat.add_zero, ← List.getD_eq_getElem?_getD]
  have g1 : (bs.drop p).getD 1 0 = bs.getD (p + 1) 0 := by rw [List.getD_eq_getElem?_getD, List.getElem?_drop, ← List.getD_eq_getElem?_getD]
  by_cases h0 : bs.getD p 0 = 83
  · by_cases h1 : p + 1 < bs.length
    · exact dec_head2 (by omega) (by rw [g1]; exact fun e => h ⟨h0, h1, e⟩)
    · exact dec_short (by omega)
  · exact dec_head (by omega) (by rw [g0]; exact h0)
/-- The text of which one record was spoilt: what stands at its front, and what stands in it. -/
theorem lost_stands (a d : List Rc) (y : Rc) (k : Nat) (z : UInt8) (ha : AllGood a) (hd : AllGood d) (hy : y.May) (hf : y.Fits) (hk : k < (enc y).length) (hz : z ≠ 0) (hn : ¬ (31 ≤ k ∧ k < 35)) (B : List UInt8)
    (hB : B = cat a ++ ((enc y).set k ((enc y).getD k 0 ^^^ z) ++ cat d)) (hp : ∀ p, (cat a).length + 1 ≤ p → p < (cat a).length + (enc y).length → Plain B p) :
    frontFrom 0 B = places 0 a ∧ endOf 0 (frontFrom 0 B) = (cat a).length ∧ allFrom 0 B = places 0 a ++ places ((cat a).length + (enc y).length) d := by
  have hno := dec_lost y k z (cat d) hy hf hk hz hn
  have hlen : ((enc y).set k ((enc y).getD k 0 ^^^ z)).length = (enc y).length := List.length_set
  obtain ⟨Y, hY⟩ : ∃ Y, Y = (enc y).set k ((enc y).getD k 0 ^^^ z) := ⟨_, rfl⟩
  rw [← hY] at hB hno hlen
  have hf0 := front_cat a [] (Y ++ cat d) ha hno
  have ha0 := all_cat a [] (Y ++ cat d) ha
  simp only [List.nil_append, List.length_nil, Nat.zero_add, ← hB] at hf0 ha0
  refine ⟨hf0.1, hf0.2, ?_⟩
  rw [ha0]
  congr 1
  have hBl : B.length = (cat a).length + (enc y).length + (cat d).length := by rw [hB, List.length_append, List.length_append, hlen]; omega
  have hs := all_skip B (enc y).length (cat a).length (by omega) (fun p h1 h2 => by
    rcases Nat.lt_or_ge (cat a).length p with h | h
    · exact dec_plain B p (by omega) (hp p h h2)
    · obtain rfl : p = (cat a).length := by omega
      rw [hB, drop_len]
      exact hno)
  rw [hs]
  have hc := all_cat d (cat a ++ Y) [] hd
  rw [List.append_nil, List.append_assoc, ← hB, List.length_append, hlen] at hc
  rw [hc, allFrom_end _ _ (by omega), List.append_nil]
end Go.Proofs.YtjpgfdpgjfmnoaaDoor.Rec
