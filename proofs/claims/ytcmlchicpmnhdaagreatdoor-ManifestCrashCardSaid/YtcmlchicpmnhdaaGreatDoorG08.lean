/-
  Texts one behind the other: ManMath, TenBlk.
-/
import Derived.Test.YtcmlchicpmnhdaaGreatDoorG02
import Derived.Test.YtcmlchicpmnhdaaGreatDoorG06
import Derived.Test.YtcmlchicpmnhdaaGreatDoorG07
/-
  Plain facts: tenants as bytes, and read back; a tenant put into its place among others.
-/
namespace Go.Proofs.YtcmlchicpmnhdaaGreatDoor.Man
open Go.RowKit Go.Proofs.YtcmlchicpmnhdaaGreatDoor.Rec Go.Proofs.YtcmlchicpmnhdaaGreatDoor.Ten
set_option linter.unusedVariables false
set_option linter.unusedSimpArgs false

def encSegs (l : List Int) : List UInt8 := l.flatMap fun s => be s.toNat 6
def encTe (t : Te) : List UInt8 := be t.id 4 ++ (be t.epoch 6 ++ (be t.quota.toNat 3 ++ (be t.next 6 ++ (be t.nextSeg.toNat 6 ++ (be t.segs.length 1 ++ encSegs t.segs)))))
def encTes (l : List Te) : List UInt8 := l.flatMap encTe
def encAll (l : List Te) : List UInt8 := be l.length 1 ++ encTes l
theorem encSegs_length (l : List Int) : (encSegs l).length = 6 * l.length := by
  induction l with
  | nil => rfl
  | cons a l ih =>
    unfold encSegs at ih ⊢
    rw [List.flatMap_cons, List.length_append, ih, be_length, List.length_cons]
    omega
theorem encTe_length (t : Te) : (encTe t).length = 26 + 6 * t.segs.length := by
  unfold encTe
  simp only [List.length_append, be_length, encSegs_length]
  omega
theorem encTes_length : ∀ (l : List Te) (n : Nat), (∀ t ∈ l, t.segs.length ≤ n) → (encTes l).length ≤ (26 + 6 * n) * l.length
  | [], n, _ => by simp [encTes]
  | t :: l, n, h => by
    have h1 := encTes_length l n (fun u hu => h u (List.mem_cons_of_mem _ hu))
    have h2 := h t (by simp)
    unfold encTes at h1 ⊢
    rw [List.flatMap_cons, List.length_append, encTe_length, List.length_cons, Nat.mul_succ]
    omega
theorem encSegs_snoc (l : List Int) (s : Int) : encSegs (l ++ [s]) = encSegs l ++ be s.toNat 6 := by simp [encSegs]
theorem encTes_snoc (l : List Te) (t : Te) : encTes (l ++ [t]) = encTes l ++ encTe t := by simp [encTes]
/-- What is left to read, and whether a number was to be read that is not all there. -/
structure Rd where
  rest : List UInt8
  short : Bool
def Rd.val (r : Rd) (k : Nat) : Nat := if r.rest.length < k then 0 else beN (r.rest.take k)
def Rd.next (r : Rd) (k : Nat) : Rd := if r.rest.length < k then ⟨r.rest, true⟩ else ⟨r.rest.drop k, r.short⟩
theorem Rd.val_lt (r : Rd) (k : Nat) : r.val k < 256 ^ k := by
  unfold Rd.val
  split
  · exact Nat.pow_pos (by decide)
  · exact beN_lt k _ (by rw [List.length_take]; omega)
def takeSegs : Nat → Rd → List Int × Rd
  | 0, r => ([], r)
  | n + 1, r => ((takeSegs n r).1 ++ [((takeSegs n r).2.val 6 : Int)], (takeSegs n r).2.next 6)
def headTe (r : Rd) : Te := ⟨r.val 4, (r.next 4).val 6, (((r.next 4).next 6).val 3 : Int), (((r.next 4).next 6).next 3).val 6, (((((r.next 4).next 6).next 3).next 6).val 6 : Int), []⟩
def headRd (r : Rd) : Rd := ((((r.next 4).next 6).next 3).next 6).next 6
def takeTe (r : Rd) : Te × Rd := ({ headTe r with segs := (takeSegs ((headRd r).val 1) ((headRd r).next 1)).1 }, (takeSegs ((headRd r).val 1) ((headRd r).next 1)).2)
def takeAll : Nat → Rd → List Te × Rd
  | 0, r => ([], r)
  | n + 1, r => ((takeAll n r).1 ++ [(takeTe (takeAll n r).2).1], (takeTe (takeAll n r).2).2)
instance (t : Te) : Decidable t.May := by
  unfold Te.May Te.nums Te.rises
  exact inferInstance
instance (l : List Te) : Decidable (May l) := by
  unfold May mayUpto
  exact inferInstance
def readAll (b : List UInt8) : List Te × Rd := takeAll ((⟨b, false⟩ : Rd).val 1) ((⟨b, false⟩ : Rd).next 1)
def decAll (b : List UInt8) : Option (List Te) := if (readAll b).2.short = false ∧ (readAll b).2.rest = [] ∧ May (readAll b).1 then some (readAll b).1 else none
/-! What was read is what stood there. -/
theorem next_bytes {r : Rd} {k : Nat} (h : (r.next k).short = false) : r.short = false ∧ r.rest = be (r.val k) k ++ (r.next k).rest := by
  unfold Rd.next at h ⊢
  unfold Rd.val
  by_cases hk : r.rest.length < k
  · rw [if_pos hk] at h; cases h
  · rw [if_neg hk] at h ⊢
    rw [if_neg hk]
    refine ⟨h, ?_⟩
    rw [be_beN k _ (by rw [List.length_take]; omega), List.take_append_drop]
theorem takeSegs_length : ∀ (n : Nat) (r : Rd), (takeSegs n r).1.length = n
  | 0, _ => rfl
  | n + 1, r => by
    show ((takeSegs n r).1 ++ [_]).length = _
    rw [List.length_append, takeSegs_length n r, List.length_singleton]
theorem takeAll_length : ∀ (n : Nat) (r : Rd), (takeAll n r).1.length = n
  | 0, _ => rfl
  | n + 1, r => by
    show ((takeAll n r).1 ++ [_]).length = _
    rw [List.length_append, takeAll_length n r, List.length_singleton]
theorem takeSegs_bytes : ∀ (n : Nat) (r : Rd), (takeSegs n r).2.short = false → r.short = false ∧ r.rest = encSegs (takeSegs n r).1 ++ (takeSegs n r).2.rest
  | 0, r, h => ⟨h, rfl⟩
  | n + 1, r, h => by
    obtain ⟨h1, h2⟩ := next_bytes (show ((takeSegs n r).2.next 6).short = false from h)
    obtain ⟨h3, h4⟩ := takeSegs_bytes n r h1
    refine ⟨h3, ?_⟩
    show r.rest = encSegs ((takeSegs n r).1 ++ [((takeSegs n r).2.val 6 : Int)]) ++ ((takeSegs n r).2.next 6).rest
    rw [encSegs_snoc, List.append_assoc, Int.toNat_natCast, ← h2]
    exact h4
theorem headRd_eq (r : Rd) : headRd r = ((((r.next 4).next 6).next 3).next 6).next 6 := by simp only [headRd]
theorem takeTe_two (r : Rd) : (takeTe r).2 = (takeSegs ((headRd r).val 1) ((headRd r).next 1)).2 := by simp only [takeTe]
theorem takeTe_segs (r : Rd) : (takeTe r).1.segs = (takeSegs ((headRd r).val 1) ((headRd r).next 1)).1 := by simp only [takeTe]
theorem takeTe_enc (r : Rd) : encTe (takeTe r).1 = be (r.val 4) 4 ++ (be ((r.next 4).val 6) 6 ++ (be (((r.next 4).next 6).val 3) 3 ++ (be ((((r.next 4).next 6).next 3).val 6) 6 ++ (be (((((r.next 4).next 6).next 3).next 6).val 6) 6 ++ (be (takeTe r).1.segs.length 1 ++ encSegs (takeTe r).1.segs))))) := by
  unfold encTe takeTe headTe
  simp only [Int.toNat_natCast]
theorem takeTe_bytes (r : Rd) (h : (takeTe r).2.short = false) : r.short = false ∧ r.rest = encTe (takeTe r).1 ++ (takeTe r).2.rest := by
  rw [takeTe_two] at h ⊢
  obtain ⟨a1, a2⟩ := takeSegs_bytes _ _ h
  obtain ⟨b1, b2⟩ := next_bytes a1
  rw [headRd_eq] at b1
  obtain ⟨c1, c2⟩ := next_bytes b1
  obtain ⟨d1, d2⟩ := next_bytes c1
  obtain ⟨e1, e2⟩ := next_bytes d1
  obtain ⟨f1, f2⟩ := next_bytes e1
  obtain ⟨g1, g2⟩ := next_bytes f1
  refine ⟨g1, ?_⟩
  have hl := takeSegs_length ((headRd r).val 1) ((headRd r).next 1)
  rw [takeTe_enc, takeTe_segs, hl]
  have e9 : (((((r.next 4).next 6).next 3).next 6).next 6).rest = be ((headRd r).val 1) 1 ++ (encSegs (takeSegs ((headRd r).val 1) ((headRd r).next 1)).1 ++ (takeSegs ((headRd r).val 1) ((headRd r).next 1)).2.rest) := by
    rw [← a2]
    rw [headRd_eq] at b2 ⊢
    exact b2
  conv => lhs; rw [g2, f2, e2, d2, c2, e9]
  simp only [List.append_assoc]
theorem takeAll_two (n : Nat) (r : Rd) : takeAll (n + 1) r = ((takeAll n r).1 ++ [(takeTe (takeAll n r).2).1], (takeTe (takeAll n r).2).2) := by simp only [takeAll]
theorem takeAll_bytes (n : Nat) (r : Rd) : (takeAll n r).2.short = false → r.short = false ∧ r.rest = encTes (takeAll n r).1 ++ (takeAll n r).2.rest := by
  induction n with
  | zero =>
    intro h
    simp only [takeAll] at h ⊢
    exact ⟨h, by simp [encTes]⟩
  | succ n ih =>
    intro h
    rw [takeAll_two] at h ⊢
    generalize takeAll n r = q at h ih ⊢
    obtain ⟨l, r2⟩ := q
    dsimp only at h ih ⊢
    obtain ⟨h1, h2⟩ := takeTe_bytes r2 h
    obtain ⟨h3, h4⟩ := ih h1
    refine ⟨h3, ?_⟩
    rw [encTes_snoc, List.append_assoc, ← h2]
    exact h4
theorem readAll_bytes {b : List UInt8} (h : (readAll b).2.short = false) (h2 : (readAll b).2.rest = []) : encAll (readAll b).1 = b := by
  obtain ⟨h3, h4⟩ := takeAll_bytes _ _ h
  obtain ⟨_, h6⟩ := next_bytes h3
  unfold encAll
  have hl := takeAll_length ((⟨b, false⟩ : Rd).val 1) ((⟨b, false⟩ : Rd).next 1)
  show be (takeAll _ _).1.length 1 ++ encTes (readAll b).1 = b
  rw [hl]
  have h6' : b = be ((⟨b, false⟩ : Rd).val 1) 1 ++ ((⟨b, false⟩ : Rd).next 1).rest := h6
  conv => rhs; rw [h6', h4]
  have h7 : (takeAll ((⟨b, false⟩ : Rd).val 1) ((⟨b, false⟩ : Rd).next 1)).2.rest = [] := h2
  rw [h7, List.append_nil]
  rfl
theorem decAll_bytes {b : List UInt8} {l : List Te} (h : decAll b = some l) : encAll l = b ∧ May l ∧ l = (readAll b).1 := by
  unfold decAll at h
  split at h
  · rename_i hh
    injection h with h
    subst h
    exact ⟨readAll_bytes hh.1 hh.2.1, hh.2.2, rfl⟩
  · cases h
/-! What was written is read. -/
theorem val_be (n k : Nat) (m : List UInt8) (s : Bool) (hn : n < 256 ^ k) : (⟨be n k ++ m, s⟩ : Rd).val k = n := by
  unfold Rd.val
  have hl := be_length n k
  rw [if_neg (by rw [List.length_append]; omega)]
  show beN ((be n k ++ m).take k) = n
  rw [List.take_append_of_le_length (by omega), List.take_of_length_le (by omega), beN_be n k hn]
theorem next_be (n k : Nat) (m : List UInt8) (s : Bool) : (⟨be n k ++ m, s⟩ : Rd).next k = ⟨m, s⟩ := by
  unfold Rd.next
  have hl := be_length n k
  rw [if_neg (by rw [List.length_append]; omega)]
  show (⟨(be n k ++ m).drop k, s⟩ : Rd) = ⟨m, s⟩
  congr 1
  have := List.drop_left (l₁ := be n k) (l₂ := m)
  rwa [hl] at this
theorem takeSegs_be : ∀ (l : List Int) (m : List UInt8) (s : Bool), (∀ z ∈ l, 0 ≤ z ∧ z < 281474976710656) → takeSegs l.length ⟨encSegs l ++ m, s⟩ = (l, ⟨m, s⟩) := by
  have key : ∀ (l k : List Int) (m : List UInt8) (s : Bool), (∀ z ∈ l, 0 ≤ z ∧ z < 281474976710656) → takeSegs l.length ⟨encSegs (l ++ k) ++ m, s⟩ = (l, ⟨encSegs k ++ m, s⟩) := by
    intro l
    induction h : l.length generalizing l with
    | zero =>
      intro k m s _
      obtain rfl := List.eq_nil_of_length_eq_zero h
      rfl
    | succ n ih =>
      intro k m s hz
      have hne : l ≠ [] := by intro e; rw [e] at h; cases h
      obtain ⟨z, hzl⟩ : ∃ z, l = l.dropLast ++ [z] := ⟨l.getLast hne, (List.dropLast_concat_getLast hne).symm⟩
      have hd : l.dropLast.length = n := by rw [List.length_dropLast, h]; rfl
      generalize hdl : l.dropLast = d at hzl hd
      subst hzl
      have hz1 := hz z (by simp)
      have h1 := ih d hd ([z] ++ k) m s (fun y hy => hz y (List.mem_append_left _ hy))
      rw [← List.append_assoc] at h1
      show ((takeSegs n _).1 ++ [((takeSegs n _).2.val 6 : Int)], (takeSegs n _).2.next 6) = _
      rw [h1]
      have e : encSegs ([z] ++ k) ++ m = be z.toNat 6 ++ (encSegs k ++ m) := by simp [encSegs]
      rw [e, val_be _ _ _ _ (by show _ < 281474976710656; omega), next_be]
      congr 2
      show [(((z.toNat : Nat)) : Int)] = [z]
      rw [Int.toNat_of_nonneg hz1.1]
  intro l m s hz
  have := key l [] m s hz
  rw [List.append_nil] at this
  exact this
structure Te.Fits (t : Te) : Prop where
  id : t.id < 4294967296
  may : t.May
theorem may_segs {t : Te} (h : t.May) : ∀ z ∈ t.segs, 0 ≤ z ∧ z < 281474976710656 := by
  intro z hz
  obtain ⟨i, hi, rfl⟩ := List.getElem_of_mem hz
  obtain ⟨h1, h2, _⟩ := h.2 i hi
  obtain ⟨_, _, _, _, _, _, _, h3, _⟩ := h.1
  rw [List.getD_eq_getElem?_getD, List.getElem?_eq_getElem hi] at h1 h2
  simp only [Option.getD_some] at h1 h2
  omega
theorem takeTe_be (t : Te) (m : List UInt8) (s : Bool) (hi : t.id < 4294967296) (h : t.May) : takeTe ⟨encTe t ++ m, s⟩ = (t, ⟨m, s⟩) := by
  obtain ⟨id, epoch, quota, next, nextSeg, segs⟩ := t
  have hsg := may_segs h
  obtain ⟨h1, h2, h3, h4, h5, h6, h7, h8, h9⟩ := h.1
  simp only at hi hsg h1 h2 h3 h4 h5 h6 h7 h8 h9
  obtain ⟨q, rfl⟩ : ∃ q : Nat, quota = q := ⟨quota.toNat, by omega⟩
  obtain ⟨ns, rfl⟩ : ∃ q : Nat, nextSeg = q := ⟨nextSeg.toNat, by omega⟩
  unfold takeTe headTe headRd encTe
  simp only [Int.toNat_natCast, List.append_assoc, next_be, val_be _ 4 _ _ (show id < 256 ^ 4 by show _ < 4294967296; omega), val_be _ 6 _ _ (show epoch < 256 ^ 6 by show _ < 281474976710656; omega), val_be _ 3 _ _ (show q < 256 ^ 3 by show _ < 16777216; omega), val_be _ 6 _ _ (show next < 256 ^ 6 by show _ < 281474976710656; omega), val_be _ 6 _ _ (show ns < 256 ^ 6 by show _ < 281474976710656; omega), val_be _ 1 _ _ (show segs.length < 256 ^ 1 by show _ < 256; omega), takeSegs_be segs m s hsg]
theorem takeAll_be : ∀ (l : List Te) (m : List UInt8) (s : Bool), (∀ t ∈ l, t.id < 4294967296 ∧ t.May) → takeAll l.length ⟨encTes l ++ m, s⟩ = (l, ⟨m, s⟩) := by
  have key : ∀ (l k : List Te) (m : List UInt8) (s : Bool), (∀ t ∈ l, t.id < 4294967296 ∧ t.May) → takeAll l.length ⟨encTes (l ++ k) ++ m, s⟩ = (l, ⟨encTes k ++ m, s⟩) := by
    intro l
    induction h : l.length generalizing l with
    | zero =>
      intro k m s _
      obtain rfl := List.eq_nil_of_length_eq_zero h
      rfl
    | succ n ih =>
      intro k m s hz
      have hne : l ≠ [] := by intro e; rw [e] at h; cases h
      obtain ⟨z, hzl⟩ : ∃ z, l = l.dropLast ++ [z] := ⟨l.getLast hne, (List.dropLast_concat_getLast hne).symm⟩
      have hd : l.dropLast.length = n := by rw [List.length_dropLast, h]; rfl
      generalize hdl : l.dropLast = d at hzl hd
      subst hzl
      have hz1 := hz z (by simp)
      have h1 := ih d hd ([z] ++ k) m s (fun y hy => hz y (List.mem_append_left _ hy))
      rw [← List.append_assoc] at h1
      show ((takeAll n _).1 ++ [(takeTe (takeAll n _).2).1], (takeTe (takeAll n _).2).2) = _
      rw [h1]
      have e : encTes ([z] ++ k) ++ m = encTe z ++ (encTes k ++ m) := by simp [encTes]
      show (d ++ [(takeTe ⟨encTes ([z] ++ k) ++ m, s⟩).1], (takeTe ⟨encTes ([z] ++ k) ++ m, s⟩).2) = _
      rw [e, takeTe_be z _ s hz1.1 hz1.2]
  intro l m s hz
  have := key l [] m s hz
  rw [List.append_nil] at this
  exact this
theorem may_mem {l : List Te} (h : May l) : ∀ t ∈ l, t.May := by
  intro t ht
  obtain ⟨i, hi, rfl⟩ := List.getElem_of_mem ht
  have := (h.2 i hi).2
  rwa [List.getD_eq_getElem?_getD, List.getElem?_eq_getElem hi] at this
theorem decAll_be {l : List Te} (h : May l) (hi : ∀ t ∈ l, t.id < 4294967296) : decAll (encAll l) = some l := by
  have hl := h.1
  have hv : (⟨encAll l, false⟩ : Rd).val 1 = l.length := val_be _ 1 _ _ (by show _ < 256; omega)
  have hn : (⟨encAll l, false⟩ : Rd).next 1 = ⟨encTes l, false⟩ := next_be _ 1 _ _
  have hr : readAll (encAll l) = (l, ⟨[], false⟩) := by
    unfold readAll
    rw [hv, hn]
    have := takeAll_be l [] false (fun t ht => ⟨hi t ht, may_mem h t ht⟩)
    rwa [List.append_nil] at this
  unfold decAll
  rw [hr]
  exact if_pos ⟨rfl, rfl, h⟩
theorem encAll_length {l : List Te} (h : May l) : (encAll l).length ≤ 2317 := by
  have hl := h.1
  have h1 := encTes_length l 60 (fun t ht => (may_mem h t ht).1.2.2.2.2.2.2.2.2)
  unfold encAll
  rw [List.length_append, be_length]
  have : (26 + 6 * 60) * l.length ≤ 386 * 6 := Nat.mul_le_mul (Nat.le_refl _) hl
  omega
/-! A tenant in its place. -/
theorem put_true (t : Te) : ∀ (l : List Te), (∀ x ∈ l, x.id ≠ t.id) → put t true l = l
  | [], _ => rfl
  | x :: l, h => by
    have h1 := put_true t l (fun y hy => h y (List.mem_cons_of_mem _ hy))
    have h2 := h x (by simp)
    simp [put, h1, h2]
theorem put_front (t : Te) (b : List Te) : ∀ (a : List Te), (∀ x ∈ a, x.id < t.id) → put t false (a ++ b) = a ++ put t false b
  | [], _ => rfl
  | x :: a, h => by
    have h1 := put_front t b a (fun y hy => h y (List.mem_cons_of_mem _ hy))
    have h2 := h x (by simp)
    have h3 : ¬ t.id ≤ x.id := by omega
    have h4 : ¬ x.id = t.id := by omega
    simp [put, h1, h3, h4]
/-- The ids rise. -/
def Rises (l : List Te) : Prop := l.Pairwise fun a b => a.id < b.id
theorem may_rises {l : List Te} (h : May l) : Rises l := by
  unfold Rises
  have key : ∀ i j, i < j → ∀ hj : j < l.length, (l.getD i zeroTe).id < (l.getD j zeroTe).id := by
    intro i j
    induction j with
    | zero => intro hij; omega
    | succ j ih =>
      intro hij hj
      have h1 := (h.2 (j + 1) hj).1 (by omega)
      rw [Nat.add_sub_cancel] at h1
      by_cases e : i = j
      · rw [e]; exact h1
      · have := ih (by omega) (by omega)
        omega
  rw [List.pairwise_iff_getElem]
  intro i j hi hj hij
  have := key i j hij hj
  rwa [List.getD_eq_getElem?_getD, List.getD_eq_getElem?_getD, List.getElem?_eq_getElem hi, List.getElem?_eq_getElem hj] at this
theorem put_set {l : List Te} {t : Te} {i : Nat} (hr : Rises l) (h1 : ∀ x ∈ l.take i, x.id < t.id) (hi : i < l.length) (he : (l[i]).id = t.id) : put t false l = l.set i t := by
  have hs : l = l.take i ++ (l[i] :: l.drop (i + 1)) := by rw [← List.drop_eq_getElem_cons hi, List.take_append_drop]
  have hp : put t false l = l.take i ++ put t false (l[i] :: l.drop (i + 1)) := by
    conv => lhs; rw [hs]
    exact put_front t _ _ h1
  have hq : ∀ x ∈ l.drop (i + 1), x.id ≠ t.id := by
    intro x hx
    unfold Rises at hr
    rw [hs] at hr
    have := (List.pairwise_cons.1 (List.pairwise_append.1 hr).2.1).1 x hx
    omega
  have hc : put t false (l[i] :: l.drop (i + 1)) = t :: l.drop (i + 1) := by
    simp [put, he, put_true t _ hq]
  rw [hp, hc, List.set_eq_take_append_cons_drop, if_pos hi]
theorem put_ins {l : List Te} {t : Te} {i : Nat} (h1 : ∀ x ∈ l.take i, x.id < t.id) (h2 : ∀ x ∈ l.drop i, t.id < x.id) : put t false l = l.take i ++ t :: l.drop i := by
  have hp : put t false l = l.take i ++ put t false (l.drop i) := by
    have := put_front t (l.drop i) (l.take i) h1
    rwa [List.take_append_drop] at this
  rw [hp]
  congr 1
  cases hd : l.drop i with
  | nil => rfl
  | cons x m =>
    rw [hd] at h2
    have hx := h2 x (by simp)
    have h3 : t.id ≤ x.id := by omega
    have h4 : ¬ x.id = t.id := by omega
    have h5 : ∀ y ∈ m, y.id ≠ t.id := fun y hy => by have := h2 y (List.mem_cons_of_mem _ hy); omega
    simp [put, h3, h4, put_true t m h5]
end Go.Proofs.YtcmlchicpmnhdaaGreatDoor.Man
/-
  Plain facts: a tenant in a block of its own, loaded out of the middle of a row, stored whole.
-/
namespace Go.Proofs.YtcmlchicpmnhdaaGreatDoor.Ten
open Go.RowKit Go.Proofs.YtcmlchicpmnhdaaGreatDoor.Rec
set_option linter.unusedVariables false
set_option linter.unusedSimpArgs false

theorem ten_size : (Tryz.prog.info? 35).map (·.size) = some 6 := by kernel_rfl
theorem Tv.vals_one (x : Tv) : x.vals.all (·.oneCell') = true := by simp [Tv.vals, Value.oneCell']
/-- A block that holds a tenant. -/
def TenAt (w : World) (g : Nat) (x : Tv) : Prop := Blk w g 35 x.vals
theorem TenAt.lt {w : World} {g : Nat} {x : Tv} (h : TenAt w g x) : g < w.heap.size := blk_lt h
theorem TenAt.below {w w' : World} {B g : Nat} {x : Tv} (h : TenAt w g x) (hb : Below B w w') (hg : g < B) : TenAt w' g x := blk_below h hb hg
theorem TenAt.kept {w w' : World} {g : Nat} {x : Tv} {row : Option Nat} (h : TenAt w g x) (hg : w.grownBy w' row) (hne : some g ≠ row) : TenAt w' g x := blk_kept h hg hne
def zeroTv : Tv := ⟨zeroTe, none, 0⟩
theorem ten_new (w : World) (v : Tv) : TenAt (w.alloc (.cells v.vals 35)) w.heap.size v := Blk.new w 35 v.vals
theorem ten_zero (w : World) : TenAt (w.alloc (.cells #[.int .u32 0, .int .u64 0, .int .i64 0, .int .u64 0, .int .i64 0, .slice none 0 0] 35)) w.heap.size zeroTv := Blk.new w 35 zeroTv.vals
/-- Its parts. -/
theorem TenAt.cells {w : World} {g : Nat} {x : Tv} (h : TenAt w g x) : w.cell? ⟨g, 0, none⟩ = some (.int .u32 (x.te.id : Int)) ∧ w.cell? ⟨g, 1, none⟩ = some (.int .u64 (x.te.epoch : Int)) ∧ w.cell? ⟨g, 2, none⟩ = some (.int .i64 x.te.quota) ∧ w.cell? ⟨g, 3, none⟩ = some (.int .u64 (x.te.next : Int)) ∧ w.cell? ⟨g, 4, none⟩ = some (.int .i64 x.te.nextSeg) ∧ w.cell? ⟨g, 5, none⟩ = some (.slice x.A x.te.segs.length x.c) :=
  ⟨Blk.cell h 0, Blk.cell h 1, Blk.cell h 2, Blk.cell h 3, Blk.cell h 4, Blk.cell h 5⟩
section
variable {w : World} {ops : Array Oper} {rest : List Oper} {o : Oper} {a : Act} {Q : Exit → Act → World → Prop}
/-- A tenant, out of the middle of a row. -/
theorem load_tenM {b p : Nat} {x : Tv} (h : w.rangeAt b p x.vals.toList) (hgd : o.guard = none) (y : Operand) (ho : o.op = .load 35 y) (hx : a.eval y = .pointer (some ⟨b, p, none⟩))
    (k : wpList Tryz.prog ops Q rest (a.put o.dst (.agg x.vals)) w) : wpList Tryz.prog ops Q (o :: rest) a w :=
  wpList_load_mid hgd 35 y ho b p hx x.vals.toList _ h Tryz.underlying35 rfl ten_size k
/-- A tenant, out of its own block. -/
theorem load_ten {g : Nat} {x : Tv} (h : TenAt w g x) (hgd : o.guard = none) (y : Operand) (ho : o.op = .load 35 y) (hx : a.eval y = .pointer (some ⟨g, 0, none⟩))
    (k : wpList Tryz.prog ops Q rest (a.put o.dst (.agg x.vals)) w) : wpList Tryz.prog ops Q (o :: rest) a w :=
  wpList_load_row hgd 35 y ho g hx 35 x.vals (0, 0) _ h Tryz.underlying35 rfl ten_size k
/-- A tenant is stored whole. -/
theorem store_ten {g : Nat} {old : Array Value} (h : Blk w g 35 old) (hs : old.size = 6) (hgd : o.guard = none) (y z : Operand) (ho : o.op = .store 35 y z) (hx : a.eval y = .pointer (some ⟨g, 0, none⟩)) (x : Tv) (hy : a.eval z = .agg x.vals) (hd : o.dst = none)
    (k : ∀ w', Hid (TenAt w' g x) → Hid (w.grownBy w' (some g)) → wpList Tryz.prog ops Q rest a w') : wpList Tryz.prog ops Q (o :: rest) a w :=
  wpList_store_blk hgd 35 y z ho g x.vals hx hy 35 old h ten_size hs x.vals_one fun w' h1 h2 => by rw [hd]; exact k w' h1 h2
end
/-- What a row of tenants holds. -/
structure Tens (w : World) (B : Nat) (A : Option Addr) (n : Nat) (l : List Tv) : Prop where
  len : l.length = n
  row : Row w B A (n * 6) (tflat l)
  ok : ∀ v ∈ l, v.te.Ok
  ins : ∀ v ∈ l, v.In w B
theorem Tens.below {w w' : World} {B : Nat} {A : Option Addr} {n : Nat} {l : List Tv} (h : Tens w B A n l) (hb : Below B w w') : Tens w' B A n l := ⟨h.len, h.row.below hb, h.ok, fun v hv => (h.ins v hv).below hb⟩
theorem Tens.more {w : World} {B B' : Nat} {A : Option Addr} {n : Nat} {l : List Tv} (h : Tens w B A n l) (hb : B ≤ B') : Tens w B' A n l := ⟨h.len, h.row.more hb, h.ok, fun v hv => (h.ins v hv).more hb⟩
theorem Tens.nil (w : World) (B : Nat) : Tens w B none 0 [] := ⟨rfl, ⟨rfl, fun h => absurd h (by omega)⟩, fun v hv => by simp at hv, fun v hv => by simp at hv⟩
/-- The tenant at a place. -/
theorem Tens.at {w : World} {B : Nat} {b o n : Nat} {l : List Tv} (h : Tens w B (some ⟨b, o, none⟩) n l) {i : Nat} (hi : i < n) : ∃ v, l[i]? = some v ∧ v ∈ l ∧ w.rangeAt b (o + i * 6) v.vals.toList := by
  have hl : i < l.length := by rw [h.len]; exact hi
  exact ⟨l[i], List.getElem?_eq_getElem hl, List.getElem_mem hl, ten_item h.row i _ (List.getElem?_eq_getElem hl)⟩
end Go.Proofs.YtcmlchicpmnhdaaGreatDoor.Ten
