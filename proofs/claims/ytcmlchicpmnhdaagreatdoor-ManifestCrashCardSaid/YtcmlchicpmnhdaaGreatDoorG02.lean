/-
  Texts one behind the other: RecMath, ScanMath.
-/
import Derived.Test.YtcmlchicpmnhdaaGreatDoorG01
/-
  Plain facts on records as lists of bytes (numbers as bytes, a record's bytes, what a list of bytes begins with): no Go text, no program.
-/
namespace Go.Proofs.YtcmlchicpmnhdaaGreatDoor.Rec
set_option linter.unusedVariables false
set_option linter.unusedSimpArgs false

/-! Numbers as bytes. -/
/-- The first t bytes of a number of so many bytes, the highest first. -/
def beL (n size t : Nat) : List UInt8 := (List.range t).map fun j => UInt8.ofNat (n / 2 ^ (8 * (size - 1 - j)))
theorem beL_snoc (n size t : Nat) : beL n size (t + 1) = beL n size t ++ [UInt8.ofNat (n / 2 ^ (8 * (size - 1 - t)))] := by
  rw [beL, List.range_succ, List.map_append]
  rfl
@[simp] theorem beL_length (n size t : Nat) : (beL n size t).length = t := by simp [beL]
/-- All bytes of a number of k bytes. -/
def be (n k : Nat) : List UInt8 := beL n k k
@[simp] theorem be_length (n k : Nat) : (be n k).length = k := beL_length _ _ _
/-- The number that bytes make. -/
def beN (l : List UInt8) : Nat := l.foldl (fun a c => a * 256 + c.toNat) 0
theorem beN_nil : beN [] = 0 := rfl
theorem beN_snoc (l : List UInt8) (c : UInt8) : beN (l ++ [c]) = beN l * 256 + c.toNat := by
  unfold beN; rw [List.foldl_append]; rfl
theorem snoc_of (l : List UInt8) (h : l ≠ []) : ∃ p c, l = p ++ [c] := ⟨l.dropLast, l.getLast h, (List.dropLast_concat_getLast h).symm⟩
theorem beN_lt : ∀ (k : Nat) (l : List UInt8), l.length = k → beN l < 256 ^ k := by
  intro k
  induction k with
  | zero => intro l h; obtain rfl := List.length_eq_zero_iff.1 h; decide
  | succ k ih =>
    intro l h
    obtain ⟨p, c, rfl⟩ := snoc_of l (by rintro rfl; simp at h)
    have hp : p.length = k := by simpa using h
    have := ih p hp
    have hc := c.toNat_lt
    rw [beN_snoc, Nat.pow_succ]
    omega
theorem beN_inj : ∀ (k : Nat) (l m : List UInt8), l.length = k → m.length = k → beN l = beN m → l = m := by
  intro k
  induction k with
  | zero => intro l m h1 h2 _; rw [List.length_eq_zero_iff.1 h1, List.length_eq_zero_iff.1 h2]
  | succ k ih =>
    intro l m h1 h2 h
    obtain ⟨p, c, rfl⟩ := snoc_of l (by rintro rfl; simp at h1)
    obtain ⟨q, d, rfl⟩ := snoc_of m (by rintro rfl; simp at h2)
    rw [beN_snoc, beN_snoc] at h
    have hc := c.toNat_lt
    have hd := d.toNat_lt
    have e1 : beN p = beN q := by omega
    have e2 : c.toNat = d.toNat := by omega
    rw [ih p q (by simpa using h1) (by simpa using h2) e1, UInt8.toNat.inj e2]
theorem pow8 (k : Nat) : 2 ^ (8 * k) = 256 ^ k := by rw [Nat.pow_mul]
theorem beN_beL (n s : Nat) (hn : n < 256 ^ s) : ∀ t, t ≤ s → beN (beL n s t) = n / 256 ^ (s - t) := by
  intro t
  induction t with
  | zero =>
    intro _
    rw [Nat.sub_zero, Nat.div_eq_of_lt hn]
    rfl
  | succ t ih =>
    intro ht
    rw [beL_snoc, beN_snoc, ih (by omega), UInt8.toNat_ofNat', pow8]
    have e1 : s - t = (s - 1 - t) + 1 := by omega
    have e2 : s - (t + 1) = s - 1 - t := by omega
    rw [e1, e2, Nat.pow_succ, ← Nat.div_div_eq_div_mul]
    omega
theorem beN_be (n k : Nat) (hn : n < 256 ^ k) : beN (be n k) = n := by
  unfold be
  rw [beN_beL n k hn k (Nat.le_refl _), Nat.sub_self, Nat.pow_zero, Nat.div_one]
theorem be_beN (k : Nat) (l : List UInt8) (h : l.length = k) : be (beN l) k = l :=
  beN_inj k _ _ (be_length _ _) h (beN_be _ _ (beN_lt k l h))
theorem be_inj {a b k : Nat} (ha : a < 256 ^ k) (hb : b < 256 ^ k) (h : be a k = be b k) : a = b := by
  rw [← beN_be a k ha, ← beN_be b k hb, h]
theorem be_one (n : Nat) : be n 1 = [UInt8.ofNat n] := by simp [be, beL, List.range_succ]
theorem beN_one (c : UInt8) : beN [c] = c.toNat := by simp [beN]

/-! Parts of a list. -/
def part (l : List UInt8) (i j : Nat) : List UInt8 := (l.drop i).take (j - i)
theorem part_length (l : List UInt8) (i j : Nat) (h : i ≤ j) (hj : j ≤ l.length) : (part l i j).length = j - i := by
  unfold part; rw [List.length_take, List.length_drop]; omega
theorem part_mid (a b c : List UInt8) (i j : Nat) (hi : a.length = i) (hj : a.length + b.length = j) : part (a ++ b ++ c) i j = b := by
  subst hi hj
  unfold part
  rw [List.append_assoc, List.drop_left, Nat.add_sub_cancel_left, List.take_left]
theorem part_front (p q : List UInt8) (i j : Nat) (hj : j ≤ p.length) : part (p ++ q) i j = part p i j := by
  unfold part
  rcases Nat.lt_or_ge p.length i with h | h
  · have : j - i = 0 := by omega
    rw [this]; simp
  · rw [List.drop_append_of_le_length h, List.take_append_of_le_length (by rw [List.length_drop]; omega)]
theorem take_parts (l : List UInt8) (i j : Nat) (h : i ≤ j) : l.take j = l.take i ++ part l i j := by
  unfold part
  rw [show j = i + (j - i) by omega, List.take_add, Nat.add_sub_cancel_left]

/-! Records. -/
structure Rc where
  kind : Int
  tenant : Nat
  epoch : Nat
  object : Nat
  seq : Nat
  body : List UInt8
def Rc.May (x : Rc) : Prop := 1 ≤ x.kind ∧ x.kind ≤ 4 ∧ x.epoch ≤ 1099511627776 ∧ x.object ≤ 1099511627776 ∧ x.seq ≤ 1099511627776 ∧ x.body.length ≤ 1000
instance (x : Rc) : Decidable x.May := by unfold Rc.May; exact inferInstance
def Rc.may (x : Rc) : Bool := decide x.May
/-- The 35 bytes ahead of the sum. -/
def Rc.head (x : Rc) : List UInt8 := [83, 82] ++ be x.kind.toNat 1 ++ be x.tenant 4 ++ be x.epoch 8 ++ be x.object 8 ++ be x.seq 8 ++ be x.body.length 4
@[simp] theorem Rc.head_length (x : Rc) : x.head.length = 35 := by simp [Rc.head]
/-- The bytes of a record that may be. -/
def Rc.bytes (x : Rc) : List UInt8 := x.head ++ be (Crc.sum (x.head ++ x.body)).toNat 4 ++ x.body
@[simp] theorem Rc.bytes_length (x : Rc) : x.bytes.length = 39 + x.body.length := by simp [Rc.bytes]; omega
def enc (x : Rc) : List UInt8 := if x.May then x.bytes else []
/-- What a list of bytes begins with. -/
inductive Out
  | ok (x : Rc) (n : Nat)
  | more
  | bad
def mayKind (k : Int) : Prop := 1 ≤ k ∧ k ≤ 4
instance (k : Int) : Decidable (mayKind k) := by unfold mayKind; exact inferInstance
/-- What there is of the mark and of the kind is right. -/
def Front (bs : List UInt8) : Prop := (0 < bs.length → bs.getD 0 0 = 83) ∧ (1 < bs.length → bs.getD 1 0 = 82) ∧ (2 < bs.length → mayKind ((bs.getD 2 0).toNat : Int))
instance (bs : List UInt8) : Decidable (Front bs) := by unfold Front; exact inferInstance
/-- What a whole head tells. -/
def headOf (bs : List UInt8) : Rc := ⟨((bs.getD 2 0).toNat : Int), beN (part bs 3 7), beN (part bs 7 15), beN (part bs 15 23), beN (part bs 23 31), []⟩
def lenOf (bs : List UInt8) : Nat := beN (part bs 31 35)
def sumRight (bs : List UInt8) : Prop := (Crc.sum (bs.take 35 ++ part bs 39 (39 + lenOf bs))).toNat = beN (part bs 35 39)
instance (bs : List UInt8) : Decidable (sumRight bs) := by unfold sumRight; exact inferInstance
def withBody (x : Rc) (b : List UInt8) : Rc := { x with body := b }
def dec (bs : List UInt8) : Out :=
  if ¬ Front bs then .bad
  else if bs.length < 39 then .more
  else if ¬ ((headOf bs).May ∧ lenOf bs ≤ 1000) then .bad
  else if bs.length < 39 + lenOf bs then .more
  else if ¬ sumRight bs then .bad
  else .ok (withBody (headOf bs) (part bs 39 (39 + lenOf bs))) (39 + lenOf bs)

structure Rc.Fits (x : Rc) : Prop where
  tenant : x.tenant < 4294967296
  epoch : x.epoch < 18446744073709551616
  object : x.object < 18446744073709551616
  seq : x.seq < 18446744073709551616

/-- The parts of what a record that may be is, with anything behind it. -/
theorem bytes_split (x : Rc) (q : List UInt8) : x.bytes ++ q = [83, 82] ++ be x.kind.toNat 1 ++ be x.tenant 4 ++ be x.epoch 8 ++ be x.object 8 ++ be x.seq 8 ++ be x.body.length 4 ++ be (Crc.sum (x.head ++ x.body)).toNat 4 ++ x.body ++ q := by
  simp only [Rc.bytes, Rc.head, List.append_assoc]
section
variable (x : Rc) (q : List UInt8)
theorem p_kind (h : x.May) : (((x.bytes ++ q).getD 2 0).toNat : Int) = x.kind := by
  rw [bytes_split, be_one]
  have h1 := h.1
  have h2 := h.2.1
  have e : ([83, 82] ++ [UInt8.ofNat x.kind.toNat] ++ be x.tenant 4 ++ be x.epoch 8 ++ be x.object 8 ++ be x.seq 8 ++ be x.body.length 4 ++ be (Crc.sum (x.head ++ x.body)).toNat 4 ++ x.body ++ q).getD 2 0 = UInt8.ofNat x.kind.toNat := rfl
  rw [e, UInt8.toNat_ofNat']
  omega
theorem p_tenant (h : x.Fits) : beN (part (x.bytes ++ q) 3 7) = x.tenant := by
  rw [bytes_split]
  simp only [List.append_assoc]
  rw [show ∀ r : List UInt8, [83, 82] ++ (be x.kind.toNat 1 ++ (be x.tenant 4 ++ r)) = ([83, 82] ++ be x.kind.toNat 1) ++ be x.tenant 4 ++ r from fun r => by simp only [List.append_assoc]]
  rw [part_mid _ _ _ 3 7 (by simp) (by simp)]
  exact beN_be _ _ h.tenant
theorem p_epoch (h : x.Fits) : beN (part (x.bytes ++ q) 7 15) = x.epoch := by
  rw [bytes_split]
  simp only [List.append_assoc]
  rw [show ∀ r : List UInt8, [83, 82] ++ (be x.kind.toNat 1 ++ (be x.tenant 4 ++ (be x.epoch 8 ++ r))) = ([83, 82] ++ be x.kind.toNat 1 ++ be x.tenant 4) ++ be x.epoch 8 ++ r from fun r => by simp only [List.append_assoc]]
  rw [part_mid _ _ _ 7 15 (by simp) (by simp)]
  exact beN_be _ _ h.epoch
theorem p_object (h : x.Fits) : beN (part (x.bytes ++ q) 15 23) = x.object := by
  rw [bytes_split]
  simp only [List.append_assoc]
  rw [show ∀ r : List UInt8, [83, 82] ++ (be x.kind.toNat 1 ++ (be x.tenant 4 ++ (be x.epoch 8 ++ (be x.object 8 ++ r)))) = ([83, 82] ++ be x.kind.toNat 1 ++ be x.tenant 4 ++ be x.epoch 8) ++ be x.object 8 ++ r from fun r => by simp only [List.append_assoc]]
  rw [part_mid _ _ _ 15 23 (by simp) (by simp)]
  exact beN_be _ _ h.object
theorem p_seq (h : x.Fits) : beN (part (x.bytes ++ q) 23 31) = x.seq := by
  rw [bytes_split]
  simp only [List.append_assoc]
  rw [show ∀ r : List UInt8, [83, 82] ++ (be x.kind.toNat 1 ++ (be x.tenant 4 ++ (be x.epoch 8 ++ (be x.object 8 ++ (be x.seq 8 ++ r))))) = ([83, 82] ++ be x.kind.toNat 1 ++ be x.tenant 4 ++ be x.epoch 8 ++ be x.object 8) ++ be x.seq 8 ++ r from fun r => by simp only [List.append_assoc]]
  rw [part_mid _ _ _ 23 31 (by simp) (by simp)]
  exact beN_be _ _ h.seq
theorem p_len (h : x.May) : lenOf (x.bytes ++ q) = x.body.length := by
  unfold lenOf
  rw [bytes_split]
  simp only [List.append_assoc]
  rw [show ∀ r : List UInt8, [83, 82] ++ (be x.kind.toNat 1 ++ (be x.tenant 4 ++ (be x.epoch 8 ++ (be x.object 8 ++ (be x.seq 8 ++ (be x.body.length 4 ++ r)))))) = ([83, 82] ++ be x.kind.toNat 1 ++ be x.tenant 4 ++ be x.epoch 8 ++ be x.object 8 ++ be x.seq 8) ++ be x.body.length 4 ++ r from fun r => by simp only [List.append_assoc]]
  rw [part_mid _ _ _ 31 35 (by simp) (by simp)]
  refine beN_be _ _ ?_
  have := h.2.2.2.2.2
  omega
theorem p_sum : part (x.bytes ++ q) 35 39 = be (Crc.sum (x.head ++ x.body)).toNat 4 := by
  rw [show x.bytes ++ q = x.head ++ be (Crc.sum (x.head ++ x.body)).toNat 4 ++ (x.body ++ q) by simp only [Rc.bytes, List.append_assoc]]
  exact part_mid _ _ _ 35 39 (by simp) (by simp)
theorem p_head : (x.bytes ++ q).take 35 = x.head := by
  rw [show x.bytes ++ q = x.head ++ (be (Crc.sum (x.head ++ x.body)).toNat 4 ++ x.body ++ q) by simp only [Rc.bytes, List.append_assoc]]
  exact List.take_left' x.head_length
theorem p_body : part (x.bytes ++ q) 39 (39 + x.body.length) = x.body := by
  refine part_mid (x.head ++ be (Crc.sum (x.head ++ x.body)).toNat 4) x.body q 39 _ (by simp) (by simp)
theorem p_front (h : x.May) : Front (x.bytes ++ q) := by
  refine ⟨fun _ => ?_, fun _ => ?_, fun _ => ?_⟩
  · rw [bytes_split]; rfl
  · rw [bytes_split]; rfl
  · rw [p_kind x q h]; exact ⟨h.1, h.2.1⟩
end
theorem sum_lt (l : List UInt8) : (Crc.sum l).toNat < 256 ^ 4 := (Crc.sum l).isLt
theorem headOf_bytes (x : Rc) (q : List UInt8) (h : x.May) (hf : x.Fits) : headOf (x.bytes ++ q) = withBody x [] := by
  unfold headOf withBody
  rw [p_kind x q h, p_tenant x q hf, p_epoch x q hf, p_object x q hf, p_seq x q hf]
theorem may_bodyless {x : Rc} (h : x.May) : (withBody x []).May := ⟨h.1, h.2.1, h.2.2.1, h.2.2.2.1, h.2.2.2.2.1, by simp [withBody]⟩
/-- A record, anything behind it, is read again. -/
theorem dec_bytes (x : Rc) (q : List UInt8) (h : x.May) (hf : x.Fits) : dec (x.bytes ++ q) = .ok x (39 + x.body.length) := by
  have hl : ¬ (x.bytes ++ q).length < 39 := by simp; omega
  have hs : sumRight (x.bytes ++ q) := by
    unfold sumRight
    rw [p_len x q h, p_head, p_body, p_sum, beN_be _ _ (sum_lt _)]
  have hm : (headOf (x.bytes ++ q)).May ∧ lenOf (x.bytes ++ q) ≤ 1000 := by
    rw [headOf_bytes x q h hf, p_len x q h]
    exact ⟨may_bodyless h, h.2.2.2.2.2⟩
  have hn : ¬ (x.bytes ++ q).length < 39 + lenOf (x.bytes ++ q) := by rw [p_len x q h, List.length_append, x.bytes_length]; omega
  unfold dec
  rw [if_neg (not_not_intro (p_front x q h)), if_neg hl, if_neg (not_not_intro hm), if_neg hn, if_neg (not_not_intro hs), headOf_bytes x q h hf, p_len x q h, p_body]
  rfl
theorem getD_front (p q : List UInt8) (i : Nat) (h : i < p.length) : (p ++ q).getD i 0 = p.getD i 0 := by
  rw [List.getD_eq_getElem?_getD, List.getD_eq_getElem?_getD, List.getElem?_append_left h]
/-- A front of a record is the beginning of one. -/
theorem dec_front (x : Rc) (p q : List UInt8) (h : x.May) (hf : x.Fits) (e : x.bytes = p ++ q) (hq : 0 < q.length) : dec p = .more := by
  have hfr : Front p := by
    have := p_front x [] h
    rw [List.append_nil, e] at this
    obtain ⟨f0, f1, f2⟩ := this
    refine ⟨fun h0 => ?_, fun h0 => ?_, fun h0 => ?_⟩
    · rw [← getD_front p q 0 h0]; exact f0 (by simp; omega)
    · rw [← getD_front p q 1 h0]; exact f1 (by simp; omega)
    · rw [← getD_front p q 2 h0]; exact f2 (by simp; omega)
  have hlen : p.length + q.length = 39 + x.body.length := by rw [← List.length_append, ← e]; simp
  unfold dec
  rw [if_neg (not_not_intro hfr)]
  by_cases hs : p.length < 39
  · rw [if_pos hs]
  · have e1 : headOf p = withBody x [] := by
      have h1 := headOf_bytes x [] h hf
      rw [List.append_nil, e] at h1
      unfold headOf at h1 ⊢
      rw [part_front p q 3 7 (by omega), part_front p q 7 15 (by omega), part_front p q 15 23 (by omega), part_front p q 23 31 (by omega), getD_front p q 2 (by omega)] at h1
      exact h1
    have e2 : lenOf p = x.body.length := by
      have h1 := p_len x [] h
      rw [List.append_nil, e] at h1
      unfold lenOf at h1 ⊢
      rwa [part_front p q 31 35 (by omega)] at h1
    rw [if_neg hs, if_neg (not_not_intro ⟨by rw [e1]; exact may_bodyless h, by rw [e2]; exact h.2.2.2.2.2⟩), if_pos (by rw [e2]; omega)]
theorem part_set (l : List UInt8) (k i j : Nat) (c : UInt8) : part (l.set k c) i j = if k < i then part l i j else (part l i j).set (k - i) c := by
  unfold part
  rw [List.drop_set]
  split
  · rfl
  · rw [List.take_set]
theorem part_set_beyond (l : List UInt8) (k i j : Nat) (c : UInt8) (h : j ≤ k) (hij : i ≤ j) : part (l.set k c) i j = part l i j := by
  rw [part_set]
  split
  · rfl
  · refine List.set_eq_of_length_le ?_
    unfold part
    rw [List.length_take]
    omega
theorem sum_set {l : List UInt8} {k : Nat} {c : UInt8} (hk : k < l.length) (h : Crc.sum (l.set k c) = Crc.sum l) : c = l.getD k 0 := by
  have e1 : l.set k c = l.take k ++ [c] ++ l.drop (k + 1) := by rw [List.set_eq_take_append_cons_drop, if_pos hk]; simp
  have e2 : l = l.take k ++ [l.getD k 0] ++ l.drop (k + 1) := by
    rw [List.getD_eq_getElem?_getD, List.getElem?_eq_getElem hk]
    simp
  rw [e1] at h
  have h2 : Crc.sum (l.take k ++ [c] ++ l.drop (k + 1)) = Crc.sum (l.take k ++ [l.getD k 0] ++ l.drop (k + 1)) := by
    rw [← e2]; exact h
  have := Crc.burst (by rfl) (by simp) h2
  simpa using this
/-- A record of which one byte was changed, but for its length, is none. -/
theorem dec_spoilt (x : Rc) (k : Nat) (c : UInt8) (h : x.May) (hf : x.Fits) (hk : k < 39 + x.body.length) (hc : c ≠ x.bytes.getD k 0) (hn : ¬ (31 ≤ k ∧ k < 35)) : dec (x.bytes.set k c) = .bad := by
  have hL : x.bytes.length = 39 + x.body.length := x.bytes_length
  unfold dec
  by_cases h1 : Front (x.bytes.set k c)
  · rw [if_neg (not_not_intro h1), if_neg (by rw [List.length_set, hL]; omega)]
    by_cases h2 : (headOf (x.bytes.set k c)).May ∧ lenOf (x.bytes.set k c) ≤ 1000
    · have e0 : lenOf (x.bytes.set k c) = x.body.length := by
        have := p_len x [] h
        rw [List.append_nil] at this
        rw [← this]
        unfold lenOf
        by_cases h31 : k < 31
        · rw [part_set, if_pos h31]
        · rw [part_set_beyond _ _ _ _ _ (by omega) (by omega)]
      have g1 := p_sum x []
      have g2 := p_head x []
      have g3 := p_body x []
      rw [List.append_nil] at g1 g2 g3
      have h3 : ¬ sumRight (x.bytes.set k c) := by
        intro hr
        unfold sumRight at hr
        rw [e0, List.take_set, g2] at hr
        by_cases k1 : k < 35
        · rw [part_set, if_pos (by omega), g3, part_set, if_pos k1, g1, beN_be _ _ (sum_lt _), ← List.set_append_left _ _ (by simpa using k1)] at hr
          have := sum_set (l := x.head ++ x.body) (k := k) (c := c) (by simp; omega) (BitVec.eq_of_toNat_eq hr)
          refine hc (this.trans ?_)
          rw [getD_front _ _ _ (by simpa using k1)]
          have e := getD_front x.head (be (Crc.sum (x.head ++ x.body)).toNat 4 ++ x.body) k (by simpa using k1)
          rw [← e, Rc.bytes, List.append_assoc]
        · have e35 : x.head.set k c = x.head := List.set_eq_of_length_le (by simp; omega)
          rw [e35] at hr
          by_cases k2 : k < 39
          · rw [part_set, if_pos (by omega), g3, part_set, if_neg k1, g1] at hr
            have hb : be (Crc.sum (x.head ++ x.body)).toNat 4 = (be (Crc.sum (x.head ++ x.body)).toNat 4).set (k - 35) c := by
              refine beN_inj 4 _ _ (be_length _ _) (by simp) ?_
              rw [← hr, beN_be _ _ (sum_lt _)]
            refine hc ?_
            have e1 : x.bytes.getD k 0 = (be (Crc.sum (x.head ++ x.body)).toNat 4).getD (k - 35) 0 := by
              rw [← g1]
              unfold part
              rw [List.getD_eq_getElem?_getD, List.getD_eq_getElem?_getD, List.getElem?_take, if_pos (by omega), List.getElem?_drop, show 35 + (k - 35) = k by omega]
            rw [e1, hb, List.getD_eq_getElem?_getD, List.getElem?_set_self (by simp; omega)]
            rfl
          · rw [part_set, if_neg k2, g3, part_set_beyond _ _ _ _ _ (by omega) (by omega), g1, beN_be _ _ (sum_lt _)] at hr
            have e2 : x.head ++ x.body.set (k - 39) c = (x.head ++ x.body).set (k - 4) c := by
              rw [List.set_append_right _ _ (by simp; omega)]
              rw [x.head_length, show k - 4 - 35 = k - 39 by omega]
            rw [e2] at hr
            have := sum_set (l := x.head ++ x.body) (k := k - 4) (c := c) (by simp; omega) (BitVec.eq_of_toNat_eq hr)
            refine hc (this.trans ?_)
            rw [List.getD_eq_getElem?_getD, List.getD_eq_getElem?_getD, List.getElem?_append_right (by simp; omega), x.head_length, Rc.bytes, List.getElem?_append_right (by simp; omega)]
            simp only [List.length_append, x.head_length, be_length]
            rw [show k - 4 - 35 = k - (35 + 4) by omega]
      rw [if_neg (not_not_intro h2), if_neg (by rw [List.length_set, hL, e0]; omega), if_pos h3]
    · rw [if_pos h2]
  · rw [if_pos h1]

/-! Told by another road: what is told may be written again. -/
theorem take_two (bs : List UInt8) (h : 2 ≤ bs.length) (f : Front bs) : bs.take 2 = [83, 82] := by
  match bs, h with
  | a :: b :: r, _ =>
    obtain ⟨f0, f1, _⟩ := f
    have h0 : a = 83 := f0 (by simp)
    have h1 : b = 82 := f1 (by simp)
    simp [h0, h1]
theorem part_kind (bs : List UInt8) (h : 3 ≤ bs.length) : part bs 2 3 = [bs.getD 2 0] := by
  match bs, h with
  | a :: b :: c :: r, _ => simp [part]
theorem again_head (bs : List UInt8) (f : Front bs) (h : 39 + lenOf bs ≤ bs.length) : (withBody (headOf bs) (part bs 39 (39 + lenOf bs))).head = bs.take 35 := by
  rw [take_parts bs 31 35 (by omega), take_parts bs 23 31 (by omega), take_parts bs 15 23 (by omega), take_parts bs 7 15 (by omega), take_parts bs 3 7 (by omega), take_parts bs 2 3 (by omega), take_two bs (by omega) f, part_kind bs (by omega)]
  unfold Rc.head withBody headOf
  dsimp only
  rw [be_beN 4 _ (part_length bs 3 7 (by omega) (by omega)), be_beN 8 _ (part_length bs 7 15 (by omega) (by omega)), be_beN 8 _ (part_length bs 15 23 (by omega) (by omega)), be_beN 8 _ (part_length bs 23 31 (by omega) (by omega)), part_length bs 39 _ (by omega) h, be_one]
  rw [Nat.add_sub_cancel_left]
  unfold lenOf
  rw [be_beN 4 _ (part_length bs 31 35 (by omega) (by omega))]
  simp
theorem again (bs : List UInt8) (f : Front bs) (h : 39 + lenOf bs ≤ bs.length) : (withBody (headOf bs) (part bs 39 (39 + lenOf bs))).bytes = bs.take (39 + lenOf bs) ↔ sumRight bs := by
  rw [take_parts bs 39 (39 + lenOf bs) (by omega), take_parts bs 35 39 (by omega)]
  unfold Rc.bytes
  rw [again_head bs f h]
  have hb : (withBody (headOf bs) (part bs 39 (39 + lenOf bs))).body = part bs 39 (39 + lenOf bs) := rfl
  rw [hb]
  unfold sumRight
  constructor
  · intro e
    have e1 := List.append_inj_left' e rfl
    have e2 := List.append_cancel_left e1
    rw [← e2, beN_be _ _ (sum_lt _)]
  · intro e
    rw [e, be_beN 4 _ (part_length bs 35 39 (by omega) (by omega))]
theorem again_may (bs : List UInt8) (h : (headOf bs).May ∧ lenOf bs ≤ 1000) (hl : 39 + lenOf bs ≤ bs.length) : (withBody (headOf bs) (part bs 39 (39 + lenOf bs))).May :=
  ⟨h.1.1, h.1.2.1, h.1.2.2.1, h.1.2.2.2.1, h.1.2.2.2.2.1, by show (part bs 39 (39 + lenOf bs)).length ≤ 1000; rw [part_length _ _ _ (by omega) hl]; omega⟩
end Go.Proofs.YtcmlchicpmnhdaaGreatDoor.Rec
/-
  Plain facts: which records stand in a list of bytes, from place to place, and at its front: no Go text, no program.
-/
namespace Go.Proofs.YtcmlchicpmnhdaaGreatDoor.Rec
set_option linter.unusedVariables false
set_option linter.unusedSimpArgs false

theorem dec_ok {bs : List UInt8} {x : Rc} {n : Nat} (h : dec bs = .ok x n) : n = 39 + x.body.length ∧ n ≤ bs.length ∧ x.May ∧ x.Fits ∧ x.bytes = bs.take n := by
  unfold dec at h
  split at h
  · cases h
  · rename_i hf
    have hf := Classical.not_not.1 hf
    split at h
    · cases h
    · split at h
      · cases h
      · rename_i hm
        have hm := Classical.not_not.1 hm
        split at h
        · cases h
        · rename_i hl
          have hl : 39 + lenOf bs ≤ bs.length := by omega
          split at h
          · cases h
          · rename_i hs
            have hs := Classical.not_not.1 hs
            injection h with h1 h2
            have hp : (part bs 39 (39 + lenOf bs)).length = lenOf bs := by rw [part_length bs 39 _ (by omega) hl]; omega
            subst h1 h2
            refine ⟨by show 39 + lenOf bs = 39 + (part bs 39 (39 + lenOf bs)).length; rw [hp], hl, again_may bs hm hl, ?_, (again bs hf hl).2 hs⟩
            exact ⟨beN_lt 4 _ (part_length bs 3 7 (by omega) (by omega)), beN_lt 8 _ (part_length bs 7 15 (by omega) (by omega)), beN_lt 8 _ (part_length bs 15 23 (by omega) (by omega)), beN_lt 8 _ (part_length bs 23 31 (by omega) (by omega))⟩
/-- The records from a place on; so many steps at most. -/
def allF : Nat → Nat → List UInt8 → List (Nat × Rc)
  | 0, _, _ => []
  | f + 1, p, bs =>
    if bs.length ≤ p then []
    else match dec (bs.drop p) with
      | .ok x n => (p, x) :: allF f (p + n) bs
      | _ => allF f (p + 1) bs
theorem allF_enough (bs : List UInt8) : ∀ (f g p : Nat), bs.length ≤ p + f → bs.length ≤ p + g → allF f p bs = allF g p bs := by
  intro f
  induction f with
  | zero =>
    intro g p h1 _
    cases g with
    | zero => rfl
    | succ g => rw [allF, allF, if_pos (by omega)]
  | succ f ih =>
    intro g p h1 h2
    cases g with
    | zero => rw [allF, allF, if_pos (by omega)]
    | succ g =>
      rw [allF, allF]
      by_cases hp : bs.length ≤ p
      · rw [if_pos hp, if_pos hp]
      · rw [if_neg hp, if_neg hp]
        cases hd : dec (bs.drop p) with
        | ok x n =>
          have := (dec_ok hd).1
          show _ :: _ = _ :: _
          rw [ih g (p + n) (by omega) (by omega)]
        | more => exact ih g (p + 1) (by omega) (by omega)
        | bad => exact ih g (p + 1) (by omega) (by omega)
/-- The records from a place on. -/
def allFrom (p : Nat) (bs : List UInt8) : List (Nat × Rc) := allF (bs.length - p) p bs
theorem allFrom_end (p : Nat) (bs : List UInt8) (h : bs.length ≤ p) : allFrom p bs = [] := by
  unfold allFrom
  rw [Nat.sub_eq_zero_of_le h]
  rfl
theorem allFrom_ok {p n : Nat} {bs : List UInt8} {x : Rc} (h : p < bs.length) (hd : dec (bs.drop p) = .ok x n) : allFrom p bs = (p, x) :: allFrom (p + n) bs := by
  have hn := (dec_ok hd).1
  unfold allFrom
  rw [show bs.length - p = (bs.length - p - 1) + 1 by omega, allF, if_neg (by omega), hd]
  show _ :: _ = _ :: _
  rw [allF_enough bs (bs.length - p - 1) (bs.length - (p + n)) (p + n) (by omega) (by omega)]
theorem allFrom_no {p : Nat} {bs : List UInt8} (h : p < bs.length) (hd : ∀ x n, dec (bs.drop p) ≠ .ok x n) : allFrom p bs = allFrom (p + 1) bs := by
  unfold allFrom
  rw [show bs.length - p = (bs.length - p - 1) + 1 by omega, allF, if_neg (by omega), show bs.length - (p + 1) = bs.length - p - 1 by omega]
  cases hd' : dec (bs.drop p) with
  | ok x n => exact absurd hd' (hd x n)
  | more => rfl
  | bad => rfl
/-- The records one behind the other from a place on; so many at most. -/
def frontF : Nat → Nat → List UInt8 → List (Nat × Rc)
  | 0, _, _ => []
  | f + 1, p, bs => match dec (bs.drop p) with
      | .ok x n => (p, x) :: frontF f (p + n) bs
      | _ => []
theorem frontF_enough (bs : List UInt8) : ∀ (f g p : Nat), bs.length < p + f → bs.length < p + g → frontF f p bs = frontF g p bs := by
  intro f
  induction f with
  | zero =>
    intro g p h1 _
    cases g with
    | zero => rfl
    | succ g =>
      rw [frontF, frontF]
      cases hd : dec (bs.drop p) with
      | ok x n =>
        have h2 := (dec_ok hd).1
        have h3 := (dec_ok hd).2.1
        rw [List.length_drop] at h3
        omega
      | more => rfl
      | bad => rfl
  | succ f ih =>
    intro g p h1 h2
    cases g with
    | zero =>
      rw [frontF, frontF]
      cases hd : dec (bs.drop p) with
      | ok x n =>
        have h2 := (dec_ok hd).1
        have h3 := (dec_ok hd).2.1
        rw [List.length_drop] at h3
        omega
      | more => rfl
      | bad => rfl
    | succ g =>
      rw [frontF, frontF]
      cases hd : dec (bs.drop p) with
      | ok x n =>
        have := (dec_ok hd).1
        show _ :: _ = _ :: _
        rw [ih g (p + n) (by omega) (by omega)]
      | more => rfl
      | bad => rfl
def frontFrom (p : Nat) (bs : List UInt8) : List (Nat × Rc) := frontF (bs.length - p + 1) p bs
theorem frontFrom_ok {p n : Nat} {bs : List UInt8} {x : Rc} (hd : dec (bs.drop p) = .ok x n) : frontFrom p bs = (p, x) :: frontFrom (p + n) bs := by
  have hn := (dec_ok hd).1
  have hl := (dec_ok hd).2.1
  rw [List.length_drop] at hl
  unfold frontFrom
  rw [frontF, hd]
  show _ :: _ = _ :: _
  rw [frontF_enough bs (bs.length - p) (bs.length - (p + n) + 1) (p + n) (by omega) (by omega)]
theorem frontFrom_no {p : Nat} {bs : List UInt8} (hd : ∀ x n, dec (bs.drop p) ≠ .ok x n) : frontFrom p bs = [] := by
  unfold frontFrom
  rw [frontF]
  cases hd' : dec (bs.drop p) with
  | ok x n => exact absurd hd' (hd x n)
  | more => rfl
  | bad => rfl
/-- How many bytes they take. -/
def endOf (p : Nat) : List (Nat × Rc) → Nat
  | [] => p
  | (q, x) :: l => endOf (q + (39 + x.body.length)) l
end Go.Proofs.YtcmlchicpmnhdaaGreatDoor.Rec
