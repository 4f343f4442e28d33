/-
  Texts one behind the other: CrcMath.
-/
/-
  Plain facts on the sums of records (CRC-32C) as functions of lists of bytes: no Go text, no program.
-/
namespace Go.Proofs.YtcmlchicpmnhdaaGreatDoor.Crc

/-- One bit of the division. -/
def bit1 (r : BitVec 32) : BitVec 32 := (r >>> 1) ^^^ (if r.getLsbD 0 then 0x82f63b78#32 else 0#32)
/-- The table of half bytes. -/
def tab : List Nat := [0, 274646895, 549293790, 820201905, 1098587580, 1361435347, 1640403810, 1905808397, 2197175160, 2460548119, 2722870694, 2987750089, 3280807620, 3553878443, 3811616794, 4084100981]
/-- Half a byte by the table. -/
def half (r : BitVec 32) : BitVec 32 := (r >>> 4) ^^^ BitVec.ofNat 32 (tab.getD (r.toNat % 16) 0)
def bit4 (r : BitVec 32) : BitVec 32 := bit1 (bit1 (bit1 (bit1 r)))
def bit8 (r : BitVec 32) : BitVec 32 := bit4 (bit4 r)
def byteOf (c : UInt8) : BitVec 32 := BitVec.ofNat 32 c.toNat
/-- One byte. -/
def step (r : BitVec 32) (c : UInt8) : BitVec 32 := half (half (r ^^^ byteOf c))
def run (r : BitVec 32) (bs : List UInt8) : BitVec 32 := bs.foldl step r
def more (s : BitVec 32) (bs : List UInt8) : BitVec 32 := ~~~ run (~~~ s) bs
def sum (bs : List UInt8) : BitVec 32 := more 0#32 bs

theorem bit1_xor (a b : BitVec 32) : bit1 (a ^^^ b) = bit1 a ^^^ bit1 b := by
  unfold bit1
  rw [BitVec.ushiftRight_xor_distrib, BitVec.getLsbD_xor]
  cases a.getLsbD 0 <;> cases b.getLsbD 0
  · simp
  · simp; ac_rfl
  · simp; ac_rfl
  · have e : ∀ x y p : BitVec 32, x ^^^ p ^^^ (y ^^^ p) = x ^^^ y := by
      intro x y p
      rw [show x ^^^ p ^^^ (y ^^^ p) = x ^^^ y ^^^ (p ^^^ p) by ac_rfl]; simp
    simpa using (e (a >>> 1) (b >>> 1) 0x82f63b78#32).symm
theorem bit4_xor (a b : BitVec 32) : bit4 (a ^^^ b) = bit4 a ^^^ bit4 b := by
  unfold bit4; simp only [bit1_xor]
theorem bit8_xor (a b : BitVec 32) : bit8 (a ^^^ b) = bit8 a ^^^ bit8 b := by
  unfold bit8; simp only [bit4_xor]

theorem bit1_even {r : BitVec 32} (h : r.getLsbD 0 = false) : bit1 r = r >>> 1 := by
  unfold bit1; rw [h]; simp
theorem bit4_low (q : BitVec 32) (h0 : q.getLsbD 0 = false) (h1 : q.getLsbD 1 = false) (h2 : q.getLsbD 2 = false) (h3 : q.getLsbD 3 = false) : bit4 q = q >>> 4 := by
  unfold bit4
  rw [bit1_even h0, bit1_even (r := q >>> 1) (by simpa [BitVec.getLsbD_ushiftRight] using h1)]
  rw [bit1_even (r := q >>> 1 >>> 1) (by simpa [BitVec.getLsbD_ushiftRight] using h2)]
  rw [bit1_even (r := q >>> 1 >>> 1 >>> 1) (by simpa [BitVec.getLsbD_ushiftRight] using h3)]
  simp only [← BitVec.shiftRight_add]

theorem split_low (r : BitVec 32) : r = (r >>> 4 <<< 4) ^^^ BitVec.ofNat 32 (r.toNat % 16) := by
  apply BitVec.eq_of_getLsbD_eq
  intro i hi
  have e : r.toNat % 16 = r.toNat % 2 ^ 4 := rfl
  simp only [BitVec.getLsbD_xor, BitVec.getLsbD_shiftLeft, BitVec.getLsbD_ushiftRight, BitVec.getLsbD_ofNat, e, Nat.testBit_mod_two_pow, hi]
  by_cases h : i < 4
  · simp [h]; rfl
  · have : 4 + (i - 4) = i := by omega
    simp [h, this]
theorem bit4_tab : ∀ j, j < 16 → bit4 (BitVec.ofNat 32 j) = BitVec.ofNat 32 (tab.getD j 0) := by decide
theorem half_bit4 (r : BitVec 32) : half r = bit4 r := by
  have hs := split_low r
  have hq : bit4 (r >>> 4 <<< 4) = r >>> 4 := by
    rw [bit4_low]
    · apply BitVec.eq_of_getLsbD_eq
      intro i hi
      simp only [BitVec.getLsbD_shiftLeft, BitVec.getLsbD_ushiftRight]
      by_cases h : 4 + i < 32
      · have : 4 + (4 + i - 4) = 4 + i := by omega
        simp [h]
      · have : r.getLsbD (4 + i) = false := BitVec.getLsbD_of_ge _ _ (by omega)
        simp [this]
    all_goals simp
  have : bit4 r = bit4 ((r >>> 4 <<< 4) ^^^ BitVec.ofNat 32 (r.toNat % 16)) := congrArg bit4 hs
  rw [this, bit4_xor, hq, bit4_tab _ (Nat.mod_lt _ (by decide))]
  rfl
theorem step_bit8 (r : BitVec 32) (c : UInt8) : step r c = bit8 (r ^^^ byteOf c) := by
  unfold step bit8; rw [half_bit4, half_bit4]

theorem run_append (r : BitVec 32) (a b : List UInt8) : run r (a ++ b) = run (run r a) b := by
  unfold run; rw [List.foldl_append]
theorem run_snoc (r : BitVec 32) (a : List UInt8) (c : UInt8) : run r (a ++ [c]) = step (run r a) c := by
  unfold run; rw [List.foldl_append]; rfl
theorem more_sum (a b : List UInt8) : more (sum a) b = sum (a ++ b) := by
  unfold sum more; rw [run_append]; simp
theorem sum_nil : sum [] = 0#32 := by unfold sum more run; simp
theorem sum_digits : (sum [49, 50, 51, 52, 53, 54, 55, 56, 57]).toNat = 3808858755 := by decide

/-! The sum is linear. -/
def xorB (a b : UInt8) : UInt8 := a ^^^ b
theorem byteOf_xor (a b : UInt8) : byteOf (a ^^^ b) = byteOf a ^^^ byteOf b := by
  unfold byteOf; rw [UInt8.toNat_xor, BitVec.ofNat_xor]
theorem step_xor (r s : BitVec 32) (a b : UInt8) : step (r ^^^ s) (a ^^^ b) = step r a ^^^ step s b := by
  rw [step_bit8, step_bit8, step_bit8, byteOf_xor, ← bit8_xor]
  congr 1; ac_rfl
theorem run_xor3 (d : List UInt8) : ∀ (a b c : List UInt8) (r s t : BitVec 32), a.length = d.length → b.length = d.length → c.length = d.length →
    (∀ i, i < d.length → d.getD i 0 = a.getD i 0 ^^^ b.getD i 0 ^^^ c.getD i 0) → run (r ^^^ s ^^^ t) d = run r a ^^^ run s b ^^^ run t c := by
  induction d with
  | nil =>
    intro a b c r s t ha hb hc _
    obtain rfl := List.length_eq_zero_iff.1 ha
    obtain rfl := List.length_eq_zero_iff.1 hb
    obtain rfl := List.length_eq_zero_iff.1 hc
    rfl
  | cons u d ih =>
    intro a b c r s t ha hb hc h
    obtain ⟨x, a, rfl⟩ := List.exists_cons_of_length_eq_add_one ha
    obtain ⟨y, b, rfl⟩ := List.exists_cons_of_length_eq_add_one hb
    obtain ⟨z, c, rfl⟩ := List.exists_cons_of_length_eq_add_one hc
    have h0 : u = x ^^^ y ^^^ z := by simpa using h 0 (by simp)
    have hr := ih a b c (step r x) (step s y) (step t z) (by simpa using ha) (by simpa using hb) (by simpa using hc)
      (fun i hi => by simpa using h (i + 1) (by simpa using hi))
    show run (step (r ^^^ s ^^^ t) u) d = run (step r x) a ^^^ run (step s y) b ^^^ run (step t z) c
    rw [h0, step_xor, step_xor, hr]
theorem not_xor3 (x y z : BitVec 32) : ~~~ (x ^^^ y ^^^ z) = ~~~ x ^^^ ~~~ y ^^^ ~~~ z := by
  apply BitVec.eq_of_getLsbD_eq
  intro i hi
  simp only [BitVec.getLsbD_not, BitVec.getLsbD_xor, hi, decide_true, Bool.true_and]
  cases x.getLsbD i <;> cases y.getLsbD i <;> cases z.getLsbD i <;> rfl
/-- Of three texts of one length: the sum of their exclusive or is the exclusive or of their sums. -/
theorem sum_xor3 (a b c d : List UInt8) (ha : a.length = d.length) (hb : b.length = d.length) (hc : c.length = d.length)
    (h : ∀ i, i < d.length → d.getD i 0 = a.getD i 0 ^^^ b.getD i 0 ^^^ c.getD i 0) : sum d = sum a ^^^ sum b ^^^ sum c := by
  unfold sum more
  rw [← not_xor3, ← run_xor3 d a b c _ _ _ ha hb hc h]
  simp

/-! A change of up to four bytes behind one another changes the sum. -/
theorem bit1_back {r : BitVec 32} (h : (bit1 r).toNat < 2147483648) : r.toNat = 2 * (bit1 r).toNat := by
  have h31 : (bit1 r).getLsbD 31 = false := by
    rw [BitVec.getLsbD, Nat.testBit_lt_two_pow]; exact h
  have h0 : r.getLsbD 0 = false := by
    unfold bit1 at h31
    rw [BitVec.getLsbD_xor, BitVec.getLsbD_ushiftRight, BitVec.getLsbD_of_ge r _ (by decide)] at h31
    cases e : r.getLsbD 0
    · rfl
    · rw [e] at h31; revert h31; decide
  rw [bit1_even h0, BitVec.toNat_ushiftRight, Nat.shiftRight_eq_div_pow]
  have : r.toNat % 2 = 0 := by
    rw [BitVec.getLsbD, Nat.testBit_zero] at h0
    have := of_decide_eq_false h0
    omega
  omega
theorem bit8_back {r : BitVec 32} (h : (bit8 r).toNat < 16777216) : r.toNat = 256 * (bit8 r).toNat := by
  unfold bit8 bit4 at *
  have h7 := bit1_back (r := bit1 (bit1 (bit1 (bit1 (bit1 (bit1 (bit1 r))))))) (by omega)
  have h6 := bit1_back (r := bit1 (bit1 (bit1 (bit1 (bit1 (bit1 r)))))) (by omega)
  have h5 := bit1_back (r := bit1 (bit1 (bit1 (bit1 (bit1 r))))) (by omega)
  have h4 := bit1_back (r := bit1 (bit1 (bit1 (bit1 r)))) (by omega)
  have h3 := bit1_back (r := bit1 (bit1 (bit1 r))) (by omega)
  have h2 := bit1_back (r := bit1 (bit1 r)) (by omega)
  have h1 := bit1_back (r := bit1 r) (by omega)
  have h0 := bit1_back (r := r) (by omega)
  omega
theorem byteOf_toNat (c : UInt8) : (byteOf c).toNat = c.toNat := by
  unfold byteOf
  rw [BitVec.toNat_ofNat]
  exact Nat.mod_eq_of_lt (by have := c.toNat_lt; omega)
theorem byteOf_inj {c e : UInt8} (h : byteOf c = byteOf e) : c = e := by
  have := congrArg BitVec.toNat h
  rw [byteOf_toNat, byteOf_toNat] at this
  exact UInt8.toNat.inj this
theorem xor_self_cancel {a b : BitVec 32} (h : a ^^^ b = 0#32) : a = b := by
  have : a ^^^ b ^^^ b = 0#32 ^^^ b := by rw [h]
  rw [BitVec.xor_assoc, BitVec.xor_self, BitVec.xor_zero, BitVec.zero_xor] at this
  exact this
theorem step_diff (r s : BitVec 32) (c e : UInt8) : step r c ^^^ step s e = bit8 (r ^^^ s ^^^ (byteOf c ^^^ byteOf e)) := by
  rw [step_bit8, step_bit8, ← bit8_xor]; congr 1; ac_rfl
theorem bit8_zero {d : BitVec 32} (h : bit8 d = 0#32) : d = 0#32 := by
  have := bit8_back (r := d) (by rw [h]; decide)
  rw [h] at this
  exact BitVec.eq_of_toNat_eq (by simpa using this)
theorem step_inj {r s : BitVec 32} {c : UInt8} (h : step r c = step s c) : r = s := by
  have e := step_diff r s c c
  rw [h, BitVec.xor_self, BitVec.xor_self, BitVec.xor_zero] at e
  exact xor_self_cancel (bit8_zero e.symm)
theorem run_inj : ∀ {bs : List UInt8} {r s : BitVec 32}, run r bs = run s bs → r = s
  | [], _, _, h => h
  | _ :: bs, _, _, h => step_inj (run_inj (bs := bs) h)
theorem run_near : ∀ (a b : List UInt8) (r s : BitVec 32), a.length = b.length → a.length ≤ 4 → run r a = run s b →
    (r ^^^ s).toNat < 2 ^ (8 * a.length) ∧ (r = s → a = b)
  | [], [], r, s, _, _, h => by
    have : r = s := h
    subst this
    simp
  | c :: a, e :: b, r, s, hl, h4, h => by
    have hn : a.length ≤ 3 := by simpa using h4
    obtain ⟨i1, i2⟩ := run_near a b (step r c) (step s e) (by simpa using hl) (by omega) h
    rw [step_diff] at i1
    have hp : 2 ^ (8 * a.length) ≤ 2 ^ 24 := Nat.pow_le_pow_right (by decide) (by omega)
    have hb := bit8_back (r := r ^^^ s ^^^ (byteOf c ^^^ byteOf e)) (by omega)
    have hx : (byteOf c ^^^ byteOf e).toNat < 256 := by
      rw [BitVec.toNat_xor, byteOf_toNat, byteOf_toNat]
      exact Nat.xor_lt_two_pow (n := 8) c.toNat_lt e.toNat_lt
    have hpow : 2 ^ (8 * (c :: a).length) = 256 * 2 ^ (8 * a.length) := by
      rw [List.length_cons, Nat.mul_add, Nat.pow_add, Nat.mul_comm]
    constructor
    · have e1 : r ^^^ s = r ^^^ s ^^^ (byteOf c ^^^ byteOf e) ^^^ (byteOf c ^^^ byteOf e) := by
        rw [BitVec.xor_assoc (r ^^^ s), BitVec.xor_self, BitVec.xor_zero]
      rw [e1, BitVec.toNat_xor]
      apply Nat.xor_lt_two_pow
      · rw [hpow]; omega
      · rw [hpow]
        have : 0 < 2 ^ (8 * a.length) := Nat.two_pow_pos _
        omega
    · rintro rfl
      rw [BitVec.xor_self, BitVec.zero_xor] at hb
      have hz : (byteOf c ^^^ byteOf e).toNat = 0 := by omega
      have hce : c = e := byteOf_inj (xor_self_cancel (BitVec.eq_of_toNat_eq (by simpa using hz)))
      subst hce
      rw [i2 rfl]
/-- Two texts that differ in up to four bytes behind one another alone, and have one sum, are one. -/
theorem burst {pre mid mid' post : List UInt8} (hl : mid.length = mid'.length) (h4 : mid.length ≤ 4)
    (h : sum (pre ++ mid ++ post) = sum (pre ++ mid' ++ post)) : mid = mid' := by
  unfold sum more at h
  have h' : ∀ x y : BitVec 32, ~~~ x = ~~~ y → x = y := fun x y e => by simpa using congrArg (~~~ ·) e
  have h1 := h' _ _ h
  rw [run_append, run_append, run_append, run_append] at h1
  exact (run_near mid mid' _ _ hl h4 (run_inj h1)).2 rfl
end Go.Proofs.YtcmlchicpmnhdaaGreatDoor.Crc
