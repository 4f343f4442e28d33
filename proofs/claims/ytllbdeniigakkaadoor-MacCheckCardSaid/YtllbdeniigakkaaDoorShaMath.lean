/-
  SHA-256 as plain functions on words of 32 bits and lists of bytes: a round, a block's words, a block, padding, the digest; facts on them.
-/
import Derived.Below
namespace Go.Proofs.YtllbdeniigakkaaDoor.Sha

/-- The eight words of a state. -/
structure St where
  a : BitVec 32
  b : BitVec 32
  c : BitVec 32
  d : BitVec 32
  e : BitVec 32
  f : BitVec 32
  g : BitVec 32
  h : BitVec 32

def rotr (x : BitVec 32) (k : Nat) : BitVec 32 := x <<< (32 - k) ||| x >>> k
def big1 (e : BitVec 32) : BitVec 32 := rotr e 6 ^^^ rotr e 11 ^^^ rotr e 25
def big0 (a : BitVec 32) : BitVec 32 := rotr a 2 ^^^ rotr a 13 ^^^ rotr a 22
def low0 (x : BitVec 32) : BitVec 32 := rotr x 7 ^^^ rotr x 18 ^^^ x >>> 3
def low1 (x : BitVec 32) : BitVec 32 := rotr x 17 ^^^ rotr x 19 ^^^ x >>> 10
def pick (e f g : BitVec 32) : BitVec 32 := (e &&& f) ^^^ (~~~ e &&& g)
def most (a b c : BitVec 32) : BitVec 32 := (a &&& b) ^^^ (a &&& c) ^^^ (b &&& c)
/-- What comes into a round. -/
def into (s : St) (k w : BitVec 32) : BitVec 32 := s.h + big1 s.e + pick s.e s.f s.g + k + w
def rnd (s : St) (k w : BitVec 32) : St :=
  ⟨into s k w + big0 s.a + most s.a s.b s.c, s.a, s.b, s.c, s.d + into s k w, s.e, s.f, s.g⟩
def St.add (s t : St) : St := ⟨s.a + t.a, s.b + t.b, s.c + t.c, s.d + t.d, s.e + t.e, s.f + t.f, s.g + t.g, s.h + t.h⟩
def St.list (s : St) : List (BitVec 32) := [s.a, s.b, s.c, s.d, s.e, s.f, s.g, s.h]

/-- The constants of the rounds. -/
def K : List Nat := [1116352408, 1899447441, 3049323471, 3921009573, 961987163, 1508970993, 2453635748, 2870763221, 3624381080, 310598401, 607225278, 1426881987, 1925078388, 2162078206, 2614888103, 3248222580, 3835390401, 4022224774, 264347078, 604807628, 770255983, 1249150122, 1555081692, 1996064986, 2554220882, 2821834349, 2952996808, 3210313671, 3336571891, 3584528711, 113926993, 338241895, 666307205, 773529912, 1294757372, 1396182291, 1695183700, 1986661051, 2177026350, 2456956037, 2730485921, 2820302411, 3259730800, 3345764771, 3516065817, 3600352804, 4094571909, 275423344, 430227734, 506948616, 659060556, 883997877, 958139571, 1322822218, 1537002063, 1747873779, 1955562222, 2024104815, 2227730452, 2361852424, 2428436474, 2756734187, 3204031479, 3329325298]
def k32 (i : Nat) : BitVec 32 := BitVec.ofNat 32 (K.getD i 0)
def start : St := ⟨1779033703#32, 3144134277#32, 1013904242#32, 2773480762#32, 1359893119#32, 2600822924#32, 528734635#32, 1541459225#32⟩

/-- A word out of four bytes, the highest first. -/
def word (a b c d : UInt8) : BitVec 32 := BitVec.ofNat 32 (a.toNat * 16777216 + b.toNat * 65536 + c.toNat * 256 + d.toNat)
def wordAt (bs : List UInt8) (i : Nat) : BitVec 32 := word (bs.getD (4 * i) 0) (bs.getD (4 * i + 1) 0) (bs.getD (4 * i + 2) 0) (bs.getD (4 * i + 3) 0)
/-- One word more. -/
def nextWord (l : List (BitVec 32)) : BitVec 32 := low1 (l.getD (l.length - 2) 0) + l.getD (l.length - 7) 0 + low0 (l.getD (l.length - 15) 0) + l.getD (l.length - 16) 0
/-- The words of a block: n of them. -/
def words (bs : List UInt8) : Nat → List (BitVec 32)
  | 0 => []
  | n + 1 => words bs n ++ [if n < 16 then wordAt bs n else nextWord (words bs n)]
theorem words_length (bs : List UInt8) (n : Nat) : (words bs n).length = n := by
  induction n with
  | zero => rfl
  | succ n ih => rw [words, List.length_append, ih]; rfl
/-- The same, quicker to reckon. -/
def more (l : List (BitVec 32)) : Nat → List (BitVec 32)
  | 0 => l
  | n + 1 => more (l ++ [nextWord l]) n
/-- Rounds 0 to n - 1. -/
def rounds (ws : List (BitVec 32)) (s : St) : Nat → St
  | 0 => s
  | n + 1 => rnd (rounds ws s n) (k32 n) (ws.getD n 0)
def block (s : St) (bs : List UInt8) : St := s.add (rounds (words bs 64) s 64)
/-- n blocks. -/
def blocks (s : St) (bs : List UInt8) : Nat → St
  | 0 => s
  | n + 1 => block (blocks s bs n) ((bs.drop (64 * n)).take 64)

/-- The bytes of a word. -/
def bytes32 (w : BitVec 32) : List UInt8 := [UInt8.ofNat (w.toNat / 16777216), UInt8.ofNat (w.toNat / 65536), UInt8.ofNat (w.toNat / 256), UInt8.ofNat w.toNat]
def St.bytes (s : St) : List UInt8 := s.list.flatMap bytes32
def bytes64 (n : Nat) : List UInt8 := [UInt8.ofNat (n / 72057594037927936), UInt8.ofNat (n / 281474976710656), UInt8.ofNat (n / 1099511627776), UInt8.ofNat (n / 4294967296), UInt8.ofNat (n / 16777216), UInt8.ofNat (n / 65536), UInt8.ofNat (n / 256), UInt8.ofNat n]
/-- How many noughts the padding of a text of n bytes has. -/
def noughts (n : Nat) : Nat := (119 - n % 64) % 64
def pad (n : Nat) : List UInt8 := 128 :: (List.replicate (noughts n) 0 ++ bytes64 (8 * n))
theorem pad_length (n : Nat) : (pad n).length = noughts n + 9 := by simp [pad, bytes64]
theorem pad_whole (n : Nat) : (n + (pad n).length) % 64 = 0 := by rw [pad_length, noughts]; omega
theorem noughts_lt (n : Nat) : noughts n < 64 := Nat.mod_lt _ (by decide)
/-- The state behind all whole blocks of a text. -/
def stateOf (bs : List UInt8) : St := blocks start bs (bs.length / 64)
def digest (bs : List UInt8) : List UInt8 := (stateOf (bs ++ pad bs.length)).bytes

theorem St.list_length (s : St) : s.list.length = 8 := rfl
theorem bytes_length (s : St) : s.bytes.length = 32 := rfl
theorem digest_length (bs : List UInt8) : (digest bs).length = 32 := rfl

/-! Blocks look at the bytes that they are made of alone. -/
theorem blocks_append (s : St) (xs ys : List UInt8) (n : Nat) (h : 64 * n ≤ xs.length) : blocks s (xs ++ ys) n = blocks s xs n := by
  induction n with
  | zero => rfl
  | succ n ih =>
    rw [blocks, blocks, ih (by omega)]
    congr 1
    rw [List.drop_append_of_le_length (by omega), List.take_append_of_le_length (by rw [List.length_drop]; omega)]
theorem blocks_add (s : St) (bs : List UInt8) (m n : Nat) : blocks s bs (m + n) = blocks (blocks s bs m) (bs.drop (64 * m)) n := by
  induction n with
  | zero => rfl
  | succ n ih =>
    rw [← Nat.add_assoc, blocks, blocks, ih, List.drop_drop]
    congr 3
    omega
theorem blocks_one (s : St) (bs : List UInt8) : blocks s bs 1 = block s (bs.take 64) := rfl
theorem stateOf_short (bs : List UInt8) (h : bs.length < 64) : stateOf bs = start := by
  unfold stateOf
  rw [Nat.div_eq_of_lt h]
  rfl
/-- More bytes that fill no block change nothing. -/
theorem stateOf_same (xs ys : List UInt8) (h : xs.length % 64 + ys.length < 64) : stateOf (xs ++ ys) = stateOf xs := by
  unfold stateOf
  rw [List.length_append, show (xs.length + ys.length) / 64 = xs.length / 64 by omega, blocks_append _ _ _ _ (by omega)]
/-- Bytes that fill the block. -/
theorem stateOf_fill (xs ys : List UInt8) (h : xs.length % 64 + ys.length = 64) :
    stateOf (xs ++ ys) = block (stateOf xs) (xs.drop (64 * (xs.length / 64)) ++ ys) := by
  unfold stateOf
  have hl : (xs ++ ys).length / 64 = xs.length / 64 + 1 := by rw [List.length_append]; omega
  rw [hl, blocks_add, blocks_append _ _ _ _ (by omega), blocks_one]
  congr 1
  rw [List.drop_append_of_le_length (by omega), List.take_of_length_le (by rw [List.length_append, List.length_drop]; omega)]
theorem stateOf_block (xs ys : List UInt8) (h : xs.length % 64 = 0) (hy : ys.length = 64) : stateOf (xs ++ ys) = block (stateOf xs) ys := by
  rw [stateOf_fill xs ys (by omega), show 64 * (xs.length / 64) = xs.length by omega, List.drop_length, List.nil_append]

/-! Words of bytes and back. -/
theorem word_toNat (a b c d : UInt8) : (word a b c d).toNat = a.toNat * 16777216 + b.toNat * 65536 + c.toNat * 256 + d.toNat := by
  have := a.toNat_lt; have := b.toNat_lt; have := c.toNat_lt; have := d.toNat_lt
  unfold word
  rw [BitVec.toNat_ofNat, Nat.mod_eq_of_lt (by omega)]
theorem words_snoc (bs : List UInt8) (n : Nat) : words bs (n + 1) = words bs n ++ [if n < 16 then wordAt bs n else nextWord (words bs n)] := rfl
theorem words_getD (bs : List UInt8) (i n : Nat) (h : i < n) : (words bs n).getD i 0 = if i < 16 then wordAt bs i else nextWord (words bs i) := by
  induction n with
  | zero => omega
  | succ n ih =>
    rw [words_snoc]
    by_cases hi : i = n
    · subst hi
      rw [List.getD_eq_getElem?_getD, List.getElem?_append_right (by rw [words_length]; omega), words_length, Nat.sub_self]
      rfl
    · rw [List.getD_eq_getElem?_getD, List.getElem?_append_left (by rw [words_length]; omega), ← List.getD_eq_getElem?_getD]
      exact ih (by omega)
theorem words_getD_any (bs : List UInt8) (i n m : Nat) (h : i < n) (hm : i < m) : (words bs n).getD i 0 = (words bs m).getD i 0 := by rw [words_getD bs i n h, words_getD bs i m hm]
theorem bytes32_word (a b c d : UInt8) : bytes32 (word a b c d) = [a, b, c, d] := by
  have := a.toNat_lt; have := b.toNat_lt; have := c.toNat_lt; have := d.toNat_lt
  unfold bytes32
  rw [word_toNat]
  simp only [List.cons.injEq, and_true, ← UInt8.toNat_inj, UInt8.toNat_ofNat']
  omega
end Go.Proofs.YtllbdeniigakkaaDoor.Sha
