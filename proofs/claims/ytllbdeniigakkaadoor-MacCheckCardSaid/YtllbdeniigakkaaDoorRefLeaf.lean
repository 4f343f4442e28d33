/-
  Proved: what turn, Put and Get of package stillroomref1 return.
  Conditions: the slice reads as four bytes (Get); sizes of four and eight (Put).
-/
import Derived.Test.YtllbdeniigakkaaDoorShaMix
import Derived.Test.YtllbdeniigakkaaDoorOwn
import Derived.Laws.ShiftsVarLaws
import Derived.LoopN
namespace Go.Proofs.YtllbdeniigakkaaDoor.Sha
open Go.RowKit

theorem turn_int (x : BitVec 32) (k : Nat) (h1 : 1 ≤ k) (hk : k ≤ 31) : bits .or .u32 ((x.toNat : Int) / 2 ^ k) ((x.toNat : Int) * 2 ^ (32 - k) % 4294967296) = ((rotr x k).toNat : Int) := by
  have h := rotr_int x (32 - k) (by omega)
  rw [show 32 - (32 - k) = k by omega] at h
  rw [← h]
  have e1 : (x.toNat : Int) * 2 ^ (32 - k) % 4294967296 = ((x.toNat * 2 ^ (32 - k) % 4294967296 : Nat) : Int) := by
    rw [Int.natCast_emod, Int.natCast_mul, Int.natCast_pow]; rfl
  have e2 : (x.toNat : Int) / 2 ^ k = ((x.toNat / 2 ^ k : Nat) : Int) := by
    rw [Int.natCast_ediv, Int.natCast_pow]; rfl
  have hx : x.toNat < 4294967296 := x.isLt
  have h3 : x.toNat / 2 ^ k < 4294967296 := Nat.lt_of_le_of_lt (Nat.div_le_self _ _) hx
  rw [e1, e2, u32_or_nat _ _ h3 (Nat.mod_lt _ (by decide)), u32_or_nat _ _ (Nat.mod_lt _ (by decide)) h3, Nat.or_comm]
theorem turn_any (x : BitVec 32) (k : Nat) (v : Int) (w : World) (hv : v = (k : Int)) (h1 : 1 ≤ k) (hk : k ≤ 31) :
    Calls Tryd.prog 27 #[.int .u32 (x.toNat : Int), .int .i64 v] w fun e w' => e = .returned (.int .u32 ((rotr x k).toNat : Int)) ∧ w = w' := by
  subst hv
  have hx : x.toNat < 4294967296 := x.isLt
  go_enter Tryd.func27, Tryd.ntmps27
  go_wp2
  go_ret
  exact ⟨ret_int (turn_int x k h1 hk), rfl⟩

theorem get_any (A : Option Addr) (c : Nat) (a b d e : UInt8) (B : Nat) (w : World) (hR : Row w B A 4 (bvs [a, b, d, e])) :
    Calls Tryd.prog 26 #[.slice A 4 c] w fun e' w' => e' = .returned (.int .u64 ((word a b d e).toNat : Int)) ∧ w = w' := by
  obtain ⟨g, o, rfl, _, hc⟩ := hR.byte (by omega)
  have c0 : w.cell? ⟨g, o + 0, none⟩ = some (.int .u8 (a.toNat : Int)) := hc 0 (by omega)
  have c1 : w.cell? ⟨g, o + 1, none⟩ = some (.int .u8 (b.toNat : Int)) := hc 1 (by omega)
  have c2 : w.cell? ⟨g, o + 2, none⟩ = some (.int .u8 (d.toNat : Int)) := hc 2 (by omega)
  have c3 : w.cell? ⟨g, o + 3, none⟩ = some (.int .u8 (e.toNat : Int)) := hc 3 (by omega)
  rw [Nat.add_zero] at c0
  have h0 := a.toNat_lt; have h1 := b.toNat_lt; have h2 := d.toNat_lt; have h3 := e.toNat_lt
  clear hR hc
  go_enter Tryd.func26, Tryd.ntmps26
  go_wp2
  refine wp_loop_rounds 5 ?_
  rw [rounds_succ]
  go_wp2
  rw [rounds_succ]
  go_wp2
  rw [rounds_succ]
  go_wp2
  rw [rounds_succ]
  go_wp2
  rw [rounds_succ]
  go_wp2
  go_ret
  exact ⟨ret_int (by rw [word_toNat]; omega), rfl⟩

/-- The first t bytes of a number of so many bytes, the highest first. -/
def beL (n size t : Nat) : List UInt8 := (List.range t).map fun j => UInt8.ofNat (n / 2 ^ (8 * (size - 1 - j)))
theorem beL_snoc (n size t : Nat) : beL n size (t + 1) = beL n size t ++ [UInt8.ofNat (n / 2 ^ (8 * (size - 1 - t)))] := by
  rw [beL, List.range_succ, List.map_append]
  rfl
theorem beL_length (n size t : Nat) : (beL n size t).length = t := by simp [beL]
theorem beL_four (x : BitVec 32) : beL x.toNat 4 4 = bytes32 x := by simp [beL, bytes32, List.range_succ]
theorem beL_eight (n : Nat) : beL n 8 8 = bytes64 n := by simp [beL, bytes64, List.range_succ]
theorem byte_pow (n m : Nat) : Value.int .u8 ((n : Int) / 2 ^ m % 256) = bv (UInt8.ofNat (n / 2 ^ m)) := by
  have h := byte_of n (2 ^ m)
  rw [Int.natCast_pow] at h
  exact h
theorem bvs_one_list (c : UInt8) : bvs [c] = [bv c] := rfl
theorem u8_info' : (Tryd.prog.info? 5).map (fun i => (i.zero, i.size, i.bytes)) = some (some (.int .u8 0), 1, 1) := by kernel_rfl

set_option maxHeartbeats 400000 in
theorem put_any (n size : Nat) (v : Int) (w : World) (hv : v = (size : Int)) (hs : 1 ≤ size ∧ size ≤ 8) (hn : n < 18446744073709551616) :
    Calls Tryd.prog 25 #[.int .u64 (n : Int), .int .i64 v] w fun e w' => ∃ u, e = .returned u ∧ w'.ownsRow w.heap.size 5 1 u size (bvs (beL n size size)) ∧ Below w.heap.size w w' := by
  subst hv
  obtain ⟨hs1, hs2⟩ := hs
  have HN := Lib.hid hn
  clear hn
  go_enter Tryd.func25, Tryd.ntmps25
  go_wp2_with fail
  go_loopw [5, 6] (fun u i wr => ∃ t : Nat, t ≤ size ∧ i = .int .i64 ((size : Int) - 1 - (t : Int)) ∧ Hid (wr.ownsRow w.heap.size 5 1 u t (bvs (beL n size t)) ∧ Below w.heap.size w wr)) (fun _ i _ => (intOf i + 1).toNat)
  case atStart => exact ⟨0, Nat.zero_le _, by simp, World.ownsRow_nil _ _ _ _, Below.refl _ _⟩
  case round =>
    obtain ⟨t, ht, rfl, HI⟩ := hrel
    by_cases hlt : t < size
    · have HO := Lib.hid (HI.out.1.alloc (.cells #[.int .u8 ((n : Int) / 2 ^ (8 * (size - 1 - t)) % 256)] 5))
      have HB := Lib.hid HI.out.2
      have HRF : Hid (Row (wr.alloc (.cells #[.int .u8 ((n : Int) / 2 ^ (8 * (size - 1 - t)) % 256)] 5)) (wr.heap.size + 1) (some ⟨wr.heap.size, 0, none⟩) 1 [.int .u8 ((n : Int) / 2 ^ (8 * (size - 1 - t)) % 256)]) := Row.fresh wr 5 (0, 0) _
      have E1 : Hid (∀ u ∈ [Value.int .u8 ((n : Int) / 2 ^ (8 * (size - 1 - t)) % 256)], u.oneCell' = true) := fun u hu => by rw [List.mem_singleton.1 hu]; rfl
      have E2 : Hid (t + 1 ≤ maxLen) := by show t + 1 ≤ maxLen; unfold maxLen; omega
      have E3 : Hid ((t + 1) * 1 ≤ 140737488355328) := by show (t + 1) * 1 ≤ 140737488355328; omega
      have E4 : Hid (w.heap.size ≤ (wr.alloc (.cells #[.int .u8 ((n : Int) / 2 ^ (8 * (size - 1 - t)) % 256)] 5)).heap.size) := by
        show _ ≤ _
        have := HB.out.size
        simp
        omega
      clear HI
      go_wp2_with (at_builtin; refine wpList_append_reads rfl (.tmp 19) (.tmp 26) _ rfl w.heap.size 5 (.int .u8 0) 1 Tryd.underlying22 u8_info' rfl u5 t (bvs (beL n size t)) rfl HO.out (wr.heap.size + 1) (some ⟨wr.heap.size, 0, none⟩) 1 1 _ rfl HRF.out E1.out E2.out E3.out E4.out ?_; intro v2 w2 ho2 hg2)
      rw [byte_pow, ← bvs_one_list, bvs_append, ← beL_snoc] at ho2
      have hb2 : Below w.heap.size w w2 := (HB.out.alloc HB.out.size _).grown hg2 E4.out (fun q hq => (HO.out.lt q hq).1)
      have HO2 := Lib.hid ho2
      have HB2 := Lib.hid hb2
      clear ho2 hg2 hb2
      go_wp2_with fail
      go_roundw
      case rel => exact ⟨t + 1, by omega, by go_num, HO2.out, HB2.out⟩
      case measure => simp [intOf]; omega
    · obtain rfl : t = size := by omega
      go_wp2_with fail
      go_ret
      exact ⟨u5, rfl, HI.out.1, HI.out.2⟩
end Go.Proofs.YtllbdeniigakkaaDoor.Sha
