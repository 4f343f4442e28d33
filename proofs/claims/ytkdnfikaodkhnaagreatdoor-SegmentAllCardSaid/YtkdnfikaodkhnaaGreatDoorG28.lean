/-
  Texts one behind the other: RecRefDec, RecRefDec2.
-/
import Derived.LoopN
import Derived.Test.YtkdnfikaodkhnaaGreatDoorG06
import Derived.Test.YtkdnfikaodkhnaaGreatDoorG07
import Derived.Test.YtkdnfikaodkhnaaGreatDoorG27
/-
  Proved: what the reference's Decode returns: what a list of bytes begins with.
  Conditions: the slice reads as bytes.
-/
namespace Go.Proofs.YtkdnfikaodkhnaaGreatDoor.Rec
open Go.RowKit
open Go.Proofs.YtkdnfikaodkhnaaGreatDoor.Crc (Turned)
set_option linter.unusedVariables false
set_option linter.unusedSimpArgs false


set_option maxRecDepth 100000 in
set_option maxHeartbeats 4000000 in
/-- The mark is wrong in its first byte. -/
theorem refdecode_b (b o n c : Nat) (bs : List UInt8) (w : World) (hR : Row w w.heap.size (some ⟨b, o, none⟩) n (bvs bs)) (hnc : n ≤ c) (hc : c ≤ maxLen) (h1 : 1 ≤ n) (h : bs.getD 0 0 ≠ 83) :
    Calls Tryz.prog 67 #[.slice (some ⟨b, o, none⟩) n c] w fun e w' => e = .returned (.tuple Out.bad.vals) ∧ Below w.heap.size w w' := by
  have hm : c ≤ 9223372036854775807 := by unfold maxLen at hc; exact hc
  have hz := zeroRec
  obtain ⟨w1, hw1⟩ : ∃ w1, w1 = w.alloc (.cells #[.int .i64 0, .int .u32 0, .int .u64 0, .int .u64 0, .int .u64 0, .string ⟨#[]⟩] 40) := ⟨_, rfl⟩
  have hB1 : Below w.heap.size w w1 := by rw [hw1]; exact below_alloc w _
  have HR1 : Hid (Row w1 w.heap.size (some ⟨b, o, none⟩) n (bvs bs)) := hR.below hB1
  have HZ : Hid (RecAt w1 w.heap.size zeroRc) := by rw [hw1]; exact zero_new w
  have HB1 := Lib.hid hB1
  have hl := hR.size
  have hnc' : n ≤ 9223372036854775807 := by omega
  obtain ⟨b', o', e', _, hcs⟩ := HR1.out.byte (by omega)
  injection e' with e'
  injection e' with e1 e2
  subst e1 e2
  have hcell : w1.cell? ⟨b, o, none⟩ = some (.int .u8 ((bs.getD 0 0).toNat : Int)) := hcs 0 (by omega)
  obtain ⟨q, hq⟩ : ∃ q, q = bs.getD 0 0 := ⟨_, rfl⟩
  rw [← hq] at hcell h
  have hs0 : ((((⟨#[83, 82]⟩ : ByteArray)[0]'(by decide)).toNat : Nat) : Int) = 83 := rfl
  have hd : ((q.toNat : Int) != ((((⟨#[83, 82]⟩ : ByteArray)[0]'(by decide)).toNat : Nat) : Int)) = true := bne_iff_ne.2 (fun e => h (UInt8.toNat.inj (by rw [hs0] at e; show q.toNat = 83; omega)))
  have hn1 : (0 : Int) < (n : Int) := by omega
  have hq8 := q.toNat_lt
  clear hcs hq h hl hR hB1
  go_enter Tryz.func67, Tryz.ntmps67
  go_upto_region 1 with fail
  rw [← hw1]
  clear hw1
  go_wp2_with fail
  refine wp_loop_rounds 3 ?_
  rw [rounds_succ]
  go_wp2_with fail
  go_quiet (fail)
  have HZ2 : Hid (RecAt (w1.drewN nq) w.heap.size zeroRc) := HZ.out
  have HB2 := Lib.hid (below_drewN HB1.out nq)
  go_wp2_with (refine store_recN HZ2.out rfl rfl (.tmp 2) (.tmp 27) rfl rfl zeroRc rfl rfl ?_; intro w2 G5 G6)
  refine bodyPost_ret (result_rec3 G5.out rfl _ rfl) rfl ?_
  exact ⟨rfl, below_only HB2.out (only_hid G6) (Nat.le_refl _) HB2.out.size⟩
set_option maxRecDepth 100000 in
set_option maxHeartbeats 4000000 in
/-- There is nothing. -/
theorem refdecode_a (A : Option Addr) (c : Nat) (w : World) (hc : c ≤ maxLen) :
    Calls Tryz.prog 67 #[.slice A 0 c] w fun e w' => e = .returned (.tuple Out.more.vals) ∧ Below w.heap.size w w' := by
  have hz := zeroRec
  obtain ⟨w1, hw1⟩ : ∃ w1, w1 = w.alloc (.cells #[.int .i64 0, .int .u32 0, .int .u64 0, .int .u64 0, .int .u64 0, .string ⟨#[]⟩] 40) := ⟨_, rfl⟩
  have HB1 : Hid (Below w.heap.size w w1) := by rw [hw1]; exact below_alloc w _
  have HZ : Hid (RecAt w1 w.heap.size zeroRc) := by rw [hw1]; exact zero_new w
  go_enter Tryz.func67, Tryz.ntmps67
  go_upto_region 1 with fail
  rw [← hw1]
  clear hw1
  go_wp2_with fail
  refine wp_loop_rounds 3 ?_
  rw [rounds_succ]
  go_wp2_with (refine store_recN HZ.out rfl rfl (.tmp 2) (.tmp 47) rfl rfl zeroRc rfl rfl ?_; intro w2 G5 G6)
  refine bodyPost_ret (result_rec3 G5.out rfl _ rfl) rfl ?_
  exact ⟨rfl, below_only HB1.out (only_hid G6) (Nat.le_refl _) HB1.out.size⟩
set_option maxRecDepth 100000 in
set_option maxHeartbeats 4000000 in
/-- One byte, the right one. -/
theorem refdecode_c (b o n c : Nat) (bs : List UInt8) (w : World) (hR : Row w w.heap.size (some ⟨b, o, none⟩) n (bvs bs)) (hnc : n ≤ c) (hc : c ≤ maxLen) (h1 : n = 1) (h0 : bs.getD 0 0 = 83) :
    Calls Tryz.prog 67 #[.slice (some ⟨b, o, none⟩) n c] w fun e w' => e = .returned (.tuple Out.more.vals) ∧ Below w.heap.size w w' := by
  have hm : c ≤ 9223372036854775807 := by unfold maxLen at hc; exact hc
  have hz := zeroRec
  obtain ⟨w1, hw1⟩ : ∃ w1, w1 = w.alloc (.cells #[.int .i64 0, .int .u32 0, .int .u64 0, .int .u64 0, .int .u64 0, .string ⟨#[]⟩] 40) := ⟨_, rfl⟩
  have hB1 : Below w.heap.size w w1 := by rw [hw1]; exact below_alloc w _
  have HR1 : Hid (Row w1 w.heap.size (some ⟨b, o, none⟩) n (bvs bs)) := hR.below hB1
  have HZ : Hid (RecAt w1 w.heap.size zeroRc) := by rw [hw1]; exact zero_new w
  have HB1 := Lib.hid hB1
  have hl := hR.size
  have hnc' : n ≤ 9223372036854775807 := by omega
  obtain ⟨b', o', e', _, hcs⟩ := HR1.out.byte (by omega)
  injection e' with e'
  injection e' with e1 e2
  subst e1 e2
  have hcell : w1.cell? ⟨b, o, none⟩ = some (.int .u8 ((bs.getD 0 0).toNat : Int)) := hcs 0 (by omega)
  rw [h0] at hcell
  have hs0 : ((((⟨#[83, 82]⟩ : ByteArray)[0]'(by decide)).toNat : Nat) : Int) = 83 := rfl
  have hd : ((83 : Int) != ((((⟨#[83, 82]⟩ : ByteArray)[0]'(by decide)).toNat : Nat) : Int)) = false := rfl
  have hcell' : w1.cell? ⟨b, o, none⟩ = some (.int .u8 83) := hcell
  subst h1
  clear hcs hl hR hB1 hcell h0
  go_enter Tryz.func67, Tryz.ntmps67
  go_upto_region 1 with fail
  rw [← hw1]
  clear hw1
  go_wp2_with fail
  refine wp_loop_rounds 3 ?_
  rw [rounds_succ]
  go_wp2_with fail
  go_quiet (fail)
  have HZ2 : Hid (RecAt (w1.drewN nq) w.heap.size zeroRc) := HZ.out
  have HB2 := Lib.hid (below_drewN HB1.out nq)
  go_wp2_with fail
  rw [rounds_succ]
  go_wp2_with (refine store_recN HZ2.out rfl rfl (.tmp 2) (.tmp 47) rfl rfl zeroRc rfl rfl ?_; intro w2 G5 G6)
  refine bodyPost_ret (result_rec3 G5.out rfl _ rfl) rfl ?_
  exact ⟨rfl, below_only HB2.out (only_hid G6) (Nat.le_refl _) HB2.out.size⟩
set_option maxRecDepth 100000 in
set_option maxHeartbeats 4000000 in
/-- The mark is wrong in its second byte. -/
theorem refdecode_d (b o n c : Nat) (bs : List UInt8) (w : World) (hR : Row w w.heap.size (some ⟨b, o, none⟩) n (bvs bs)) (hnc : n ≤ c) (hc : c ≤ maxLen) (h1 : 2 ≤ n) (h0 : bs.getD 0 0 = 83) (h : bs.getD 1 0 ≠ 82) :
    Calls Tryz.prog 67 #[.slice (some ⟨b, o, none⟩) n c] w fun e w' => e = .returned (.tuple Out.bad.vals) ∧ Below w.heap.size w w' := by
  have hm : c ≤ 9223372036854775807 := by unfold maxLen at hc; exact hc
  have hz := zeroRec
  obtain ⟨w1, hw1⟩ : ∃ w1, w1 = w.alloc (.cells #[.int .i64 0, .int .u32 0, .int .u64 0, .int .u64 0, .int .u64 0, .string ⟨#[]⟩] 40) := ⟨_, rfl⟩
  have hB1 : Below w.heap.size w w1 := by rw [hw1]; exact below_alloc w _
  have HR1 : Hid (Row w1 w.heap.size (some ⟨b, o, none⟩) n (bvs bs)) := hR.below hB1
  have HZ : Hid (RecAt w1 w.heap.size zeroRc) := by rw [hw1]; exact zero_new w
  have HB1 := Lib.hid hB1
  have hl := hR.size
  have hnc' : n ≤ 9223372036854775807 := by omega
  obtain ⟨b', o', e', _, hcs⟩ := HR1.out.byte (by omega)
  injection e' with e'
  injection e' with e1 e2
  subst e1 e2
  have hcell : w1.cell? ⟨b, o, none⟩ = some (.int .u8 ((bs.getD 0 0).toNat : Int)) := hcs 0 (by omega)
  rw [h0] at hcell
  have hs0 : ((((⟨#[83, 82]⟩ : ByteArray)[0]'(by decide)).toNat : Nat) : Int) = 83 := rfl
  have hd : ((83 : Int) != ((((⟨#[83, 82]⟩ : ByteArray)[0]'(by decide)).toNat : Nat) : Int)) = false := rfl
  have hcell' : w1.cell? ⟨b, o, none⟩ = some (.int .u8 83) := hcell
  have hs1 : ((((⟨#[83, 82]⟩ : ByteArray)[1]'(by decide)).toNat : Nat) : Int) = 82 := rfl
  obtain ⟨q, hq⟩ : ∃ q, q = bs.getD 1 0 := ⟨_, rfl⟩
  have hc1 : w1.cell? ⟨b, o + 1, none⟩ = some (.int .u8 ((bs.getD 1 0).toNat : Int)) := hcs 1 (by omega)
  rw [← hq] at hc1 h
  have hd2 : ((q.toNat : Int) != ((((⟨#[83, 82]⟩ : ByteArray)[1]'(by decide)).toNat : Nat) : Int)) = true := bne_iff_ne.2 (fun e => h (UInt8.toNat.inj (by rw [hs1] at e; show q.toNat = 82; omega)))
  have hn1 : (1 : Int) < (n : Int) := by omega
  have hn0 : (0 : Int) < (n : Int) := by omega
  have hq8 := q.toNat_lt
  have HC1 := Lib.hid hc1
  clear hcs hl hR hB1 hcell h0 hq h
  go_enter Tryz.func67, Tryz.ntmps67
  go_upto_region 1 with fail
  rw [← hw1]
  clear hw1
  go_wp2_with fail
  refine wp_loop_rounds 3 ?_
  rw [rounds_succ]
  go_wp2_with fail
  go_quiet (fail)
  obtain ⟨w2, hw2⟩ : ∃ w2, w2 = w1.drewN nq := ⟨_, rfl⟩
  have HZ2 : Hid (RecAt w2 w.heap.size zeroRc) := by rw [hw2]; exact HZ.out
  have HB2 : Hid (Below w.heap.size w w2) := by rw [hw2]; exact below_drewN HB1.out nq
  have hc2 : w2.cell? ⟨b, o + 1, none⟩ = some (.int .u8 (q.toNat : Int)) := by rw [hw2]; exact HC1.out
  rw [← hw2]
  clear hw2 HZ HB1 hc1 hcell'
  go_wp2_with fail
  rw [rounds_succ]
  go_wp2_with fail
  go_quiet (fail)
  have HZ3 : Hid (RecAt (w2.drewN nq) w.heap.size zeroRc) := HZ2.out
  have HB3 := Lib.hid (below_drewN HB2.out nq)
  go_wp2_with (refine store_recN HZ3.out rfl rfl (.tmp 2) (.tmp 27) rfl rfl zeroRc rfl rfl ?_; intro w4 G5 G6)
  refine bodyPost_ret (result_rec3 G5.out rfl _ rfl) rfl ?_
  exact ⟨rfl, below_only HB3.out (only_hid G6) (Nat.le_refl _) HB3.out.size⟩
end Go.Proofs.YtkdnfikaodkhnaaGreatDoor.Rec
/-
  Proved: what the reference's Decode returns where the mark is right.
  Conditions: the slice reads as bytes.
-/
namespace Go.Proofs.YtkdnfikaodkhnaaGreatDoor.Rec
open Go.RowKit
open Go.Proofs.YtkdnfikaodkhnaaGreatDoor.Crc (Turned)
set_option linter.unusedVariables false
set_option linter.unusedSimpArgs false

set_option maxRecDepth 100000 in
set_option maxHeartbeats 4000000 in
/-- The mark is right; the kind is not, or there are fewer bytes than a head. -/
theorem refdecode_e (b o n c : Nat) (bs : List UInt8) (w : World) (hR : Row w w.heap.size (some ⟨b, o, none⟩) n (bvs bs)) (hnc : n ≤ c) (hc : c ≤ maxLen) (h1 : 2 ≤ n) (h0 : bs.getD 0 0 = 83) (hg : bs.getD 1 0 = 82) (hx : ¬ (mayKind ((bs.getD 2 0).toNat : Int) ∧ 39 ≤ n)) :
    Calls Tryz.prog 67 #[.slice (some ⟨b, o, none⟩) n c] w fun e w' => e = .returned (.tuple (dec bs).vals) ∧ Below w.heap.size w w' := by
  have hFr : Front bs ↔ (2 < n → mayKind ((bs.getD 2 0).toNat : Int)) := by
    unfold Front
    rw [hR.size]
    exact ⟨fun h => h.2.2, fun h => ⟨fun _ => h0, fun _ => hg, h⟩⟩
  have hdec : dec bs = if 2 < n → mayKind ((bs.getD 2 0).toNat : Int) then .more else .bad := by
    unfold dec
    rw [hR.size]
    by_cases hf : Front bs
    · rw [if_neg (not_not_intro hf), if_pos (hFr.1 hf)]
      by_cases h39 : n < 39
      · rw [if_pos h39]
      · exact absurd ⟨hFr.1 hf (by omega), by omega⟩ hx
    · rw [if_pos hf, if_neg (fun h => hf (hFr.2 h))]
  have HDEC := Lib.hid hdec
  clear hdec hFr
  have hm : c ≤ 9223372036854775807 := by unfold maxLen at hc; exact hc
  have hz := zeroRec
  obtain ⟨w1, hw1⟩ : ∃ w1, w1 = w.alloc (.cells #[.int .i64 0, .int .u32 0, .int .u64 0, .int .u64 0, .int .u64 0, .string ⟨#[]⟩] 40) := ⟨_, rfl⟩
  have hB1 : Below w.heap.size w w1 := by rw [hw1]; exact below_alloc w _
  have HR1 : Hid (Row w1 w.heap.size (some ⟨b, o, none⟩) n (bvs bs)) := hR.below hB1
  have HZ : Hid (RecAt w1 w.heap.size zeroRc) := by rw [hw1]; exact zero_new w
  have HB1 := Lib.hid hB1
  have hl := hR.size
  have hnc' : n ≤ 9223372036854775807 := by omega
  obtain ⟨b', o', e', _, hcs⟩ := HR1.out.byte (by omega)
  injection e' with e'
  injection e' with e1 e2
  subst e1 e2
  have hcell : w1.cell? ⟨b, o, none⟩ = some (.int .u8 ((bs.getD 0 0).toNat : Int)) := hcs 0 (by omega)
  rw [h0] at hcell
  have hs0 : ((((⟨#[83, 82]⟩ : ByteArray)[0]'(by decide)).toNat : Nat) : Int) = 83 := rfl
  have hd : ((83 : Int) != ((((⟨#[83, 82]⟩ : ByteArray)[0]'(by decide)).toNat : Nat) : Int)) = false := rfl
  have hcell' : w1.cell? ⟨b, o, none⟩ = some (.int .u8 83) := hcell
  have hs1 : ((((⟨#[83, 82]⟩ : ByteArray)[1]'(by decide)).toNat : Nat) : Int) = 82 := rfl
  have hc1 : w1.cell? ⟨b, o + 1, none⟩ = some (.int .u8 ((bs.getD 1 0).toNat : Int)) := hcs 1 (by omega)
  rw [hg] at hc1
  have hc1' : w1.cell? ⟨b, o + 1, none⟩ = some (.int .u8 82) := hc1
  have hd2 : ((82 : Int) != ((((⟨#[83, 82]⟩ : ByteArray)[1]'(by decide)).toNat : Nat) : Int)) = false := rfl
  have hn1 : (1 : Int) < (n : Int) := by omega
  have hn0 : (0 : Int) < (n : Int) := by omega
  have HC1 := Lib.hid hc1'
  have HL := Lib.hid hl
  have HR := Lib.hid hR
  clear hcs hl hR hB1 hcell h0 hg hc1
  go_enter Tryz.func67, Tryz.ntmps67
  go_upto_region 1 with fail
  rw [← hw1]
  clear hw1
  go_wp2_with fail
  refine wp_loop_rounds 3 ?_
  rw [rounds_succ]
  go_wp2_with fail
  go_quiet (fail)
  obtain ⟨w2, hw2⟩ : ∃ w2, w2 = w1.drewN nq := ⟨_, rfl⟩
  have HZ2 : Hid (RecAt w2 w.heap.size zeroRc) := by rw [hw2]; exact HZ.out
  have HB2 : Hid (Below w.heap.size w w2) := by rw [hw2]; exact below_drewN HB1.out nq
  have hc2 : w2.cell? ⟨b, o + 1, none⟩ = some (.int .u8 82) := by rw [hw2]; exact HC1.out
  rw [← hw2]
  clear hw2 HZ HB1 hc1' hcell'
  go_wp2_with fail
  rw [rounds_succ]
  go_wp2_with fail
  go_quiet (fail)
  obtain ⟨w3, hw3⟩ : ∃ w3, w3 = w2.drewN nq := ⟨_, rfl⟩
  have HZ3 : Hid (RecAt w3 w.heap.size zeroRc) := by rw [hw3]; exact HZ2.out
  have HB3 : Hid (Below w.heap.size w w3) := by rw [hw3]; exact below_drewN HB2.out nq
  rw [← hw3]
  clear hw3 HZ2 HB2 hc2 hd hd2 hs0 hs1
  have HR3 := Lib.hid (HR.out.below HB3.out)
  obtain ⟨b3, o3, e3, _, hcs3⟩ := HR3.out.byte (by omega)
  injection e3 with e3
  injection e3 with f1 f2
  subst f1 f2
  by_cases hn2 : n = 2
  · subst hn2
    have e : dec bs = .more := by rw [HDEC.out, if_pos (fun h => absurd h (by omega))]
    have HE := Lib.hid e
    clear hcs3 e
    go_wp2_with fail
    rw [rounds_succ]
    go_wp2_with (refine store_recN HZ3.out rfl rfl (.tmp 2) (.tmp 47) rfl rfl zeroRc rfl rfl ?_; intro w4 G5 G6)
    refine bodyPost_ret (result_rec3 G5.out rfl _ rfl) rfl ?_
    exact ⟨by rw [HE.out]; rfl, below_only HB3.out (only_hid G6) (Nat.le_refl _) HB3.out.size⟩
  have hn2' : (2 : Int) < (n : Int) := by omega
  have hk : w3.cell? ⟨b, o + 2, none⟩ = some (.int .u8 ((bs.getD 2 0).toNat : Int)) := hcs3 2 (by omega)
  obtain ⟨q, hq⟩ : ∃ q, q = bs.getD 2 0 := ⟨_, rfl⟩
  rw [← hq] at hk HDEC hx
  have hq8 := q.toNat_lt
  clear hcs3 hq
  by_cases ha : q.toNat < 1
  · have ha' : (q.toNat : Int) < 1 := by omega
    have e : dec bs = .bad := by rw [HDEC.out, if_neg (fun h => by have := (h (by omega)).1; omega)]
    have HE := Lib.hid e
    clear e
    go_wp2_with fail
    rw [rounds_succ]
    go_wp2_with (refine store_recN HZ3.out rfl rfl (.tmp 2) (.tmp 43) rfl rfl zeroRc rfl rfl ?_; intro w4 G5 G6)
    refine bodyPost_ret (result_rec3 G5.out rfl _ rfl) rfl ?_
    exact ⟨by rw [HE.out]; rfl, below_only HB3.out (only_hid G6) (Nat.le_refl _) HB3.out.size⟩
  have ha' : ¬ (q.toNat : Int) < 1 := by omega
  by_cases hb4 : 4 < q.toNat
  · have hb4' : (4 : Int) < (q.toNat : Int) := by omega
    have e : dec bs = .bad := by rw [HDEC.out, if_neg (fun h => by have := (h (by omega)).2; omega)]
    have HE := Lib.hid e
    clear e
    go_wp2_with fail
    rw [rounds_succ]
    go_wp2_with (refine store_recN HZ3.out rfl rfl (.tmp 2) (.tmp 43) rfl rfl zeroRc rfl rfl ?_; intro w4 G5 G6)
    refine bodyPost_ret (result_rec3 G5.out rfl _ rfl) rfl ?_
    exact ⟨by rw [HE.out]; rfl, below_only HB3.out (only_hid G6) (Nat.le_refl _) HB3.out.size⟩
  have hb4' : ¬ (4 : Int) < (q.toNat : Int) := by omega
  have hmk : mayKind (q.toNat : Int) := ⟨by omega, by omega⟩
  have h39' : n < 39 := Nat.lt_of_not_le fun h => hx ⟨hmk, h⟩
  have h39 : (n : Int) < 39 := by omega
  have e : dec bs = .more := by rw [HDEC.out, if_pos (fun _ => hmk)]
  have HE := Lib.hid e
  clear e hmk
  go_wp2_with fail
  rw [rounds_succ]
  go_wp2_with (refine store_recN HZ3.out rfl rfl (.tmp 2) (.tmp 47) rfl rfl zeroRc rfl rfl ?_; intro w4 G5 G6)
  refine bodyPost_ret (result_rec3 G5.out rfl _ rfl) rfl ?_
  exact ⟨by rw [HE.out]; rfl, below_only HB3.out (only_hid G6) (Nat.le_refl _) HB3.out.size⟩
end Go.Proofs.YtkdnfikaodkhnaaGreatDoor.Rec
