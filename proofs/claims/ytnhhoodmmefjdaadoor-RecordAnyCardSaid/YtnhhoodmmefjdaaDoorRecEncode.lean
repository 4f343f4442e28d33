/-
  Proved: what Encode of record returns: a record's bytes in memory of its own; none where it may not be.
  Conditions: numbers and texts are those of values; the table crc.turned holds its sixteen words.
-/
import Derived.Test.YtnhhoodmmefjdaaDoorRecEnc
import Derived.Lib.SlBytesConst
import Derived.Laws.IdiomStrings
namespace Go.Proofs.YtnhhoodmmefjdaaDoor.Rec
open Go.RowKit
open Go.Proofs.YtnhhoodmmefjdaaDoor.Crc (Turned)
set_option linter.unusedVariables false
set_option linter.unusedSimpArgs false

theorem enc_may {x : Rc} (h : x.May) : enc x = x.bytes := if_pos h
theorem enc_not {x : Rc} (h : ¬ x.May) : enc x = [] := if_neg h
theorem may_true {x : Rc} (h : x.May) : x.may = true := decide_eq_true h
theorem may_false {x : Rc} (h : ¬ x.May) : x.may = false := decide_eq_false h
/-- '[]byte(s)' of any text. -/
theorem conv_bytes (w : World) (l : List UInt8) : ∃ c w', (convert 9 28 (.string (str l))).run Tryd.prog w = .ok (.slice (some ⟨w.heap.size, 0, none⟩) l.length c) w' ∧ Hid (Below w.heap.size w w') ∧ Hid (Row w' w'.heap.size (some ⟨w.heap.size, 0, none⟩) l.length (bvs l)) := by
  have h0 := run_bytes_of_string (P := Tryd.prog) w 9 28 5 (str l) Tryd.underlying9 Tryd.underlying28 Tryd.underlying5
  obtain ⟨cap, hcap⟩ : ∃ cap, cap = grownCap w (str l).size 0 5 := ⟨_, rfl⟩
  obtain ⟨C, hC⟩ : ∃ C, C = bytesRow (str l) cap := ⟨_, rfl⟩
  rw [← hcap, ← hC, str_size] at h0
  refine ⟨_, _, h0, (Below.refl _ _).drew.alloc (Nat.le_refl _) _, ?_⟩
  have h := Row.fresh w.drew 5 (C.size, C.size + 1) C
  have e0 : C.toList = bvs l ++ List.replicate (cap - l.length) (.int .u8 0) := by
    rw [hC]
    simp [bytesRow, str, bvs, bv, ByteArray.size]
  have hsz : l.length ≤ C.size := by
    rw [← Array.length_toList, e0, List.length_append, bvs_length]
    omega
  have h2 := h.take (k := l.length) hsz
  have e : C.toList.take l.length = bvs l := by
    rw [e0]
    exact List.take_left' (bvs_length l)
  rw [e] at h2
  have hs : (w.drew.alloc (.cells C 5 (C.size, C.size + 1))).heap.size = w.heap.size + 1 := by
    show (w.heap.push _).size = _
    simp
  show Row _ _ _ _ _
  rw [hs]
  exact h2
set_option maxRecDepth 100000 in
set_option maxHeartbeats 4000000 in
theorem encode_any (x : Rc) (w : World) (hT : Turned w) (hf : x.Fits) (hl : x.body.length ≤ maxLen) :
    Calls Tryd.prog 10 #[.agg x.vals] w fun e w' => ∃ u, e = .returned u ∧ w'.ownsRow w.heap.size 5 1 u (enc x).length (bvs (enc x)) ∧ Below w.heap.size w w' := by
  have HM := Lib.hid (fun w : World => may_any x w hl)
  have h0 : Hid (RecAt (w.alloc (.cells x.vals 25)) w.heap.size x) := RecAt.new w x
  have HT := Lib.hid hT
  clear hT hl
  by_cases hm : x.May
  case neg =>
    have em := may_false hm
    rw [enc_not hm]
    go_enter Tryd.func10, Tryd.ntmps10
    go_wp2_with (first
      | (refine load_rec h0.out rfl (.tmp 1) rfl rfl ?_)
      | (go_at_call 12; refine (HM.out _).mono ?_; rw [em]; rintro e w' ⟨rfl, hb⟩))
    have HB := Lib.hid hb
    clear hb
    go_wp2_with fail
    go_ret
    exact ⟨_, rfl, World.ownsRow_nil _ _ _ _, (below_alloc w _).trans (HB.out.mono (by simp))⟩
  have em := may_true hm
  have hb6 := hm.2.2.2.2.2
  have hk1 := hm.1
  have hk4 := hm.2.1
  have HF := Lib.hid hf
  have HMay := Lib.hid hm
  clear hf hm
  have hsz := str_size x.body
  have hk : x.kind = ((x.kind.toNat : Nat) : Int) := by omega
  obtain ⟨i0, hi, hz0, hz1, hz2⟩ := u8_info3
  have HI := Lib.hid hi
  have HZ0 := Lib.hid hz0
  have HZ1 := Lib.hid hz1
  have HN : Hid ((39 : Int) + (x.body.length : Int) = ((39 + x.body.length : Nat) : Int)) := by show _ = _; omega
  have HB : Hid (i0.bytes * (39 + x.body.length) ≤ 281474976710656 ∧ 39 + x.body.length ≤ maxLen) := ⟨by rw [hz2]; omega, by unfold maxLen; omega⟩
  clear hi hz0 hz1 hz2
  go_enter Tryd.func10, Tryd.ntmps10
  go_upto_region 3 with (first
      | (refine load_rec h0.out rfl (.tmp 1) rfl rfl ?_)
      | (go_at_call 12; refine (HM.out _).mono ?_; rw [em]; rintro e w1 ⟨rfl, hb⟩))
  have HB1 : Hid (Below w.heap.size w w1) := (below_alloc w _).trans (hb.mono (by simp))
  have HR1 : Hid (RecAt w1 w.heap.size x) := h0.out.below hb (by simp)
  have hlt1 : Hid (w.heap.size + 1 ≤ w1.heap.size) := HR1.out.lt
  have x5 : w1.cell? ⟨w.heap.size, 5, none⟩ = some (.string (str x.body)) := HR1.out.cell 5
  clear hb h0 HM
  go_upto_region 4 with (at_make; refine wpList_make_own _ rfl _ _ 28 rfl (w.heap.size + 1) 5 i0 (.int .u8 0) 1 Tryd.underlying28 HI.out HZ0.out HZ1.out _ _ _ (39 + x.body.length) rfl rfl HN.out HB.out.1 HB.out.2 hlt1.out ?_; intro w2 ho2 hg2)
  have HE : Hid (Enc w w.heap.size x w2 (.slice (some ⟨w1.heap.size, 0, none⟩) 0 (39 + x.body.length)) []) := ⟨HR1.out.kept hg2 (by simp), ho2, HB1.out.grown hg2 HB1.out.size (fun k hk => by cases hk), rfl⟩
  clear x5 ho2 hg2 HR1 HB1 hlt1 HI HZ0 HZ1 HN HB
  obtain ⟨κ, hκ⟩ : ∃ κ : Nat, κ = x.kind.toNat := ⟨_, rfl⟩
  rw [← hκ] at hk
  have hk9 : κ ≤ 4 := by omega
  have HKK := Lib.hid hk
  have HK := Lib.hid hκ
  clear hκ hk hk1 hk4
  have q1 := HF.out.tenant
  have q2 := HF.out.epoch
  have q3 := HF.out.object
  have q4 := HF.out.seq
  have Q1 := Lib.hid q1
  have Q2 := Lib.hid q2
  have Q3 := Lib.hid q3
  have Q4 := Lib.hid q4
  clear q1 q2 q3 q4
  go_upto_region 5 with (at_builtin; refine enc_string HE.out rfl (.tmp 13) _ rfl rfl [83, 82] rfl (by simp) ?_; intro v3 w3 HE3)
  have y4 : w3.cell? ⟨w.heap.size, 0, none⟩ = some (.int .i64 ((κ : Nat) : Int)) := by rw [← HKK.out]; exact HE3.out.at'.cell 0
  go_upto_region 6 with (first
    | (go_at_call 19; refine (enc_put HE3 (κ) 1 1 rfl (by omega) (by omega)).mono ?_; rintro e z4 ⟨A4, c4, rfl, HP4, HR4, _⟩)
    | (at_builtin; refine enc_append HP4.out rfl (.tmp 15) (.tmp 19) rfl rfl _ A4 1 c4 _ rfl HR4.out (by simp) ?_; intro v4 w4 HE4))
  clear y4 HP4 HR4 HE3
  have y5 : w4.cell? ⟨w.heap.size, 1, none⟩ = some (.int .u32 (x.tenant : Int)) := HE4.out.at'.cell 1
  have hr5 : x.tenant < 4294967296 := Q1.out
  go_upto_region 7 with (first
    | (go_at_call 19; refine (enc_put HE4 (x.tenant) 4 4 rfl (by omega) (by have := Q1.out; omega)).mono ?_; rintro e z5 ⟨A5, c5, rfl, HP5, HR5, _⟩)
    | (at_builtin; refine enc_append HP5.out rfl (.tmp 21) (.tmp 25) rfl rfl _ A5 4 c5 _ rfl HR5.out (by simp) ?_; intro v5 w5 HE5))
  clear y5 HP5 HR5 HE4 hr5
  have y6 : w5.cell? ⟨w.heap.size, 2, none⟩ = some (.int .u64 (x.epoch : Int)) := HE5.out.at'.cell 2
  go_upto_region 8 with (first
    | (go_at_call 19; refine (enc_put HE5 (x.epoch) 8 8 rfl (by omega) (Q2.out)).mono ?_; rintro e z6 ⟨A6, c6, rfl, HP6, HR6, _⟩)
    | (at_builtin; refine enc_append HP6.out rfl (.tmp 27) (.tmp 30) rfl rfl _ A6 8 c6 _ rfl HR6.out (by simp) ?_; intro v6 w6 HE6))
  clear y6 HP6 HR6 HE5
  have y7 : w6.cell? ⟨w.heap.size, 3, none⟩ = some (.int .u64 (x.object : Int)) := HE6.out.at'.cell 3
  go_upto_region 9 with (first
    | (go_at_call 19; refine (enc_put HE6 (x.object) 8 8 rfl (by omega) (Q3.out)).mono ?_; rintro e z7 ⟨A7, c7, rfl, HP7, HR7, _⟩)
    | (at_builtin; refine enc_append HP7.out rfl (.tmp 32) (.tmp 35) rfl rfl _ A7 8 c7 _ rfl HR7.out (by simp) ?_; intro v7 w7 HE7))
  clear y7 HP7 HR7 HE6
  have y8 : w7.cell? ⟨w.heap.size, 4, none⟩ = some (.int .u64 (x.seq : Int)) := HE7.out.at'.cell 4
  go_upto_region 10 with (first
    | (go_at_call 19; refine (enc_put HE7 (x.seq) 8 8 rfl (by omega) (Q4.out)).mono ?_; rintro e z8 ⟨A8, c8, rfl, HP8, HR8, _⟩)
    | (at_builtin; refine enc_append HP8.out rfl (.tmp 37) (.tmp 40) rfl rfl _ A8 8 c8 _ rfl HR8.out (by simp) ?_; intro v8 w8 HE8))
  clear y8 HP8 HR8 HE7
  have y9 : w8.cell? ⟨w.heap.size, 5, none⟩ = some (.string (str x.body)) := HE8.out.at'.cell 5
  go_upto_region 11 with (first
    | (go_at_call 19; refine (enc_put HE8 (x.body.length) 4 4 rfl (by omega) (by omega)).mono ?_; rintro e z9 ⟨A9, c9, rfl, HP9, HR9, _⟩)
    | (at_builtin; refine enc_append HP9.out rfl (.tmp 42) (.tmp 47) rfl rfl _ A9 4 c9 _ rfl HR9.out (by simp) ?_; intro v9 w9 HE9))
  clear y9 HP9 HR9 HE8
  have hh : [] ++ [83, 82] ++ be κ 1 ++ be x.tenant 4 ++ be x.epoch 8 ++ be x.object 8 ++ be x.seq 8 ++ be x.body.length 4 = x.head := by rw [HK.out]; simp [Rc.head]
  rw [hh] at HE9
  clear hh
  obtain ⟨A, c, rfl, _, _, hrow⟩ := enc_row HE9.out
  have HROW := Lib.hid hrow
  have y10 : w9.cell? ⟨w.heap.size, 5, none⟩ = some (.string (str x.body)) := HE9.out.at'.cell 5
  obtain ⟨c10, w10, hcv, hb10, hr10⟩ := conv_bytes w9 x.body
  have HE10 := Lib.hid (HE9.out.all hb10.out)
  have HROW' : Hid (Row w10 w10.heap.size A x.head.length (bvs x.head)) := (HROW.out.below hb10.out).more hb10.out.size
  have HT10 := Lib.hid (turned_below HT.out HE10.out.below rfl)
  clear hrow
  go_upto_region 12 with (go_at_call 20; refine (sumOf_any A (some ⟨w9.heap.size, 0, none⟩) x.head.length c x.body.length c10 x.head x.body w10 HT10.out HROW'.out hr10.out (by simp [maxLen]) (by unfold maxLen; omega)).mono ?_; rintro e z10 ⟨rfl, rfl⟩)
  clear y10 hcv hb10 hr10 HROW HROW' HT10 HE9
  obtain ⟨σ, hσ⟩ : ∃ σ, σ = (Crc.sum (x.head ++ x.body)).toNat := ⟨_, rfl⟩
  have hlt : (Crc.sum (x.head ++ x.body)).toNat < 4294967296 := (Crc.sum (x.head ++ x.body)).isLt
  rw [← hσ] at hlt ⊢
  have HSG := Lib.hid hσ
  clear hσ
  go_upto_region 13 with (first
    | (go_at_call 19; refine (enc_put HE10 σ 4 4 rfl (by omega) (by omega)).mono ?_; rintro e z11 ⟨A11, c11, rfl, HP11, HR11, _⟩)
    | (at_builtin; refine enc_append HP11.out rfl (.tmp 54) (.tmp 57) rfl rfl _ A11 4 c11 _ rfl HR11.out (by simp) ?_; intro v11 w11 HE11))
  have y12 : w11.cell? ⟨w.heap.size, 5, none⟩ = some (.string (str x.body)) := HE11.out.at'.cell 5
  clear HP11 HR11 HE10
  go_wp2_with (at_builtin; refine enc_string HE11.out rfl (.tmp 59) (.tmp 61) rfl rfl x.body rfl (by simp; omega) ?_; intro v12 w12 HE12)
  go_ret
  rw [enc_may HMay.out]
  have hb : x.head ++ be σ 4 ++ x.body = x.bytes := by rw [HSG.out]; rfl
  rw [hb] at HE12
  exact ⟨v12, rfl, HE12.out.row.mono (by omega), HE12.out.below⟩
end Go.Proofs.YtnhhoodmmefjdaaDoor.Rec
