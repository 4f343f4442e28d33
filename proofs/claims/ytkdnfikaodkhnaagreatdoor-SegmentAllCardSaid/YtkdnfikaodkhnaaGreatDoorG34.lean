/-
  Texts one behind the other: RecEncode, ScanLostList.
-/
import Derived.Lib.SlBytesConst
import Derived.Laws.IdiomStrings
import Derived.Test.YtkdnfikaodkhnaaGreatDoorG06
import Derived.Test.YtkdnfikaodkhnaaGreatDoorG24
import Derived.Test.YtkdnfikaodkhnaaGreatDoorG25
import Derived.Test.YtkdnfikaodkhnaaGreatDoorG33
/-
  Proved: what Encode of record returns: a record's bytes in memory of its own; none where it may not be.
  Conditions: numbers and texts are those of values; the table crc.turned holds its sixteen words.
-/
namespace Go.Proofs.YtkdnfikaodkhnaaGreatDoor.Rec
open Go.RowKit
open Go.Proofs.YtkdnfikaodkhnaaGreatDoor.Crc (Turned)
set_option linter.unusedVariables false
set_option linter.unusedSimpArgs false

theorem enc_put {w0 w : World} {g : Nat} {x : Rc} {v : Value} {bs : List UInt8} (h : Hid (Enc w0 g x w v bs)) (n k : Nat) (K : Int) (hK : K = (k : Int)) (hk : 1 ≤ k ∧ k ≤ 8) (hn : n < 18446744073709551616) :
    Calls Tryz.prog 81 #[.int .u64 (n : Int), .int .i64 K] w fun e w' => ∃ A c, e = .returned (.slice A k c) ∧ Hid (Enc w0 g x w' v bs) ∧ Hid (Row w' w'.heap.size A k (bvs (be n k))) ∧ Hid (Below w.heap.size w w') := by
  refine (put_any n k K w hK hk hn).mono ?_
  rintro e w' ⟨u, rfl, ho, hb⟩
  obtain ⟨A, c, rfl, _, _⟩ := own_form ho
  exact ⟨A, c, rfl, h.out.all hb, Row.own ho, hb⟩
set_option maxRecDepth 100000 in
set_option maxHeartbeats 4000000 in
theorem encode_any (x : Rc) (w : World) (hT : Turned w) (hf : x.Fits) (hl : x.body.length ≤ maxLen) :
    Calls Tryz.prog 56 #[.agg x.vals] w fun e w' => ∃ u, e = .returned u ∧ w'.ownsRow w.heap.size 5 1 u (enc x).length (bvs (enc x)) ∧ Below w.heap.size w w' := by
  have HM := Lib.hid (fun w : World => may_any x w hl)
  have h0 : Hid (RecAt (w.alloc (.cells x.vals 40)) w.heap.size x) := RecAt.new w x
  have HT := Lib.hid hT
  clear hT hl
  by_cases hm : x.May
  case neg =>
    have em := may_false hm
    rw [enc_not hm]
    go_enter Tryz.func56, Tryz.ntmps56
    go_wp2_with (first
      | (refine load_rec h0.out rfl (.tmp 1) rfl rfl ?_)
      | (go_at_call 53; refine (HM.out _).mono ?_; rw [em]; rintro e w' ⟨rfl, hb⟩))
    have HB := Lib.hid hb
    clear hb
    go_wp2_with fail
    go_ret
    exact ⟨_, rfl, World.ownsRow_nil _ _ _ _, (below_alloc w _).trans (HB.out.mono (by simp))⟩
  have em := may_true hm
  have hb6 := hm.2.2.2.2.2
  have hk1 := hm.1
  have hk4 := hm.2.1
  have HF := Lib.hid hf
  have HMay := Lib.hid hm
  clear hf hm
  have hsz := str_size x.body
  have hk : x.kind = ((x.kind.toNat : Nat) : Int) := by omega
  obtain ⟨i0, hi, hz0, hz1, hz2⟩ := u8_info3
  have HI := Lib.hid hi
  have HZ0 := Lib.hid hz0
  have HZ1 := Lib.hid hz1
  have HN : Hid ((39 : Int) + (x.body.length : Int) = ((39 + x.body.length : Nat) : Int)) := by show _ = _; omega
  have HB : Hid (i0.bytes * (39 + x.body.length) ≤ 281474976710656 ∧ 39 + x.body.length ≤ maxLen) := ⟨by rw [hz2]; omega, by unfold maxLen; omega⟩
  clear hi hz0 hz1 hz2
  go_enter Tryz.func56, Tryz.ntmps56
  go_upto_region 3 with (first
      | (refine load_rec h0.out rfl (.tmp 1) rfl rfl ?_)
      | (go_at_call 53; refine (HM.out _).mono ?_; rw [em]; rintro e w1 ⟨rfl, hb⟩))
  have HB1 : Hid (Below w.heap.size w w1) := (below_alloc w _).trans (hb.mono (by simp))
  have HR1 : Hid (RecAt w1 w.heap.size x) := h0.out.below hb (by simp)
  have hlt1 : Hid (w.heap.size + 1 ≤ w1.heap.size) := HR1.out.lt
  have x5 : w1.cell? ⟨w.heap.size, 5, none⟩ = some (.string (str x.body)) := HR1.out.cell 5
  clear hb h0 HM
  go_upto_region 4 with (at_make; refine wpList_make_own _ rfl _ _ 53 rfl (w.heap.size + 1) 5 i0 (.int .u8 0) 1 Tryz.underlying53 HI.out HZ0.out HZ1.out _ _ _ (39 + x.body.length) rfl rfl HN.out HB.out.1 HB.out.2 hlt1.out ?_; intro w2 ho2 hg2)
  have HE : Hid (Enc w w.heap.size x w2 (.slice (some ⟨w1.heap.size, 0, none⟩) 0 (39 + x.body.length)) []) := ⟨HR1.out.kept hg2 (by simp), ho2, HB1.out.grown hg2 HB1.out.size (fun k hk => by cases hk), rfl⟩
  clear x5 ho2 hg2 HR1 HB1 hlt1 HI HZ0 HZ1 HN HB
  obtain ⟨κ, hκ⟩ : ∃ κ : Nat, κ = x.kind.toNat := ⟨_, rfl⟩
  rw [← hκ] at hk
  have hk9 : κ ≤ 4 := by omega
  have HKK := Lib.hid hk
  have HK := Lib.hid hκ
  clear hκ hk hk1 hk4
  have q1 := HF.out.tenant
  have q2 := HF.out.epoch
  have q3 := HF.out.object
  have q4 := HF.out.seq
  have Q1 := Lib.hid q1
  have Q2 := Lib.hid q2
  have Q3 := Lib.hid q3
  have Q4 := Lib.hid q4
  clear q1 q2 q3 q4
  go_upto_region 5 with (at_builtin; refine enc_string HE.out rfl (.tmp 13) _ rfl rfl [83, 82] rfl (by simp) ?_; intro v3 w3 HE3)
  have y4 : w3.cell? ⟨w.heap.size, 0, none⟩ = some (.int .i64 ((κ : Nat) : Int)) := by rw [← HKK.out]; exact HE3.out.at'.cell 0
  go_upto_region 6 with (first
    | (go_at_call 81; refine (enc_put HE3 (κ) 1 1 rfl (by omega) (by omega)).mono ?_; rintro e z4 ⟨A4, c4, rfl, HP4, HR4, _⟩)
    | (at_builtin; refine enc_append HP4.out rfl (.tmp 15) (.tmp 19) rfl rfl _ A4 1 c4 _ rfl HR4.out (by simp) ?_; intro v4 w4 HE4))
  clear y4 HP4 HR4 HE3
  have y5 : w4.cell? ⟨w.heap.size, 1, none⟩ = some (.int .u32 (x.tenant : Int)) := HE4.out.at'.cell 1
  have hr5 : x.tenant < 4294967296 := Q1.out
  go_upto_region 7 with (first
    | (go_at_call 81; refine (enc_put HE4 (x.tenant) 4 4 rfl (by omega) (by have := Q1.out; omega)).mono ?_; rintro e z5 ⟨A5, c5, rfl, HP5, HR5, _⟩)
    | (at_builtin; refine enc_append HP5.out rfl (.tmp 21) (.tmp 25) rfl rfl _ A5 4 c5 _ rfl HR5.out (by simp) ?_; intro v5 w5 HE5))
  clear y5 HP5 HR5 HE4 hr5
  have y6 : w5.cell? ⟨w.heap.size, 2, none⟩ = some (.int .u64 (x.epoch : Int)) := HE5.out.at'.cell 2
  go_upto_region 8 with (first
    | (go_at_call 81; refine (enc_put HE5 (x.epoch) 8 8 rfl (by omega) (Q2.out)).mono ?_; rintro e z6 ⟨A6, c6, rfl, HP6, HR6, _⟩)
    | (at_builtin; refine enc_append HP6.out rfl (.tmp 27) (.tmp 30) rfl rfl _ A6 8 c6 _ rfl HR6.out (by simp) ?_; intro v6 w6 HE6))
  clear y6 HP6 HR6 HE5
  have y7 : w6.cell? ⟨w.heap.size, 3, none⟩ = some (.int .u64 (x.object : Int)) := HE6.out.at'.cell 3
  go_upto_region 9 with (first
    | (go_at_call 81; refine (enc_put HE6 (x.object) 8 8 rfl (by omega) (Q3.out)).mono ?_; rintro e z7 ⟨A7, c7, rfl, HP7, HR7, _⟩)
    | (at_builtin; refine enc_append HP7.out rfl (.tmp 32) (.tmp 35) rfl rfl _ A7 8 c7 _ rfl HR7.out (by simp) ?_; intro v7 w7 HE7))
  clear y7 HP7 HR7 HE6
  have y8 : w7.cell? ⟨w.heap.size, 4, none⟩ = some (.int .u64 (x.seq : Int)) := HE7.out.at'.cell 4
  go_upto_region 10 with (first
    | (go_at_call 81; refine (enc_put HE7 (x.seq) 8 8 rfl (by omega) (Q4.out)).mono ?_; rintro e z8 ⟨A8, c8, rfl, HP8, HR8, _⟩)
    | (at_builtin; refine enc_append HP8.out rfl (.tmp 37) (.tmp 40) rfl rfl _ A8 8 c8 _ rfl HR8.out (by simp) ?_; intro v8 w8 HE8))
  clear y8 HP8 HR8 HE7
  have y9 : w8.cell? ⟨w.heap.size, 5, none⟩ = some (.string (str x.body)) := HE8.out.at'.cell 5
  go_upto_region 11 with (first
    | (go_at_call 81; refine (enc_put HE8 (x.body.length) 4 4 rfl (by omega) (by omega)).mono ?_; rintro e z9 ⟨A9, c9, rfl, HP9, HR9, _⟩)
    | (at_builtin; refine enc_append HP9.out rfl (.tmp 42) (.tmp 47) rfl rfl _ A9 4 c9 _ rfl HR9.out (by simp) ?_; intro v9 w9 HE9))
  clear y9 HP9 HR9 HE8
  have hh : [] ++ [83, 82] ++ be κ 1 ++ be x.tenant 4 ++ be x.epoch 8 ++ be x.object 8 ++ be x.seq 8 ++ be x.body.length 4 = x.head := by rw [HK.out]; simp [Rc.head]
  rw [hh] at HE9
  clear hh
  obtain ⟨A, c, rfl, _, _, hrow⟩ := enc_row HE9.out
  have HROW := Lib.hid hrow
  have y10 : w9.cell? ⟨w.heap.size, 5, none⟩ = some (.string (str x.body)) := HE9.out.at'.cell 5
  obtain ⟨c10, w10, hcv, hb10, hr10⟩ := conv_bytes w9 x.body
  have HE10 := Lib.hid (HE9.out.all hb10.out)
  have HROW' : Hid (Row w10 w10.heap.size A x.head.length (bvs x.head)) := (HROW.out.below hb10.out).more hb10.out.size
  have HT10 := Lib.hid (turned_below HT.out HE10.out.below rfl)
  clear hrow
  go_upto_region 12 with (go_at_call 74; refine (sumOf_any A (some ⟨w9.heap.size, 0, none⟩) x.head.length c x.body.length c10 x.head x.body w10 HT10.out HROW'.out hr10.out (by simp [maxLen]) (by unfold maxLen; omega)).mono ?_; rintro e z10 ⟨rfl, rfl⟩)
  clear y10 hcv hb10 hr10 HROW HROW' HT10 HE9
  obtain ⟨σ, hσ⟩ : ∃ σ, σ = (Crc.sum (x.head ++ x.body)).toNat := ⟨_, rfl⟩
  have hlt : (Crc.sum (x.head ++ x.body)).toNat < 4294967296 := (Crc.sum (x.head ++ x.body)).isLt
  rw [← hσ] at hlt ⊢
  have HSG := Lib.hid hσ
  clear hσ
  go_upto_region 13 with (first
    | (go_at_call 81; refine (enc_put HE10 σ 4 4 rfl (by omega) (by omega)).mono ?_; rintro e z11 ⟨A11, c11, rfl, HP11, HR11, _⟩)
    | (at_builtin; refine enc_append HP11.out rfl (.tmp 54) (.tmp 57) rfl rfl _ A11 4 c11 _ rfl HR11.out (by simp) ?_; intro v11 w11 HE11))
  have y12 : w11.cell? ⟨w.heap.size, 5, none⟩ = some (.string (str x.body)) := HE11.out.at'.cell 5
  clear HP11 HR11 HE10
  go_wp2_with (at_builtin; refine enc_string HE11.out rfl (.tmp 59) (.tmp 61) rfl rfl x.body rfl (by simp; omega) ?_; intro v12 w12 HE12)
  go_ret
  rw [enc_may HMay.out]
  have hb : x.head ++ be σ 4 ++ x.body = x.bytes := by rw [HSG.out]; rfl
  rw [hb] at HE12
  exact ⟨v12, rfl, HE12.out.row.mono (by omega), HE12.out.below⟩
end Go.Proofs.YtkdnfikaodkhnaaGreatDoor.Rec
/-
  Plain facts: places in a text of records one behind the other; a text and the ends of its records as two rows of the call's own.
-/
namespace Go.Proofs.YtkdnfikaodkhnaaGreatDoor.Rec
open Go.RowKit
set_option linter.unusedVariables false
set_option linter.unusedSimpArgs false

/-- How many bytes the first records take. -/
def upto (g : List Rc) (j : Nat) : Nat := (cat (g.take j)).length
theorem upto_zero (g : List Rc) : upto g 0 = 0 := rfl
theorem snoc_take {g : List Rc} {j : Nat} {x : Rc} (h : g[j]? = some x) : g.take (j + 1) = g.take j ++ [x] := by rw [List.take_add_one, h]; rfl
theorem upto_next {g : List Rc} {j : Nat} {x : Rc} (h : g[j]? = some x) : upto g (j + 1) = upto g j + (enc x).length := by
  unfold upto
  rw [snoc_take h, cat_snoc, List.length_append]
theorem upto_all {g : List Rc} : upto g g.length = (cat g).length := by unfold upto; rw [List.take_length]
theorem upto_add (g : List Rc) (j k : Nat) : upto g j ≤ upto g (j + k) := by
  unfold upto
  rw [List.take_add, cat_append, List.length_append]
  exact Nat.le_add_right _ _
theorem upto_le (g : List Rc) (j k : Nat) (h : j ≤ k) : upto g j ≤ upto g k := by
  have := upto_add g j (k - j)
  rwa [show j + (k - j) = k by omega] at this
theorem split_at {g : List Rc} {K : Nat} {y : Rc} (h : g[K]? = some y) : g = g.take K ++ y :: g.drop (K + 1) := by
  obtain ⟨hk, e⟩ := List.getElem?_eq_some_iff.1 h
  conv => lhs; rw [← List.take_append_drop K g, List.drop_eq_getElem_cons hk, e]
theorem cat_split {g : List Rc} {K : Nat} {y : Rc} (h : g[K]? = some y) : cat g = cat (g.take K) ++ (enc y ++ cat (g.drop (K + 1))) := by
  conv => lhs; rw [split_at h, cat_append, cat_cons]
theorem cat_set {g : List Rc} {K R : Nat} {y : Rc} (h : g[K]? = some y) (hR : R < (enc y).length) (c : UInt8) : (cat g).set (upto g K + R) c = cat (g.take K) ++ ((enc y).set R c ++ cat (g.drop (K + 1))) := by
  rw [cat_split h]
  unfold upto
  rw [List.set_append_right _ _ (Nat.le_add_right _ _), Nat.add_sub_cancel_left, List.set_append_left _ _ hR]
theorem cat_getD {g : List Rc} {K R : Nat} {y : Rc} (h : g[K]? = some y) (hR : R < (enc y).length) : (cat g).getD (upto g K + R) 0 = (enc y).getD R 0 := by
  rw [cat_split h]
  unfold upto
  rw [List.getD_eq_getElem?_getD, List.getElem?_append_right (Nat.le_add_right _ _), Nat.add_sub_cancel_left, List.getElem?_append_left hR, ← List.getD_eq_getElem?_getD]
/-- Which record is found as the i-th where the K-th was spoilt. -/
def kap (K i : Nat) : Nat := if i < K then i else i + 1
theorem lost_get {g : List Rc} {K i : Nat} {y : Rc} (h : g[K]? = some y) (hi : i + 1 < g.length) :
    ∃ x, g[kap K i]? = some x ∧ (places 0 (g.take K) ++ places (upto g K + (enc y).length) (g.drop (K + 1)))[i]? = some (upto g (kap K i), x) := by
  have hk := (List.getElem?_eq_some_iff.1 h).1
  have hl : (places 0 (g.take K)).length = K := by rw [places_length, List.length_take]; omega
  unfold kap
  by_cases hik : i < K
  · rw [if_pos hik]
    obtain ⟨x, hx⟩ : ∃ x, g[i]? = some x := ⟨_, List.getElem?_eq_getElem (by omega)⟩
    refine ⟨x, hx, ?_⟩
    rw [List.getElem?_append_left (by rw [hl]; exact hik), places_get (g.take K) 0 i x (by rw [List.getElem?_take, if_pos hik]; exact hx), List.take_take, Nat.min_eq_left (by omega), Nat.zero_add]
    rfl
  · rw [if_neg hik]
    obtain ⟨x, hx⟩ : ∃ x, g[i + 1]? = some x := ⟨_, List.getElem?_eq_getElem (by omega)⟩
    refine ⟨x, hx, ?_⟩
    have hd : (g.drop (K + 1))[i - K]? = some x := by rw [List.getElem?_drop, show K + 1 + (i - K) = i + 1 by omega]; exact hx
    rw [List.getElem?_append_right (by rw [hl]; omega), hl, places_get _ _ (i - K) x hd]
    have e : g.take (i + 1) = g.take (K + 1) ++ (g.drop (K + 1)).take (i - K) := by
      rw [← List.take_add, show K + 1 + (i - K) = i + 1 by omega]
    have e2 : upto g (i + 1) = upto g (K + 1) + (cat ((g.drop (K + 1)).take (i - K))).length := by
      show (cat (g.take (i + 1))).length = _
      rw [e, cat_append, List.length_append]
      rfl
    rw [e2, upto_next h]
/-- The ends of the first records. -/
def endsOf (g : List Rc) (p : Nat) : List Int := (List.range p).map fun j => (upto g (j + 1) : Int)
theorem endsOf_snoc (g : List Rc) (p : Nat) : endsOf g p ++ [(upto g (p + 1) : Int)] = endsOf g (p + 1) := by
  unfold endsOf
  rw [List.range_succ, List.map_append, List.map_singleton]
theorem endsOf_length (g : List Rc) (p : Nat) : (endsOf g p).length = p := by unfold endsOf; rw [List.length_map, List.length_range]
theorem endsOf_get (g : List Rc) (p j : Nat) (h : j < p) : (endsOf g p)[j]? = some (upto g (j + 1) : Int) := by
  unfold endsOf
  rw [List.getElem?_map, List.getElem?_range h]
  rfl
/-- Two rows of two kinds of cells are two rows. -/
theorem own_apart {w : World} {b1 b2 k1 k2 n1 n2 : Nat} {e1 e2 : TypeId} {v1 v2 : Value} {x1 x2 : List Value} (h1 : w.ownsRow b1 e1 k1 v1 n1 x1) (h2 : w.ownsRow b2 e2 k2 v2 n2 x2) (he : e1 ≠ e2) : v2.ownBlock = none ∨ v2.ownBlock ≠ v1.ownBlock := by
  rcases h2.2 with ⟨h0, _⟩ | ⟨g2, c2, u2, hv2, _, hg2, _⟩
  · exact .inl (by rw [h0]; rfl)
  · refine .inr ?_
    rcases h1.2 with ⟨h0, _⟩ | ⟨g1, c1, u1, hv1, _, hg1, _⟩
    · rw [h0, hv2]
      simp [Value.ownBlock]
    · rw [hv1, hv2]
      intro e
      have e : g2 = g1 := by simpa [Value.ownBlock] using e
      subst e
      rw [hg1] at hg2
      injection hg2 with hg2
      injection hg2 with _ hh _
      exact he hh
theorem kinds_apart : (5 : TypeId) ≠ 3 := by decide
theorem int_info : (Tryz.prog.info? 3).map (fun i => (i.zero, i.size, i.bytes)) = some (some (.int .i64 0), 1, 8) := by kernel_rfl
/-- The text so far and the ends so far. -/
structure Be (w0 w : World) (b en : Value) (g : List Rc) (p : Nat) : Prop where
  text : w.ownsRow w0.heap.size 5 1 b (cat (g.take p)).length (bvs (cat (g.take p)))
  ends : w.ownsRow w0.heap.size 3 1 en p (ivs (endsOf g p))
  below : Below w0.heap.size w0 w
theorem Be.nil (w : World) (g : List Rc) : Be w w (.slice none 0 0) (.slice none 0 0) g 0 := ⟨World.ownsRow_nil _ _ _ _, World.ownsRow_nil _ _ _ _, Below.refl _ _⟩
theorem Be.all {w0 w w' : World} {b en : Value} {g : List Rc} {p : Nat} (h : Be w0 w b en g p) (hb : Below w.heap.size w w') : Be w0 w' b en g p :=
  ⟨h.text.kept (row := none) ⟨hb.os, hb.tape, hb.output, hb.size, fun i hi _ => hb.block i hi⟩ (Classical.em _), h.ends.kept (row := none) ⟨hb.os, hb.tape, hb.output, hb.size, fun i hi _ => hb.block i hi⟩ (Classical.em _), h.below.trans (hb.mono h.below.size)⟩
section
variable {w0 w : World} {b en : Value} {g : List Rc} {p : Nat} {ops : Array Oper} {rest : List Oper} {o : Oper} {a : Act} {Q : Exit → Act → World → Prop}
/-- The text, one record longer; the ends are as they were. -/
structure Bt (w0 w : World) (b en : Value) (g : List Rc) (p : Nat) : Prop where
  text : w.ownsRow w0.heap.size 5 1 b (upto g (p + 1)) (bvs (cat (g.take (p + 1))))
  ends : w.ownsRow w0.heap.size 3 1 en p (ivs (endsOf g p))
  below : Below w0.heap.size w0 w
theorem Bt.all {w0 w w' : World} {b en : Value} {g : List Rc} {p : Nat} (h : Bt w0 w b en g p) (hb : Below w.heap.size w w') : Bt w0 w' b en g p :=
  ⟨h.text.kept (row := none) ⟨hb.os, hb.tape, hb.output, hb.size, fun i hi _ => hb.block i hi⟩ (Classical.em _), h.ends.kept (row := none) ⟨hb.os, hb.tape, hb.output, hb.size, fun i hi _ => hb.block i hi⟩ (Classical.em _), h.below.trans (hb.mono h.below.size)⟩
theorem be_text (h : Be w0 w b en g p) (x : Rc) (hx : g[p]? = some x) (hgd : o.guard = none) (s y : Operand) (ho : o.op = .call { callee := .builtin .append, args := #[s, y], argTypes := #[53, 53] }) (hs : a.eval s = b)
    (B : Nat) (A : Option Addr) (m c : Nat) (hy : a.eval y = .slice A m c) (hr : Row w B A m (bvs (enc x))) (hl : upto g p + m ≤ 1000000)
    (k : ∀ v' w', Hid (Bt w0 w' v' en g p) → wpList Tryz.prog ops Q rest (a.put o.dst v') w') : wpList Tryz.prog ops Q (o :: rest) a w := by
  have hl' : (cat (g.take p)).length + m ≤ 1000000 := hl
  refine wpList_append_reads hgd s y 53 ho w0.heap.size 5 (.int .u8 0) 1 Tryz.underlying53 u8_info rfl b (cat (g.take p)).length (bvs (cat (g.take p))) hs h.text B A m c (bvs (enc x)) hy hr (bvs_one _) (by unfold maxLen; omega) (by omega) h.below.size ?_
  intro v' w' h1 h2
  refine k v' w' ⟨?_, h.ends.kept h2 (own_apart h.text h.ends kinds_apart), own_below h.text h.below (Nat.le_refl _) h.below.size h2⟩
  have e : bvs (cat (g.take p)) ++ bvs (enc x) = bvs (cat (g.take (p + 1))) := by unfold bvs; rw [← List.map_append, snoc_take hx, cat_snoc]
  rw [e] at h1
  rw [upto_next hx, hr.size]
  exact h1
theorem be_ends (h : Bt w0 w b en g p) (hgd : o.guard = none) (s y : Operand) (ho : o.op = .call { callee := .builtin .append, args := #[s, y], argTypes := #[35, 35] }) (hs : a.eval s = en)
    (B : Nat) (A : Option Addr) (c : Nat) (hy : a.eval y = .slice A 1 c) (hr : Row w B A 1 (ivs [(upto g (p + 1) : Int)])) (hl : p ≤ 1000000)
    (k : ∀ v' w', Hid (Be w0 w' b v' g (p + 1)) → wpList Tryz.prog ops Q rest (a.put o.dst v') w') : wpList Tryz.prog ops Q (o :: rest) a w := by
  refine wpList_append_reads hgd s y 35 ho w0.heap.size 3 (.int .i64 0) 8 Tryz.underlying35 int_info rfl en p (ivs (endsOf g p)) hs h.ends B A 1 c (ivs [(upto g (p + 1) : Int)]) hy hr (fun u hu => by simp [ivs] at hu; subst hu; rfl) (by unfold maxLen; omega) (by omega) h.below.size ?_
  intro v' w' h1 h2
  refine k v' w' ⟨h.text.kept h2 ((own_apart h.ends h.text (Ne.symm kinds_apart))), ?_, own_below h.ends h.below (Nat.le_refl _) h.below.size h2⟩
  have e : ivs (endsOf g p) ++ ivs [(upto g (p + 1) : Int)] = ivs (endsOf g (p + 1)) := by
    rw [← endsOf_snoc]
    unfold ivs
    rw [List.map_append]
  rw [e] at h1
  exact h1
end
theorem upto_small {g : List Rc} (hg : ∀ x ∈ g, x.Good) : ∀ j, upto g j ≤ j * 239 := by
  intro j
  induction j with
  | zero => exact Nat.zero_le _
  | succ j ih =>
    by_cases h : j < g.length
    · have hx := List.getElem?_eq_getElem h
      obtain ⟨hm, _, hl⟩ := hg _ (List.getElem_mem h)
      rw [upto_next hx, enc_length _ hm]
      omega
    · have e : upto g (j + 1) = upto g j := by unfold upto; rw [List.take_of_length_le (by omega), List.take_of_length_le (by omega)]
      omega
theorem row_one (w : World) (z : Int) : Row (w.alloc (.cells #[.int .i64 z] 3)) (w.heap.size + 1) (some ⟨w.heap.size, 0, none⟩) 1 (ivs [z]) := Row.fresh w 3 (0, 0) #[.int .i64 z]
/-- One end out of their row. -/
theorem ends_cell {w : World} {base G c : Nat} {ge : Nat} {g : List Rc} (h : w.ownsRow base 3 1 (.slice (some ⟨ge, 0, none⟩) G c) G (ivs (endsOf g G))) (j : Nat) (hj : j < G) : w.cell? ⟨ge, j, none⟩ = some (.int .i64 (upto g (j + 1) : Int)) := by
  rw [h.cellAt j (by omega)]
  unfold ivs
  rw [List.getElem?_map, endsOf_get g G j hj]
  rfl
end Go.Proofs.YtkdnfikaodkhnaaGreatDoor.Rec
