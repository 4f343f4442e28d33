/-
  Texts one behind the other: SegLaid, SegAppend.
-/
import Derived.Test.YtkdnfikaodkhnaaGreatDoorG06
import Derived.Test.YtkdnfikaodkhnaaGreatDoorG19
import Derived.Test.YtkdnfikaodkhnaaGreatDoorG25
import Derived.Test.YtkdnfikaodkhnaaGreatDoorG26
import Derived.Test.YtkdnfikaodkhnaaGreatDoorG33
import Derived.Test.YtkdnfikaodkhnaaGreatDoorG34
/-
  Proved: what laidFrom of package segment returns: the places of records laid one behind the other, and their bytes.
  Conditions: the slice reads as records that may be, not too many.
-/
namespace Go.Proofs.YtkdnfikaodkhnaaGreatDoor.Seg
open Go.RowKit Go.Proofs.YtkdnfikaodkhnaaGreatDoor.Disk Go.Proofs.YtkdnfikaodkhnaaGreatDoor.Rec
open Go.Proofs.YtkdnfikaodkhnaaGreatDoor.Crc (Turned)
set_option linter.unusedVariables false
set_option linter.unusedSimpArgs false

/-- The places of records. -/
def spots (at' : Nat) (l : List Rc) : List Nat := (List.range l.length).map fun j => at' + (cat (l.take j)).length
theorem spots_length (at' : Nat) (l : List Rc) : (spots at' l).length = l.length := by simp [spots]
theorem spots_get (at' : Nat) (l : List Rc) {j : Nat} (h : j < l.length) : (spots at' l).getD j 0 = at' + (cat (l.take j)).length := by
  rw [spots, List.getD_eq_getElem?_getD, List.getElem?_map, List.getElem?_range h]
  rfl
theorem nvs_ints (at' : Nat) (l : List Rc) : nvs (spots at' l) = ivs ((List.range l.length).map fun j => ((at' + (cat (l.take j)).length : Nat) : Int)) := by
  simp [nvs, ivs, spots]
theorem cat_most {l : List Rc} (h : ∀ x ∈ l, x.May) : (cat l).length ≤ l.length * 1039 := by
  induction l with
  | nil => simp [cat]
  | cons x l ih =>
    have hm := h x (by simp)
    have hb := hm.2.2.2.2.2
    rw [cat_cons, List.length_append, enc_length x hm, List.length_cons]
    have := ih (fun y hy => h y (by simp [hy]))
    omega
/-- What laidFrom has made so far. -/
structure Laying (w : World) (at' : Nat) (l : List Rc) (i : Nat) (wr : World) (u : Value) : Prop where
  places : Blk wr w.heap.size 3 (filled (spots at' l) i).toArray
  row : wr.ownsRow w.heap.size 5 1 u (cat (l.take i)).length (bvs (cat (l.take i)))
  below : Below w.heap.size w wr
theorem apart_blk {w : World} {g base n : Nat} {e t : TypeId} {cs : Array Value} {u : Value} {xs : List Value} {k : Nat} (h : Blk w g t cs) (hr : w.ownsRow base e k u n xs) (he : e ≠ t) : u.ownBlock = none ∨ u.ownBlock ≠ some g := by
  rcases hr.2 with ⟨h0, _⟩ | ⟨g2, c2, u2, hv2, _, hg2, _⟩
  · exact .inl (by rw [h0]; rfl)
  · refine .inr fun e2 => ?_
    rw [hv2] at e2
    have e3 : g2 = g := by injection e2
    subst e3
    unfold Blk at h
    rw [h] at hg2
    injection hg2 with hg2
    injection hg2 with _ h2
    exact he h2.symm
theorem Laying.all {w wr wr' : World} {at' i : Nat} {l : List Rc} {u : Value} (h : Laying w at' l i wr u) (hb : Below wr.heap.size wr wr') : Laying w at' l i wr' u :=
  ⟨(hb.block _ (blk_lt h.places)).trans h.places, owns_same h.row fun g hg => hb.block g (h.row.lt g hg).2, h.below.trans (hb.mono h.below.size)⟩
theorem laying_put {w wr : World} {at' i : Nat} {l : List Rc} {u : Value} (z : Int) (h : Laying w at' l i wr u) (hi : i < l.length) (hz : z = ((at' + (cat (l.take i)).length : Nat) : Int)) :
    Hid (Blk (wr.setCell ⟨w.heap.size, i, none⟩ (.int .i64 z)) w.heap.size 3 (filled (spots at' l) (i + 1)).toArray ∧ (wr.setCell ⟨w.heap.size, i, none⟩ (.int .i64 z)).ownsRow w.heap.size 5 1 u (cat (l.take i)).length (bvs (cat (l.take i))) ∧ Below w.heap.size w (wr.setCell ⟨w.heap.size, i, none⟩ (.int .i64 z))) := by
  subst hz
  have hput := h.places.put i (.int .i64 ((at' + (cat (l.take i)).length : Nat) : Int))
  have e := filled_put (spots at' l) (j := i) (by rw [spots_length]; exact hi)
  rw [spots_get at' l hi] at e
  rw [e] at hput
  have G := only_setCell wr ⟨w.heap.size, i, none⟩ (.int .i64 ((at' + (cat (l.take i)).length : Nat) : Int))
  exact ⟨hput, h.row.kept G (apart_blk h.places h.row (by decide)), below_only h.below G (Nat.le_refl _) h.below.size⟩
set_option maxRecDepth 100000 in
set_option maxHeartbeats 8000000 in
theorem laidFrom_any (at' : Nat) (A : Option Addr) (n c : Nat) (l : List Rc) (w : World) (hT : Turned w) (hR : Row w w.heap.size A (n * 6) (rflat l)) (hl : l.length = n) (hok : ∀ x ∈ l, x.May ∧ x.Fits) (hnc : n ≤ c) (hc : c ≤ maxLen) (hn : n ≤ 1000) (ha : at' ≤ 8388608) :
    Calls Tryz.prog 28 #[.int .i64 (at' : Int), .slice A n c] w fun e w' => ∃ u, e = .returned (.tuple #[.slice (some ⟨w.heap.size, 0, none⟩) n n, u]) ∧ Laying w at' l n w' u := by
  have hcm : c ≤ 9223372036854775807 := by unfold maxLen at hc; exact hc
  have hmk : ∀ w, (Instr.makeSlice 35 (.int .i64 (n : Int)) (.int .i64 (n : Int))).run Tryz.prog w = .ok (.slice (some ⟨w.heap.size, 0, none⟩) n n) (w.alloc (.cells (madeCells #[.int .i64 0] n) 3)) := by
    intro w
    exact Go.run_make_row' (P := Tryz.prog) 35 3 (.int .i64 0) 8 Tryz.underlying35 (by kernel_rfl) rfl .i64 .i64 n (by omega) (by omega) w
  have hmade : madeCells #[Value.int .i64 0] n = (filled (spots at' l) 0).toArray := by rw [← hl, ← spots_length at' l]; exact filled_none _
  rw [hmade] at hmk
  have HR := Lib.hid hR
  have HL := Lib.hid hl
  have HOK := Lib.hid hok
  have HT := Lib.hid hT
  have hz := zeroRec
  clear hR hc hl hok hT hmade
  go_enter Tryz.func28, Tryz.ntmps28
  go_upto_region 3 with fail
  obtain ⟨w5, hw5⟩ : ∃ w5, w5 = w.alloc (.cells (filled (spots at' l) 0).toArray 3) := ⟨_, rfl⟩
  have X5 : Hid (Laying w at' l 0 w5 (.slice none 0 0)) := by
    rw [hw5]
    exact ⟨Blk.new _ _ _, World.ownsRow_nil _ _ _ _, (Below.refl _ _).alloc (Nat.le_refl _) _⟩
  rw [← hw5]
  clear hw5 hmk
  go_wp2_with fail
  go_loopw [6, 15] (fun u v wr => ∃ (i : Nat), v = .int .i64 (i : Int) ∧ i ≤ n ∧ Hid (Laying w at' l i wr u)) (fun _ v _ => n - (RowKit.intOf v).toNat)
  case atStart => exact ⟨0, rfl, Nat.zero_le _, X5⟩
  case round =>
    obtain ⟨i, rfl, hi, HLY⟩ := hrel
    by_cases hlt : i < n
    · obtain ⟨b, o, rfl, hb, _⟩ := HR.out.2 (by omega)
      obtain ⟨x, hx⟩ : ∃ x, l[i]? = some x := ⟨l[i]'(by rw [HL.out]; exact hlt), List.getElem?_eq_getElem _⟩
      obtain ⟨hxm, hxf⟩ := HOK.out x (List.mem_of_getElem? hx)
      have HIT : Hid (wr.rangeAt b (o + i * 6) x.vals.toList) := rec_item (HR.out.below HLY.out.below) i x hx
      obtain ⟨A2, c2, rfl, h1, h2⟩ := own_form HLY.out.row
      have hcs := cat_most (l := l.take i) (fun y hy => (HOK.out y (List.mem_of_mem_take hy)).1)
      rw [List.length_take] at hcs
      have HNX : Hid (cat (l.take i) ++ enc x = cat (l.take (i + 1))) := by
        show _ = _
        rw [← take_next hx, cat_snoc]
      have HNL : Hid ((cat (l.take i)).length + (enc x).length = (cat (l.take (i + 1))).length) := by
        show _ = _
        rw [← HNX.out, List.length_append]
      have hel := enc_length x hxm
      have hbb := hxm.2.2.2.2.2
      have CE : Hid (∀ W, Turned W → Calls Tryz.prog 56 #[.agg x.vals] W fun e w' => ∃ u, e = .returned u ∧ w'.ownsRow W.heap.size 5 1 u (enc x).length (bvs (enc x)) ∧ Below W.heap.size W w') := fun W hTW => encode_any x W hTW hxf (by unfold maxLen; omega)
      obtain ⟨m, hm⟩ : ∃ m, m = (cat (l.take i)).length := ⟨_, rfl⟩
      have hm1 : m ≤ 1100000 := by omega
      have hex : (enc x).length ≤ 2000 := by omega
      have HM := Lib.hid hm
      rw [← hm] at h1 ⊢
      clear hx hxm hxf hcs hel hbb hm
      have hlow : (i : Int) < (n : Int) := by omega
      go_upto_region 6 with (first
        | (refine load_recM HIT.out rfl (.tmp 18) rfl rfl ?_)
        | (refine store_recN (zero_new wr) rfl rfl (.tmp 9) (.tmp 19) rfl rfl x rfl rfl ?_; intro w2 X2 G2))
      have hb2 : Below wr.heap.size wr w2 := below_only (below_alloc wr _) G2.out (Nat.le_refl _) (by simp)
      have HLY2 := Lib.hid (HLY.out.all hb2)
      have hgl := blk_lt HLY.out.places
      have xc : w2.cell? ⟨w.heap.size, i, none⟩ = some (.int .i64 0) := by rw [HLY2.out.places.cell, List.getElem?_toArray]; exact filled_at _ (by rw [spots_length, HL.out]; exact hlt)
      have xf := HLY2.out.places.free i
      have HPUT := laying_put ((at' : Int) + (m : Int)) HLY2.out (by rw [HL.out]; exact hlt) (by rw [HM.out]; omega)
      have hX3 := X2.out.kept (only_setCell w2 ⟨w.heap.size, i, none⟩ (.int .i64 ((at' : Int) + (m : Int)))) (by simp; omega)
      obtain ⟨w3, hw3⟩ : ∃ w3, w3 = w2.setCell ⟨w.heap.size, i, none⟩ (.int .i64 ((at' : Int) + (m : Int))) := ⟨_, rfl⟩
      rw [← hw3] at HPUT hX3
      have X3 := Lib.hid hX3
      have HW3 := Lib.hid hw3
      clear hX3 hb2 G2 X2 hw3
      go_upto_region 7 with fail
      rw [← HW3.out]
      obtain ⟨p3, r3, b3⟩ := HPUT.out
      have P3 := Lib.hid p3
      have R3 := Lib.hid r3
      have B3 := Lib.hid b3
      have CE3 := Lib.hid (CE.out w3 (turned_below HT.out B3.out rfl))
      clear p3 r3 b3 HPUT xc xf HW3 HLY2 HLY
      rw [← HM.out] at R3
      have hm2 : (m : Int) + ((enc x).length : Int) ≤ 1200000 := by omega
      go_wp2_with (first
        | (refine load_rec X3.out rfl (.tmp 9) rfl rfl ?_)
        | (go_at_call 56; refine CE3.out.mono ?_; rintro e w4 ⟨u4, rfl, hr4, hb4⟩
           obtain ⟨A4, c4, rfl, q1, q2⟩ := own_form hr4
           have R4 := Lib.hid (Row.own hr4)
           have R34 := Lib.hid (owns_same R3.out fun g hg => hb4.block g (R3.out.lt g hg).2)
           have P4 := Lib.hid (blk_below P3.out hb4 (blk_lt P3.out))
           have B4 := Lib.hid (B3.out.trans (hb4.mono B3.out.size))
           clear hr4 hb4 q1 q2)
        | (at_builtin
           (
             refine wpList_append_reads rfl (.tmp 27) (.tmp 29) 53 rfl w.heap.size 5 (.int .u8 0) 1 Tryz.underlying53 u8_info rfl _ m _ rfl R34.out w4.heap.size A4 (enc x).length c4 _ rfl R4.out (bvs_one _) (by unfold maxLen; omega) (by omega) B4.out.size ?_
             intro v5 w5 h5 g5
             have HL5 : Hid (Laying w at' l (i + 1) w5 v5) := ⟨Rec.blk_kept P4.out g5 (fun e => by
               have e' : some w.heap.size = (Value.slice A2 m c2).ownBlock := e
               rcases apart_blk P4.out R34.out (by decide) with h | h
               · rw [h] at e'; cases e'
               · exact h e'.symm), by
                 rw [← HNL.out, ← HNX.out, ← HM.out, ← bvs_append]
                 exact h5, own_below R34.out B4.out (Nat.le_refl _) B4.out.size g5⟩
             clear h5 g5)))
      go_roundw
      case rel => exact ⟨i + 1, by go_num, by omega, HL5⟩
      case measure => (simp [RowKit.intOf]; omega)
    · obtain rfl : i = n := by omega
      go_wp2_with fail
      go_ret2
      exact ⟨_, rfl, HLY.out⟩
end Go.Proofs.YtkdnfikaodkhnaaGreatDoor.Seg
/-
  Proved: what Append of package segment does, whatever the disk's Write does.
-/
namespace Go.Proofs.YtkdnfikaodkhnaaGreatDoor.Seg
open Go.RowKit Go.Proofs.YtkdnfikaodkhnaaGreatDoor.Disk Go.Proofs.YtkdnfikaodkhnaaGreatDoor.Rec
set_option linter.unusedVariables false
set_option linter.unusedSimpArgs false

/-- A row that a call has made is no disk's. -/
theorem free_made {own : Own} {w w' : World} (ht : ∀ b q, own b = some q → b < w.heap.size) {e : TypeId} {k n : Nat} {u : Value} {xs : List Value} (hr : w'.ownsRow w.heap.size e k u n xs) : ∃ A c, u = .slice A n c ∧ n ≤ c ∧ c ≤ maxLen ∧ Free own w' A (n * k) xs :=
  Grow.form (own := own) (base := w.heap.size) ⟨hr, fun g hg => by
    cases ho : own g with
    | none => rfl
    | some q => have := ht g q ho; have := (hr.lt g hg).1; omega⟩
theorem free_block {own : Own} {w : World} {g : Nat} {t : TypeId} {vs : List Value} (hb : Blk w g t vs.toArray) (ho : own g = none) : Free own w (some ⟨g, 0, none⟩) vs.length vs :=
  ⟨rfl, fun _ => ⟨g, 0, rfl, ho, blk_lt hb, fun i v hv => by rw [Nat.zero_add, Blk.cell hb i, List.getElem?_toArray]; exact hv⟩⟩
/-- What Append answers, where the disk's Write answered er. -/
structure Answers (b0 : Nat) (own' : Own) (w' : World) (N n : Nat) (l : List Rc) (er : Int) (e : Ending) : Prop where
  ok : er = 0 → ∃ P cp, e = .returned (.tuple #[.slice P n cp, .int .i64 0]) ∧ n ≤ cp ∧ cp ≤ maxLen ∧ (∀ ad, P = some ad → b0 ≤ ad.block) ∧ Free own' w' P n (ivs ((List.range n).map fun j => ((N + (cat (l.take j)).length : Nat) : Int)))
  no : er ≠ 0 → ∃ P cp, e = .returned (.tuple #[.slice P 0 cp, .int .i64 er])
set_option maxRecDepth 100000 in
set_option maxHeartbeats 8000000 in
theorem append_core {R : Int → Own → World → Prop} {own : Own} {w0 w : World} {v : Sv} {d : Dk} {A : Option Addr} {n c : Nat} {l : List Rc} (hT : Tabs w0) (h : Lies own w0 w v d) (hfit : Fit v.id l) (hl : l.length = n) (hn0 : 0 < n) (hn : n ≤ 1000) (hnc : n ≤ c) (hc : c ≤ maxLen) (hr : Free own w A (n * 6) (rflat l)) (hK : v.K + 1 ≤ 1073741824)
    (hend : frontEnd v.id (frontFrom 0 v.x.now) = v.x.now.length)
    (hW : ∀ w4 B m c4, Lies own w0 w4 { v with K := v.K + 1 } (d.read v.x.now.length) → Free own w4 B m (bvs (cat l)) → m = (cat l).length → m ≤ c4 → c4 ≤ maxLen →
      Calls Tryz.prog 29 #[ptr v.f, .string (str (segName v.id v.num)), .int .i64 (v.x.now.length : Int), .slice B m c4] w4 fun e w' => ∃ own' er, e = .returned (.int .i64 er) ∧ Step own own' v.f w4 w' ∧ R er own' w') :
    Calls Tryz.prog 9 #[ptr v.sg, .slice A n c] w fun e w' => ∃ own' er, Step own own' v.f w w' ∧ R er own' w' ∧ Answers w.heap.size own' w' v.x.now.length n l er e := by
  have hNm := h.xok.max
  have CM := mayAppend_lies h hr.row hl (fun x hx => by have := (hfit x hx).1.2.2.2.2.2; unfold maxLen; omega) hnc hc
  rw [mayAll_of (by intro e; rw [e] at hl; simp at hl; omega) (fun x hx => ⟨(hfit x hx).1, (hfit x hx).2.2⟩)] at CM
  obtain ⟨N, hN⟩ : ∃ N, N = v.x.now.length := ⟨_, rfl⟩
  have CF : Hid (∀ w1, Below w.heap.size w w1 → Calls Tryz.prog 27 #[.pointer (some ⟨v.sg, 0, none⟩)] w1 fun e w' => ∃ A c, e = .returned (.tuple #[.slice A (ownOf v.id (frontFrom 0 v.x.now)).length c, .int .i64 (N : Int)]) ∧ Lies own w0 w' { v with K := v.K + 1 } (d.read N) ∧ Step own own v.f w w') := fun w1 hb => by
    refine (front_lies hT (h.all hb) hK).mono ?_
    rintro e w' ⟨A, c, d', he, _, _, _, hd', h4, h5⟩
    rw [hend, ← hN] at he
    rw [← hN] at hd'
    subst hd'
    exact ⟨A, c, he, h4, (h.stepAll hb).trans h5⟩
  have CZ : Hid (∀ w1, Lies own w0 w1 { v with K := v.K + 1 } (d.read N) → Calls Tryz.prog 11 #[.pointer (some ⟨v.sg, 0, none⟩)] w1 fun e w' => e = .returned (.int .i64 (N : Int)) ∧ Below w1.heap.size w1 w') := fun w1 hL => by
    have hz := size_lies hL
    rw [hN]
    exact hz
  have CL : Hid (∀ w1, Below w0.heap.size w0 w1 → Free own w1 A (n * 6) (rflat l) → Calls Tryz.prog 28 #[.int .i64 (N : Int), .slice A n c] w1 fun e w' => ∃ u, e = .returned (.tuple #[.slice (some ⟨w1.heap.size, 0, none⟩) n n, u]) ∧ Laying w1 N l n w' u) := fun w1 hb hf => laidFrom_any N A n c l w1 (hT.below hb rfl).crc hf.row hl (fun x hx => ⟨(hfit x hx).1, (hfit x hx).2.1⟩) hnc hc hn (by omega)
  rw [← hN] at hW ⊢
  obtain ⟨K, hKK⟩ : ∃ K, K = (ownOf v.id (frontFrom 0 v.x.now)).length := ⟨_, rfl⟩
  rw [← hKK] at CF
  have e : ptr v.sg = .pointer (some ⟨v.sg, 0, none⟩) := rfl
  have e2 : ptr v.f = .pointer (some ⟨v.f, 0, none⟩) := rfl
  rw [e] at CM ⊢
  have CMM := Lib.hid CM
  have HW := Lib.hid hW
  have HR := Lib.hid hr
  have HH := Lib.hid h
  have HL := Lib.hid hl
  obtain ⟨nm, hnm⟩ : ∃ nm, nm = str (segName v.id v.num) := ⟨_, rfl⟩
  have HNM := Lib.hid hnm
  rw [← hN] at hNm
  clear e CM h hr hK hend hW hT hN hfit hl hc hKK hnm
  go_enter Tryz.func9, Tryz.ntmps9
  go_upto_region 9 with (first
    | (go_at_call 26; refine CMM.out.mono ?_; rintro e w1 ⟨rfl, hb1⟩; have HB1 := Lib.hid hb1; clear hb1)
    | (go_at_call 27; refine (CF.out _ HB1.out).mono ?_; rintro e w2 ⟨A2, c2, rfl, hl2, hs2⟩; have HL2 := Lib.hid hl2; have HS2 := Lib.hid hs2; clear hl2 hs2)
    | (go_at_call 11; refine (CZ.out _ HL2.out).mono ?_; rintro e w3 ⟨rfl, hb3⟩; have HL3 := Lib.hid (HL2.out.all hb3); have HS3 := Lib.hid (HS2.out.trans (HL2.out.stepAll hb3)); clear hb3)
    | (go_at_call 28; refine (CL.out _ HL3.out.disk.below (HR.out.step HS3.out)).mono ?_; rintro e w4 ⟨u4, rfl, hy4⟩; have HY4 := Lib.hid hy4; clear hy4))
  obtain ⟨A4, c4, rfl, q1, q2, hfr4⟩ := free_made HL3.out.top HY4.out.row
  have hL4 := HL3.out.all HY4.out.below
  have hS4 := HS3.out.trans (HL3.out.stepAll HY4.out.below)
  have hbn : Below w4.heap.size w4 w4.drew := (Below.refl _ _).drew
  have c0 : w4.cell? ⟨v.sg, 0, none⟩ = some (.pointer (some ⟨v.f, 0, none⟩)) := Blk.cell hL4.blk 0
  have c2' : w4.cell? ⟨v.sg, 2, none⟩ = some (.string nm) := by rw [HNM.out]; exact Blk.cell hL4.blk 2
  have hplaces : Free own w4 (some ⟨w3.heap.size, 0, none⟩) n (nvs (spots N l)) := by
    have hb := HY4.out.places
    have e : filled (spots N l) n = nvs (spots N l) := by
      have := filled_all (spots N l)
      rwa [spots_length, HL.out] at this
    rw [e] at hb
    have := free_block (own := own) hb (by
      cases ho : own w3.heap.size with
      | none => rfl
      | some q => have := HL3.out.top _ _ ho; omega)
    rwa [show (nvs (spots N l)).length = n by rw [nvs, List.length_map, spots_length, HL.out]] at this
  have hm4 : (cat (l.take n)).length = (cat l).length := by rw [← HL.out, List.take_length]
  have ht4 : cat (l.take n) = cat l := by rw [← HL.out, List.take_length]
  rw [Nat.mul_one, ht4] at hfr4
  obtain ⟨m, hm⟩ : ∃ m, m = (cat (l.take n)).length := ⟨_, rfl⟩
  have CW0 := HW.out w4.drew A4 m c4 (hL4.all hbn) (by rw [hm, ht4]; exact hfr4.keep (fun _ _ => rfl) hbn) (by rw [hm, hm4]) (by rw [hm]; exact q1) q2
  rw [e2, ← HNM.out] at CW0
  have CW := Lib.hid CW0
  have HP4 := Lib.hid (hplaces.keep (fun _ _ => rfl) hbn)
  have HB0 : Hid (w.heap.size ≤ w3.heap.size) := HS3.out.size
  have HS4 := Lib.hid (hS4.trans (hL4.stepAll hbn))
  rw [← hm]
  clear hm hm4 ht4 hplaces hL4 hS4 hbn hfr4 q1 q2 CW0 HW CF CZ CL CMM HY4 HL3 HS3 HL2 HS2 HB1 e2
  go_still_tail 10, (by kernel_rfl)
  change wpList _ _ _ _ _ w4.drew
  go_upto_region 10 with (go_at_call 29; refine CW.out.mono ?_; rintro e w5 ⟨own5, er, rfl, hst5, hr5⟩; have HST5 := Lib.hid hst5; have HR5 := Lib.hid hr5; clear hst5 hr5)
  have HP5 := Lib.hid (HP4.out.step HST5.out)
  have HS5 := Lib.hid (HS4.out.trans HST5.out)
  by_cases her : er = 0
  · subst her
    go_wp2_with fail
    go_ret2
    refine ⟨own5, 0, HS5.out, HR5.out, ⟨fun _ => ⟨_, n, rfl, Nat.le_refl _, by unfold maxLen; omega, fun ad had => (by injection had with had; rw [← had]; exact HB0.out), ?_⟩, fun hh => absurd rfl hh⟩⟩
    have := HP5.out
    rw [nvs_ints, HL.out] at this
    exact this
  · have e1 : (er != 0) = true := bne_iff_ne.2 her
    have HE := Lib.hid her
    clear her
    go_wp2_with fail
    go_ret2
    exact ⟨own5, er, HS5.out, HR5.out, ⟨fun hh => absurd hh HE.out, fun _ => ⟨_, _, rfl⟩⟩⟩
end Go.Proofs.YtkdnfikaodkhnaaGreatDoor.Seg
