/-
  Texts one behind the other: SegRead2, SegMayApp, RecPut.
-/
import Derived.Deep.RegionLaw
import Derived.Test.YtkdnfikaodkhnaaGreatDoorG04
import Derived.Test.YtkdnfikaodkhnaaGreatDoorG32
/-
  Proved: what Read of package segment returns at a place below the size.
-/
namespace Go.Proofs.YtkdnfikaodkhnaaGreatDoor.Seg
open Go.RowKit Go.Proofs.YtkdnfikaodkhnaaGreatDoor.Disk Go.Proofs.YtkdnfikaodkhnaaGreatDoor.Rec
set_option linter.unusedVariables false
set_option linter.unusedSimpArgs false

theorem step_write {own own' : Own} {f g : Nat} {w w1 w2 : World} (h : Step own own' f w w1) (hg : w1.grownBy w2 (some g)) (hge : w.heap.size ≤ g) : Step own own' f w w2 where
  os := hg.os.trans h.os
  tape := hg.tape.trans h.tape
  output := hg.output.trans h.output
  size := Nat.le_trans h.size hg.size
  same := h.same
  block := fun b hb hne => (hg.block b (Nat.lt_of_lt_of_le hb h.size) (fun e => by injection e with e; omega)).trans (h.block b hb hne)
  new := h.new
theorem Lies.write {own : Own} {w0 w w' : World} {v : Sv} {d : Dk} {g : Nat} (h : Lies own w0 w v d) (hg : w.grownBy w' (some g)) (ho : own g = none) (hge : w0.heap.size ≤ g) : Lies own w0 w' v d :=
  have hne : ∀ b p, own b = some p → some b ≠ some g := fun b p hp e => by injection e with e; rw [e, ho] at hp; cases hp
  { h with
    disk := ⟨h.disk.disk.keep hg.size (fun _ _ => rfl) (fun b p hp => Nat.lt_of_lt_of_le (h.top b p hp) hg.size) (fun b hb g' hp => hg.block b hb (hne b _ hp)), below_only h.disk.below hg hge h.disk.below.size, h.disk.free⟩
    blk := (hg.block _ (blk_lt' h.blk) (hne _ _ h.own)).trans h.blk }
/-- What Read hands back, where Decode told y and er. -/
structure Told (er : Int) (y : Rc) (id : Nat) (z : Rc) (k : Int) : Prop where
  ok : er = 0 ∧ y.tenant = id → z = y ∧ k = 0
  bad : ¬ (er = 0 ∧ y.tenant = id) → k = 4
set_option maxRecDepth 100000 in
set_option maxHeartbeats 8000000 in
theorem read_core {own : Own} {w0 w : World} {v : Sv} {d : Dk} {a : Nat} (hT : Tabs w0) (h : Lies own w0 w v d) (ha : a < v.x.now.length) (hK : v.K + 1 ≤ 1073741824)
    (y : Rc) (n' er : Int) (hv : (dec ((v.x.now.drop a).take (min (v.x.now.length - a) 1039))).vals = #[.agg y.vals, .int .i64 n', .int .i64 er]) :
    Calls Tryz.prog 19 #[ptr v.sg, .int .i64 (a : Int)] w fun e w' => ∃ z k, e = .returned (.tuple #[.agg (Rc.vals z), .int .i64 k]) ∧ Hid (Told er y v.id z k) ∧ Looked own w0 w v d w' := by
  have hN := h.xok.max
  obtain ⟨N, hNN⟩ : ∃ N, N = v.x.now.length := ⟨_, rfl⟩
  have CZ : Hid (∀ w1, Below w.heap.size w w1 → Calls Tryz.prog 11 #[.pointer (some ⟨v.sg, 0, none⟩)] w1 fun e w' => e = .returned (.int .i64 (N : Int)) ∧ Below w1.heap.size w1 w') := by
    rw [hNN]
    exact fun w1 hb => size_lies (h.all hb)
  rw [← hNN] at ha hN hv
  obtain ⟨M, hM⟩ : ∃ M, M = min (N - a) 1039 := ⟨_, rfl⟩
  have hm : min ((N : Int) - (a : Int)) 1039 = (M : Int) := by omega
  have hM2 : M ≤ 1039 := by omega
  rw [← hM] at hv
  obtain ⟨win, hwin⟩ : ∃ win, win = (v.x.now.drop a).take M := ⟨_, rfl⟩
  rw [← hwin] at hv
  have CB : Hid (∀ w1, Below w.heap.size w w1 → Calls Tryz.prog 44 #[.pointer (some ⟨v.sg, 0, none⟩), .int .i64 (a : Int), .int .i64 (M : Int)] w1 fun e w' => ∃ A c, e = .returned (.slice A M c) ∧ M ≤ c ∧ c ≤ maxLen ∧ Free own w' A M (bvs win) ∧ Lies own w0 w' { v with K := v.K + 1 } (d.read M) ∧ Step own own v.f w w' ∧ (∀ g, w.heap.size ≤ g → g < w1.heap.size → w'.heap[g]? = w1.heap[g]?)) := fun w1 hb => by
    refine (bytes_lies a M (h.all hb) (by omega) hK).mono ?_
    rintro e w' ⟨A, c, he, h1, h2, h3, h4, h5⟩
    rw [← hwin] at h3
    exact ⟨A, c, he, h1, h2, h3, h4, (h.stepAll hb).trans h5, fun g hg hg1 => h5.block g hg1 (fun g' e => by have := h.top _ _ e; omega)⟩
  have CD : Hid (∀ (w1 : World) A c, Below w0.heap.size w0 w1 → Row w1 w1.heap.size A M (bvs win) → M ≤ c → c ≤ maxLen → Calls Tryz.prog 43 #[.slice A M c] w1 fun e w' => e = .returned (.tuple #[.agg y.vals, .int .i64 n', .int .i64 er]) ∧ Below w1.heap.size w1 w') := fun w1 A c hb hr h1 h2 => by
    rw [← hv]
    exact decode_any A M c win w1 (hT.below hb rfl).crc hr h1 h2
  have e : ptr v.sg = .pointer (some ⟨v.sg, 0, none⟩) := rfl
  rw [e]
  have hz := zeroRec
  have ha' : (a : Int) < (N : Int) := by omega
  have HFREE : Hid (own w.heap.size = none) := by
    show _ = _
    cases ho : own w.heap.size with
    | none => rfl
    | some q => have := h.top _ _ ho; omega
  have HW0 : Hid (w0.heap.size ≤ w.heap.size) := h.disk.below.size
  have c1 : Hid (∀ w1 : World, Blk w1 v.sg 67 #[ptr v.f, .int .u32 (v.id : Int), .string (str (segName v.id v.num))] → w1.cell? ⟨v.sg, 1, none⟩ = some (.int .u32 (v.id : Int))) := fun w1 hb => Blk.cell hb 1
  obtain ⟨id, hid⟩ : ∃ id, id = v.id := ⟨_, rfl⟩
  have HID := Lib.hid hid
  clear e h hNN hwin hM hK hT hv hid
  go_enter Tryz.func19, Tryz.ntmps19
  go_upto_region 8 with (first
    | (go_at_call 11; refine (CZ.out _ (below_alloc w _)).mono ?_; rintro e w1 ⟨rfl, hb1⟩; have hg1 : w.heap.size < w1.heap.size := (by have := hb1.size; simp at this; omega); have X1 := Lib.hid ((zero_new w).below hb1 (by simp)); have HB1 := Lib.hid ((below_alloc w (.cells #[.int .i64 0, .int .u32 0, .int .u64 0, .int .u64 0, .int .u64 0, .string ⟨#[]⟩] 40)).trans (hb1.mono (by simp))); clear hb1)
    | (go_at_call 44; refine (CB.out _ HB1.out).mono ?_; rintro e w2 ⟨A2, c2, rfl, h1, h2, hf2, hl2, hs2, hk2⟩; have HF2 := Lib.hid hf2; have HL2 := Lib.hid hl2; have HS2 := Lib.hid hs2; have H1 := Lib.hid h1; have H2 := Lib.hid h2; have X2 : Hid (RecAt w2 w.heap.size zeroRc) := (hk2 _ (Nat.le_refl _) hg1).trans X1.out; clear hf2 hl2 hs2 h1 h2 hk2)
    | (go_at_call 43; refine (CD.out _ _ _ HL2.out.disk.below HF2.out.row H1.out H2.out).mono ?_; rintro e w3 ⟨rfl, hb3⟩; have HB3 := Lib.hid hb3; clear hb3)
    | (refine store_recN (zero_new w3) rfl rfl (.tmp 8) (.tmp 34) rfl rfl y rfl rfl ?_; intro w4 X4 G4))
  have hb4 : Below w3.heap.size w3 w4 := below_only (below_alloc w3 _) G4.out (Nat.le_refl _) (by simp)
  have hb24 : Below w2.heap.size w2 w4 := HB3.out.trans (hb4.mono HB3.out.size)
  have HL4 := Lib.hid (HL2.out.all hb24)
  have HS4 := Lib.hid (HS2.out.trans (HL2.out.stepAll hb24))
  have X04 : Hid (RecAt w4 w.heap.size zeroRc) := X2.out.below hb24 X2.out.lt
  have x1 : w4.cell? ⟨w3.heap.size, 1, none⟩ = some (.int .u32 (y.tenant : Int)) := X4.out.cell 1
  have y1 : w4.cell? ⟨v.sg, 1, none⟩ = some (.int .u32 (v.id : Int)) := c1.out w4 HL4.out.blk
  have hfin : Hid (∀ w5, Below w4.heap.size w4 w5 → Looked own w0 w v d w5) := fun w5 hb => ⟨⟨M, v.K + 1, Nat.le_refl _, HL4.out.all hb⟩, HS4.out.trans (HL4.out.stepAll hb)⟩
  have hlt : w.heap.size < w4.heap.size := X04.out.lt
  have hold : Hid (∀ b q, own b = some q → b < w4.heap.size) := HL4.out.top
  clear hb4 hb24 G4 X1 X2 HB1 HB3 HF2 HL2 HS2 H1 H2 CZ CB CD HL4 HS4 c1 hg1 hm
  rw [← HID.out] at y1
  have HX4 : Hid (∀ n, RecAt (w4.drewN n) w3.heap.size y) := fun _ => X4.out
  have HX0 : Hid (∀ n, RecAt (w4.drewN n) w.heap.size zeroRc) := fun _ => X04.out
  have HB5 : Hid (∀ n w6, (w4.drewN n).grownBy w6 (some w.heap.size) → Looked own w0 w v d w6) := fun n w6 hg => by
    have hbn : Below w4.heap.size w4 (w4.drewN n) := ⟨rfl, rfl, rfl, Nat.le_refl _, fun _ _ => rfl⟩
    obtain ⟨k, K', hK', hL⟩ := (hfin.out _ hbn).ex
    exact ⟨⟨k, K', hK', hL.write hg HFREE.out HW0.out⟩, step_write (hfin.out _ hbn).step hg (Nat.le_refl _)⟩
  clear hfin X04 X4 hold
  by_cases her : er = 0
  · subst her
    by_cases hten : y.tenant = id
    · have e2 : ((y.tenant : Int) != (id : Int)) = false := by rw [hten]; simp
      have HC : Hid (Told 0 y v.id y 0) := ⟨fun _ => ⟨rfl, rfl⟩, fun hn => absurd ⟨rfl, by rw [← HID.out]; exact hten⟩ hn⟩
      clear hten
      go_quiet (fail)
      go_wp2_with (first
        | (refine load_rec (HX4.out _) rfl (.tmp 8) rfl rfl ?_)
        | (refine store_recN (HX0.out _) rfl rfl (.tmp 4) (.tmp 49) rfl rfl y rfl rfl ?_; intro w6 X6 G6))
      refine bodyPost_ret (result_rec2 X6.out rfl _ rfl) rfl ?_
      exact ⟨y, 0, rfl, HC, HB5.out _ _ G6.out⟩
    · have e2 : ((y.tenant : Int) != (id : Int)) = true := bne_iff_ne.2 (by omega)
      have HC : Hid (Told 0 y v.id zeroRc 4) := ⟨fun hh => absurd (hh.2.trans HID.out.symm) hten, fun _ => rfl⟩
      clear hten
      go_quiet (fail)
      go_wp2_with (refine store_recN (HX0.out _) rfl rfl (.tmp 4) (.tmp 48) rfl rfl zeroRc rfl rfl ?_; intro w6 X6 G6)
      refine bodyPost_ret (result_rec2 X6.out rfl _ rfl) rfl ?_
      exact ⟨zeroRc, 4, rfl, HC, HB5.out _ _ G6.out⟩
  · have e3 : (er != 0) = true := bne_iff_ne.2 her
    have HC : Hid (Told er y v.id zeroRc 4) := ⟨fun hh => absurd hh.1 her, fun _ => rfl⟩
    clear her
    go_quiet (fail)
    go_wp2_with (refine store_recN (HX0.out _) rfl rfl (.tmp 4) (.tmp 48) rfl rfl zeroRc rfl rfl ?_; intro w6 X6 G6)
    refine bodyPost_ret (result_rec2 X6.out rfl _ rfl) rfl ?_
    exact ⟨zeroRc, 4, rfl, HC, HB5.out _ _ G6.out⟩
theorem readOk_lies {own : Own} {w0 w : World} {v : Sv} {d : Dk} {a n : Nat} {x : Rc} (hT : Tabs w0) (h : Lies own w0 w v d) (ha : a < v.x.now.length) (hd : dec (v.x.now.drop a) = .ok x n) (ht : x.tenant = v.id) (hK : v.K + 1 ≤ 1073741824) :
    Calls Tryz.prog 19 #[ptr v.sg, .int .i64 (a : Int)] w fun e w' => e = .returned (.tuple #[.agg x.vals, .int .i64 0]) ∧ Looked own w0 w v d w' := by
  have hw := (dec_window (bs := v.x.now.drop a) (m := min (v.x.now.length - a) 1039) (by rw [List.length_drop])).2 hd
  refine (read_core hT h ha hK x n 0 (by rw [hw]; rfl)).mono ?_
  rintro e w' ⟨z, k, rfl, hc, hL⟩
  obtain ⟨rfl, rfl⟩ := hc.out.ok ⟨rfl, ht⟩
  exact ⟨rfl, hL⟩
theorem readBad_lies {own : Own} {w0 w : World} {v : Sv} {d : Dk} {a : Nat} (hT : Tabs w0) (h : Lies own w0 w v d) (ha : a < v.x.now.length) (hno : ∀ x n, dec (v.x.now.drop a) = .ok x n → x.tenant ≠ v.id) (hK : v.K + 1 ≤ 1073741824) :
    Calls Tryz.prog 19 #[ptr v.sg, .int .i64 (a : Int)] w fun e w' => ∃ z, e = .returned (.tuple #[.agg (Rc.vals z), .int .i64 4]) ∧ Looked own w0 w v d w' := by
  have hw := @dec_window (v.x.now.drop a) (min (v.x.now.length - a) 1039) (by rw [List.length_drop])
  rcases out_ok (dec ((v.x.now.drop a).take (min (v.x.now.length - a) 1039))) with ⟨x, n, hd⟩ | ⟨er, he, hv, hn⟩
  · have hne := hno x n (hw.1 hd)
    refine (read_core hT h ha hK x n 0 (by rw [hd]; rfl)).mono ?_
    rintro e w' ⟨z, k, rfl, hc, hL⟩
    obtain rfl := hc.out.bad (fun hh => hne hh.2)
    exact ⟨z, rfl, hL⟩
  · refine (read_core hT h ha hK zeroRc 0 er hv).mono ?_
    rintro e w' ⟨z, k, rfl, hc, hL⟩
    obtain rfl := hc.out.bad (fun hh => he hh.1)
    exact ⟨z, rfl, hL⟩
end Go.Proofs.YtkdnfikaodkhnaaGreatDoor.Seg
/-
  Proved: what mayAppend of package segment returns.
-/
namespace Go.Proofs.YtkdnfikaodkhnaaGreatDoor.Seg
open Go.RowKit Go.Proofs.YtkdnfikaodkhnaaGreatDoor.Disk Go.Proofs.YtkdnfikaodkhnaaGreatDoor.Rec
set_option linter.unusedVariables false
set_option linter.unusedSimpArgs false

/-- May all these be appended? -/
def mayAll (id : Nat) (l : List Rc) : Bool := !l.isEmpty && l.all fun x => x.may && decide (x.tenant = id)
theorem mayAll_true {id : Nat} {l : List Rc} (h : mayAll id l = true) : l ≠ [] ∧ ∀ x ∈ l, x.May ∧ x.tenant = id := by
  unfold mayAll at h
  simp only [Bool.and_eq_true, List.all_eq_true, Bool.not_eq_true', List.isEmpty_eq_false_iff, decide_eq_true_eq, Rc.may] at h
  exact ⟨h.1, fun x hx => h.2 x hx⟩
theorem mayAll_of {id : Nat} {l : List Rc} (h1 : l ≠ []) (h2 : ∀ x ∈ l, x.May ∧ x.tenant = id) : mayAll id l = true := by
  unfold mayAll
  simp only [Bool.and_eq_true, List.all_eq_true, Bool.not_eq_true', List.isEmpty_eq_false_iff, decide_eq_true_eq, Rc.may]
  exact ⟨h1, h2⟩
set_option maxRecDepth 100000 in
set_option maxHeartbeats 8000000 in
theorem mayAppend_lies {own : Own} {w0 w : World} {v : Sv} {d : Dk} (h : Lies own w0 w v d) {A : Option Addr} {n c : Nat} {l : List Rc} (hR : Row w w.heap.size A (n * 6) (rflat l)) (hl : l.length = n) (hok : ∀ x ∈ l, x.body.length ≤ maxLen) (hnc : n ≤ c) (hc : c ≤ maxLen) :
    Calls Tryz.prog 26 #[ptr v.sg, .slice A n c] w fun e w' => e = .returned (.bool (mayAll v.id l)) ∧ Below w.heap.size w w' := by
  have hcm : c ≤ 9223372036854775807 := by unfold maxLen at hc; exact hc
  have HR := Lib.hid hR
  have HL := Lib.hid hl
  have HOK := Lib.hid hok
  have hz := zeroRec
  obtain ⟨id, hid⟩ : ∃ id, id = v.id := ⟨_, rfl⟩
  have c1 : Hid (∀ w1 : World, Below w.heap.size w w1 → w1.cell? ⟨v.sg, 1, none⟩ = some (.int .u32 (id : Int))) := fun w1 hb => by
    rw [hid]
    exact Blk.cell (h.all hb).blk 1
  have e : ptr v.sg = .pointer (some ⟨v.sg, 0, none⟩) := rfl
  rw [e, ← hid]
  have hsg := blk_lt' h.blk
  clear h hR hl hok hc hid e
  go_enter Tryz.func26, Tryz.ntmps26
  go_wp2_with fail
  go_loopw [9] (fun iv wr => ∃ (i : Nat), iv = .int .i64 (i : Int) ∧ i ≤ n ∧ Hid (Below w.heap.size w wr) ∧ Hid (∀ j x, j < i → l[j]? = some x → x.May ∧ x.tenant = id)) (fun iv _ => n - (RowKit.intOf iv).toNat)
  case atStart => exact ⟨0, rfl, Nat.zero_le _, Below.refl _ _, fun j x h => by omega⟩
  case round =>
    obtain ⟨i, rfl, hi, HBR, HT⟩ := hrel
    by_cases hlt : i < n
    · obtain ⟨b, o, rfl, hb, _⟩ := HR.out.2 (by omega)
      obtain ⟨x, hx⟩ : ∃ x, l[i]? = some x := ⟨l[i]'(by rw [HL.out]; exact hlt), List.getElem?_eq_getElem _⟩
      have hxok := HOK.out x (List.mem_of_getElem? hx)
      have HX := Lib.hid hx
      have HIT : Hid (wr.rangeAt b (o + i * 6) x.vals.toList) := rec_item (HR.out.below HBR.out) i x hx
      have CM : Hid (∀ W, Calls Tryz.prog 53 #[.agg x.vals] W fun e w' => e = .returned (.bool x.may) ∧ Below W.heap.size W w') := fun W => may_any x W hxok
      clear hx hxok
      go_upto_region 4 with (first
        | (refine load_recM HIT.out rfl (.tmp 11) rfl rfl ?_)
        | (refine store_recN (zero_new wr) rfl rfl (.tmp 6) (.tmp 12) rfl rfl x rfl rfl ?_; intro w3 X3 G3))
      have HB3 := Lib.hid (HBR.out.trans ((below_only (below_alloc wr _) G3.out (Nat.le_refl _) (by simp)).mono HBR.out.size))
      obtain ⟨x0, x1, x2, x3, x4, x5⟩ := rec_cells X3.out
      obtain ⟨g, hg⟩ : ∃ g, g = wr.heap.size := ⟨_, rfl⟩
      have hg3 := X3.out.lt
      have hw3 : w.heap.size ≤ w3.heap.size := HB3.out.size
      rw [← hg] at x0 x1 x2 x3 x4 x5 X3 hg3 ⊢
      clear hg G3
      by_cases hm : x.May
      · have em := may_true hm
        rw [em] at CM
        by_cases hten : x.tenant = id
        · have e2 : ((x.tenant : Int) != (id : Int)) = false := by rw [hten]; simp
          have HT2 : Hid (∀ j y, j < i + 1 → l[j]? = some y → y.May ∧ y.tenant = id) := fun j y hj hy => by
            by_cases e : j = i
            · subst e
              have e := HX.out.symm.trans hy
              obtain rfl := Option.some.inj e
              exact ⟨hm, hten⟩
            · exact HT.out j y (by omega) hy
          clear hten hm em
          go_region_law (go_simp; go_at_call 53; refine (CM.out _).mono ?_; rintro e w4 ⟨rfl, hb4⟩; have hb5 := below_of_drew hb4; have z1 : w4.cell? ⟨g, 1, none⟩ = some (.int .u32 (x.tenant : Int)) := (X3.out.below hb5.out hg3).cell 1; have HB4 := Lib.hid (HB3.out.trans (hb5.out.mono hw3)); have y1 := c1.out w4 HB4.out; clear hb4 hb5)
          all_goals
            go_wp2_with fail
            go_roundw
            case rel => exact ⟨i + 1, by go_num, by omega, HB4, HT2⟩
            case measure => (simp [RowKit.intOf]; omega)
        · have e2 : ((x.tenant : Int) != (id : Int)) = true := bne_iff_ne.2 (by omega)
          have HF : Hid (mayAll id l = false) := by
            show _ = _
            cases hh : mayAll id l with
            | false => rfl
            | true => exact absurd ((mayAll_true hh).2 x (List.mem_of_getElem? HX.out)).2 hten
          clear hten hm em
          go_region_law (go_simp; go_at_call 53; refine (CM.out _).mono ?_; rintro e w4 ⟨rfl, hb4⟩; have hb5 := below_of_drew hb4; have z1 : w4.cell? ⟨g, 1, none⟩ = some (.int .u32 (x.tenant : Int)) := (X3.out.below hb5.out hg3).cell 1; have HB4 := Lib.hid (HB3.out.trans (hb5.out.mono hw3)); have y1 := c1.out w4 HB4.out; clear hb4 hb5)
          all_goals
            go_wp2_with fail
            go_ret
            refine ⟨?_, HB4.out⟩
            rw [HF.out]
            rfl
      · have em := may_false hm
        rw [em] at CM
        have HF : Hid (mayAll id l = false) := by
          show _ = _
          cases hh : mayAll id l with
          | false => rfl
          | true => exact absurd ((mayAll_true hh).2 x (List.mem_of_getElem? HX.out)).1 hm
        clear hm em
        have HB0 : Hid (Below w3.heap.size w3 w3.drew) := (Below.refl _ _).drew
        refine wp_region_noPanic ?_
        refine wp_region_held_drew (S := fun W => Hid (Below w3.heap.size w3 W)) (by kernel_rfl) HB0 (fun h0 => ?_)
        refine held_take 0 (v := .agg x.vals) (d := some 13) rfl rfl (by kernel_rfl) (by kernel_rfl) (by kernel_rfl) (fun _ _ _ h => h) (yieldsIf_load_rec (by rfl) (.tmp 6) rfl g rfl x (fun W h => X3.out.below h.out hg3)) h0 ?_
        try simp only [Act.put, List.setIfInBounds_toArray, List.set_cons_zero, List.set_cons_succ]
        refine wpAnyH_ready (rs := [1]) (by kernel_rfl) (by simp) (AllReadyH.cons rfl (fun K hK => ?_) AllReadyH.nil)
        go_simp
        with_reducible refine (CM.out _).mono ?_
        rintro e w4 ⟨rfl, hb4⟩
        have B4 := Lib.hid (HB0.out.trans (hb4.mono HB0.out.size))
        clear hb4
        refine hK.out _ _ (B4) (fun h1 => ?_)
        clear hK K
        try simp only [Act.put, List.setIfInBounds_toArray, List.set_cons_zero, List.set_cons_succ]
        refine held_take 2 (v := .bool true) (d := (some 15)) rfl rfl (by kernel_rfl) (by kernel_rfl) (by kernel_rfl) (fun _ _ _ h => h) (Or.inl ⟨by rfl, ?_⟩) h1 ?_
        · intro _ _; go_simp; (try with_reducible rfl)
        try simp only [Act.put, List.setIfInBounds_toArray, List.set_cons_zero, List.set_cons_succ]
        refine held_take 3 (v := .bool true) (d := (some 16)) rfl rfl (by kernel_rfl) (by kernel_rfl) (by kernel_rfl) (fun _ _ _ h => h) (Or.inl ⟨by rfl, ?_⟩) h1 ?_
        · intro _ _; go_simp; (try with_reducible rfl)
        try simp only [Act.put, List.setIfInBounds_toArray, List.set_cons_zero, List.set_cons_succ]
        refine held_take 4 (v := undef) (d := (some 17)) rfl rfl (by kernel_rfl) (by kernel_rfl) (by kernel_rfl) (fun _ _ _ h => h) (Or.inr ⟨by rfl, rfl⟩) h1 ?_
        try simp only [Act.put, List.setIfInBounds_toArray, List.set_cons_zero, List.set_cons_succ]
        refine held_take 5 (v := undef) (d := (some 18)) rfl rfl (by kernel_rfl) (by kernel_rfl) (by kernel_rfl) (fun _ _ _ h => h) (Or.inr ⟨by rfl, rfl⟩) h1 ?_
        try simp only [Act.put, List.setIfInBounds_toArray, List.set_cons_zero, List.set_cons_succ]
        refine held_take 6 (v := undef) (d := (some 19)) rfl rfl (by kernel_rfl) (by kernel_rfl) (by kernel_rfl) (fun _ _ _ h => h) (Or.inr ⟨by rfl, rfl⟩) h1 ?_
        try simp only [Act.put, List.setIfInBounds_toArray, List.set_cons_zero, List.set_cons_succ]
        refine held_take 7 (v := undef) (d := (some 20)) rfl rfl (by kernel_rfl) (by kernel_rfl) (by kernel_rfl) (fun _ _ _ h => h) (Or.inr ⟨by rfl, rfl⟩) h1 ?_
        try simp only [Act.put, List.setIfInBounds_toArray, List.set_cons_zero, List.set_cons_succ]
        refine held_take 8 (v := undef) (d := (some 21)) rfl rfl (by kernel_rfl) (by kernel_rfl) (by kernel_rfl) (fun _ _ _ h => h) (Or.inr ⟨by rfl, rfl⟩) h1 ?_
        try simp only [Act.put, List.setIfInBounds_toArray, List.set_cons_zero, List.set_cons_succ]
        refine held_take 9 (v := undef) (d := (some 22)) rfl rfl (by kernel_rfl) (by kernel_rfl) (by kernel_rfl) (fun _ _ _ h => h) (Or.inr ⟨by rfl, rfl⟩) h1 ?_
        try simp only [Act.put, List.setIfInBounds_toArray, List.set_cons_zero, List.set_cons_succ]
        refine held_take 10 (v := undef) (d := (some 23)) rfl rfl (by kernel_rfl) (by kernel_rfl) (by kernel_rfl) (fun _ _ _ h => h) (Or.inr ⟨by rfl, rfl⟩) h1 ?_
        try simp only [Act.put, List.setIfInBounds_toArray, List.set_cons_zero, List.set_cons_succ]
        refine held_take 11 (v := .bool true) (d := (some 24)) rfl rfl (by kernel_rfl) (by kernel_rfl) (by kernel_rfl) (fun _ _ _ h => h) (Or.inl ⟨by rfl, ?_⟩) h1 ?_
        · intro _ _; go_simp; (try with_reducible rfl)
        try simp only [Act.put, List.setIfInBounds_toArray, List.set_cons_zero, List.set_cons_succ]
        refine wpAnyH_done (by kernel_rfl) ?_ _
        refine NoPanic.normal ?_
        have HB4 := Lib.hid (HB3.out.trans (B4.out.mono hw3))
        go_wp2_with fail
        go_ret
        refine ⟨?_, HB4.out⟩
        rw [HF.out]
        rfl
    · obtain rfl : i = n := by omega
      by_cases h0 : i = 0
      · have HF : Hid (mayAll id l = false) := by
          show _ = _
          have hl := HL.out
          rw [h0] at hl
          rw [List.length_eq_zero_iff.1 hl]
          rfl
        have h1 : Hid (decide (0 < i) = false) := decide_eq_false (by omega)
        clear h0
        go_wp2_with fail
        go_ret
        refine ⟨?_, HBR.out⟩
        rw [HF.out, h1.out]
        rfl
      · have HF : Hid (mayAll id l = true) := mayAll_of (fun e => by have := HL.out; rw [e] at this; simp at this; omega) fun x hx => by
          obtain ⟨j, hj, e⟩ := List.getElem_of_mem hx
          exact HT.out j x (by have := HL.out; omega) (by rw [List.getElem?_eq_getElem hj, e])
        have h1 : Hid (decide (0 < i) = true) := decide_eq_true (by omega)
        clear h0
        go_wp2_with fail
        go_ret
        refine ⟨?_, HBR.out⟩
        rw [HF.out, h1.out]
        rfl
end Go.Proofs.YtkdnfikaodkhnaaGreatDoor.Seg
/-
  Proved: what Put of package num returns: a number's bytes.
  Conditions: sizes of one to eight bytes.
-/
namespace Go.Proofs.YtkdnfikaodkhnaaGreatDoor.Rec
open Go.RowKit
set_option linter.unusedVariables false
set_option linter.unusedSimpArgs false

theorem made_size (k : Nat) : (madeCells (Value.int .u8 0).cells (k * 1)).size = k := by simp [madeCells, Value.cells]
set_option maxHeartbeats 400000 in
set_option maxRecDepth 100000 in
theorem put_any (n size : Nat) (v : Int) (w : World) (hv : v = (size : Int)) (hs : 1 ≤ size ∧ size ≤ 8) (hn : n < 18446744073709551616) :
    Calls Tryz.prog 81 #[.int .u64 (n : Int), .int .i64 v] w fun e w' => ∃ u, e = .returned u ∧ w'.ownsRow w.heap.size 5 1 u size (bvs (be n size)) ∧ Below w.heap.size w w' := by
  subst hv
  obtain ⟨hs1, hs2⟩ := hs
  have HN := Lib.hid hn
  obtain ⟨i0, hi, hz0, hz1, hz2⟩ := u8_info3
  have HI := Lib.hid hi
  have HZ0 := Lib.hid hz0
  have HZ1 := Lib.hid hz1
  have HB : Hid (i0.bytes * size ≤ 281474976710656 ∧ size ≤ maxLen) := ⟨by rw [hz2]; omega, by unfold maxLen; omega⟩
  clear hn hi hz0 hz1 hz2
  go_enter Tryz.func81, Tryz.ntmps81
  go_wp2_with (at_make; refine wpList_make_full _ rfl _ _ 53 rfl w.heap.size 5 i0 (.int .u8 0) 1 Tryz.underlying53 HI.out HZ0.out HZ1.out _ _ _ _ size rfl rfl rfl rfl HB.out.1 HB.out.2 (Nat.le_refl _) ?_; intro w1 ho1 hg1)
  obtain ⟨g, cap, cur, hv, hbg, hblk, hnc, hcm, hsz, _⟩ := own_block ho1 (by omega)
  injection hv with h1 h2 h3
  subst h3
  injection h1 with h1
  injection h1 with h1
  subst h1
  have hb1 : Below w.heap.size w w1 := (Below.refl _ _).grown hg1 (Nat.le_refl _) (fun k hk => by cases hk)
  have H1 := Lib.hid hblk
  have H2 := Lib.hid hsz
  have H3 := Lib.hid hb1
  clear ho1 hg1 hb1 hblk hsz h2
  go_wp2_with fail
  go_loopw [17] (fun i wr => ∃ k : Nat, ∃ cs : Array Value, k ≤ size ∧ i = .int .i64 (k : Int) ∧ Hid (Blk wr w.heap.size 5 cs ∧ cs.size = size ∧ (∀ j, j < k → cs[size - 1 - j]? = some (bv (UInt8.ofNat (n / 2 ^ (8 * j))))) ∧ Below w.heap.size w wr)) (fun i _ => size - (RowKit.intOf i).toNat)
  case atStart => exact ⟨0, cur, Nat.zero_le _, rfl, H1.out, H2.out, fun j hj => absurd hj (by omega), H3.out⟩
  case round =>
    obtain ⟨k, cs, hk, rfl, HC⟩ := hrel
    by_cases hlt : k < size
    · obtain ⟨m, hm⟩ : ∃ m, size = k + 1 + m := ⟨size - 1 - k, by omega⟩
      have hmi : (size : Int) - 1 - (k : Int) = (m : Int) := by omega
      have hc : wr.cell? ⟨w.heap.size, m, none⟩ = some (cs.getD m (.int .u8 0)) := by
        rw [HC.out.1.cell m, Array.getD_eq_getD_getElem?, Array.getElem?_eq_getElem (by rw [HC.out.2.1]; omega)]
        rfl
      have hf : wr.frozen? ⟨w.heap.size, m, none⟩ = false := HC.out.1.free m
      have hM := Lib.hid hm
      clear hm
      go_wp2_with fail
      go_roundw
      case rel =>
        refine ⟨k + 1, cs.setIfInBounds m (bv (UInt8.ofNat (n / 2 ^ (8 * k)))), by omega, by go_num, ?_, ?_, ?_, ?_⟩
        · rw [← byte_pow, Nat.mul_comm 8 k]
          exact HC.out.1.put m _
        · simpa using HC.out.2.1
        · intro j hj
          have hM' := hM.out
          by_cases hjk : j = k
          · subst hjk
            rw [show size - 1 - j = m by omega, Array.getElem?_setIfInBounds_self_of_lt (by rw [HC.out.2.1]; omega)]
          · rw [Array.getElem?_setIfInBounds_ne (by omega)]
            exact HC.out.2.2.1 j (by omega)
        · exact HC.out.2.2.2.setCell (Nat.le_refl _) _
      case measure => simp [RowKit.intOf]; omega
    · obtain rfl : k = size := by omega
      go_wp2_with fail
      go_ret
      refine ⟨_, rfl, ⟨by rw [bvs_length]; simp, .inr ⟨w.heap.size, k, cs, rfl, Nat.le_refl _, HC.out.1, Nat.le_refl _, HB.out.2, by rw [HC.out.2.1]; simp, ?_⟩⟩, HC.out.2.2.2⟩
      apply List.ext_getElem?
      intro p
      by_cases hp : p < k
      · rw [be_at n k p hp, List.getElem?_take, if_pos (by omega), Array.getElem?_toList]
        have := HC.out.2.2.1 (k - 1 - p) (by omega)
        rwa [show k - 1 - (k - 1 - p) = p by omega] at this
      · rw [List.getElem?_eq_none (by rw [List.length_take]; omega), List.getElem?_eq_none (by rw [bvs_length]; simp; omega)]
end Go.Proofs.YtkdnfikaodkhnaaGreatDoor.Rec
