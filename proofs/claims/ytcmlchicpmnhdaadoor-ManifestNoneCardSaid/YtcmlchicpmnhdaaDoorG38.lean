/-
  Texts one behind the other: ManNone, ManCut.
-/
import Derived.Test.YtcmlchicpmnhdaaDoorG09
import Derived.Test.YtcmlchicpmnhdaaDoorG37
/-
  Proved: ManifestNone returns true.
-/
namespace Go.Proofs.YtcmlchicpmnhdaaDoor.Man
open Go.RowKit Go.Proofs.YtcmlchicpmnhdaaDoor.Rec Go.Proofs.YtcmlchicpmnhdaaDoor.Ten Go.Proofs.YtcmlchicpmnhdaaDoor.Disk
open Go.Proofs.YtcmlchicpmnhdaaDoor.Crc (Turned)
open Go.Proofs.YtcmlchicpmnhdaaDoor.Slot (Sf Up SG Stp laidB openNone_any openShort_any createExists_any new_bare new_arm)
open Go.Proofs.YtcmlchicpmnhdaaDoor.Seg (Fr ptr mark_old mark_top free_fr)
set_option linter.unusedVariables false
set_option linter.unusedSimpArgs false

set_option maxRecDepth 100000 in
set_option maxHeartbeats 4000000 in
theorem mancreate_no {w : World} {f : Nat} {er : Int} (her : er ≠ 0)
    (HC : Hid (∀ W A c, Below w.heap.size w W → Calls Tryd.prog 24 #[.pointer (some ⟨f, 0, none⟩), .string ⟨#[77, 65, 78]⟩, .slice A 1 c] W fun e w' => e = .returned (.tuple #[.pointer none, .int .i64 er]) ∧ Below W.heap.size W w')) :
    Calls Tryd.prog 9 #[.pointer (some ⟨f, 0, none⟩)] w fun e w' => e = .returned (.tuple #[.pointer none, .int .i64 er]) ∧ Below w.heap.size w w' := by
  have hne : (er != 0) = true := bne_iff_ne.2 her
  have CE := Lib.hid (encode_ok none 0 0 [] w (Tens.nil w _) (Nat.le_refl _) (by decide) may_nil)
  have e1 : (encAll (([] : List Tv).map Tv.te)).length = 1 := by decide
  rw [e1] at CE
  clear her
  go_enter Tryd.func9, Tryd.ntmps9
  go_wp2_with (first
    | (go_at_call 16; (with_reducible refine CE.out.mono ?_); rintro e w1 ⟨A1, c1, rfl, R1, p1, p2, hb1⟩; have B1 := Lib.hid hb1; clear hb1 p1 p2)
    | (go_at_call 24; (with_reducible refine (HC.out w1 A1 c1 B1.out).mono ?_); rintro e w2 ⟨rfl, hb2⟩; have B2 := Lib.hid hb2; clear hb2))
  go_ret2
  exact ⟨rfl, B1.out.trans (B2.out.mono B1.out.size)⟩
set_option maxRecDepth 100000 in
set_option maxHeartbeats 8000000 in
theorem manifestNone_walk (w : World) (hT : Turned w) : Calls Tryd.prog 6 #[] w fun e w' => e = .returned (.bool true) ∧ Below w.heap.size w w' := by
  have CN := Lib.hid (new_held 100000 w)
  rw [show room 100000 = 100000 by decide] at CN
  have HT := Lib.hid hT
  clear hT
  go_enter Tryd.func6, Tryd.ntmps6
  go_upto_region 3 with (go_at_call 8; refine CN.out.mono ?_; rintro e w1 ⟨own1, f, rfl, hd1⟩)
  have CO := Lib.hid (manopen_no (w := w1) (f := f) (er := 1) (by decide) (Lib.hid ((openNone_any sMAN hd1 (by decide) rfl).mono fun e w' ⟨h1, h2⟩ => ⟨h1, by rw [← h2]; exact Below.refl _ _⟩)))
  have HD1 := Lib.hid hd1
  clear hd1 CN
  go_upto_region 4 with (go_at_call 21; (with_reducible refine CO.out.mono ?_); rintro e w2 ⟨rfl, hb2⟩)
  have hd2 := HD1.out.all hb2
  have CC : Hid (Calls Tryd.prog 22 #[.pointer (some ⟨f, 0, none⟩), .string ⟨#[77, 65, 78]⟩] w2 fun e w' => ∃ own' g, e = .returned (.int .i64 0) ∧ Held own' w w' f ((newDk 100000 []).made sMAN g) 1 ∧ _ ∧ _) := create_held sMAN hd2 (by decide) (by decide) rfl (by decide) (by decide)
  clear hd2 CO hb2 HD1
  go_upto_region 5 with (go_at_call 22; refine CC.out.mono ?_; rintro e w3 ⟨own3, g, rfl, hd3, _, _⟩)
  have hlk : ((newDk 100000 []).made sMAN g).look sMAN.data.toList = some emptyFl := by
    show some (upd _ g emptyFl g) = _
    rw [upd, if_pos rfl]
  have CO2 := Lib.hid (manopen_no (w := w3) (f := f) (er := 4) (by decide) (Lib.hid (openShort_any sMAN hd3 (by decide) hlk (by decide))))
  have HD3 := Lib.hid hd3
  have HLK := Lib.hid hlk
  clear hd3 CC hlk
  go_upto_region 6 with (go_at_call 21; (with_reducible refine CO2.out.mono ?_); rintro e w4 ⟨rfl, hb4⟩)
  have HD4 := Lib.hid (HD3.out.all hb4)
  have CX := Lib.hid (mancreate_no (w := w4) (f := f) (er := 7) (by decide) (Lib.hid fun W A c hb => (createExists_any sMAN (HD4.out.all hb) (by decide) HLK.out A 1 c (by decide)).mono fun e w' ⟨h1, h2⟩ => ⟨h1, by rw [← h2]; exact Below.refl _ _⟩))
  clear CO2 hb4 HD3
  go_upto_region 7 with (go_at_call 9; (with_reducible refine CX.out.mono ?_); rintro e w5 ⟨rfl, hb5⟩)
  have HB5 := Lib.hid (HD4.out.below.trans (hb5.mono HD4.out.below.size))
  have CG : Hid (Calls Tryd.prog 12 #[.pointer none, .int .u32 1] w5 fun e w' => e = .returned (.tuple #[.agg zeroTv.vals, .bool false]) ∧ Below w5.heap.size w5 w') := mannil_get 1 w5
  clear CX hb5 HD4
  go_upto_region 8 with (first
    | (go_at_call 12; (with_reducible refine CG.out.mono ?_); rintro e w6 ⟨rfl, hb6⟩; have B6 := Lib.hid hb6; clear hb6)
    | (refine store_ten (ten_zero w6) rfl rfl (.tmp 9) (.tmp 32) rfl rfl zeroTv rfl rfl ?_; intro w7 X7 G7))
  have HB7 := Lib.hid (HB5.out.trans ((B6.out.trans ((below_only (below_alloc w6 (.cells #[.int .u32 0, .int .u64 0, .int .i64 0, .int .u64 0, .int .i64 0, .slice none 0 0] 34)) G7.out (Nat.le_refl _) (by simp)).mono B6.out.size)).mono HB5.out.size))
  have HBEG := Lib.hid (manbegun_any w7 (turned_below HT.out HB7.out rfl))
  have C1 : Hid (∀ W, Calls Tryd.prog 11 #[.int .u32 1] W fun e w' => ∃ x : Tv, e = .returned (.agg x.vals) ∧ Hid (x.te = oneTe 1 ∧ x.te.Ok ∧ x.In w' w'.heap.size) ∧ Hid (Below W.heap.size W w')) := Lib.hid fun W => one_any 1 W (by decide)
  clear CG G7 B6 HB5
  go_wp2_with (first
    | (go_at_call 7; (with_reducible refine HBEG.out.mono ?_); rintro e w8 ⟨rfl, hb8⟩; have HB8 := Lib.hid (HB7.out.trans (hb8.mono HB7.out.size)); clear hb8)
    | (go_at_call 11; (with_reducible refine (C1.out w8).mono ?_); rintro e w9 ⟨x9, rfl, _, B9⟩)
    | (go_at_call 10; (with_reducible refine (mannil_put x9 w9).mono ?_); rintro e w10 ⟨rfl, hb10⟩; have B10 := Lib.hid hb10; clear hb10)
    | (go_at_call 13; (with_reducible refine (mannil_all w10).mono ?_); rintro e w' ⟨rfl, rfl⟩))
  go_ret
  have b9 := HB8.out.trans (B9.out.mono HB8.out.size)
  exact ⟨rfl, b9.trans (B10.out.mono b9.size)⟩
end Go.Proofs.YtcmlchicpmnhdaaDoor.Man
/-
  Proved: what law 10's Cut and CutAll return: tenants of at most 62 segments, at most eight of them.
-/
namespace Go.Proofs.YtcmlchicpmnhdaaDoor.Man
open Go.RowKit Go.Proofs.YtcmlchicpmnhdaaDoor.Rec Go.Proofs.YtcmlchicpmnhdaaDoor.Ten
set_option linter.unusedVariables false
set_option linter.unusedSimpArgs false

def cutTe (t : Te) : Te := { t with segs := t.segs.take 62 }
def cutTv (x : Tv) : Tv := ⟨cutTe x.te, x.A, x.c⟩
theorem cut_len (x : Tv) : (cutTv x).te.segs.length ≤ 62 := by show (x.te.segs.take 62).length ≤ 62; rw [List.length_take]; omega
theorem cut_short {x : Tv} (h : x.te.segs.length ≤ 62) : cutTv x = x := by
  unfold cutTv cutTe
  rw [List.take_of_length_le h]
theorem cut_in {w : World} {B : Nat} {x : Tv} (h : x.In w B) : (cutTv x).In w B := by
  by_cases hl : x.te.segs.length ≤ 62
  · rw [cut_short hl]; exact h
  · have hlen : (cutTv x).te.segs.length = 62 := by show (x.te.segs.take 62).length = 62; rw [List.length_take]; omega
    refine ⟨?_, ?_, h.most⟩
    · rw [hlen]
      have := h.row.take (k := 62) (by omega)
      have e : (ivs x.te.segs).take 62 = ivs (cutTv x).te.segs := by unfold ivs; rw [← List.map_take]; rfl
      rw [e] at this
      exact this
    · rw [hlen]; have := h.cap; show 62 ≤ x.c; omega
theorem cut_ok {x : Tv} (h : x.te.Ok) : (cutTv x).te.Ok := ⟨h.id, h.epoch, h.quota, h.next, h.nextSeg, fun i => by
  show _ ≤ (x.te.segs.take 62).getD i 0 ∧ (x.te.segs.take 62).getD i 0 ≤ _
  have := h.segs i
  rw [List.getD_eq_getElem?_getD] at this ⊢
  rw [List.getElem?_take]
  split
  · exact this
  · decide⟩
set_option maxRecDepth 100000 in
set_option maxHeartbeats 8000000 in
theorem mancut_any (x : Tv) (w : World) (B : Nat) (hin : x.In w B) :
    Calls Tryd.prog 29 #[.agg x.vals] w fun e w' => e = .returned (.agg (cutTv x).vals) ∧ Below w.heap.size w w' := by
  obtain ⟨wa, hwa⟩ : ∃ wa, wa = w.alloc (.cells x.vals 34) := ⟨_, rfl⟩
  have XA : TenAt wa w.heap.size x := by rw [hwa]; exact ten_new w x
  have HBA : Below w.heap.size w wa := by rw [hwa]; exact below_alloc w _
  obtain ⟨w0, hw0⟩ : ∃ w0, w0 = wa.alloc (.cells #[.int .u32 0, .int .u64 0, .int .i64 0, .int .u64 0, .int .i64 0, .slice none 0 0] 34) := ⟨_, rfl⟩
  have HB0 : Hid (Below w.heap.size w w0) := by rw [hw0]; exact HBA.alloc HBA.size _
  have Z0 : Hid (TenAt w0 wa.heap.size zeroTv) := by rw [hw0]; exact ten_zero wa
  have X0 : Hid (TenAt w0 w.heap.size x) := by rw [hw0]; exact blk_below XA (below_alloc wa _) XA.lt
  obtain ⟨tb, htb⟩ : ∃ tb, tb = w.heap.size := ⟨_, rfl⟩
  obtain ⟨rb, hrb⟩ : ∃ rb, rb = w.heap.size + 1 := ⟨_, rfl⟩
  have hsz : wa.heap.size = rb := by rw [hwa, hrb]; simp
  rw [hsz] at Z0
  rw [← htb] at X0
  have HTB := Lib.hid htb
  have HRB := Lib.hid hrb
  have hne : ¬ tb = rb := by omega
  have HNE := Lib.hid hne
  have y5 := X0.out.cells.2.2.2.2.2
  have f5 := Blk.free X0.out 5
  obtain ⟨m, hm⟩ : ∃ m, m = x.te.segs.length := ⟨_, rfl⟩
  rw [← hm] at y5
  have HW0 : Hid (w0 = (w.alloc (.cells x.vals 34)).alloc (.cells #[.int .u32 0, .int .u64 0, .int .i64 0, .int .u64 0, .int .i64 0, .slice none 0 0] 34)) := Lib.hid (by rw [hw0, hwa])
  have hcap := hin.cap
  have hmost : x.c ≤ 9223372036854775807 := by have := hin.most; unfold maxLen at this; exact this
  by_cases h62 : m ≤ 62
  · have h62' : ¬ (62 : Int) < (m : Int) := by omega
    have HX : Hid (cutTv x = x) := Lib.hid (cut_short (by rw [← hm]; exact h62))
    clear hwa hw0 htb hrb hm XA HBA hsz hne hin
    go_enter Tryd.func29, Tryd.ntmps29
    go_upto_region 1 with fail
    rw [← HW0.out, ← HRB.out, ← HTB.out]
    go_wp2_with (first
      | (refine load_ten X0.out rfl (.tmp 1) rfl rfl ?_)
      | (refine store_ten Z0.out rfl rfl (.tmp 2) (.tmp 11) rfl rfl x rfl rfl ?_; intro w2 X2 G2))
    refine bodyPost_ret (result_ten X2.out rfl _ rfl) rfl ?_
    rw [HX.out]
    exact ⟨rfl, below_only HB0.out G2.out (by have := HRB.out; omega) HB0.out.size⟩
  · have h62' : (62 : Int) < (m : Int) := by omega
    obtain ⟨b, o, hA, _, _⟩ := hin.row.2 (by omega)
    rw [hA] at y5
    have hmc : m ≤ x.c := by rw [hm]; exact hcap
    have h62c : 62 ≤ x.c := by omega
    have hlen : (x.te.segs.take 62).length = 62 := by rw [List.length_take]; omega
    have X1 : Hid (TenAt (w0.setCell ⟨tb, 5, none⟩ (.slice (some ⟨b, o, none⟩) 62 x.c)) tb (cutTv x)) := Lib.hid (by
      have := ten_put (A' := some ⟨b, o, none⟩) (c' := x.c) X0.out hlen
      unfold cutTv cutTe
      rw [hA]
      exact this)
    have Z1 : Hid (TenAt (w0.setCell ⟨tb, 5, none⟩ (.slice (some ⟨b, o, none⟩) 62 x.c)) rb zeroTv) := Lib.hid (blk_kept Z0.out (only_setCell w0 ⟨tb, 5, none⟩ _) (by simp; omega))
    have HB1 : Hid (Below w.heap.size w (w0.setCell ⟨tb, 5, none⟩ (.slice (some ⟨b, o, none⟩) 62 x.c))) := Lib.hid (below_only HB0.out (only_setCell w0 ⟨tb, 5, none⟩ _) (by show w.heap.size ≤ tb; omega) HB0.out.size)
    clear hwa hw0 htb hrb hm XA HBA hsz hne hin hlen hA
    go_enter Tryd.func29, Tryd.ntmps29
    go_upto_region 1 with fail
    rw [← HW0.out, ← HRB.out, ← HTB.out]
    go_upto_region 3 with fail
    go_wp2_with (first
      | (refine load_ten X1.out rfl (.tmp 1) rfl rfl ?_)
      | (refine store_ten Z1.out rfl rfl (.tmp 2) (.tmp 11) rfl rfl (cutTv x) rfl rfl ?_; intro w2 X2 G2))
    refine bodyPost_ret (result_ten X2.out rfl _ rfl) rfl ?_
    exact ⟨rfl, below_only HB1.out G2.out (by have := HRB.out; omega) HB1.out.size⟩
/-- What CutAll returns. -/
def CutTo (l : List Tv) (w : World) (e : Ending) (w' : World) : Prop := ∃ v, e = .returned v ∧ Ts w w' v ((l.take 8).map cutTv)
set_option maxRecDepth 100000 in
set_option maxHeartbeats 8000000 in
theorem mancutall_any (A : Option Addr) (n c : Nat) (l : List Tv) (w : World) (hR : Tens w w.heap.size A n l) (hnc : n ≤ c) (hc : c ≤ maxLen) :
    Calls Tryd.prog 14 #[.slice A n c] w (CutTo l w) := by
  have hcm : c ≤ 9223372036854775807 := by unfold maxLen at hc; exact hc
  have HR := Lib.hid hR
  have HL := Lib.hid hR.len
  clear hR hc
  go_enter Tryd.func14, Tryd.ntmps14
  go_wp2_with fail
  go_loopw [3, 4] (fun v iv wr => ∃ (i : Nat), iv = .int .i64 (i : Int) ∧ i ≤ n ∧ i ≤ 8 ∧ Hid (Ts w wr v ((l.take i).map cutTv))) (fun _ iv _ => 8 - (RowKit.intOf iv).toNat)
  case atStart => exact ⟨0, rfl, Nat.zero_le _, by decide, Ts.nil w⟩
  case round =>
    obtain ⟨i, rfl, hi, hi8, HS⟩ := hrel
    obtain ⟨A2, c2, rfl, hgc, hc2, _⟩ := own_row HS.out.row
    obtain ⟨la, hla⟩ : ∃ la, la = ((l.take i).map cutTv).length := ⟨_, rfl⟩
    rw [← hla] at hgc ⊢
    have HLA := Lib.hid hla
    clear hla
    by_cases hlt : i < n
    · have hlt' : (i : Int) < (n : Int) := by omega
      by_cases h8 : i < 8
      · have h8' : (i : Int) < 8 := by omega
        obtain ⟨b, o, rfl, hb, _⟩ := HR.out.row.2 (by omega)
        obtain ⟨x, hx, hmem, _⟩ := HR.out.at hlt
        have HBW := Lib.hid HS.out.below
        have HIT : Hid (wr.rangeAt b (o + i * 6) x.vals.toList) := ten_item (HR.out.row.below HBW.out) i x hx
        have CC := Lib.hid (mancut_any x wr w.heap.size ((HR.out.ins x hmem).below HBW.out))
        have hl6 : ((l.take i).map cutTv).length ≤ 1000000 := by rw [List.length_map, List.length_take]; omega
        have HE : Hid ((l.take (i + 1)).map cutTv = (l.take i).map cutTv ++ [cutTv x]) := Lib.hid (by
          obtain ⟨h1, h2⟩ := List.getElem?_eq_some_iff.1 hx
          rw [List.take_succ_eq_append_getElem h1, h2, List.map_append, List.map_singleton])
        have HLL := Lib.hid hl6
        obtain ⟨acc, hacc⟩ : ∃ acc, acc = (l.take i).map cutTv := ⟨_, rfl⟩
        rw [← hacc] at HS HE HLL HLA
        obtain rfl := HLA.out
        clear hx hmem hl6 hacc HLA
        go_wp2_with (first
          | (refine load_tenM HIT.out rfl (.tmp 18) rfl rfl ?_)
          | (go_at_call 29; (with_reducible refine CC.out.mono ?_); rintro e w2 ⟨rfl, hb2⟩
             have HS2 := Lib.hid ((HS.out.all hb2).all (below_alloc w2 (.cells (cutTv x).vals 34)))
             have HONE := Lib.hid (ten_cells1 w2 34 (0, 0) (cutTv x)))
          | (refine build_oneTen rfl (.tmp 20) rfl (some 21) rfl (cutTv x) rfl ?_)
          | (at_builtin; refine ts_append HS2.out rfl (.tmp 15) (.tmp 21) rfl rfl w2.heap.size 1 (cutTv x) rfl HONE.out HLL.out ?_; intro v3 w3 HS3))
        go_roundw
        case rel => exact ⟨i + 1, by go_num, by omega, by omega, by rw [HE.out]; exact HS3⟩
        case measure => (simp [RowKit.intOf]; omega)
      · have h8' : ¬ (i : Int) < 8 := by omega
        have HE : Hid ((l.take 8).map cutTv = (l.take i).map cutTv) := Lib.hid (by rw [show i = 8 by omega])
        clear h8
        go_wp2_with fail
        go_ret
        exact ⟨_, rfl, by rw [HE.out, HLA.out]; exact HS.out⟩
    · have hlt' : ¬ (i : Int) < (n : Int) := by omega
      have HE : Hid ((l.take 8).map cutTv = (l.take i).map cutTv) := Lib.hid (by rw [List.take_of_length_le (by rw [HL.out]; omega), List.take_of_length_le (by rw [HL.out]; omega)])
      clear hlt
      go_wp2_with fail
      go_ret
      exact ⟨_, rfl, by rw [HE.out, HLA.out]; exact HS.out⟩
end Go.Proofs.YtcmlchicpmnhdaaDoor.Man
