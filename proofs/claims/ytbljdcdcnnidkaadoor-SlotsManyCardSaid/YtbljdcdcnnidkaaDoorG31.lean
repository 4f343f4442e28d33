/-
  Texts one behind the other: SlotMany.
-/
import Derived.Deep.QuietTactic
import Derived.Deep.RegionHeld
import Derived.Test.YtbljdcdcnnidkaaDoorG30
/-
  Proved: SlotsMany and SlotsNone return true, whatever they are handed.
-/
namespace Go.Proofs.YtbljdcdcnnidkaaDoor.Slot
open Go.RowKit Go.Proofs.YtbljdcdcnnidkaaDoor.Rec Go.Proofs.YtbljdcdcnnidkaaDoor.Disk
open Go.Proofs.YtbljdcdcnnidkaaDoor.Crc (Turned)
open Go.Proofs.YtbljdcdcnnidkaaDoor.Seg (Fr ptr mark_old mark_top free_fr)
set_option linter.unusedVariables false
set_option linter.unusedSimpArgs false

theorem byte_cells (i : Nat) (hi : i < 256) : (#[.int .u8 (i : Int)] : Array Value) = (bvs [UInt8.ofNat i]).toArray := by
  have : (UInt8.ofNat i).toNat = i := by rw [UInt8.toNat_ofNat', Nat.mod_eq_of_lt (by omega)]
  simp [bvs, bv, this]
set_option maxRecDepth 100000 in
set_option maxHeartbeats 8000000 in
theorem slotsNone_walk (w : World) (hT : Turned w) : Calls Tryd.prog 5 #[] w fun e w' => e = .returned (.bool true) ∧ Below w.heap.size w w' := by
  have CN := Lib.hid (new_held 100000 w)
  rw [show room 100000 = 100000 by decide] at CN
  have HT := Lib.hid hT
  have hmk : ∀ w, (Instr.makeSlice 33 (.int .i64 4081) (.int .i64 4081)).run Tryd.prog w = .ok (.slice (some ⟨w.heap.size, 0, none⟩) 4081 4081) (w.alloc (.cells (madeCells #[.int .u8 0] 4081) 5)) := by
    intro w
    exact Go.run_make_row' (P := Tryd.prog) 33 5 (.int .u8 0) 1 Tryd.underlying33 (by kernel_rfl) rfl .i64 .i64 4081 (by omega) (by omega) w
  obtain ⟨C, hC⟩ : ∃ C, C = madeCells #[Value.int .u8 0] 4081 := ⟨_, rfl⟩
  rw [← hC] at hmk
  clear hT hC
  go_enter Tryd.func5, Tryd.ntmps5
  go_upto_region 3 with (go_at_call 9; refine CN.out.mono ?_; rintro e w1 ⟨own1, f, rfl, hd1⟩)
  have CO : Hid (Calls Tryd.prog 14 #[.pointer (some ⟨f, 0, none⟩), .string ⟨#[65]⟩] w1 fun e w' => e = .returned (.tuple #[.pointer none, .int .i64 1]) ∧ w1 = w') := openNone_any sA hd1 (by decide) rfl
  have CC : Hid (Calls Tryd.prog 19 #[.pointer (some ⟨f, 0, none⟩), .string ⟨#[65]⟩] w1 fun e w' => ∃ own' g, e = .returned (.int .i64 0) ∧ Held own' w w' f ((newDk 100000 []).made sA g) 1 ∧ _ ∧ _) := create_held sA hd1 (by decide) (by decide) rfl (by decide) (by decide)
  clear hd1 CN
  go_upto_region 5 with (first
    | (go_at_call 14; refine CO.out.mono ?_; rintro e w' ⟨rfl, rfl⟩)
    | (go_at_call 19; refine CC.out.mono ?_; rintro e w2 ⟨own2, g, rfl, hd2, _, _⟩))
  have hlk : ((newDk 100000 []).made sA g).look sA.data.toList = some emptyFl := by
    show some (upd _ g emptyFl g) = _
    rw [upd, if_pos rfl]
  have CO2 : Hid (Calls Tryd.prog 14 #[.pointer (some ⟨f, 0, none⟩), .string ⟨#[65]⟩] w2 fun e w' => e = .returned (.tuple #[.pointer none, .int .i64 4]) ∧ Below w2.heap.size w2 w') := openShort_any sA hd2 (by decide) hlk (by decide)
  have HD2 := Lib.hid hd2
  have HLK := Lib.hid hlk
  clear hd2 CO CC hlk
  go_upto_region 6 with (go_at_call 14; refine CO2.out.mono ?_; rintro e w3 ⟨rfl, hb3⟩)
  have HD3 := Lib.hid (HD2.out.all hb3)
  have CE : Hid (Calls Tryd.prog 10 #[.pointer (some ⟨f, 0, none⟩), .string ⟨#[65]⟩, .slice none 0 0] w3 fun e w' => e = .returned (.tuple #[.pointer none, .int .i64 7]) ∧ w3 = w') := createExists_any sA HD3.out (by decide) HLK.out none 0 0 (by decide)
  have CL : Hid (Calls Tryd.prog 10 #[.pointer (some ⟨f, 0, none⟩), .string ⟨#[66]⟩, .slice (some ⟨w3.heap.size, 0, none⟩) 4081 4081] (w3.alloc (.cells C 5)) fun e w' => e = .returned (.tuple #[.pointer none, .int .i64 9]) ∧ w' = w3.alloc (.cells C 5)) := createLarge_any ⟨#[66]⟩ _ 4081 4081 (by decide) (by decide)
  have HB3 : Hid (Below w.heap.size w (w3.alloc (.cells C 5))) := HD3.out.below.alloc HD3.out.below.size _
  have HBEG := Lib.hid (slotbegun_any (w3.alloc (.cells C 5)) (turned_below HT.out HB3.out rfl))
  have KS := fun W => Lib.hid (nilSave_any none 0 0 W)
  have KT := fun W => Lib.hid (nilText_any W)
  have KU := fun W => Lib.hid (nilTurn_any W)
  clear CO2 hb3 HD2 HLK HD3
  go_upto_region 8 with (first
    | (go_at_call 10; with_reducible refine CE.out.mono ?_; rintro e w' ⟨rfl, rfl⟩)
    | (go_at_call 10; with_reducible refine CL.out.mono ?_; rintro e w' ⟨rfl, rfl⟩))
  go_wp2_with (first
    | (go_at_call 8; refine HBEG.out.mono ?_; rintro e w5 ⟨rfl, hb5⟩; have HB5 := Lib.hid (HB3.out.trans (hb5.mono HB3.out.size)); clear hb5)
    | (go_at_call 12; refine (KS w5).out.mono ?_; rintro e w' ⟨rfl, hw'⟩; obtain rfl : w5 = w' := hw'.symm)
    | (go_at_call 15; refine (KT w5).out.mono ?_; rintro e w' ⟨A6, c6, rfl, hw'⟩; obtain rfl : w5 = w' := hw'.symm)
    | (go_at_call 16; refine (KU w5).out.mono ?_; rintro e w' ⟨rfl, hw'⟩; obtain rfl : w5 = w' := hw'.symm))
  go_ret
  exact ⟨rfl, HB5.out⟩
set_option maxRecDepth 100000 in
set_option maxHeartbeats 8000000 in
theorem slotsMany_walk (z : Int) (w : World) (hT : Turned w) (_hz : -9223372036854775808 ≤ z ∧ z ≤ 9223372036854775807) : Calls Tryd.prog 7 #[.int .i64 z] w fun e w' => e = .returned (.bool true) ∧ Below w.heap.size w w' := by
  have HT := Lib.hid hT
  have HBEG := Lib.hid (slotbegun_any w hT)
  clear hT
  by_cases hbad : z < 0 ∨ 50 < z
  · go_enter Tryd.func7, Tryd.ntmps7
    go_upto_region 4 with (go_at_call 8; refine HBEG.out.mono ?_; rintro e w1 ⟨rfl, hb1⟩; have HB1 := Lib.hid hb1; clear hb1)
    by_cases h1 : z < 0
    · go_wp2_with fail
      go_ret
      exact ⟨rfl, HB1.out⟩
    have h4 : 50 < z := by omega
    go_wp2_with fail
    go_ret
    exact ⟨rfl, HB1.out⟩
  obtain ⟨n, rfl⟩ : ∃ n : Nat, z = n := ⟨z.toNat, by omega⟩
  have hn50 : n ≤ 50 := by omega
  have q1 : ¬ (n : Int) < 0 := by omega
  have q2 : ¬ 50 < (n : Int) := by omega
  have HN50 := Lib.hid hn50
  clear hbad hn50
  go_enter Tryd.func7, Tryd.ntmps7
  go_upto_region 6 with (go_at_call 8; refine HBEG.out.mono ?_; rintro e w1 ⟨rfl, hb1⟩; have HB1 := Lib.hid hb1; clear hb1)
  have CN := Lib.hid (new_held 100000 w1)
  rw [show room 100000 = 100000 by decide] at CN
  have HT1 := Lib.hid (turned_below HT.out HB1.out rfl)
  clear q1 q2
  go_upto_region 7 with (go_at_call 9; refine CN.out.mono ?_; rintro e w2 ⟨own2, f, rfl, hd2⟩)
  have CC : Hid (Calls Tryd.prog 10 #[.pointer (some ⟨f, 0, none⟩), .string ⟨#[65]⟩, .slice none 0 0] w2 fun e w' => ∃ sf, e = .returned (.tuple #[.pointer (some ⟨sf, 0, none⟩), .int .i64 0]) ∧ ∃ own', Up own' w1 w' ⟨f, sf, sA, 0, 1, [], 1, true⟩ ⟨laidB [], laidB [], []⟩ 5 ∧ _) :=
    up_create sA HT1.out hd2 (new_bare _) (new_arm _) (by decide) (by decide) (by decide) (by decide) (by decide) (free_none own2 w2 none) (by decide) (by decide) (by decide)
  clear hd2 CN
  go_upto_region 10 with (go_at_call 10; refine CC.out.mono ?_; rintro e w3 ⟨sf, rfl, own3, hu3, _⟩)
  have HU3 := Lib.hid hu3
  clear hu3 CC
  go_wp2_with fail
  go_loopw [7] (fun iv wr => ∃ (i sl K' : Nat) (own' : Own) (tx : List UInt8) (x : Fl), iv = .int .i64 (i : Int) ∧ i ≤ n ∧ K' ≤ 8 + 8 * i ∧ Hid (Up own' w1 wr ⟨f, sf, sA, sl, i + 1, tx, i + 1, true⟩ x K')) (fun iv _ => n - (RowKit.intOf iv).toNat)
  case atStart => exact ⟨0, 0, 5, own3, [], _, rfl, Nat.zero_le _, by decide, HU3⟩
  case round =>
    obtain ⟨i, sl, K', own', tx, x, rfl, hi, hK', HU⟩ := hrel
    by_cases hlt : i < n
    · have hn := HN50.out
      have hlt' : (i : Int) < (n : Int) := by omega
      have hw8 : IntKind.u8.wrap (i : Int) = (i : Int) := by simp [IntKind.wrap, IntKind.bits, IntKind.signed]; omega
      obtain ⟨t2, ht2⟩ : ∃ t2, t2 = i + 1 + 1 := ⟨_, rfl⟩
      have q5 : (i : Int) + 2 = (t2 : Int) := by omega
      have hwt1 : IntKind.i64.wrap (t2 : Int) = (t2 : Int) := by simp [IntKind.wrap, IntKind.bits, IntKind.signed]; omega
      have hwt2 : IntKind.u64.wrap (t2 : Int) = (t2 : Int) := by simp [IntKind.wrap, IntKind.bits, IntKind.signed]; omega
      have HT2 := Lib.hid ht2
      obtain ⟨tx2, htx⟩ : ∃ tx2, tx2 = [UInt8.ofNat i] := ⟨_, rfl⟩
      have htl : tx2.length = 1 := by rw [htx]; rfl
      have hbc : (#[.int .u8 (i : Int)] : Array Value) = (bvs tx2).toArray := by rw [htx]; exact byte_cells i (by omega)
      have HTL := Lib.hid htl
      have HBC := Lib.hid hbc
      have CS : Hid (Calls Tryd.prog 12 #[.pointer (some ⟨sf, 0, none⟩), .slice (some ⟨wr.heap.size, 0, none⟩) 1 1] (wr.alloc (.cells #[.int .u8 (i : Int)] 5)) fun e w' => e = .returned (.int .i64 0) ∧ ∃ own2 x2, Up own2 w1 w' ⟨f, sf, sA, 1 - sl, t2, tx2, t2, true⟩ x2 (K' + 2) ∧ Fr own' own2 (wr.alloc (.cells #[.int .u8 (i : Int)] 5)) w') := by
        rw [ht2]
        exact up_save HT1.out (HU.out.all (below_alloc wr _)) (by show i + 1 < 1099511627776; omega) (by omega) (lit_free HU.out.top tx2 1 htl _ hbc (0, 0)) (by decide) (by decide) (by decide)
      clear hn htx htl hbc ht2
      go_upto_region 16 with (first
        | (go_at_call 12; refine CS.out.mono ?_; rintro e w4 ⟨rfl, own4, x4, hu4, _⟩
           have HU4 := Lib.hid hu4
           have CTN : Hid (Calls Tryd.prog 16 #[.pointer (some ⟨sf, 0, none⟩)] w4 fun e w' => e = .returned (.int .u64 (t2 : Int)) ∧ w' = w4) := by
             have h := turn_any hu4.lies
             exact h
           have CZ : Hid (Calls Tryd.prog 17 #[.pointer (some ⟨f, 0, none⟩), .string ⟨#[65]⟩] w4 fun e w' => e = .returned (.int .i64 8192) ∧ w4 = w') := by
             have h := up_size hu4
             exact h
           have CO : Hid (Calls Tryd.prog 14 #[.pointer (some ⟨f, 0, none⟩), .string ⟨#[65]⟩] w4 fun e w' => ∃ sf', e = .returned (.tuple #[.pointer (some ⟨sf', 0, none⟩), .int .i64 0]) ∧ ∃ own', Up own' w1 w' ⟨f, sf, sA, 1 - sl, t2, tx2, t2, true⟩ x4 (K' + 2 + 2) ∧ Up own' w1 w' ⟨f, sf', sA, 1 - sl, t2, tx2, t2, true⟩ x4 (K' + 2 + 2) ∧ w4.heap.size ≤ sf' ∧ Stp own4 own' f w4 w') := by
             have h := up_open HT1.out hu4 (by omega)
             exact h
           clear hu4)
        | (go_at_call 16; refine CTN.out.mono ?_; rintro e w' ⟨rfl, hw'⟩; obtain rfl : w4 = w' := hw'.symm)
        | (go_at_call 17; refine CZ.out.mono ?_; rintro e w' ⟨rfl, rfl⟩)
        | (go_at_call 14; refine CO.out.mono ?_; rintro e w6 ⟨sf', rfl, own6, hu6, hu6', _, _⟩))
      have HU6 := Lib.hid hu6
      have HU6' := Lib.hid hu6'
      clear hu6 hu6' CO CZ CTN HU4 CS
      have CT : Hid (∀ W, Hid (Below w6.heap.size w6 W) → Calls Tryd.prog 15 #[.pointer (some ⟨sf', 0, none⟩)] W fun e w' => ∃ A c, e = .returned (.slice A 1 c) ∧ Hid (Row w' w'.heap.size A 1 (bvs tx2)) ∧ Hid (Below W.heap.size W w') ∧ Hid (Below w6.heap.size w6 w')) := fun W hb => by
        have := text_any (HU6'.out.lies.all hb.out)
        refine this.mono ?_
        rintro e w' ⟨A, c, rfl, hr, hb2⟩
        have e1 := HTL.out
        dsimp only at hr ⊢
        rw [e1] at hr ⊢
        exact ⟨A, c, rfl, hr, hb2, hb.out.trans (hb2.out.mono hb.out.size)⟩
      have CU : Hid (∀ W, Hid (Below w6.heap.size w6 W) → Calls Tryd.prog 16 #[.pointer (some ⟨sf', 0, none⟩)] W fun e w' => e = .returned (.int .u64 (t2 : Int)) ∧ W = w') := fun W hb => (turn_any (HU6'.out.lies.all hb.out)).mono fun e w' ⟨h1, h2⟩ => ⟨h1, h2.symm⟩
      have HA : Hid (∀ W o, Hid (Below w6.heap.size w6 W) → Hid (Below w6.heap.size w6 (W.alloc o))) := fun W o hb => hb.out.alloc hb.out.size o
      have HB0 : Hid (Below w6.heap.size w6 w6.drew) := (Below.refl _ _).drew
      have cv : Hid (∀ (W : World) A c, Row W W.heap.size A 1 (bvs tx2) → (convert 33 9 (.slice A 1 c)).run Tryd.prog W = .ok (.string (str tx2)) W) := fun W A c hr => Disk.bytes_string (P := Tryd.prog) (c := c) (dst := 9) Tryd.underlying33 Tryd.underlying5 Tryd.underlying9 hr
      have rowB : Hid (∀ W : World, Row (W.alloc (.cells #[.int .u8 (i : Int)] 5)) (W.heap.size + 1) (some ⟨W.heap.size, 0, none⟩) 1 (bvs tx2)) := fun W => by
        have := Row.fresh W 5 (0, 0) #[.int .u8 (i : Int)]
        have e1 : (#[.int .u8 (i : Int)] : Array Value).toList = bvs tx2 := by rw [HBC.out]
        rw [e1] at this
        exact this
      have csB : ∀ W : World, (convert 33 9 (.slice (some ⟨W.heap.size, 0, none⟩) 1 1)).run Tryd.prog (W.alloc (.cells #[.int .u8 (i : Int)] 5)) = .ok (.string (str tx2)) (W.alloc (.cells #[.int .u8 (i : Int)] 5)) := fun W => cv.out _ _ _ ((rowB.out W).more (by simp))
      have HBD : Hid (Below w6.heap.size w6 (w6.alloc (.cells #[.int .u8 (i : Int)] 5)).drew) := ((Below.refl _ _).alloc (Nat.le_refl _) _).drew
      have csB0 : (convert 33 9 (.slice (some ⟨w6.heap.size, 0, none⟩) 1 1)).run Tryd.prog (w6.alloc (.cells #[.int .u8 (i : Int)] 5)).drew = .ok (.string (str tx2)) (w6.alloc (.cells #[.int .u8 (i : Int)] 5)).drew := cv.out _ _ _ (((rowB.out w6).keep (w' := (w6.alloc (.cells #[.int .u8 (i : Int)] 5)).drew) (fun _ _ _ => rfl)).more (by simp))
      have csL : Hid (∀ W, Below (w6.alloc (.cells #[.int .u8 (i : Int)] 5)).drew.heap.size (w6.alloc (.cells #[.int .u8 (i : Int)] 5)).drew W → (convert 33 9 (.slice (some ⟨w6.heap.size, 0, none⟩) 1 1)).run Tryd.prog W = .ok (.string (str tx2)) W) := fun W hb => cv.out _ _ _ (((((rowB.out w6).keep (w' := (w6.alloc (.cells #[.int .u8 (i : Int)] 5)).drew) (fun _ _ _ => rfl)).more (by simp)).below hb).more hb.size)
      go_region_held (fun W => Hid (Below w6.heap.size w6 W)) (with_reducible (first | assumption | exact HA.out _ _ (by assumption)))
        (first
          | (go_at_call 15; refine (CT.out _ (by with_reducible (first | assumption | exact HA.out _ _ (by assumption)))).mono ?_; rintro e w7 ⟨A7, c7, rfl, R7, B7, HB7⟩
             have csT : ∀ c, (convert 33 9 (.slice A7 1 c)).run Tryd.prog w7 = .ok (.string (str tx2)) w7 := fun c => cv.out _ _ c R7.out
             have csT2 : ∀ o c, (convert 33 9 (.slice A7 1 c)).run Tryd.prog (w7.alloc o) = .ok (.string (str tx2)) (w7.alloc o) := fun o c => cv.out _ _ c ((R7.out.below (below_alloc w7 o)).more (by simp))
             try have csL7 := csL.out w7 B7.out)
          | (go_at_call 16; refine (CU.out _ (by with_reducible (first | assumption | exact HA.out _ _ (by assumption)))).mono ?_; rintro e w' ⟨rfl, rfl⟩))
      all_goals
        go_wp2_with fail
        go_roundw
        case rel =>
          refine ⟨i + 1, 1 - sl, K' + 2 + 2, own6, tx2, x4, by go_num, by omega, by omega, ?_⟩
          rw [← HT2.out]
          exact HU6.out.all (Hid.out (by with_reducible (first | assumption | exact HA.out _ _ (by assumption))))
        case measure => (simp [RowKit.intOf]; omega)
    · obtain rfl : i = n := by omega
      go_wp2_with fail
      go_ret
      exact ⟨rfl, HB1.out.trans (HU.out.below.mono HB1.out.size)⟩
end Go.Proofs.YtbljdcdcnnidkaaDoor.Slot
