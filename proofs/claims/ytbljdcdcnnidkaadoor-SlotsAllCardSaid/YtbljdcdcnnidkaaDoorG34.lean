/-
  Texts one behind the other: SlotAll.
-/
import Derived.Test.YtbljdcdcnnidkaaDoorG05
import Derived.Test.YtbljdcdcnnidkaaDoorG06
import Derived.Test.YtbljdcdcnnidkaaDoorG33
/-
  Proved: SlotsAll returns true, whatever it is handed.
-/
namespace Go.Proofs.YtbljdcdcnnidkaaDoor.Slot
open Go.RowKit Go.Proofs.YtbljdcdcnnidkaaDoor.Rec Go.Proofs.YtbljdcdcnnidkaaDoor.Disk
open Go.Proofs.YtbljdcdcnnidkaaDoor.Crc (Turned)
open Go.Proofs.YtbljdcdcnnidkaaDoor.Seg (Fr ptr mark_old mark_top free_fr)
set_option linter.unusedVariables false
set_option linter.unusedSimpArgs false

theorem Up.none {own : Own} {w0 w : World} {v : Sf} {x : Fl} {K : Nat} (h : Up own w0 w v x K) : ∀ b, b < w0.heap.size → own b = none := by
  obtain ⟨g, d, hs⟩ := h.ex
  exact hs.disk.free
theorem step_append_zeros {P : Program} {ops : Array Oper} {o : Oper} {a : Act} {w : World} {K : Act → World → Prop} {Q : Exit → Act → World → Prop} {E : Prop} {dd : Option Tmp} (hgd : o.guard = none) (hd : o.dst = dd) (s x : Operand) (t tn : TypeId)
    (ho : o.op = .call { callee := .builtin .append, args := #[s, x], argTypes := #[t, tn] })
    (base : Nat) (e : TypeId) (z : Value) (bytes : Nat) (k kn : IntKind) (ht : P.underlying t = some (.slice e)) (htn : P.underlying tn = some (.int kn)) (hinfo : (P.info? e).map (fun i => (i.zero, i.size, i.bytes)) = some (some z, 1, bytes)) (hz1 : z.cells = #[z]) (h1 : z.oneCell' = true)
    (v : Value) (n : Nat) (xs : List Value) (hs : a.eval s = v) (hown : w.ownsRow base e 1 v n xs) (m : Nat) (hx : a.eval x = .int k (m : Int)) (h0 : 0 < m)
    (h63 : n + m ≤ maxLen) (hbytes : (n + m) * bytes ≤ 140737488355328) (hbase : base ≤ w.heap.size)
    (hK : ∀ v' w', Hid (w'.ownsRow base e 1 v' (n + m) (xs ++ List.replicate m z)) → Hid (w.grownBy w' v.ownBlock) → K (a.put dd v') w') :
    if Region.wanted o (yielded ops a.tmps) = true then Oper.wp P o a w K Q else E := by
  have hw : Region.wanted o (yielded ops a.tmps) = true := by simp [Region.wanted, hgd]
  subst hd
  rw [if_pos hw]
  obtain ⟨v', w', hr, h2, h3⟩ := run_append_own_zeros (P := P) w base t tn o.type e z bytes k kn ht htn hinfo hz1 h1 v n xs hown m h0 h63 hbytes hbase
  exact Lib.wp_append_run w s x t tn ho v _ hs hx v' w' hr (hK v' w' h2 h3)
theorem step_append_at {P : Program} {ops : Array Oper} {o : Oper} {a : Act} {w : World} {K : Act → World → Prop} {Q : Exit → Act → World → Prop} {E : Prop} {dd : Option Tmp} (hgd : o.guard = none) (hd : o.dst = dd) (s x : Operand) (t : TypeId)
    (ho : o.op = Op.call { callee := Callee.builtin Builtin.append, args := #[s, x], argTypes := #[t, t] })
    (base : Nat) (e : TypeId) (z : Value) (bytes : Nat) (ht : P.underlying t = some (.slice e)) (hinfo : (P.info? e).map (fun i => (i.zero, i.size, i.bytes)) = some (some z, 1, bytes)) (hzs : z.cells.size = 1)
    (v : Value) (n : Nat) (xs : List Value) (hs : a.eval s = v) (hown : w.ownsRow base e 1 v n xs)
    (B : Nat) (A : Option Addr) (m c : Nat) (news : List Value) (hx : a.eval x = .slice A m c) (hr : Row w B A m news) (h1 : ∀ u ∈ news, u.oneCell' = true)
    (h63 : n + m ≤ maxLen) (hbytes : (n + m) * bytes ≤ 140737488355328) (hbase : base ≤ w.heap.size)
    (hK : ∀ v' w', Hid (w'.ownsRow base e 1 v' (n + m) (xs ++ news)) → Hid (w.grownBy w' v.ownBlock) → K (a.put dd v') w') :
    if Region.wanted o (yielded ops a.tmps) = true then Oper.wp P o a w K Q else E := by
  subst hd
  exact step_append_from hgd s x t ho base e z bytes ht hinfo hzs v n xs hs hown B A m c news hx hr h1 h63 hbytes hbase fun v' w' h2 h3 _ => hK v' w' h2 h3
set_option maxRecDepth 100000 in
set_option maxHeartbeats 8000000 in
theorem slotsAll_walk (A0 : Option Addr) (n cn : Nat) (A1 : Option Addr) (nz cz : Nat) (zs : List Int) (A2 : Option Addr) (no co : Nat) (os : List Bool) (w : World) (hT : Turned w) (hA : RowsB w A0 n) (hn : n ≤ cn) (hc : cn ≤ maxLen) (hz : Row w w.heap.size A1 nz (ivs zs)) (hnz : nz ≤ cz) (hcz : cz ≤ maxLen) (hzb : ∀ i, -9223372036854775808 ≤ zs.getD i 0 ∧ zs.getD i 0 ≤ 9223372036854775807)
    (ho : Row w w.heap.size A2 no (lvs os)) (hno : no ≤ co) (hco : co ≤ maxLen) :
    Calls Tryd.prog 3 #[.slice A0 n cn, .slice A1 nz cz, .slice A2 no co] w fun e w' => e = .returned (.bool true) ∧ Below w.heap.size w w' := by
  have HT := Lib.hid hT
  have HZ := Lib.hid hz
  have HZB := Lib.hid hzb
  have HA := Lib.hid hA
  have HO := Lib.hid ho
  have HBEG := Lib.hid (slotbegun_any w hT)
  have hcm : cn ≤ 9223372036854775807 := by unfold maxLen at hc; exact hc
  have hczm : cz ≤ 9223372036854775807 := by unfold maxLen at hcz; exact hcz
  have hcom : co ≤ 9223372036854775807 := by unfold maxLen at hco; exact hco
  clear hT hz hA hc hzb hcz hco ho
  go_enter Tryd.func3, Tryd.ntmps3
  go_upto_region 4 with (go_at_call 8; refine HBEG.out.mono ?_; rintro e w1 ⟨rfl, hb1⟩; have HB1 := Lib.hid hb1; clear hb1)
  have CN := Lib.hid (new_held 100000 w1)
  rw [show room 100000 = 100000 by decide] at CN
  have HT1 := Lib.hid (turned_below HT.out HB1.out rfl)
  go_upto_region 5 with (go_at_call 9; refine CN.out.mono ?_; rintro e w2 ⟨own2, f0, rfl, hd2⟩)
  have CC : Hid (Calls Tryd.prog 10 #[.pointer (some ⟨f0, 0, none⟩), .string ⟨#[65]⟩, .slice none 0 0] w2 fun e w' => ∃ sf, e = .returned (.tuple #[.pointer (some ⟨sf, 0, none⟩), .int .i64 0]) ∧ ∃ own', Up own' w1 w' ⟨f0, sf, sA, 0, 1, [], 1, true⟩ ⟨laidB [], laidB [], []⟩ 5 ∧ Stp own2 own' f0 w2 w') :=
    up_create sA HT1.out hd2 (new_bare _) (new_arm _) (by decide) (by decide) (by decide) (by decide) (by decide) (free_none own2 w2 none) (by decide) (by decide) (by decide)
  clear hd2 CN
  go_upto_region 8 with (go_at_call 10; refine CC.out.mono ?_; rintro e w3 ⟨sf0, rfl, own3, hu3, _⟩)
  have HU3 := Lib.hid hu3
  clear hu3 CC
  go_wp2_with fail
  go_loopw [8, 9, 11, 12, 13] (fun fv sv nv tv iv wr => ∃ (i K' f sf sl tn : Nat) (own' : Own) (tx : List UInt8) (x : Fl), fv = .pointer (some ⟨f, 0, none⟩) ∧ sv = .pointer (some ⟨sf, 0, none⟩) ∧ nv = .string (str tx) ∧ tv = .int .u64 (tn : Int) ∧ iv = .int .i64 (i : Int) ∧ i ≤ 20 ∧ tn ≤ i + 1 ∧ K' ≤ 8 + 8 * i ∧ Hid (Up own' w1 wr ⟨f, sf, sA, sl, tn, tx, tn, true⟩ x K')) (fun _ _ _ _ iv _ => 20 - (RowKit.intOf iv).toNat)
  case atStart => exact ⟨0, 5, f0, sf0, 0, 1, own3, [], _, rfl, rfl, rfl, rfl, rfl, by decide, by decide, by decide, HU3⟩
  case round =>
    obtain ⟨i, K', f, sf, sl, tn, own', tx, x, rfl, rfl, rfl, rfl, rfl, hi, htn, hK', HU⟩ := hrel
    obtain ⟨t, ht⟩ : ∃ t, t = decide (i < n ∧ i < 20) := ⟨_, rfl⟩
    have HTT := Lib.hid ht
    clear ht
    go_upto_region 11 with fail
    go_cut [34] (fun v w' => v = .bool t ∧ wr = w')
    case first =>
      by_cases h1 : i < n
      · have h1' : (i : Int) < (n : Int) := by omega
        by_cases h2 : i < 20
        · have h2' : (i : Int) < 20 := by omega
          go_wp2_with fail
          go_meet
          case rel => exact ⟨by rw [HTT.out, decide_eq_true ⟨h1, h2⟩], rfl⟩
        · have h2' : ¬ (i : Int) < 20 := by omega
          go_wp2_with fail
          go_meet
          case rel => exact ⟨by rw [HTT.out, decide_eq_false (fun h => by omega)], rfl⟩
      · have h1' : ¬ (i : Int) < (n : Int) := by omega
        go_wp2_with fail
        go_meet
        case rel => exact ⟨by rw [HTT.out, decide_eq_false (fun h => by omega)], rfl⟩
    case rest =>
    obtain ⟨rfl, rfl⟩ := hcut
    cases t with
    | false =>
      have CZ : Hid (Calls Tryd.prog 17 #[.pointer (some ⟨f, 0, none⟩), .string ⟨#[65]⟩] wr fun e w' => e = .returned (.int .i64 8192) ∧ wr = w') := by
        have h := up_size HU.out
        exact h
      go_wp2_with (go_at_call 17; refine CZ.out.mono ?_; rintro e w' ⟨rfl, rfl⟩)
      go_ret
      exact ⟨rfl, HB1.out.trans (HU.out.below.mono HB1.out.size)⟩
    | true =>
      obtain ⟨hin, hi20⟩ := of_decide_eq_true HTT.out.symm
      obtain ⟨b, o, rfl, hbl, hit⟩ := HA.out (by omega)
      obtain ⟨A', l, c, bs, hcell, hrow, hlc, hcm'⟩ := hit i hin
      have HBw : Hid (Below w.heap.size w wr) := HB1.out.trans (HU.out.below.mono HB1.out.size)
      have yc : wr.cell? ⟨b, o + i, none⟩ = some (.slice A' l c) := (HBw.out.cell (p := ⟨b, o + i, none⟩) hbl).trans hcell
      have hin' : (i : Int) < (n : Int) := by omega
      have CSH : Hid (Calls Tryd.prog 11 #[.slice A' l c, .int .i64 100] wr fun e w' => e = .returned (.slice A' (min l 100) c) ∧ wr = w') := Com.short_any A' l c 100 wr hlc hcm'
      have hr100 : Row w w.heap.size A' (min l 100) (bvs (bs.take 100)) := Com.short_row (Below.refl _ _) hrow
      have HFB : Hid (Free own' wr A' (min l 100) (bvs (bs.take 100))) := free_of HU.out.top HU.out.below HB1.out ⟨fun b hb => HU.out.none b (Nat.lt_of_lt_of_le hb HB1.out.size), hr100⟩
      have HC := Lib.hid hcm'
      obtain ⟨N1, hN1⟩ : ∃ N1, N1 = min l 100 := ⟨_, rfl⟩
      have hN100 : N1 ≤ 100 := by omega
      have hN1c : N1 ≤ c := by omega
      rw [← hN1] at CSH HFB
      have HN1 := Lib.hid hN100
      have HN1c := Lib.hid hN1c
      clear hit hcell hrow hcm' hr100 hbl hN1 hN100 hN1c
      go_upto_region 14 with (go_at_call 11; refine CSH.out.mono ?_; rintro e w' ⟨rfl, rfl⟩)
      clear CSH yc
      obtain ⟨tz, htz⟩ : ∃ tz, tz = decide (i < nz ∧ 100 < zs.getD i 0 ∧ zs.getD i 0 < 4200) := ⟨_, rfl⟩
      have HTZ := Lib.hid htz
      clear htz
      go_cut [59] (fun v w' => v = .bool tz ∧ wr = w')
      case first =>
        by_cases h1 : i < nz
        · have h1' : (i : Int) < (nz : Int) := by omega
          obtain ⟨bz, oz, rfl, hbz, hzc⟩ := HZ.out.int (by omega)
          have zc : wr.cell? ⟨bz, oz + i, none⟩ = some (.int .i64 (zs.getD i 0)) := (HBw.out.cell (p := ⟨bz, oz + i, none⟩) hbz).trans (hzc i h1)
          obtain ⟨zi, hzi⟩ : ∃ zi, zi = zs.getD i 0 := ⟨_, rfl⟩
          have HZI := Lib.hid hzi
          rw [← hzi] at zc
          clear hzc hbz hzi
          by_cases h2 : 100 < zi
          · by_cases h3 : zi < 4200
            · go_wp2_with fail
              go_meet
              case rel => exact ⟨by rw [HTZ.out, ← HZI.out, decide_eq_true ⟨h1, h2, h3⟩], rfl⟩
            · go_wp2_with fail
              go_meet
              case rel => exact ⟨by rw [HTZ.out, ← HZI.out, decide_eq_false (fun h => by omega)], rfl⟩
          · go_wp2_with fail
            go_meet
            case rel => exact ⟨by rw [HTZ.out, ← HZI.out, decide_eq_false (fun h => by omega)], rfl⟩
        · have h1' : ¬ (i : Int) < (nz : Int) := by omega
          go_wp2_with fail
          go_meet
          case rel => exact ⟨by rw [HTZ.out, decide_eq_false (fun h => h1 h.1)], rfl⟩
      case rest =>
      obtain ⟨rfl, rfl⟩ := hcut
      go_upto_if 59 with fail
      go_cut [14] (fun v w' => ∃ Ab N cb bb, v = .slice Ab N cb ∧ N ≤ 4300 ∧ Hid (N ≤ cb ∧ cb ≤ maxLen) ∧ Hid (Free own' w' Ab N (bvs bb)) ∧ Hid (Below wr.heap.size wr w'))
      case first =>
        cases tz with
        | false =>
          go_wp2_with fail
          go_meet
          case rel => exact ⟨A', N1, c, bs.take 100, rfl, by have := HN1.out; omega, ⟨HN1c.out, HC.out⟩, HFB, Below.refl _ _⟩
        | true =>
          obtain ⟨hz1, hz2, hz3⟩ := of_decide_eq_true HTZ.out.symm
          have h1' : (i : Int) < (nz : Int) := by omega
          obtain ⟨bz, oz, rfl, hbz, hzc⟩ := HZ.out.int (by omega)
          obtain ⟨m, hm⟩ : ∃ m : Nat, (m : Int) = zs.getD i 0 := ⟨(zs.getD i 0).toNat, by omega⟩
          have zc : Hid (∀ W, Hid (Below wr.heap.size wr W) → W.cell? ⟨bz, oz + i, none⟩ = some (.int .i64 (m : Int))) := fun W hb => by
            rw [hm]
            exact (hb.out.cell (p := ⟨bz, oz + i, none⟩) (Nat.lt_of_lt_of_le hbz HBw.out.size)).trans ((HBw.out.cell (p := ⟨bz, oz + i, none⟩) hbz).trans (hzc i hz1))
          have hm1 : 0 < m := by omega
          have hm2 : m ≤ 4200 := by omega
          have HM1 := Lib.hid hm1
          have HM2 := Lib.hid hm2
          have HB0 : Hid (Below wr.heap.size wr wr.drew) := (Below.refl _ _).drew
          have HRS : Hid (Row wr.drew wr.drew.heap.size A' N1 (bvs (bs.take 100))) := (HFB.out.keep (fun _ _ => rfl) HB0.out).row
          clear hzc hbz hm hm1 hm2 hz1 hz2 hz3
          go_upto_region 15 with fail
          refine wp_region_noPanic ?_
          refine wp_region_held_drew (S := fun W => Hid (Below wr.heap.size wr W)) (by kernel_rfl) HB0 (fun h0 => ?_)
          refine held_take 0 (v := ?_) (d := (some 60)) rfl rfl (by kernel_rfl) (by kernel_rfl) (by kernel_rfl) (fun _ _ _ h => h) (Or.inl ⟨by rfl, ?_⟩) h0 ?_
          rotate_left
          · intro _ _; go_simp; (try with_reducible rfl)
          try simp only [Act.put, List.setIfInBounds_toArray, List.set_cons_zero, List.set_cons_succ]
          refine held_take 2 (v := ?_) (d := (some 62)) rfl rfl (by kernel_rfl) (by kernel_rfl) (by kernel_rfl) (fun _ _ _ h => h) (Or.inl ⟨by rfl, ?_⟩) h0 ?_
          rotate_left
          · intro _ _; go_simp; (try with_reducible rfl)
          try simp only [Act.put, List.setIfInBounds_toArray, List.set_cons_zero, List.set_cons_succ]
          refine held_take 3 (v := ?_) (d := (some 63)) rfl rfl (by kernel_rfl) (by kernel_rfl) (by kernel_rfl) (fun _ _ _ h => h) (Or.inl ⟨by rfl, ?_⟩) h0 ?_
          rotate_left
          · intro _ _; go_simp; (try with_reducible rfl)
          try simp only [Act.put, List.setIfInBounds_toArray, List.set_cons_zero, List.set_cons_succ]
          refine held_take 4 (v := .pointer (some ⟨bz, oz + i, none⟩)) (d := (some 64)) rfl rfl (by kernel_rfl) (by kernel_rfl) (by kernel_rfl) (fun _ _ _ h => h) (Or.inl ⟨by rfl, ?_⟩) h0 ?_
          · intro _ _; go_simp; (try with_reducible rfl)
          try simp only [Act.put, List.setIfInBounds_toArray, List.set_cons_zero, List.set_cons_succ]
          refine held_take 5 (v := .int .i64 (m : Int)) (d := (some 65)) rfl rfl (by kernel_rfl) (by kernel_rfl) (by kernel_rfl) (fun _ _ _ h => h) (Or.inl ⟨by rfl, ?_⟩) h0 ?_
          · intro W hW; have zc' := zc.out W hW; go_simp; (try with_reducible rfl)
          try simp only [Act.put, List.setIfInBounds_toArray, List.set_cons_zero, List.set_cons_succ]
          refine wpAnyH_ready (rs := [1]) (by kernel_rfl) (by simp) (AllReadyH.cons rfl (fun K hK => ?_) AllReadyH.nil)
          refine step_append_at (dd := some 61) (by rfl) rfl (.const (.slice none 0 0)) (.tmp 60) 33 rfl wr.heap.size 5 (.int .u8 0) 1 Tryd.underlying33 u8_info rfl (.slice none 0 0) 0 [] rfl (World.ownsRow_nil _ _ _ _) wr.drew.heap.size A' N1 c (bvs (bs.take 100)) rfl HRS.out (bvs_one _) (by have := HN1.out; unfold maxLen; omega) (by have := HN1.out; omega) (Nat.le_refl _) ?_
          intro v5 w5 HO5 HG5
          have HB5 : Hid (Below wr.heap.size wr w5) := HB0.out.grown HG5.out (Nat.le_refl _) (fun k hk => by simp [Value.ownBlock] at hk)
          refine hK.out _ _ HB5 (fun h1 => ?_)
          clear hK K
          try simp only [Act.put, List.setIfInBounds_toArray, List.set_cons_zero, List.set_cons_succ]
          refine wpAnyH_ready (rs := [6]) (by kernel_rfl) (by simp) (AllReadyH.cons rfl (fun K hK => ?_) AllReadyH.nil)
          refine step_append_zeros (dd := some 66) (by rfl) rfl (.tmp 61) (.tmp 65) 33 3 rfl wr.heap.size 5 (.int .u8 0) 1 .i64 .i64 Tryd.underlying33 Tryd.underlying3 u8_info rfl rfl v5 (0 + N1) ([] ++ bvs (bs.take 100)) rfl HO5.out m rfl HM1.out (by have := HN1.out; have := HM2.out; unfold maxLen; omega) (by have := HN1.out; have := HM2.out; omega) HB5.out.size ?_
          intro v6 w6 HO6 HG6
          have HB6 : Hid (Below wr.heap.size wr w6) := own_below HO5.out HB5.out (Nat.le_refl _) HB5.out.size HG6.out
          refine hK.out _ _ HB6 (fun h2 => ?_)
          clear hK K
          try simp only [Act.put, List.setIfInBounds_toArray, List.set_cons_zero, List.set_cons_succ]
          refine held_take 7 (v := ?_) (d := (some 14)) rfl rfl (by kernel_rfl) (by kernel_rfl) (by kernel_rfl) (fun _ _ _ h => h) (Or.inl ⟨by rfl, ?_⟩) h2 ?_
          rotate_left
          · intro _ _; go_simp; (try with_reducible rfl)
          try simp only [Act.put, List.setIfInBounds_toArray, List.set_cons_zero, List.set_cons_succ]
          refine wpAnyH_done (by kernel_rfl) ?_ _
          refine NoPanic.normal ?_
          have HO7 : Hid (w6.ownsRow wr.heap.size 5 1 v6 (N1 + m) (bvs (bs.take 100 ++ List.replicate m 0))) := by
            have h := HO6.out
            rw [Nat.zero_add, List.nil_append, ← bvs_zeros, bvs_append] at h
            exact h
          obtain ⟨A7, c7, rfl, q7, r7⟩ := own_form HO7.out
          have HCC : Hid (N1 + m ≤ c7 ∧ c7 ≤ maxLen) := ⟨q7, r7⟩
          have HF7 : Hid (Free own' w6 A7 (N1 + m) (bvs (bs.take 100 ++ List.replicate m 0))) := by
            obtain ⟨g, d, hs⟩ := HU.out.ex
            exact hs.disk.answer HO7.out
          clear q7 r7
          go_wp2_with fail
          go_meet
          case rel => exact ⟨A7, N1 + m, c7, _, rfl, by have := HN1.out; have := HM2.out; omega, HCC, HF7, HB6⟩
      case rest =>
      obtain ⟨Ab, N, cb, bb, rfl, hN43, HCB, HFBB, HBW⟩ := hcut
      have HUC := Lib.hid (HU.out.all HBW.out)
      have HN43 := Lib.hid hN43
      clear hN43
      have hcb := HCB.out
      by_cases hbig : 4080 < N
      · have hbig' : (4080 : Int) < (N : Int) := by omega
        have CS : Hid (Calls Tryd.prog 12 #[.pointer (some ⟨sf, 0, none⟩), .slice Ab N cb] wc fun e w' => e = .returned (.int .i64 9) ∧ wc = w') := up_large HUC.out Ab N cb hbig (by have := HN43.out; omega)
        clear hbig hcb
        go_upto_region 24 with (go_at_call 12; refine CS.out.mono ?_; rintro e w' ⟨rfl, rfl⟩)
        clear CS
        obtain ⟨tp, hto⟩ : ∃ tp, tp = (decide (i < no) && os.getD i false) := ⟨_, rfl⟩
        have HTO := Lib.hid hto
        clear hto
        go_cut [90] (fun v w' => v = .bool tp ∧ wc = w')
        case first =>
          by_cases h1 : i < no
          · have h1' : (i : Int) < (no : Int) := by omega
            obtain ⟨bo, oo, rfl, hbo, hoc⟩ := HO.out.2 (by omega)
            have ho1 : (lvs os)[i]? = some (.bool (os.getD i false)) := by
              have hl : os.length = no := by have := HO.out.1; rwa [lvs_length] at this
              rw [lvs, List.getElem?_map, List.getD_eq_getElem?_getD, List.getElem?_eq_getElem (by omega)]
              rfl
            have oc : wc.cell? ⟨bo, oo + i, none⟩ = some (.bool (os.getD i false)) := ((HB1.out.trans (HUC.out.below.mono HB1.out.size)).cell (p := ⟨bo, oo + i, none⟩) hbo).trans (hoc i _ ho1)
            obtain ⟨ob, hob⟩ : ∃ ob, ob = os.getD i false := ⟨_, rfl⟩
            have HOB := Lib.hid hob
            rw [← hob] at oc
            clear hoc ho1 hbo hob
            go_wp2_with fail
            go_meet
            case rel => exact ⟨by rw [HTO.out, ← HOB.out, decide_eq_true h1]; rfl, rfl⟩
          · have h1' : ¬ (i : Int) < (no : Int) := by omega
            go_wp2_with fail
            go_meet
            case rel => exact ⟨by rw [HTO.out, decide_eq_false h1]; rfl, rfl⟩
        case rest =>
        obtain ⟨rfl, rfl⟩ := hcut
        cases tp with
        | false =>
          have CT : Hid (Calls Tryd.prog 15 #[.pointer (some ⟨sf, 0, none⟩)] wc fun e w' => ∃ A c, e = .returned (.slice A tx.length c) ∧ Hid (Row w' w'.heap.size A tx.length (bvs tx)) ∧ Hid (Below wc.heap.size wc w')) := text_any HUC.out.lies
          have CTU : Hid (∀ W, Below wc.heap.size wc W → Calls Tryd.prog 16 #[.pointer (some ⟨sf, 0, none⟩)] W fun e w' => e = .returned (.int .u64 (tn : Int)) ∧ W = w') := fun W hb => (turn_any (HUC.out.lies.all hb)).mono fun e w' ⟨h1, h2⟩ => ⟨h1, h2.symm⟩
          obtain ⟨NN, hNN⟩ : ∃ NN, NN = tx.length := ⟨_, rfl⟩
          rw [← hNN] at CT
          clear hNN
          go_wp2_with (first
            | (go_at_call 15; refine CT.out.mono ?_; rintro e w9 ⟨A9, c9, rfl, R9, B9⟩; have cs9 : ∀ c, (convert 33 9 (.slice A9 NN c)).run Tryd.prog w9 = .ok (.string (str tx)) w9 := fun c => Disk.bytes_string (P := Tryd.prog) (c := c) (dst := 9) Tryd.underlying33 Tryd.underlying5 Tryd.underlying9 R9.out)
            | (go_at_call 16; refine (CTU.out _ B9.out).mono ?_; rintro e w' ⟨rfl, rfl⟩))
          go_roundw
          case rel => exact ⟨i + 1, K', f, sf, sl, tn, own', tx, x, rfl, rfl, rfl, rfl, by go_num, by omega, by omega, by omega, HUC.out.all B9.out⟩
          case measure => (simp [RowKit.intOf]; omega)
        | true =>
          have CR : Hid (Calls Tryd.prog 13 #[.pointer (some ⟨f, 0, none⟩), .int .i64 0, .slice none 0 0, .int .i64 (-1)] wc fun e w' => ∃ f', e = .returned (.pointer (some ⟨f', 0, none⟩)) ∧ ∃ own6 d6 g6, Held own6 w1 w' f' d6 (K') ∧ OneFile d6 nmA g6 x ∧ d6.arm = none ∧ wc.heap.size ≤ f' ∧ Fr own' own6 wc w') :=
            up_crash (keep := []) 0 (-1) HUC.out (Row.nil wc 0) (Nat.zero_le _) (by decide)
          go_upto_region 29 with (first
            | (go_at_call 13; refine CR.out.mono ?_; rintro e w6 ⟨f6, rfl, own6, d6, g6, hd6, ho6, ha6, _, _⟩
               have CO : Hid (Calls Tryd.prog 14 #[.pointer (some ⟨f6, 0, none⟩), .string ⟨#[65]⟩] w6 fun e w' => ∃ sf, e = .returned (.tuple #[.pointer (some ⟨sf, 0, none⟩), .int .i64 0]) ∧ ∃ own', Up own' w1 w' ⟨f6, sf, sA, sl, tn, tx, tn, true⟩ x (K' + 2) ∧ Stp own6 own' f6 w6 w') := up_again sA HT1.out hd6 ho6 ha6 (by decide) HUC.out.sides HUC.out.was HUC.out.clean (by omega)
               clear hd6 ho6 ha6)
            | (go_at_call 14; refine CO.out.mono ?_; rintro e w7 ⟨sf7, rfl, own7, hu7, _⟩; have HU7 := Lib.hid hu7; clear hu7))
          clear CR
          have CT : Hid (Calls Tryd.prog 15 #[.pointer (some ⟨sf7, 0, none⟩)] w7 fun e w' => ∃ A c, e = .returned (.slice A tx.length c) ∧ Hid (Row w' w'.heap.size A tx.length (bvs tx)) ∧ Hid (Below w7.heap.size w7 w')) := text_any HU7.out.lies
          have CTU : Hid (∀ W, Below w7.heap.size w7 W → Calls Tryd.prog 16 #[.pointer (some ⟨sf7, 0, none⟩)] W fun e w' => e = .returned (.int .u64 (tn : Int)) ∧ W = w') := fun W hb => (turn_any (HU7.out.lies.all hb)).mono fun e w' ⟨h1, h2⟩ => ⟨h1, h2.symm⟩
          obtain ⟨NN, hNN⟩ : ∃ NN, NN = tx.length := ⟨_, rfl⟩
          rw [← hNN] at CT
          clear hNN
          go_wp2_with (first
            | (go_at_call 15; refine CT.out.mono ?_; rintro e w9 ⟨A9, c9, rfl, R9, B9⟩; have cs9 : ∀ c, (convert 33 9 (.slice A9 NN c)).run Tryd.prog w9 = .ok (.string (str tx)) w9 := fun c => Disk.bytes_string (P := Tryd.prog) (c := c) (dst := 9) Tryd.underlying33 Tryd.underlying5 Tryd.underlying9 R9.out)
            | (go_at_call 16; refine (CTU.out _ B9.out).mono ?_; rintro e w' ⟨rfl, rfl⟩))
          go_roundw
          case rel => exact ⟨i + 1, K' + 2, f6, sf7, sl, tn, own7, tx, x, rfl, rfl, rfl, rfl, by go_num, by omega, by omega, by omega, HU7.out.all B9.out⟩
          case measure => (simp [RowKit.intOf]; omega)
      · have hbig' : ¬ (4080 : Int) < (N : Int) := by omega
        obtain ⟨tn2, htn2⟩ : ∃ tn2, tn2 = tn + 1 := ⟨_, rfl⟩
        have q5 : (tn : Int) + 1 = (tn2 : Int) := by omega
        have hwt : IntKind.u64.wrap (tn2 : Int) = (tn2 : Int) := by simp [IntKind.wrap, IntKind.bits, IntKind.signed]; omega
        have CS : Hid (Calls Tryd.prog 12 #[.pointer (some ⟨sf, 0, none⟩), .slice Ab N cb] wc fun e w' => e = .returned (.int .i64 0) ∧ ∃ own5 x5, Up own5 w1 w' ⟨f, sf, sA, 1 - sl, tn2, bb, tn2, true⟩ x5 (K' + 2) ∧ Fr own' own5 wc w') := by
          rw [htn2]
          exact up_save HT1.out HUC.out (by show tn < 1099511627776; omega) (by omega) HFBB.out hcb.1 hcb.2 (by omega)
        have htn3 : tn2 ≤ i + 1 + 1 := by omega
        clear hbig hcb htn2
        go_upto_region 22 with (go_at_call 12; refine CS.out.mono ?_; rintro e w5 ⟨rfl, own5, x5, hu5, hf5⟩; have HU5 := Lib.hid hu5; have HF5 := Lib.hid (free_fr HFBB.out hf5); clear hu5 hf5)
        have cs5 : ∀ c, (convert 33 9 (.slice Ab N c)).run Tryd.prog w5 = .ok (.string (str bb)) w5 := fun c => Disk.bytes_string (P := Tryd.prog) (c := c) (dst := 9) Tryd.underlying33 Tryd.underlying5 Tryd.underlying9 HF5.out.row
        clear CS
        go_upto_region 24 with fail
        clear cs5
        obtain ⟨tp, hto⟩ : ∃ tp, tp = (decide (i < no) && os.getD i false) := ⟨_, rfl⟩
        have HTO := Lib.hid hto
        clear hto
        go_cut [90] (fun v w' => v = .bool tp ∧ w5 = w')
        case first =>
          by_cases h1 : i < no
          · have h1' : (i : Int) < (no : Int) := by omega
            obtain ⟨bo, oo, rfl, hbo, hoc⟩ := HO.out.2 (by omega)
            have ho1 : (lvs os)[i]? = some (.bool (os.getD i false)) := by
              have hl : os.length = no := by have := HO.out.1; rwa [lvs_length] at this
              rw [lvs, List.getElem?_map, List.getD_eq_getElem?_getD, List.getElem?_eq_getElem (by omega)]
              rfl
            have oc : w5.cell? ⟨bo, oo + i, none⟩ = some (.bool (os.getD i false)) := ((HB1.out.trans (HU5.out.below.mono HB1.out.size)).cell (p := ⟨bo, oo + i, none⟩) hbo).trans (hoc i _ ho1)
            obtain ⟨ob, hob⟩ : ∃ ob, ob = os.getD i false := ⟨_, rfl⟩
            have HOB := Lib.hid hob
            rw [← hob] at oc
            clear hoc ho1 hbo hob
            go_wp2_with fail
            go_meet
            case rel => exact ⟨by rw [HTO.out, ← HOB.out, decide_eq_true h1]; rfl, rfl⟩
          · have h1' : ¬ (i : Int) < (no : Int) := by omega
            go_wp2_with fail
            go_meet
            case rel => exact ⟨by rw [HTO.out, decide_eq_false h1]; rfl, rfl⟩
        case rest =>
        obtain ⟨rfl, rfl⟩ := hcut
        cases tp with
        | false =>
          have CT : Hid (Calls Tryd.prog 15 #[.pointer (some ⟨sf, 0, none⟩)] w5 fun e w' => ∃ A c, e = .returned (.slice A bb.length c) ∧ Hid (Row w' w'.heap.size A bb.length (bvs bb)) ∧ Hid (Below w5.heap.size w5 w')) := text_any HU5.out.lies
          have CTU : Hid (∀ W, Below w5.heap.size w5 W → Calls Tryd.prog 16 #[.pointer (some ⟨sf, 0, none⟩)] W fun e w' => e = .returned (.int .u64 (tn2 : Int)) ∧ W = w') := fun W hb => (turn_any (HU5.out.lies.all hb)).mono fun e w' ⟨h1, h2⟩ => ⟨h1, h2.symm⟩
          obtain ⟨NN, hNN⟩ : ∃ NN, NN = bb.length := ⟨_, rfl⟩
          rw [← hNN] at CT
          clear hNN
          go_wp2_with (first
            | (go_at_call 15; refine CT.out.mono ?_; rintro e w9 ⟨A9, c9, rfl, R9, B9⟩; have cs9 : ∀ c, (convert 33 9 (.slice A9 NN c)).run Tryd.prog w9 = .ok (.string (str bb)) w9 := fun c => Disk.bytes_string (P := Tryd.prog) (c := c) (dst := 9) Tryd.underlying33 Tryd.underlying5 Tryd.underlying9 R9.out)
            | (go_at_call 16; refine (CTU.out _ B9.out).mono ?_; rintro e w' ⟨rfl, rfl⟩))
          go_roundw
          case rel => exact ⟨i + 1, (K' + 2), f, sf, (1 - sl), tn2, own5, bb, x5, rfl, rfl, rfl, rfl, by go_num, by omega, by omega, by omega, HU5.out.all B9.out⟩
          case measure => (simp [RowKit.intOf]; omega)
        | true =>
          have CR : Hid (Calls Tryd.prog 13 #[.pointer (some ⟨f, 0, none⟩), .int .i64 0, .slice none 0 0, .int .i64 (-1)] w5 fun e w' => ∃ f', e = .returned (.pointer (some ⟨f', 0, none⟩)) ∧ ∃ own6 d6 g6, Held own6 w1 w' f' d6 ((K' + 2)) ∧ OneFile d6 nmA g6 x5 ∧ d6.arm = none ∧ w5.heap.size ≤ f' ∧ Fr own5 own6 w5 w') :=
            up_crash (keep := []) 0 (-1) HU5.out (Row.nil w5 0) (Nat.zero_le _) (by decide)
          go_upto_region 29 with (first
            | (go_at_call 13; refine CR.out.mono ?_; rintro e w6 ⟨f6, rfl, own6, d6, g6, hd6, ho6, ha6, _, _⟩
               have CO : Hid (Calls Tryd.prog 14 #[.pointer (some ⟨f6, 0, none⟩), .string ⟨#[65]⟩] w6 fun e w' => ∃ sf, e = .returned (.tuple #[.pointer (some ⟨sf, 0, none⟩), .int .i64 0]) ∧ ∃ own', Up own' w1 w' ⟨f6, sf, sA, (1 - sl), tn2, bb, tn2, true⟩ x5 ((K' + 2) + 2) ∧ Stp own6 own' f6 w6 w') := up_again sA HT1.out hd6 ho6 ha6 (by decide) HU5.out.sides HU5.out.was HU5.out.clean (by omega)
               clear hd6 ho6 ha6)
            | (go_at_call 14; refine CO.out.mono ?_; rintro e w7 ⟨sf7, rfl, own7, hu7, _⟩; have HU7 := Lib.hid hu7; clear hu7))
          clear CR
          have CT : Hid (Calls Tryd.prog 15 #[.pointer (some ⟨sf7, 0, none⟩)] w7 fun e w' => ∃ A c, e = .returned (.slice A bb.length c) ∧ Hid (Row w' w'.heap.size A bb.length (bvs bb)) ∧ Hid (Below w7.heap.size w7 w')) := text_any HU7.out.lies
          have CTU : Hid (∀ W, Below w7.heap.size w7 W → Calls Tryd.prog 16 #[.pointer (some ⟨sf7, 0, none⟩)] W fun e w' => e = .returned (.int .u64 (tn2 : Int)) ∧ W = w') := fun W hb => (turn_any (HU7.out.lies.all hb)).mono fun e w' ⟨h1, h2⟩ => ⟨h1, h2.symm⟩
          obtain ⟨NN, hNN⟩ : ∃ NN, NN = bb.length := ⟨_, rfl⟩
          rw [← hNN] at CT
          clear hNN
          go_wp2_with (first
            | (go_at_call 15; refine CT.out.mono ?_; rintro e w9 ⟨A9, c9, rfl, R9, B9⟩; have cs9 : ∀ c, (convert 33 9 (.slice A9 NN c)).run Tryd.prog w9 = .ok (.string (str bb)) w9 := fun c => Disk.bytes_string (P := Tryd.prog) (c := c) (dst := 9) Tryd.underlying33 Tryd.underlying5 Tryd.underlying9 R9.out)
            | (go_at_call 16; refine (CTU.out _ B9.out).mono ?_; rintro e w' ⟨rfl, rfl⟩))
          go_roundw
          case rel => exact ⟨i + 1, (K' + 2) + 2, f6, sf7, (1 - sl), tn2, own7, bb, x5, rfl, rfl, rfl, rfl, by go_num, by omega, by omega, by omega, HU7.out.all B9.out⟩
          case measure => (simp [RowKit.intOf]; omega)
end Go.Proofs.YtbljdcdcnnidkaaDoor.Slot
