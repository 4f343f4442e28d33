/-
  Proved: the walk of ShaParts of package stillroomlaw2: it returns true and changes nothing that was there.
  Conditions: the slices read as bytes or ints; the tables sha.start and sha.rounds hold their words.
-/
import Derived.Test.YtfhedljhkikdmaaDoorShaNoneWalk
import Derived.Lib.MinMax
import Derived.Deep.RegionWith
import Derived.Deep.DeepCutAuto
namespace Go.Proofs.YtfhedljhkikdmaaDoor.Sha
open Go.RowKit

theorem ne_same {res : Array Value} {bs : List UInt8} (hres : res = (bvs bs).toArray) (hb : bs.length = 32) (w : World) : (binOp .neq 25 (.agg res) (.agg res)).run Tryd.prog w = .ok (.bool false) w := by
  subst hres
  rw [run_neq_bytes (P := Tryd.prog) Tryd.underlying25 Tryd.underlying5 (by kernel_rfl) bs bs hb hb w]
  simp
theorem src_cut {w wr : World} {g N k m : Nat} {A : Option Addr} {ys : List UInt8} (hR : Row w w.heap.size A N (bvs ys)) (hw : Below w.heap.size w wr) (hg : w.heap.size ≤ g) (hk : k ≤ m) (hm : m ≤ N) :
    Src wr g (A.map (·.add k)) (m - k) (bvs ((ys.drop k).take (m - k))) := by
  rcases Nat.lt_or_ge k m with h | h
  · have hr := (hR.below hw).cut h hm
    rw [bvs_drop, bvs_take] at hr
    exact hr.src hw.size hg
  · have e : m - k = 0 := by omega
    rw [e]
    exact ⟨by simp [bvs], fun h0 => absurd h0 (by omega)⟩
theorem src_zero {w : World} {g : Nat} {A : Option Addr} (n : Nat) (hn : n = 0) : Src w g A n (bvs []) := by
  subst hn
  exact ⟨rfl, fun h => absurd h (by omega)⟩
theorem row_front {w wr : World} {N m : Nat} {A : Option Addr} {ys : List UInt8} (hR : Row w w.heap.size A N (bvs ys)) (hw : Below w.heap.size w wr) (hm : m ≤ N) : Row wr wr.heap.size A m (bvs (ys.take m)) := by
  have h := ((hR.below hw).more hw.size).take hm
  rw [bvs_take] at h
  exact h

set_option maxHeartbeats 1000000 in
theorem shaParts_walk (A : Option Addr) (n c : Nat) (xs : List UInt8) (B : Option Addr) (m d : Nat) (zs : List Int) (w : World) (hT : Tables w)
    (hA : Row w w.heap.size A n (bvs xs)) (hn : n ≤ c) (hc : c ≤ maxLen) (hB : Row w w.heap.size B m (ivs zs)) (hm : m ≤ d) (hd : d ≤ maxLen) (hz : ∀ i, -9223372036854775808 ≤ zs.getD i 0 ∧ zs.getD i 0 ≤ 9223372036854775807) :
    Calls Tryd.prog 4 #[.slice A n c, .slice B m d] w fun e w' => e = .returned (.bool true) ∧ Below w.heap.size w w' := by
  have hgd := eq_guard
  have hcm : c ≤ 9223372036854775807 := by unfold maxLen at hc; exact hc
  have hmm : m ≤ 9223372036854775807 := by unfold maxLen at hd; omega
  have HT := Lib.hid hT
  have HGT := Lib.hid hT.2.2
  have HA := Lib.hid hA
  have HB := Lib.hid hB.int
  have HC := Lib.hid hc
  have HNC := Lib.hid hn
  have HZ := Lib.hid hz
  clear hT hA hB hc hd hz
  go_enter Tryd.func4, Tryd.ntmps4
  go_wp2_with fail
  refine (begun_any w HT.out).mono ?_
  rintro e w1 ⟨rfl, hb1⟩
  have HB1 := Lib.hid hb1
  have hz1 := hb1.size
  clear hb1
  go_wp2_with fail
  refine (short_any A n c 300 w1 HNC.out HC.out).mono ?_
  rintro e w2 ⟨rfl, rfl⟩
  have HR := Lib.hid (short_row (m := 300) (Below.refl w.heap.size w) HA.out)
  have hN : min n 300 ≤ 300 := Nat.min_le_right _ _
  have hNn : min n 300 ≤ n := Nat.min_le_left _ _
  generalize xs.take 300 = ys at *
  generalize min n 300 = N at *
  have hNc : N ≤ c := Nat.le_trans hNn hn
  have HYL := Lib.hid HR.out.size
  have HNC2 := Lib.hid hNc
  clear HA hNn hn
  go_wp2_with fail
  refine (new_any w1).mono ?_
  rintro e w2 ⟨rfl, hh2, hz2, hb2⟩
  have HH2 := Lib.hid hh2
  have hw2 : Below w.heap.size w w2 := HB1.out.trans (hb2.mono hz1)
  have HW2 := Lib.hid hw2
  clear hh2 hb2 hz2 hw2
  go_wp2_with fail
  go_loopw [7, 8] (fun t i wr => ∃ k j : Nat, k ≤ N ∧ j ≤ 12 ∧ t = .int .i64 k ∧ i = .int .i64 j ∧ Hid (HashAt wr w1.heap.size (ys.take k) ∧ Below w.heap.size w wr)) (fun _ i _ => 12 - (intOf i).toNat)
  case atStart => exact ⟨0, 0, by omega, by omega, rfl, rfl, HH2.out, HW2.out⟩
  case round =>
    obtain ⟨k, j, hk, hj, rfl, rfl, HI⟩ := hrel
    by_cases hjm : j < m
    · by_cases hj12 : j < 12
      · obtain ⟨b2, o2, rfl, hblk, hcell⟩ := HB.out (by omega)
        obtain ⟨X, HX⟩ : ∃ X, Hid (X = zs.getD j 0) := ⟨_, rfl⟩
        have hcj : wr.cell? ⟨b2, o2 + j, none⟩ = some (.int .i64 X) := by rw [HX.out]; exact (HI.out.2.cell hblk).trans (hcell j hjm)
        obtain ⟨E, hE⟩ : ∃ E, X.tmod 70 = E := ⟨_, rfl⟩
        have he1 : -70 < E := by rw [← hE, Int.tmod_eq_emod]; split <;> omega
        have he2 : E < 70 := by rw [← hE, Int.tmod_eq_emod]; split <;> omega
        have hxb := HZ.out j
        rw [← HX.out] at hxb
        clear hcell HB HZ
        go_upto_if 33 with fail
        go_cut [9] (fun v w' => ∃ F : Nat, F < 70 ∧ v = .int .i64 F ∧ w' = wr)
        case first =>
          by_cases hneg : E < 0
          · go_wp2_with fail
            go_meet
            case rel => exact ⟨(-E).toNat, by omega, by rw [show ((-E).toNat : Int) = -E by omega], rfl⟩
          · go_wp2_with fail
            go_meet
            case rel => exact ⟨E.toNat, by omega, by rw [show (E.toNat : Int) = E by omega], rfl⟩
        case rest =>
          obtain ⟨F, hF, rfl, rfl⟩ := hcut
          obtain ⟨T, hTT⟩ : ∃ T : Nat, min (N : Int) ((k : Int) + (F : Int)) = (T : Int) := ⟨min N (k + F), by omega⟩
          have hkT : k ≤ T := by omega
          have hTN : T ≤ N := by omega
          have WS := fun (A' : Option Addr) (len c' : Nat) (hs : Src wc w1.heap.size A' len (bvs ((ys.drop k).take (T - k)))) (h1 : len ≤ c') (h2 : c' ≤ maxLen) (h3 : len = T - k) => by
            have h := write_any w1.heap.size (ys.take k) A' len c' ((ys.drop k).take (T - k)) wc (HT.out.all HI.out.2) ⟨by have := HGT.out.1; omega, by have := HGT.out.2; omega⟩ HI.out.1 hs h1 h2 (by rw [List.length_take]; omega)
            have e : ys.take k ++ (ys.drop k).take (T - k) = ys.take T := by rw [← List.take_add, show k + (T - k) = T by omega]
            rw [e] at h
            exact h
          by_cases hck : k < c
          · have WR := Lib.hid (WS (Option.map (fun x => x.add k) A) (T - k) (c - k) (src_cut HR.out HI.out.2 hz1 hkT hTN) (by omega) (Nat.le_trans (Nat.sub_le _ _) HC.out) rfl)
            clear WS
            go_wp2_with fail
            refine WR.out.mono ?_
            rintro e w4 ⟨rfl, hh4, hg4⟩
            have hw4 : Below w.heap.size w w4 := below_only HI.out.2 hg4 hz1 HI.out.2.size
            have HH4 := Lib.hid hh4
            have HW4 := Lib.hid hw4
            obtain ⟨r1, hr1⟩ : ∃ r, r = (bvs (digest (ys.take T))).toArray := ⟨_, rfl⟩
            have hne := ne_same hr1 (digest_length _)
            have R1 := Lib.hid hr1
            have S1 := Lib.hid (fun (W : World) (h : Below w.heap.size w W) (hh : HashAt W w1.heap.size (ys.take T)) => by
              have := hsum_any w1.heap.size (ys.take T) W (HT.out.all h) hh (by rw [List.length_take]; omega)
              rw [← hr1] at this
              exact this)
            have S2 := Lib.hid (fun (W : World) (h : Below w.heap.size w W) => by
              have := sum_any A T c (ys.take T) W (HT.out.all h) (row_front HR.out h hTN) (Nat.le_trans hTN HNC2.out) HC.out (by omega)
              rw [← hr1] at this
              exact this)
            clear hh4 hg4 hw4 hr1 WR
            go_upto_region 16 with fail
            have HTc : (T : Int) ≤ (c : Int) := by omega
            go_cut [55] (fun v w' => v = .bool false ∧ HashAt w' w1.heap.size (ys.take T) ∧ Below w.heap.size w w')
            case first =>
              go_region_with (first
                | (go_at_call 14; refine (S1.out _ HW4.out.drew HH4.out).mono ?_; rintro e w5 ⟨rfl, hb5⟩; have hw5 : Below w.heap.size w w5 := HW4.out.drew.trans (hb5.mono HW4.out.size); have hh5 : HashAt w5 w1.heap.size (ys.take T) := HashAt.below (w := w4.drew) HH4.out hb5 (HashAt.lt (w := w4) HH4.out); have HW5 := Lib.hid hw5; have HH5 := Lib.hid hh5; clear hb5 hw5 hh5)
                | (go_at_call 10; refine (S2.out _ HW5.out).mono ?_; rintro e w6 ⟨rfl, hb6⟩; have hw6 : Below w.heap.size w w6 := HW5.out.trans (hb6.mono HW5.out.size); have hh6 : HashAt w6 w1.heap.size (ys.take T) := HH5.out.below hb6 (HashAt.lt HH5.out); have HW6 := Lib.hid hw6; have HH6 := Lib.hid hh6; clear hb6 hw6 hh6))
              all_goals
                go_wp2_with fail
                go_meet
                case rel => exact ⟨rfl, HH6.out, HW6.out⟩
            case rest =>
              obtain ⟨rfl, hh6, hw6⟩ := hcut
              have HH6 := Lib.hid hh6
              have HW6 := Lib.hid hw6
              clear hh6 hw6
              go_wp2_with fail
              exact ⟨⟨T, j + 1, hTN, by omega, rfl, by go_num, HH6.out, HW6.out⟩, by simp [intOf]; omega⟩
          · obtain rfl : c = k := by omega
            obtain rfl : T = c := by omega
            have e0 : (ys.drop T).take (T - T) = [] := by rw [Nat.sub_self, List.take_zero]
            rw [e0] at WS
            have WR := Lib.hid (WS A (T - T) (T - T) (src_zero _ (Nat.sub_self _)) (Nat.le_refl _) (by rw [Nat.sub_self]; exact Nat.zero_le _) rfl)
            rw [Nat.sub_self] at WR
            clear e0
            clear WS
            go_wp2_with fail
            refine WR.out.mono ?_
            rintro e w4 ⟨rfl, hh4, hg4⟩
            have hw4 : Below w.heap.size w w4 := below_only HI.out.2 hg4 hz1 HI.out.2.size
            have HH4 := Lib.hid hh4
            have HW4 := Lib.hid hw4
            obtain ⟨r1, hr1⟩ : ∃ r, r = (bvs (digest (ys.take T))).toArray := ⟨_, rfl⟩
            have hne := ne_same hr1 (digest_length _)
            have R1 := Lib.hid hr1
            have S1 := Lib.hid (fun (W : World) (h : Below w.heap.size w W) (hh : HashAt W w1.heap.size (ys.take T)) => by
              have := hsum_any w1.heap.size (ys.take T) W (HT.out.all h) hh (by rw [List.length_take]; omega)
              rw [← hr1] at this
              exact this)
            have S2 := Lib.hid (fun (W : World) (h : Below w.heap.size w W) => by
              have := sum_any A T T (ys.take T) W (HT.out.all h) (row_front HR.out h hTN) (Nat.le_trans hTN HNC2.out) HC.out (by omega)
              rw [← hr1] at this
              exact this)
            clear hh4 hg4 hw4 hr1 WR
            go_upto_region 16 with fail
            have HTc : (T : Int) ≤ (T : Int) := by omega
            go_cut [55] (fun v w' => v = .bool false ∧ HashAt w' w1.heap.size (ys.take T) ∧ Below w.heap.size w w')
            case first =>
              go_region_with (first
                | (go_at_call 14; refine (S1.out _ HW4.out.drew HH4.out).mono ?_; rintro e w5 ⟨rfl, hb5⟩; have hw5 : Below w.heap.size w w5 := HW4.out.drew.trans (hb5.mono HW4.out.size); have hh5 : HashAt w5 w1.heap.size (ys.take T) := HashAt.below (w := w4.drew) HH4.out hb5 (HashAt.lt (w := w4) HH4.out); have HW5 := Lib.hid hw5; have HH5 := Lib.hid hh5; clear hb5 hw5 hh5)
                | (go_at_call 10; refine (S2.out _ HW5.out).mono ?_; rintro e w6 ⟨rfl, hb6⟩; have hw6 : Below w.heap.size w w6 := HW5.out.trans (hb6.mono HW5.out.size); have hh6 : HashAt w6 w1.heap.size (ys.take T) := HH5.out.below hb6 (HashAt.lt HH5.out); have HW6 := Lib.hid hw6; have HH6 := Lib.hid hh6; clear hb6 hw6 hh6))
              all_goals
                go_wp2_with fail
                go_meet
                case rel => exact ⟨rfl, HH6.out, HW6.out⟩
            case rest =>
              obtain ⟨rfl, hh6, hw6⟩ := hcut
              have HH6 := Lib.hid hh6
              have HW6 := Lib.hid hw6
              clear hh6 hw6
              go_wp2_with fail
              exact ⟨⟨T, j + 1, hTN, by omega, rfl, by go_num, HH6.out, HW6.out⟩, by simp [intOf]; omega⟩
      · have WS := fun (A' : Option Addr) (len c' : Nat) (ws : List UInt8) (hs : Src wr w1.heap.size A' len (bvs ws)) (h1 : len ≤ c') (h2 : c' ≤ maxLen) (h3 : ys.take k ++ ws = ys) (h4 : len ≤ 300) => by
          have h := write_any w1.heap.size (ys.take k) A' len c' ws wr (HT.out.all HI.out.2) ⟨by have := HGT.out.1; omega, by have := HGT.out.2; omega⟩ HI.out.1 hs h1 h2 (by rw [List.length_take]; omega)
          rw [h3] at h
          exact h
        by_cases hck : k < c
        · have WR := Lib.hid (WS (Option.map (fun x => x.add k) A) (N - k) (c - k) ((ys.drop k).take (N - k)) (src_cut HR.out HI.out.2 hz1 hk (Nat.le_refl _)) (by omega) (Nat.le_trans (Nat.sub_le _ _) HC.out) (by rw [← List.take_add, show k + (N - k) = N by omega, List.take_of_length_le (by rw [HYL.out]; exact Nat.le_refl _)]) (by omega))
          clear WS
          go_wp2_with fail
          refine WR.out.mono ?_
          rintro e w4 ⟨rfl, hh4, hg4⟩
          have hw4 : Below w.heap.size w w4 := below_only HI.out.2 hg4 hz1 HI.out.2.size
          have HH4 := Lib.hid hh4
          have HW4 := Lib.hid hw4
          obtain ⟨r1, hr1⟩ : ∃ r, r = (bvs (digest ys)).toArray := ⟨_, rfl⟩
          have heq := eq_same hr1 (digest_length _)
          have S1 := Lib.hid (fun (W : World) (h : Below w.heap.size w W) (hh : HashAt W w1.heap.size ys) => by
            have := hsum_any w1.heap.size ys W (HT.out.all h) hh (by rw [HYL.out]; omega)
            rw [← hr1] at this
            exact this)
          have S2 := Lib.hid (fun (W : World) (h : Below w.heap.size w W) => by
            have := sum_any A N c ys W (HT.out.all h) ((HR.out.below h).more h.size) HNC2.out HC.out (by omega)
            rw [← hr1] at this
            exact this)
          clear hh4 hg4 hw4 hr1 WR
          go_wp2_with fail
          refine (S1.out _ HW4.out HH4.out).mono ?_
          rintro e w5 ⟨rfl, hb5⟩
          have HW5 := Lib.hid (HW4.out.trans (hb5.mono HW4.out.size))
          have HH5 := Lib.hid (HH4.out.below hb5 HH4.out.lt)
          clear hb5
          go_wp2_with fail
          refine (S2.out _ HW5.out).mono ?_
          rintro e w6 ⟨rfl, hb6⟩
          have HW6 := Lib.hid (HW5.out.trans (hb6.mono HW5.out.size))
          have HH6 := Lib.hid (HH5.out.below hb6 HH5.out.lt)
          clear hb6
          go_wp2_with fail
          refine (S1.out _ HW6.out HH6.out).mono ?_
          rintro e w7 ⟨rfl, hb7⟩
          have HW7 := Lib.hid (HW6.out.trans (hb7.mono HW6.out.size))
          clear hb7
          go_wp2_with fail
          refine (S2.out _ HW7.out).mono ?_
          rintro e w8 ⟨rfl, hb8⟩
          have HW8 := Lib.hid (HW7.out.trans (hb8.mono HW7.out.size))
          clear hb8
          go_wp2_with fail
          go_ret
          exact ⟨rfl, HW8.out⟩
        · obtain rfl : c = k := by omega
          obtain rfl : c = N := by omega
          have WR := Lib.hid (WS A 0 0 [] (src_zero _ rfl) (Nat.le_refl _) (Nat.zero_le _) (by rw [List.append_nil, List.take_of_length_le (by rw [HYL.out]; exact Nat.le_refl _)]) (by omega))
          clear WS
          go_wp2_with fail
          refine WR.out.mono ?_
          rintro e w4 ⟨rfl, hh4, hg4⟩
          have hw4 : Below w.heap.size w w4 := below_only HI.out.2 hg4 hz1 HI.out.2.size
          have HH4 := Lib.hid hh4
          have HW4 := Lib.hid hw4
          obtain ⟨r1, hr1⟩ : ∃ r, r = (bvs (digest ys)).toArray := ⟨_, rfl⟩
          have heq := eq_same hr1 (digest_length _)
          have S1 := Lib.hid (fun (W : World) (h : Below w.heap.size w W) (hh : HashAt W w1.heap.size ys) => by
            have := hsum_any w1.heap.size ys W (HT.out.all h) hh (by rw [HYL.out]; omega)
            rw [← hr1] at this
            exact this)
          have S2 := Lib.hid (fun (W : World) (h : Below w.heap.size w W) => by
            have := sum_any A c c ys W (HT.out.all h) ((HR.out.below h).more h.size) HNC2.out HC.out (by omega)
            rw [← hr1] at this
            exact this)
          clear hh4 hg4 hw4 hr1 WR
          go_wp2_with fail
          refine (S1.out _ HW4.out HH4.out).mono ?_
          rintro e w5 ⟨rfl, hb5⟩
          have HW5 := Lib.hid (HW4.out.trans (hb5.mono HW4.out.size))
          have HH5 := Lib.hid (HH4.out.below hb5 HH4.out.lt)
          clear hb5
          go_wp2_with fail
          refine (S2.out _ HW5.out).mono ?_
          rintro e w6 ⟨rfl, hb6⟩
          have HW6 := Lib.hid (HW5.out.trans (hb6.mono HW5.out.size))
          have HH6 := Lib.hid (HH5.out.below hb6 HH5.out.lt)
          clear hb6
          go_wp2_with fail
          refine (S1.out _ HW6.out HH6.out).mono ?_
          rintro e w7 ⟨rfl, hb7⟩
          have HW7 := Lib.hid (HW6.out.trans (hb7.mono HW6.out.size))
          clear hb7
          go_wp2_with fail
          refine (S2.out _ HW7.out).mono ?_
          rintro e w8 ⟨rfl, hb8⟩
          have HW8 := Lib.hid (HW7.out.trans (hb8.mono HW7.out.size))
          clear hb8
          go_wp2_with fail
          go_ret
          exact ⟨rfl, HW8.out⟩
    · have WS := fun (A' : Option Addr) (len c' : Nat) (ws : List UInt8) (hs : Src wr w1.heap.size A' len (bvs ws)) (h1 : len ≤ c') (h2 : c' ≤ maxLen) (h3 : ys.take k ++ ws = ys) (h4 : len ≤ 300) => by
        have h := write_any w1.heap.size (ys.take k) A' len c' ws wr (HT.out.all HI.out.2) ⟨by have := HGT.out.1; omega, by have := HGT.out.2; omega⟩ HI.out.1 hs h1 h2 (by rw [List.length_take]; omega)
        rw [h3] at h
        exact h
      by_cases hck : k < c
      · have WR := Lib.hid (WS (Option.map (fun x => x.add k) A) (N - k) (c - k) ((ys.drop k).take (N - k)) (src_cut HR.out HI.out.2 hz1 hk (Nat.le_refl _)) (by omega) (Nat.le_trans (Nat.sub_le _ _) HC.out) (by rw [← List.take_add, show k + (N - k) = N by omega, List.take_of_length_le (by rw [HYL.out]; exact Nat.le_refl _)]) (by omega))
        clear WS
        go_wp2_with fail
        refine WR.out.mono ?_
        rintro e w4 ⟨rfl, hh4, hg4⟩
        have hw4 : Below w.heap.size w w4 := below_only HI.out.2 hg4 hz1 HI.out.2.size
        have HH4 := Lib.hid hh4
        have HW4 := Lib.hid hw4
        obtain ⟨r1, hr1⟩ : ∃ r, r = (bvs (digest ys)).toArray := ⟨_, rfl⟩
        have heq := eq_same hr1 (digest_length _)
        have S1 := Lib.hid (fun (W : World) (h : Below w.heap.size w W) (hh : HashAt W w1.heap.size ys) => by
          have := hsum_any w1.heap.size ys W (HT.out.all h) hh (by rw [HYL.out]; omega)
          rw [← hr1] at this
          exact this)
        have S2 := Lib.hid (fun (W : World) (h : Below w.heap.size w W) => by
          have := sum_any A N c ys W (HT.out.all h) ((HR.out.below h).more h.size) HNC2.out HC.out (by omega)
          rw [← hr1] at this
          exact this)
        clear hh4 hg4 hw4 hr1 WR
        go_wp2_with fail
        refine (S1.out _ HW4.out HH4.out).mono ?_
        rintro e w5 ⟨rfl, hb5⟩
        have HW5 := Lib.hid (HW4.out.trans (hb5.mono HW4.out.size))
        have HH5 := Lib.hid (HH4.out.below hb5 HH4.out.lt)
        clear hb5
        go_wp2_with fail
        refine (S2.out _ HW5.out).mono ?_
        rintro e w6 ⟨rfl, hb6⟩
        have HW6 := Lib.hid (HW5.out.trans (hb6.mono HW5.out.size))
        have HH6 := Lib.hid (HH5.out.below hb6 HH5.out.lt)
        clear hb6
        go_wp2_with fail
        refine (S1.out _ HW6.out HH6.out).mono ?_
        rintro e w7 ⟨rfl, hb7⟩
        have HW7 := Lib.hid (HW6.out.trans (hb7.mono HW6.out.size))
        clear hb7
        go_wp2_with fail
        refine (S2.out _ HW7.out).mono ?_
        rintro e w8 ⟨rfl, hb8⟩
        have HW8 := Lib.hid (HW7.out.trans (hb8.mono HW7.out.size))
        clear hb8
        go_wp2_with fail
        go_ret
        exact ⟨rfl, HW8.out⟩
      · obtain rfl : c = k := by omega
        obtain rfl : c = N := by omega
        have WR := Lib.hid (WS A 0 0 [] (src_zero _ rfl) (Nat.le_refl _) (Nat.zero_le _) (by rw [List.append_nil, List.take_of_length_le (by rw [HYL.out]; exact Nat.le_refl _)]) (by omega))
        clear WS
        go_wp2_with fail
        refine WR.out.mono ?_
        rintro e w4 ⟨rfl, hh4, hg4⟩
        have hw4 : Below w.heap.size w w4 := below_only HI.out.2 hg4 hz1 HI.out.2.size
        have HH4 := Lib.hid hh4
        have HW4 := Lib.hid hw4
        obtain ⟨r1, hr1⟩ : ∃ r, r = (bvs (digest ys)).toArray := ⟨_, rfl⟩
        have heq := eq_same hr1 (digest_length _)
        have S1 := Lib.hid (fun (W : World) (h : Below w.heap.size w W) (hh : HashAt W w1.heap.size ys) => by
          have := hsum_any w1.heap.size ys W (HT.out.all h) hh (by rw [HYL.out]; omega)
          rw [← hr1] at this
          exact this)
        have S2 := Lib.hid (fun (W : World) (h : Below w.heap.size w W) => by
          have := sum_any A c c ys W (HT.out.all h) ((HR.out.below h).more h.size) HNC2.out HC.out (by omega)
          rw [← hr1] at this
          exact this)
        clear hh4 hg4 hw4 hr1 WR
        go_wp2_with fail
        refine (S1.out _ HW4.out HH4.out).mono ?_
        rintro e w5 ⟨rfl, hb5⟩
        have HW5 := Lib.hid (HW4.out.trans (hb5.mono HW4.out.size))
        have HH5 := Lib.hid (HH4.out.below hb5 HH4.out.lt)
        clear hb5
        go_wp2_with fail
        refine (S2.out _ HW5.out).mono ?_
        rintro e w6 ⟨rfl, hb6⟩
        have HW6 := Lib.hid (HW5.out.trans (hb6.mono HW5.out.size))
        have HH6 := Lib.hid (HH5.out.below hb6 HH5.out.lt)
        clear hb6
        go_wp2_with fail
        refine (S1.out _ HW6.out HH6.out).mono ?_
        rintro e w7 ⟨rfl, hb7⟩
        have HW7 := Lib.hid (HW6.out.trans (hb7.mono HW6.out.size))
        clear hb7
        go_wp2_with fail
        refine (S2.out _ HW7.out).mono ?_
        rintro e w8 ⟨rfl, hb8⟩
        have HW8 := Lib.hid (HW7.out.trans (hb8.mono HW7.out.size))
        clear hb8
        go_wp2_with fail
        go_ret
        exact ⟨rfl, HW8.out⟩
end Go.Proofs.YtfhedljhkikdmaaDoor.Sha
