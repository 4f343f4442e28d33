/-
  Proved: what 'stillroom/stillroomlaw5.DiskSync' returns.
-/
import Derived.Test.YtebjapinhkeafaaDiskSteps
import Derived.Test.YtebjapinhkeafaaShort
namespace Go.Proofs.Ytebjapinhkeafaa.Disk
open Go.RowKit Go.Maps
set_option linter.unusedVariables false
set_option linter.unusedSimpArgs false

/-- A slice of slices of bytes. -/
def RowsB (w : World) (A : Option Addr) (n : Nat) : Prop := 0 < n → ∃ b o, A = some ⟨b, o, none⟩ ∧ b < w.heap.size ∧ ∀ i, i < n → ∃ A' l c bs, w.cell? ⟨b, o + i, none⟩ = some (.slice A' l c) ∧ Row w w.heap.size A' l (bvs bs) ∧ l ≤ c ∧ c ≤ maxLen
theorem rows_of_bytes {W : World} {a : Option Addr} {len cap : Nat}
    (h : (a = none ∧ len = 0 ∧ cap = 0) ∨ ∃ (x : Addr) (A : Nat → Option Addr) (L C : Nat → Nat) (Z : Nat → List Int), a = some x ∧ len ≤ cap ∧ cap ≤ maxLen ∧
      ∀ r, r < cap → W.cell? (x.add r) = some (.slice (A r) (L r) (C r)) ∧ L r ≤ C r ∧ C r ≤ maxLen ∧ (Z r).length = C r ∧ (∀ n ∈ Z r, (Lit.int .u8 n).wf = true) ∧ (A r = none → C r = 0) ∧
        ∀ a', A r = some a' → 0 ≤ a'.block ∧ ∀ c, c < C r → W.cell? (a'.add c) = some (.int .u8 ((Z r).getD c 0))) :
    RowsB W a len ∧ len ≤ cap ∧ cap ≤ maxLen := by
  rcases h with ⟨rfl, rfl, rfl⟩ | ⟨x, A, L, C, Z, rfl, hl, hm, hcell⟩
  · exact ⟨fun h => absurd h (by omega), Nat.le_refl _, by decide⟩
  · refine ⟨fun hn => ?_, hl, hm⟩
    obtain ⟨b, off, spot⟩ := x
    have h0 := (hcell 0 (by omega)).1
    have hspot : spot = none := by simpa [Addr.add] using World.cell?_spot h0
    subst hspot
    refine ⟨b, off, rfl, by simpa [Addr.add] using World.block_lt_of_cell? W _ h0, fun i hi => ?_⟩
    obtain ⟨k1, k2, k3, k4, k5, k6, k7⟩ := hcell i (by omega)
    obtain ⟨bs, r1, r2, r3⟩ := row_of_bytes (W := W) (a := A i) (len := L i) (cap := C i) (by
      cases hA : A i with
      | none => exact .inl ⟨rfl, by have := k6 hA; omega, k6 hA⟩
      | some a' => exact .inr ⟨a', Z i, rfl, k2, k3, k4, fun j hj => (k7 a' hA).2 j (by omega), k5⟩)
    refine ⟨A i, L i, C i, bs, ?_, r1, r2, r3⟩
    unfold Addr.add at k1
    split at k1
    · rename_i hi0; subst hi0; exact k1
    · exact k1
theorem putAt_end (W bs : List UInt8) : putAt W W.length bs = W ++ bs := by
  unfold putAt
  rw [List.take_length, List.drop_eq_nil_of_le (by omega), List.append_nil]
theorem str_add (a b : List UInt8) : (⟨a.toArray⟩ : ByteArray) ++ ⟨b.toArray⟩ = ⟨(a ++ b).toArray⟩ := by
  apply ByteArray.ext
  rw [ByteArray.data_append]
  simp
set_option maxRecDepth 100000 in
set_option maxHeartbeats 4000000 in
theorem diskSync_walk (A : Option Addr) (n c : Nat) (P : Option Addr) (mk ck : Nat) (keep : List Bool) (torn : Int) (w : World) (hA : RowsB w A n) (hn : n ≤ c) (hc : c ≤ maxLen) (hP : Row w w.heap.size P mk (lvs keep)) (hmk : mk ≤ ck) (hck : ck ≤ maxLen) (ht : -9223372036854775808 ≤ torn ∧ torn ≤ 9223372036854775807) :
    Calls Try.prog 8 #[.slice A n c, .slice P mk ck, .int .i64 torn] w fun e w' => e = .returned (.bool true) ∧ Below w.heap.size w w' := by
  obtain ⟨ht1, ht2⟩ := ht
  have hmkl : mk ≤ 9223372036854775807 := by unfold maxLen at hck; omega
  have hckl : ck ≤ 9223372036854775807 := by unfold maxLen at hck; omega
  have hnl : n ≤ 9223372036854775807 := by unfold maxLen at hc; omega
  have HA := Lib.hid hA
  have HP := Lib.hid hP
  clear hA hP hc hck
  go_enter Try.func8, Try.ntmps8
  go_wp2_with fail
  refine (begun_any w).mono ?_
  rintro e w1 ⟨rfl, hb1⟩
  have HB1 := Lib.hid hb1
  clear hb1
  have hkeep : ∃ P' mk' keep', Hid (Row w w.heap.size P' mk' (lvs keep')) ∧ mk' ≤ 50 ∧ ((50 < mk ∧ (∃ b o, P = some ⟨b, o, none⟩) ∧ P' = P ∧ mk' = 50) ∨ (mk ≤ 50 ∧ P' = P ∧ mk' = mk)) := by
    by_cases h50 : 50 < mk
    · obtain ⟨b, o, e, _, _⟩ := HP.out.2 (by omega)
      have hrow := HP.out.take (k := 50) (by omega)
      rw [lvs_take] at hrow
      exact ⟨P, 50, keep.take 50, hrow, Nat.le_refl _, .inl ⟨h50, ⟨b, o, e⟩, rfl, rfl⟩⟩
    · exact ⟨P, mk, keep, HP, by omega, .inr ⟨by omega, rfl, rfl⟩⟩
  obtain ⟨P', mk', keep', HP', hmk50, hcut⟩ := hkeep
  rcases hcut with ⟨h50, ⟨b0, o0, rfl⟩, rfl, rfl⟩ | ⟨h50, rfl, rfl⟩
  · go_wp2_with fail
    have CN := new_held 5000 w1
    rw [show room 5000 = 5000 by decide] at CN
    refine CN.mono ?_
    rintro e w2 ⟨own2, f, rfl, h2⟩
    have H2 := Lib.hid h2
    clear h2 CN
    go_wp2_with fail
    refine (create_go sA H2.out (St.new 5000) (by decide) (by omega) (by decide) (by decide) (by simp)).mono ?_
    rintro e w3 ⟨own3, g, d3, rfl, h3, s3, _, _⟩
    have H3 := Lib.hid h3
    have S3 : Hid (St d3 5000 [(nmA, g)] [] [⟨noName, sA, some g⟩] [(g, emptyFl)]) := s3
    clear h3 s3
    go_wp2_with fail
    refine (syncDir_go H3.out S3.out (by omega)).mono ?_
    rintro e w4 ⟨own4, d4, rfl, h4, s4, _⟩
    have H4 := Lib.hid h4
    have S4 : Hid (St d4 5000 [(nmA, g)] [(nmA, g)] [] [(g, ⟨[], [], []⟩)]) := s4
    clear h4 s4
    go_wp2_with fail
    go_loopw [9, 10] (fun y z wr => ∃ (i : Nat) (W : List UInt8) (own : Own) (d : Dk) (L : Secs), z = .int .i64 (i : Int) ∧ y = .string ⟨W.toArray⟩ ∧ i ≤ n ∧ i ≤ 10 ∧ W.length ≤ 150 * i ∧ Hid (Held own w1 wr f d (2 + i)) ∧ Hid (St d 5000 [(nmA, g)] [(nmA, g)] [] [(g, ⟨W, [], L⟩)])) (fun _ z _ => n - (RowKit.intOf z).toNat)
    case atStart => exact ⟨0, [], own4, d4, [], rfl, rfl, Nat.zero_le _, by omega, by simp, H4, S4⟩
    case round =>
      obtain ⟨i, W, own, d, L, rfl, rfl, hi, hi10, hWl, HD, SD⟩ := hrel
      by_cases hlt : i < n ∧ i < 10
      · obtain ⟨hl1, hl2⟩ := hlt
        obtain ⟨b, o, rfl, hb, hrows⟩ := HA.out (by omega)
        obtain ⟨A', l, cc, bs, hcell, hrow, hlc, hcm⟩ := hrows i hl1
        have hcell1 : wr.cell? ⟨b, o + i, none⟩ = some (.slice A' l cc) := (HD.out.below.cell (p := ⟨b, o + i, none⟩) (Nat.lt_of_lt_of_le hb HB1.out.size)).trans ((HB1.out.cell (p := ⟨b, o + i, none⟩) hb).trans hcell)
        obtain ⟨mm, hmm⟩ : ∃ mm, mm = min l 150 := ⟨_, rfl⟩
        obtain ⟨bb, hbb⟩ : ∃ bb, bb = bs.take 150 := ⟨_, rfl⟩
        have RB : Hid (Row w1 w1.heap.size A' mm (bvs bb)) := by
          show Row _ _ _ _ _
          rw [hmm, hbb]
          exact (Com.short_row HB1.out hrow).more HB1.out.size
        have hbl : bb.length = mm := RB.out.size
        have hm1 : mm ≤ 150 := by omega
        have hmc : mm ≤ cc := by omega
        have CSH := Lib.hid (Com.short_any A' l cc 150 wr hlc hcm)
        rw [← hmm] at CSH
        have HCM := Lib.hid hcm
        have FB := Lib.hid (HD.out.elder RB.out)
        clear hcell hrow hrows hcm hmm hbb
        go_wp2_with fail
        refine CSH.out.mono ?_
        rintro e w' ⟨rfl, hww⟩
        obtain rfl := hww
        clear CSH
        go_wp2_with fail
        refine (write_go sA W.length HD.out SD.out (by simp) (by decide) (by omega) (by rfl) (Nat.le_refl _) FB.out hmc HCM.out (by omega) (by
          show (((d.fl g).now.length + 0 : Nat) : Int) + _ ≤ 5000
          rw [SD.out.head, hbl]
          show ((W.length + 0 : Nat) : Int) + (W.length + mm - W.length) ≤ 5000
          omega)).mono ?_
        rintro e w5 ⟨own5, L5, d5, rfl, _, h5, s5, t5⟩
        have cs := fun c => bytes_string (P := Try.prog) (c := c) (dst := 9) Try.underlying22 Try.underlying5 Try.underlying9 (FB.out.step t5).row
        have H5 := Lib.hid h5
        have S5 : Hid (St d5 5000 [(nmA, g)] [(nmA, g)] [] [(g, ⟨W ++ bb, [], L5⟩)]) := by rw [← putAt_end]; exact s5
        clear h5 s5 t5
        have hsa := str_add W bb
        go_wp2_with fail
        refine ⟨⟨i + 1, W ++ bb, own5, d5, L5, by go_num, rfl, by omega, by omega, by rw [List.length_append]; omega, H5, S5⟩, by simp [RowKit.intOf]; omega⟩
      · have hE : i = n ∨ (i < n ∧ i = 10) := by omega
        have CSY := Lib.hid (sync_go sA HD.out SD.out (by simp) (by decide) (by omega) (by rfl))
        clear hlt
        rcases hE with rfl | ⟨hE1, rfl⟩
        all_goals
          go_wp2_with fail
          refine CSY.out.mono ?_
          rintro e w6 ⟨own6, d6, rfl, h6, s6, _⟩
          have CD := dirty_held h6
          have e0 : total (fun g => (d6.fl g).soiled.length) d6.N = 0 := by
            rw [s6.N]
            show (d6.fl g).soiled.length + 0 = 0
            rw [s6.head]
            rfl
          rw [e0] at CD
          have HCD := Lib.hid CD
          have S6 := Lib.hid s6
          clear h6 s6 CD e0
          go_wp2_with fail
          refine HCD.out.mono ?_
          rintro e w7 ⟨rfl, h7, _⟩
          have H7 := Lib.hid h7
          clear h7
          have RP : Hid (Row w1 w1.heap.size (some ⟨b0, o0, none⟩) 50 (lvs keep')) := (HP'.out.below HB1.out).more HB1.out.size
          go_wp2_with fail
          refine (crash_go (c := ck) 0 torn H7.out (H7.out.elder RP.out).row (Nat.le_refl _) (by omega)).mono ?_
          rintro e wa ⟨owna, fa, da, rfl, _, ha, ca, _, _, _⟩
          have la : da.look nmA = some ⟨W, W, []⟩ := by
            rw [ca.look]
            have e1 : d6.crashDir 0 = [(nmA, g)] := S6.out.crashDir 0
            have e2 : d6.fl g = ⟨W, W, []⟩ := S6.out.head
            rw [e1, crash_one, e2, Fl.crash_clean rfl rfl]
            rfl
          have CR := Lib.hid (read_look sA 0 W.length ha (by decide) la (by show 0 + W.length ≤ W.length; omega) (by omega))
          clear ha ca la
          go_wp2_with fail
          refine CR.out.mono ?_
          rintro e wz ⟨vx, rfl, hrx, hz, _⟩
          obtain ⟨Ax, cx, rfl, hcx, hcxm⟩ := own_form hrx
          have ex : (W.drop 0).take W.length = W := by rw [List.drop_zero, List.take_length]
          rw [ex] at hrx
          have cs := fun c => bytes_string (P := Try.prog) (c := c) (dst := 9) Try.underlying22 Try.underlying5 Try.underlying9 (Row.own hrx)
          have HZ := Lib.hid hz
          clear hrx hz CR
          go_wp2_with fail
          go_ret
          exact ⟨rfl, HB1.out.trans (HZ.out.below.mono HB1.out.size)⟩
  · go_wp2_with fail
    have CN := new_held 5000 w1
    rw [show room 5000 = 5000 by decide] at CN
    refine CN.mono ?_
    rintro e w2 ⟨own2, f, rfl, h2⟩
    have H2 := Lib.hid h2
    clear h2 CN
    go_wp2_with fail
    refine (create_go sA H2.out (St.new 5000) (by decide) (by omega) (by decide) (by decide) (by simp)).mono ?_
    rintro e w3 ⟨own3, g, d3, rfl, h3, s3, _, _⟩
    have H3 := Lib.hid h3
    have S3 : Hid (St d3 5000 [(nmA, g)] [] [⟨noName, sA, some g⟩] [(g, emptyFl)]) := s3
    clear h3 s3
    go_wp2_with fail
    refine (syncDir_go H3.out S3.out (by omega)).mono ?_
    rintro e w4 ⟨own4, d4, rfl, h4, s4, _⟩
    have H4 := Lib.hid h4
    have S4 : Hid (St d4 5000 [(nmA, g)] [(nmA, g)] [] [(g, ⟨[], [], []⟩)]) := s4
    clear h4 s4
    go_wp2_with fail
    go_loopw [9, 10] (fun y z wr => ∃ (i : Nat) (W : List UInt8) (own : Own) (d : Dk) (L : Secs), z = .int .i64 (i : Int) ∧ y = .string ⟨W.toArray⟩ ∧ i ≤ n ∧ i ≤ 10 ∧ W.length ≤ 150 * i ∧ Hid (Held own w1 wr f d (2 + i)) ∧ Hid (St d 5000 [(nmA, g)] [(nmA, g)] [] [(g, ⟨W, [], L⟩)])) (fun _ z _ => n - (RowKit.intOf z).toNat)
    case atStart => exact ⟨0, [], own4, d4, [], rfl, rfl, Nat.zero_le _, by omega, by simp, H4, S4⟩
    case round =>
      obtain ⟨i, W, own, d, L, rfl, rfl, hi, hi10, hWl, HD, SD⟩ := hrel
      by_cases hlt : i < n ∧ i < 10
      · obtain ⟨hl1, hl2⟩ := hlt
        obtain ⟨b, o, rfl, hb, hrows⟩ := HA.out (by omega)
        obtain ⟨A', l, cc, bs, hcell, hrow, hlc, hcm⟩ := hrows i hl1
        have hcell1 : wr.cell? ⟨b, o + i, none⟩ = some (.slice A' l cc) := (HD.out.below.cell (p := ⟨b, o + i, none⟩) (Nat.lt_of_lt_of_le hb HB1.out.size)).trans ((HB1.out.cell (p := ⟨b, o + i, none⟩) hb).trans hcell)
        obtain ⟨mm, hmm⟩ : ∃ mm, mm = min l 150 := ⟨_, rfl⟩
        obtain ⟨bb, hbb⟩ : ∃ bb, bb = bs.take 150 := ⟨_, rfl⟩
        have RB : Hid (Row w1 w1.heap.size A' mm (bvs bb)) := by
          show Row _ _ _ _ _
          rw [hmm, hbb]
          exact (Com.short_row HB1.out hrow).more HB1.out.size
        have hbl : bb.length = mm := RB.out.size
        have hm1 : mm ≤ 150 := by omega
        have hmc : mm ≤ cc := by omega
        have CSH := Lib.hid (Com.short_any A' l cc 150 wr hlc hcm)
        rw [← hmm] at CSH
        have HCM := Lib.hid hcm
        have FB := Lib.hid (HD.out.elder RB.out)
        clear hcell hrow hrows hcm hmm hbb
        go_wp2_with fail
        refine CSH.out.mono ?_
        rintro e w' ⟨rfl, hww⟩
        obtain rfl := hww
        clear CSH
        go_wp2_with fail
        refine (write_go sA W.length HD.out SD.out (by simp) (by decide) (by omega) (by rfl) (Nat.le_refl _) FB.out hmc HCM.out (by omega) (by
          show (((d.fl g).now.length + 0 : Nat) : Int) + _ ≤ 5000
          rw [SD.out.head, hbl]
          show ((W.length + 0 : Nat) : Int) + (W.length + mm - W.length) ≤ 5000
          omega)).mono ?_
        rintro e w5 ⟨own5, L5, d5, rfl, _, h5, s5, t5⟩
        have cs := fun c => bytes_string (P := Try.prog) (c := c) (dst := 9) Try.underlying22 Try.underlying5 Try.underlying9 (FB.out.step t5).row
        have H5 := Lib.hid h5
        have S5 : Hid (St d5 5000 [(nmA, g)] [(nmA, g)] [] [(g, ⟨W ++ bb, [], L5⟩)]) := by rw [← putAt_end]; exact s5
        clear h5 s5 t5
        have hsa := str_add W bb
        go_wp2_with fail
        refine ⟨⟨i + 1, W ++ bb, own5, d5, L5, by go_num, rfl, by omega, by omega, by rw [List.length_append]; omega, H5, S5⟩, by simp [RowKit.intOf]; omega⟩
      · have hE : i = n ∨ (i < n ∧ i = 10) := by omega
        have CSY := Lib.hid (sync_go sA HD.out SD.out (by simp) (by decide) (by omega) (by rfl))
        clear hlt
        rcases hE with rfl | ⟨hE1, rfl⟩
        all_goals
          go_wp2_with fail
          refine CSY.out.mono ?_
          rintro e w6 ⟨own6, d6, rfl, h6, s6, _⟩
          have CD := dirty_held h6
          have e0 : total (fun g => (d6.fl g).soiled.length) d6.N = 0 := by
            rw [s6.N]
            show (d6.fl g).soiled.length + 0 = 0
            rw [s6.head]
            rfl
          rw [e0] at CD
          have HCD := Lib.hid CD
          have S6 := Lib.hid s6
          clear h6 s6 CD e0
          go_wp2_with fail
          refine HCD.out.mono ?_
          rintro e w7 ⟨rfl, h7, _⟩
          have H7 := Lib.hid h7
          clear h7
          have RP : Hid (Row w1 w1.heap.size P' mk' (lvs keep')) := (HP'.out.below HB1.out).more HB1.out.size
          go_wp2_with fail
          refine (crash_go (c := ck) 0 torn H7.out (H7.out.elder RP.out).row (Nat.le_refl _) (by omega)).mono ?_
          rintro e wa ⟨owna, fa, da, rfl, _, ha, ca, _, _, _⟩
          have la : da.look nmA = some ⟨W, W, []⟩ := by
            rw [ca.look]
            have e1 : d6.crashDir 0 = [(nmA, g)] := S6.out.crashDir 0
            have e2 : d6.fl g = ⟨W, W, []⟩ := S6.out.head
            rw [e1, crash_one, e2, Fl.crash_clean rfl rfl]
            rfl
          have CR := Lib.hid (read_look sA 0 W.length ha (by decide) la (by show 0 + W.length ≤ W.length; omega) (by omega))
          clear ha ca la
          go_wp2_with fail
          refine CR.out.mono ?_
          rintro e wz ⟨vx, rfl, hrx, hz, _⟩
          obtain ⟨Ax, cx, rfl, hcx, hcxm⟩ := own_form hrx
          have ex : (W.drop 0).take W.length = W := by rw [List.drop_zero, List.take_length]
          rw [ex] at hrx
          have cs := fun c => bytes_string (P := Try.prog) (c := c) (dst := 9) Try.underlying22 Try.underlying5 Try.underlying9 (Row.own hrx)
          have HZ := Lib.hid hz
          clear hrx hz CR
          go_wp2_with fail
          go_ret
          exact ⟨rfl, HB1.out.trans (HZ.out.below.mono HB1.out.size)⟩
end Go.Proofs.Ytebjapinhkeafaa.Disk
