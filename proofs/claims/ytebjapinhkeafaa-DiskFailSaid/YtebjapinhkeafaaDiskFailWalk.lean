/-
  Proved: what 'stillroom/stillroomlaw5.DiskFail' returns.
-/
import Derived.Test.YtebjapinhkeafaaDiskBase
namespace Go.Proofs.Ytebjapinhkeafaa.Disk
open Go.RowKit Go.Maps
set_option linter.unusedVariables false
set_option linter.unusedSimpArgs false

theorem fail_held {own : Own} {w0 w : World} {f K : Nat} {d : Dk} (n : Int) (h : Held own w0 w f d K) (hn : n ≤ 9223372036854775807) :
    Calls Try.prog 22 #[.pointer (some ⟨f, 0, none⟩), .int .i64 n] w fun e w' => e = .returned undef ∧ Held own w0 w' f { d with failing := decide (0 ≤ n), others := max n 0 } K ∧ Step own own f w w' := by
  obtain ⟨nb, sb, wv, hd⟩ := h.disk
  refine (fail_raw f nb sb wv d n w hd.blk).mono ?_
  rintro e w' ⟨he, hb, hg⟩
  obtain ⟨h1, h2, h3, h4, h5, h6, h7, h8⟩ := hd.ok
  have hd' : DiskIn own w' f { d with failing := decide (0 ≤ n), others := max n 0 } K nb sb wv := hd.put hg hb rfl rfl rfl rfl ⟨h1, h2, h3, h4, h5, h6, h7, by show 0 ≤ max n 0 ∧ max n 0 ≤ _; omega⟩
  have hst : Step own own f w w' := Step.of_grown hd.top hd.of hg
  exact ⟨he, h.next hst ⟨nb, sb, wv, hd'⟩, hst⟩
/-- Between two writes of the law. -/
structure FailAt (n i a g : Nat) (d : Dk) : Prop where
  room : d.room = 2000
  N : d.N = [(nmA, g)]
  calls : d.calls = 1 + (i : Int)
  len : (d.fl g).now.length = a
  before : i ≤ n → d.failing = true ∧ d.others = (n : Int) - i ∧ a = i
  behind : n < i → d.failing = false ∧ a + 1 = i
theorem fail_start {n g : Nat} : FailAt n 0 0 g { (newDk 2000 []).made sA g with failing := decide (0 ≤ (n : Int)), others := max (n : Int) 0 } := by
  refine ⟨rfl, rfl, rfl, ?_, fun _ => ⟨by simp, by show max (n : Int) 0 = _; omega, rfl⟩, fun h => by omega⟩
  show (((newDk 2000 []).made sA g).fl g).now.length = 0
  have : ((newDk 2000 []).made sA g).fl g = emptyFl := if_pos rfl
  rw [this]
  rfl
theorem fail_step {own : Own} {w0 w : World} {f K n i a g : Nat} {d : Dk} {fr : Nat × Nat} {zz : Int} (h : Held own w0 w f d K) (hF : FailAt n i a g d) (hi : i ≤ 20) (hK : K + 1 ≤ 1073741824) (hz : 0 ≤ zz ∧ zz ≤ 255) :
    Calls Try.prog 14 #[.pointer (some ⟨f, 0, none⟩), .string sA, .int .i64 (a : Int), .slice (some ⟨w.heap.size, 0, none⟩) 1 1] (w.alloc (.cells #[.int .u8 zz] 5 fr)) fun e w' => ∃ own' d', e = .returned (.int .i64 (if i = n then 3 else 0)) ∧ Held own' w0 w' f d' (K + 1) ∧ FailAt n (i + 1) (if i = n then a else a + 1) g d' := by
  obtain ⟨b, hb⟩ : ∃ b : UInt8, zz = (b.toNat : Int) := ⟨UInt8.ofNat zz.toNat, by rw [UInt8.toNat_ofNat']; omega⟩
  subst hb
  have hx : dget sA.data.toList d.N = some g := by rw [hF.N]; rfl
  have hal : a ≤ 21 := by
    rcases Nat.lt_or_ge n i with hh | hh
    · have := (hF.behind hh).2; omega
    · have := (hF.before hh).2.2; omega
  have h1 := h.all ((Below.refl _ w).alloc (Nat.le_refl _) (.cells #[.int .u8 (b.toNat : Int)] 5 fr))
  have hR : Row (w.alloc (.cells #[.int .u8 (b.toNat : Int)] 5 fr)) (w.heap.size + 1) (some ⟨w.heap.size, 0, none⟩) 1 (bvs [b]) := Row.fresh w 5 fr #[.int .u8 (b.toNat : Int)]
  refine (write_any (c := 1) sA (a : Int) h1.disk (by decide) hK (by omega) (by omega) hR (by simp) (fun ad had g => by
    injection had with had
    subst had
    rw [h.fresh (Nat.le_refl _)]
    simp) (Nat.le_refl _) (by decide) (by omega)).mono ?_
  rintro e w' ⟨own', n', d', hW, he, hd, hst⟩
  have hT : total (fun g => (d.fl g).now.length) d.N = a := by
    rw [hF.N]
    show (d.fl g).now.length + 0 = a
    rw [hF.len]
    rfl
  rw [Dk.Writes, hx] at hW
  dsimp only at hW
  rw [hT, hF.room, hF.len] at hW
  by_cases hin : i = n
  · obtain ⟨f1, f2, f3⟩ := hF.before (by omega)
    have he3 : d.err = 3 := by rw [Dk.err, if_pos ⟨f1, by omega⟩]
    rw [if_pos (by rw [he3]; simp)] at hW
    obtain ⟨rfl, rfl⟩ := hW
    have hb : d.begin = { d with calls := d.calls + 1, failing := false } := by
      rw [Dk.begin, if_neg (by rw [f1]; simp), if_neg (by omega)]
    rw [hb] at hd
    rw [if_pos hin, if_pos hin]
    refine ⟨own', _, he, h1.next hst hd, hF.room, hF.N, ?_, hF.len, fun h => by omega, fun _ => ⟨rfl, by omega⟩⟩
    show d.calls + 1 = _
    rw [hF.calls]
    omega
  · have he0 : d.err = 0 := by
      rcases Nat.lt_or_ge n i with hh | hh
      · rw [Dk.err, if_neg (by rw [(hF.behind hh).1]; simp)]
      · have := (hF.before hh).2.1
        rw [Dk.err, if_neg (by omega)]
    rw [if_neg (by rw [he0]; simp), if_neg (by omega), if_neg (by simp; omega)] at hW
    obtain ⟨rfl, L, _, rfl⟩ := hW
    rw [if_neg hin, if_neg hin]
    have e := d.begin_N
    refine ⟨own', _, he, h1.next hst hd, ?_, ?_, ?_, ?_, fun hh => ?_, fun hh => ?_⟩
    · show d.begin.room = _
      rw [e.2.2.2.2, hF.room]
    · show d.begin.N = _
      rw [e.1, hF.N]
    · show d.begin.calls = _
      have : d.begin.calls = d.calls + 1 := by
        unfold Dk.begin
        split
        · rfl
        · split <;> rfl
      rw [this, hF.calls]
      omega
    · show (upd d.begin.fl g _ g).now.length = _
      rw [upd, if_pos rfl]
      show (putAt (d.fl g).now (Int.toNat (a : Int)) [b]).length = _
      rw [putAt_length _ _ _ (by rw [hF.len]; omega), hF.len]
      show max a (Int.toNat (a : Int) + 1) = _
      omega
    · obtain ⟨f1, f2, f3⟩ := hF.before (by omega)
      have hb : d.begin = { d with calls := d.calls + 1, others := d.others - 1 } := by
        rw [Dk.begin, if_neg (by rw [f1]; simp), if_pos (by omega)]
      show d.begin.failing = true ∧ d.begin.others = _ ∧ _
      rw [hb]
      exact ⟨f1, by show d.others - 1 = _; omega, by omega⟩
    · obtain ⟨f1, f2⟩ := hF.behind (by omega)
      have hb : d.begin = { d with calls := d.calls + 1 } := d.begin_ok f1
      show d.begin.failing = false ∧ _
      rw [hb]
      exact ⟨f1, by omega⟩
theorem fail_size {own : Own} {w0 w : World} {f K n i a g : Nat} {d : Dk} (h : Held own w0 w f d K) (hF : FailAt n i a g d) :
    Calls Try.prog 18 #[.pointer (some ⟨f, 0, none⟩), .string sA] w fun e w' => e = .returned (.int .i64 (a : Int)) ∧ w' = w := by
  have hx : dget sA.data.toList d.N = some g := by rw [hF.N]; rfl
  have := size_some sA h.disk (by decide) hx
  rwa [hF.len] at this
set_option maxRecDepth 100000 in
set_option maxHeartbeats 1000000 in
theorem diskFail_walk (n k : Int) (w : World) (hn : -9223372036854775808 ≤ n ∧ n ≤ 9223372036854775807) (hk : -9223372036854775808 ≤ k ∧ k ≤ 9223372036854775807) :
    Calls Try.prog 6 #[.int .i64 n, .int .i64 k] w fun e w' => e = .returned (.bool true) ∧ Below w.heap.size w w' := by
  obtain ⟨hn1, hn2⟩ := hn
  obtain ⟨hk1, hk2⟩ := hk
  by_cases hbad : n < 0 ∨ 20 < n ∨ k < 0 ∨ 20 < k
  · have HB := Lib.hid hbad
    clear hbad
    go_enter Try.func6, Try.ntmps6
    go_wp2_with fail
    refine (begun_any w).mono ?_
    rintro e w1 ⟨rfl, hb1⟩
    rcases HB.out with h | h | h | h
    · go_wp2_with fail
      go_ret
      exact ⟨rfl, hb1⟩
    · have h' : 0 ≤ n := by omega
      go_wp2_with fail
      go_ret
      exact ⟨rfl, hb1⟩
    · by_cases h1 : n < 0
      · go_wp2_with fail
        go_ret
        exact ⟨rfl, hb1⟩
      · by_cases h2 : 20 < n
        · go_wp2_with fail
          go_ret
          exact ⟨rfl, hb1⟩
        · go_wp2_with fail
          go_ret
          exact ⟨rfl, hb1⟩
    · by_cases h1 : n < 0
      · go_wp2_with fail
        go_ret
        exact ⟨rfl, hb1⟩
      · by_cases h2 : 20 < n
        · go_wp2_with fail
          go_ret
          exact ⟨rfl, hb1⟩
        · have h3 : 0 ≤ k := by omega
          go_wp2_with fail
          go_ret
          exact ⟨rfl, hb1⟩
  · obtain ⟨nn, rfl⟩ : ∃ nn : Nat, n = (nn : Int) := ⟨n.toNat, by omega⟩
    obtain ⟨kk, rfl⟩ : ∃ kk : Nat, k = (kk : Int) := ⟨k.toNat, by omega⟩
    have hnn : nn ≤ 20 := by omega
    have hkk : kk ≤ 20 := by omega
    clear hbad hn1 hn2 hk1 hk2
    go_enter Try.func6, Try.ntmps6
    go_wp2_with fail
    refine (begun_any w).mono ?_
    rintro e w1 ⟨rfl, hb1⟩
    have HB1 := Lib.hid hb1
    clear hb1
    go_wp2_with fail
    have CN := new_held 2000 w1
    rw [show room 2000 = 2000 by decide] at CN
    refine CN.mono ?_
    rintro e w2 ⟨own2, f, rfl, h2⟩
    have H2 := Lib.hid h2
    clear h2 CN
    go_wp2_with fail
    refine (create_held sA H2.out (by decide) (by omega) rfl (by decide) (by decide)).mono ?_
    rintro e w3 ⟨own3, g, rfl, h3, _, _⟩
    have H3 := Lib.hid h3
    clear h3
    go_wp2_with fail
    refine (fail_held _ H3.out (by omega)).mono ?_
    rintro e w4 ⟨rfl, h4, _⟩
    have H4 := Lib.hid h4
    clear h4
    go_wp2_with fail
    have HF4 : Hid (FailAt nn 0 0 g _) := fail_start
    go_loopw [7, 8] (fun y z wr => ∃ (i a : Nat) (own : Own) (d : Dk), z = .int .i64 (i : Int) ∧ y = .int .i64 (a : Int) ∧ i ≤ kk ∧ a ≤ i ∧ Hid (Held own w1 wr f d (1 + i)) ∧ Hid (FailAt nn i a g d)) (fun _ z _ => kk - (RowKit.intOf z).toNat)
    case atStart => exact ⟨0, 0, own3, _, rfl, rfl, Nat.zero_le _, Nat.le_refl _, H4, HF4⟩
    case round =>
      obtain ⟨i, a, own, d, rfl, rfl, hi, hai, HD, HF⟩ := hrel
      by_cases hlt : i < kk
      · go_wp2_with fail
        refine (fail_step HD.out HF.out (by omega) (by omega) (by omega)).mono ?_
        rintro e w5 ⟨own5, d5, rfl, h5, f5⟩
        have H5 := Lib.hid h5
        have F5 := Lib.hid f5
        clear h5 f5
        by_cases hin : i = nn
        · subst hin
          have hii : (i : Int) = (i : Int) := rfl
          have F6 : Hid (FailAt i (i + 1) a g d5) := by have := F5.out; rw [if_pos rfl] at this; exact this
          rw [if_pos rfl]
          go_wp2_with fail
          refine ⟨⟨i + 1, a, own5, d5, by go_num, rfl, by omega, by omega, H5, F6⟩, by simp [RowKit.intOf]; omega⟩
        · have F6 : Hid (FailAt nn (i + 1) (a + 1) g d5) := by have := F5.out; rw [if_neg hin] at this; exact this
          have hin' : ¬ ((i : Int) = (nn : Int)) := by omega
          rw [if_neg hin]
          go_wp2_with fail
          refine ⟨⟨i + 1, a + 1, own5, d5, by go_num, by go_num, by omega, by omega, H5, F6⟩, by simp [RowKit.intOf]; omega⟩
      · obtain rfl : i = kk := by omega
        have hcal : d.calls = 1 + (i : Int) := HF.out.calls
        have CS := Lib.hid (fail_size HD.out HF.out)
        have CC := calls_held HD.out
        rw [hcal] at CC
        have HCC := Lib.hid CC
        clear CC hcal
        go_wp2_with fail
        refine CS.out.mono ?_
        rintro e w' ⟨rfl, rfl⟩
        go_wp2_with fail
        refine HCC.out.mono ?_
        rintro e w' ⟨rfl, rfl⟩
        have hone : (1 : Int) + (i : Int) = (i : Int) + 1 := by omega
        rw [hone]
        go_wp2_with fail
        go_ret
        exact ⟨rfl, HB1.out.trans (HD.out.below.mono HB1.out.size)⟩
end Go.Proofs.Ytebjapinhkeafaa.Disk
