/-
  Proved: what 'stillroom/stillroomlaw5.DiskReads' returns.
-/
import Derived.Test.YtebjapinhkeafaaDiskBase
namespace Go.Proofs.Ytebjapinhkeafaa.Disk
open Go.RowKit Go.Maps
set_option linter.unusedVariables false
set_option linter.unusedSimpArgs false

/-- Between two reads of the law: a file of 1000 bytes. -/
structure ReadAt (r : Int) (g : Nat) (d : Dk) : Prop where
  N : d.N = [(nmA, g)]
  calls : d.calls = 2
  len : (d.fl g).now.length = 1000
  reads : d.reads = r
theorem reads_look {own : Own} {w0 w : World} {f K g : Nat} {d : Dk} {r : Int} (h : Held own w0 w f d K) (hF : ReadAt r g d) : dget sA.data.toList d.N = some g := by rw [hF.N]; rfl
def zeros (n : Nat) : List UInt8 := List.replicate n 0
theorem zeros_made (n : Nat) : (madeCells #[Value.int .u8 0] n) = (bvs (zeros n)).toArray := by
  apply Array.ext'
  rw [toList_madeCells_one]
  simp only [zeros, bvs, List.map_replicate]
  rfl
theorem zeros_length (n : Nat) : (zeros n).length = n := List.length_replicate
theorem reads_write {own : Own} {w0 w : World} {f g : Nat} (h : Held own w0 w f ((newDk 5000 []).made sA g) 1) :
    Calls Try.prog 14 #[.pointer (some ⟨f, 0, none⟩), .string sA, .int .i64 0, .slice (some ⟨w.heap.size, 0, none⟩) 1000 1000] (w.alloc (.cells (madeCells #[.int .u8 0] 1000) 5)) fun e w' => ∃ own' d', e = .returned (.int .i64 0) ∧ ReadAt 0 g d' ∧ Held own' w0 w' f d' 2 := by
  have hfl : ((newDk 5000 []).made sA g).fl g = emptyFl := if_pos rfl
  have hN : ((newDk 5000 []).made sA g).N = [(nmA, g)] := rfl
  have h1 := h.all ((Below.refl _ w).alloc (Nat.le_refl _) (.cells (madeCells #[.int .u8 0] 1000) 5))
  have hR : Row (w.alloc (.cells (madeCells #[.int .u8 0] 1000) 5)) (w.heap.size + 1) (some ⟨w.heap.size, 0, none⟩) 1000 (bvs (zeros 1000)) := by
    have := Row.fresh w 5 (0, 0) (madeCells #[.int .u8 0] 1000)
    have hsz : (bvs (zeros 1000)).toArray.size = 1000 := by rw [List.size_toArray, bvs_length, zeros_length]
    rw [zeros_made, hsz] at this
    rw [zeros_made]
    exact this
  refine (write_held (g := g) (c := 1000) (bs := zeros 1000) sA 0 h1 (by decide) (by omega) rfl (by rfl) (by rw [hfl]; exact Nat.le_refl _) hR (by simp) (fun ad had => by
    injection had with had
    subst had
    exact h.fresh (Nat.le_refl _)) (Nat.le_refl _) (by decide) (by omega) (by
    rw [hfl, hN]
    show (((((newDk 5000 []).made sA g).fl g).now.length + 0 : Nat) : Int) + _ ≤ 5000
    rw [hfl, zeros_length]
    decide)).mono ?_
  rintro e w' ⟨own', L, he, hL, h2, _⟩
  refine ⟨own', ((newDk 5000 []).made sA g).put g ⟨putAt (((newDk 5000 []).made sA g).fl g).now 0 (zeros 1000), (((newDk 5000 []).made sA g).fl g).was, L⟩, he, ⟨hN, rfl, ?_, rfl⟩, h2⟩
  show (upd _ g _ g).now.length = _
  rw [upd, if_pos rfl, hfl]
  show (putAt [] 0 (zeros 1000)).length = _
  rw [putAt_length _ _ _ (Nat.zero_le _), zeros_length]
  rfl
theorem reads_good {own : Own} {w0 w : World} {f K g m : Nat} {d : Dk} {r : Int} (h : Held own w0 w f d K) (hF : ReadAt r g d) (hm : m ≤ 1000) (hK : K + 1 ≤ 1073741824) :
    Calls Try.prog 17 #[.pointer (some ⟨f, 0, none⟩), .string sA, .int .i64 0, .int .i64 (m : Int)] w fun e w' => ∃ v d', e = .returned (.tuple #[v, .int .i64 0]) ∧ ReadAt (r + m) g d' ∧ Held own w0 w' f d' (K + 1) := by
  refine (read_ok sA 0 m h.disk (by decide) (reads_look h hF) (by rw [hF.len]; omega) hK).mono ?_
  rintro e w' ⟨v, he, _, hd, hst⟩
  exact ⟨v, d.read m, he, ⟨hF.N, hF.calls, hF.len, by show d.reads + m = _; rw [hF.reads]⟩, h.next hst hd⟩
theorem reads_bad {own : Own} {w0 w : World} {f K g : Nat} {d : Dk} {r m : Int} (h : Held own w0 w f d K) (hF : ReadAt r g d) (hm : m < 0 ∨ 1000 < m) :
    Calls Try.prog 17 #[.pointer (some ⟨f, 0, none⟩), .string sA, .int .i64 0, .int .i64 m] w fun e w' => e = .returned (.tuple #[.slice none 0 0, .int .i64 6]) ∧ w' = w :=
  read_range sA 0 m h.disk (by decide) (reads_look h hF) (by rw [hF.len]; omega)
set_option maxRecDepth 100000 in
set_option maxHeartbeats 1000000 in
theorem diskReads_walk (B : Option Addr) (m d : Nat) (zs : List Int) (w : World) (hB : Row w w.heap.size B m (ivs zs)) (hm : m ≤ d) (hd : d ≤ maxLen) (hz : ∀ i, -9223372036854775808 ≤ zs.getD i 0 ∧ zs.getD i 0 ≤ 9223372036854775807) :
    Calls Try.prog 4 #[.slice B m d] w fun e w' => e = .returned (.bool true) ∧ Below w.heap.size w w' := by
  have hml : m ≤ 9223372036854775807 := by unfold maxLen at hd; omega
  have HB := Lib.hid hB
  have HZ := Lib.hid hz
  clear hB hz hd
  go_enter Try.func4, Try.ntmps4
  go_wp2_with fail
  refine (begun_any w).mono ?_
  rintro e w1 ⟨rfl, hb1⟩
  have HB1 := Lib.hid hb1
  clear hb1
  go_wp2_with fail
  have CN := new_held 5000 w1
  rw [show room 5000 = 5000 by decide] at CN
  refine CN.mono ?_
  rintro e w2 ⟨own2, f, rfl, h2⟩
  have H2 := Lib.hid h2
  clear h2 CN
  go_wp2_with fail
  refine (create_held sA H2.out (by decide) (by omega) rfl (by decide) (by decide)).mono ?_
  rintro e w3 ⟨own3, g, rfl, h3, _, _⟩
  have H3 := Lib.hid h3
  clear h3
  have hmk : ∀ w, (Instr.makeSlice 22 (.int .i64 1000) (.int .i64 1000)).run Try.prog w = .ok (.slice (some ⟨w.heap.size, 0, none⟩) 1000 1000) (w.alloc (.cells (madeCells #[.int .u8 0] 1000) 5)) := by
    intro w
    exact Go.run_make_row' (P := Try.prog) 22 5 (.int .u8 0) 1 Try.underlying22 (by kernel_rfl) rfl .i64 .i64 1000 (by omega) (by omega) w
  go_wp2_with fail
  refine (reads_write H3.out).mono ?_
  rintro e w4 ⟨own4, d4, rfl, f4, h4⟩
  have H4 := Lib.hid h4
  have F4 := Lib.hid f4
  clear h4 f4 hmk
  go_wp2_with fail
  go_loopw [5, 6] (fun y z wr => ∃ (i : Nat) (r : Int) (d : Dk), z = .int .i64 (i : Int) ∧ y = .int .i64 r ∧ i ≤ m ∧ i ≤ 30 ∧ 0 ≤ r ∧ r ≤ 1000 * (i : Int) ∧ Hid (Held own4 w1 wr f d (2 + i)) ∧ Hid (ReadAt r g d)) (fun _ z _ => m - (RowKit.intOf z).toNat)
  case atStart => exact ⟨0, 0, d4, rfl, rfl, Nat.zero_le _, by omega, by omega, by omega, H4, F4⟩
  case round =>
    obtain ⟨i, r, dd, rfl, rfl, hi, hi30, hr0, hr1, HD, HF⟩ := hrel
    by_cases hlt : i < m ∧ i < 30
    · obtain ⟨hl1, hl2⟩ := hlt
      obtain ⟨bb, oo, rfl, hbb, hcell⟩ := Row.int HB.out (by omega)
      have hc := (HB1.out.cell (p := ⟨bb, oo + i, none⟩) hbb).trans (hcell i hl1)
      have hc1 := (HD.out.below.cell (p := ⟨bb, oo + i, none⟩) (Nat.lt_of_lt_of_le hbb HB1.out.size)).trans hc
      have hzi := HZ.out i
      generalize zs.getD i 0 = x at *
      clear hcell hc
      obtain ⟨hz1, hz2⟩ := hzi
      by_cases hgood : 0 ≤ x ∧ x ≤ 1000
      · obtain ⟨hg1, hg2⟩ := hgood
        obtain ⟨xm, rfl⟩ : ∃ xm : Nat, x = (xm : Int) := ⟨x.toNat, by omega⟩
        have CR := Lib.hid (reads_good (m := xm) HD.out HF.out (by omega) (by omega))
        go_wp2_with fail
        refine CR.out.mono ?_
        rintro e w5 ⟨v, d5, rfl, f5, h5⟩
        have H5 := Lib.hid h5
        have F5 := Lib.hid f5
        have hc5 : w5.cell? ⟨bb, oo + i, none⟩ = some (.int .i64 (xm : Int)) := by
          have e1 := (h5.below.cell (p := ⟨bb, oo + i, none⟩) (Nat.lt_of_lt_of_le hbb HB1.out.size))
          have e2 := (HD.out.below.cell (p := ⟨bb, oo + i, none⟩) (Nat.lt_of_lt_of_le hbb HB1.out.size))
          exact e1.trans (e2.symm.trans hc1)
        clear h5 f5 CR
        go_wp2_with fail
        refine ⟨⟨i + 1, r + xm, d5, by go_num, by go_num, by omega, by omega, by omega, by omega, H5, F5⟩, by simp [RowKit.intOf]; omega⟩
      · have hbad : x < 0 ∨ 1000 < x := by omega
        have CR := Lib.hid (reads_bad (m := x) HD.out HF.out hbad)
        have HBAD := Lib.hid hbad
        clear hgood hbad
        go_wp2_with fail
        refine CR.out.mono ?_
        rintro e w' ⟨rfl, hww⟩
        obtain rfl := hww.symm
        clear CR hww
        have HD' : Hid (Held own4 w1 wr f dd (2 + (i + 1))) := HD.out.mono (by omega) (by omega)
        rcases HBAD.out with hx | hx
        · go_wp2_with fail
          refine ⟨⟨i + 1, r, dd, by go_num, rfl, by omega, by omega, by omega, by omega, HD', HF⟩, by simp [RowKit.intOf]; omega⟩
        · have hx' : 0 ≤ x := by omega
          go_wp2_with fail
          refine ⟨⟨i + 1, r, dd, by go_num, rfl, by omega, by omega, by omega, by omega, HD', HF⟩, by simp [RowKit.intOf]; omega⟩
    · have hE : Hid (Below w.heap.size w wr) := HB1.out.trans (HD.out.below.mono HB1.out.size)
      have CRD := reads_held HD.out
      rw [HF.out.reads] at CRD
      have CCL := calls_held HD.out
      rw [HF.out.calls] at CCL
      have H1 := Lib.hid CRD
      have H2 := Lib.hid CCL
      clear CRD CCL
      by_cases h1 : i < m
      · have h2 : i = 30 := by omega
        subst h2
        go_wp2_with fail
        refine H1.out.mono ?_
        rintro e w' ⟨rfl, rfl⟩
        go_wp2_with fail
        refine H2.out.mono ?_
        rintro e w' ⟨rfl, rfl⟩
        go_wp2_with fail
        go_ret
        exact ⟨rfl, hE.out⟩
      · obtain rfl : i = m := by omega
        clear hlt
        go_wp2_with fail
        refine H1.out.mono ?_
        rintro e w' ⟨rfl, rfl⟩
        go_wp2_with fail
        refine H2.out.mono ?_
        rintro e w' ⟨rfl, rfl⟩
        go_wp2_with fail
        go_ret
        exact ⟨rfl, hE.out⟩
end Go.Proofs.Ytebjapinhkeafaa.Disk
