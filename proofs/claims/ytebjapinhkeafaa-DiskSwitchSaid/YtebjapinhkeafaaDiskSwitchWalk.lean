/-
  Proved: what 'stillroom/stillroomlaw5.DiskSwitch' returns.
-/
import Derived.Test.YtebjapinhkeafaaDiskState
namespace Go.Proofs.Ytebjapinhkeafaa.Disk
open Go.RowKit Go.Maps
set_option linter.unusedVariables false
set_option linter.unusedSimpArgs false

def sCur : ByteArray := ⟨#[99, 117, 114]⟩
def sNew : ByteArray := ⟨#[110, 101, 119]⟩
def nCur : Nm := [99, 117, 114]
def nNew : Nm := [110, 101, 119]
def bOld : List UInt8 := [111, 108, 100]
/-- Ahead of the crash. -/
def Switched (d : Dk) : Prop := ∃ g1 g2, St d 2000 [(nCur, g2)] [(nCur, g1)] [⟨noName, sNew, some g2⟩, ⟨sNew, sCur, some g2⟩] [(g2, ⟨nNew, nNew, []⟩), (g1, ⟨bOld, bOld, []⟩)]
theorem switch_look {d d' : Dk} {n torn : Int} {keep : List Bool} (h : Switched d) (hc : d.Crashed d' n keep torn) : d'.look nCur = some (if 2 ≤ n then ⟨nNew, nNew, []⟩ else ⟨bOld, bOld, []⟩) := by
  obtain ⟨g1, g2, hS⟩ := h
  have e1 : d.fl g1 = ⟨bOld, bOld, []⟩ := hS.fl (g1, _) (by simp)
  have e2 : d.fl g2 = ⟨nNew, nNew, []⟩ := hS.fl (g2, _) (by simp)
  rw [hc.look, hS.crashDir]
  by_cases h2 : 2 ≤ n
  · rw [if_pos h2]
    have : (min (max n 0) (([⟨noName, sNew, some g2⟩, ⟨sNew, sCur, some g2⟩] : List Chg).length : Int)).toNat = 2 := by
      show (min (max n 0) (2 : Int)).toNat = 2
      omega
    rw [this]
    have e : List.foldl (fun (N : Dir) (c : Chg) => c.on N) [(nCur, g1)] (List.take 2 [⟨noName, sNew, some g2⟩, ⟨sNew, sCur, some g2⟩]) = [(nCur, g2)] := rfl
    rw [e, crash_first, e2, Fl.crash_clean rfl rfl]
    rfl
  · rw [if_neg h2]
    rcases (show n < 1 ∨ 1 ≤ n by omega) with h1 | h1
    · have : (min (max n 0) (([⟨noName, sNew, some g2⟩, ⟨sNew, sCur, some g2⟩] : List Chg).length : Int)).toNat = 0 := by
        show (min (max n 0) (2 : Int)).toNat = 0
        omega
      rw [this]
      have e : List.foldl (fun (N : Dir) (c : Chg) => c.on N) [(nCur, g1)] (List.take 0 [⟨noName, sNew, some g2⟩, ⟨sNew, sCur, some g2⟩]) = [(nCur, g1)] := rfl
      rw [e, crash_first, e1, Fl.crash_clean rfl rfl]
      rfl
    · have : (min (max n 0) (([⟨noName, sNew, some g2⟩, ⟨sNew, sCur, some g2⟩] : List Chg).length : Int)).toNat = 1 := by
        show (min (max n 0) (2 : Int)).toNat = 1
        omega
      rw [this]
      have e : List.foldl (fun (N : Dir) (c : Chg) => c.on N) [(nCur, g1)] (List.take 1 [⟨noName, sNew, some g2⟩, ⟨sNew, sCur, some g2⟩]) = [(nCur, g1), (nNew, g2)] := rfl
      rw [e, crash_first, e1, Fl.crash_clean rfl rfl]
      rfl
set_option maxRecDepth 100000 in
set_option maxHeartbeats 1000000 in
theorem diskSwitch_walk (n : Int) (A : Option Addr) (m c : Nat) (keep : List Bool) (torn : Int) (w : World) (hn : -9223372036854775808 ≤ n ∧ n ≤ 9223372036854775807) (hA : Row w w.heap.size A m (lvs keep)) (hm : m ≤ c) (hc : c ≤ maxLen) (ht : -9223372036854775808 ≤ torn ∧ torn ≤ 9223372036854775807) :
    Calls Try.prog 7 #[.int .i64 n, .slice A m c, .int .i64 torn] w fun e w' => e = .returned (.bool true) ∧ Below w.heap.size w w' := by
  obtain ⟨hn1, hn2⟩ := hn
  obtain ⟨ht1, ht2⟩ := ht
  have hml : m ≤ 9223372036854775807 := by unfold maxLen at hc; omega
  have hcl : c ≤ 9223372036854775807 := by unfold maxLen at hc; omega
  have hcv := fun (w : World) (C : Array Value) (n c : Nat) => Lib.run_convert_bytes_const (P := Try.prog) w 22 5 C n c Try.underlying22 Try.underlying5
  have HA := Lib.hid hA
  clear hA hc
  go_enter Try.func7, Try.ntmps7
  go_wp2_with fail
  refine (begun_any w).mono ?_
  rintro e w1 ⟨rfl, hb1⟩
  have HB1 := Lib.hid hb1
  clear hb1
  by_cases h10 : 10 < m
  · obtain ⟨b, o, rfl, _, _⟩ := HA.out.2 (by omega)
    have HA' : Hid (Row w w.heap.size (some ⟨b, o, none⟩) 10 (lvs (keep.take 10))) := by
      have hrow := HA.out.take (k := 10) (by omega)
      rw [lvs_take] at hrow
      exact hrow
    go_wp2_with fail
    have CN := new_held 2000 w1
    rw [show room 2000 = 2000 by decide] at CN
    refine CN.mono ?_
    rintro e w2 ⟨own2, f, rfl, h2⟩
    have H2 := Lib.hid h2
    clear h2 CN
    go_wp2_with fail
    refine (create_st sCur H2.out (St.new 2000) (by decide) (by omega) (by decide) (by decide) (by simp)).mono ?_
    rintro e w3 ⟨own3, g1, d3, rfl, h3, s3, _⟩
    have H3 := Lib.hid h3
    have S3 : Hid (St d3 2000 [(nCur, g1)] [] [⟨noName, sCur, some g1⟩] [(g1, emptyFl)]) := s3
    clear h3 s3
    go_wp2_with fail
    refine (write_fresh (m := 3) sCur 0 H3.out S3.out (by simp) (by decide) (by omega) (by rfl) (Nat.le_refl _) bOld rfl rfl (by omega) (by
      show (((d3.fl g1).now.length + 0 : Nat) : Int) + _ ≤ 2000
      rw [S3.out.head]
      decide)).mono ?_
    rintro e w4 ⟨own4, L4, d4, rfl, _, h4, s4⟩
    have H4 := Lib.hid h4
    have S4 : Hid (St d4 2000 [(nCur, g1)] [] [⟨noName, sCur, some g1⟩] [(g1, ⟨bOld, [], L4⟩)]) := s4
    clear h4 s4
    go_wp2_with fail
    refine (sync_st sCur H4.out S4.out (by simp) (by decide) (by omega) (by rfl)).mono ?_
    rintro e w5 ⟨own5, d5, rfl, h5, s5⟩
    have H5 := Lib.hid h5
    have S5 := Lib.hid s5
    clear h5 s5
    go_wp2_with fail
    refine (syncDir_st H5.out S5.out (by omega)).mono ?_
    rintro e w6 ⟨own6, d6, rfl, h6, s6⟩
    have H6 := Lib.hid h6
    have S6 : Hid (St d6 2000 [(nCur, g1)] [(nCur, g1)] [] [(g1, ⟨bOld, bOld, []⟩)]) := s6
    clear h6 s6
    go_wp2_with fail
    refine (create_st sNew H6.out S6.out (by decide) (by omega) (by decide) (by simp) (by
      intro p hp
      obtain rfl := List.mem_singleton.1 hp
      exact .inl (by rw [S6.out.N]; simp))).mono ?_
    rintro e w7 ⟨own7, g2, d7, rfl, h7, s7, n7⟩
    have H7 := Lib.hid h7
    have S7 : Hid (St d7 2000 [(nCur, g1), (nNew, g2)] [(nCur, g1)] [⟨noName, sNew, some g2⟩] [(g2, emptyFl), (g1, ⟨bOld, bOld, []⟩)]) := s7
    have N7 : Hid (∀ p ∈ [(g1, Fl.mk bOld bOld [])], p.1 ≠ g2) := n7
    clear h7 s7 n7
    go_wp2_with fail
    refine (write_fresh (m := 3) sNew 0 H7.out S7.out N7.out (by decide) (by omega) (by rfl) (Nat.le_refl _) nNew rfl rfl (by omega) (by
      show (((d7.fl g1).now.length + ((d7.fl g2).now.length + 0) : Nat) : Int) + _ ≤ 2000
      rw [S7.out.head, show d7.fl g1 = ⟨bOld, bOld, []⟩ from S7.out.fl (g1, _) (by simp)]
      decide)).mono ?_
    rintro e w8 ⟨own8, L8, d8, rfl, _, h8, s8⟩
    have H8 := Lib.hid h8
    have S8 : Hid (St d8 2000 [(nCur, g1), (nNew, g2)] [(nCur, g1)] [⟨noName, sNew, some g2⟩] [(g2, ⟨nNew, [], L8⟩), (g1, ⟨bOld, bOld, []⟩)]) := s8
    clear h8 s8
    go_wp2_with fail
    refine (sync_st sNew H8.out S8.out N7.out (by decide) (by omega) (by rfl)).mono ?_
    rintro e w9 ⟨own9, d9, rfl, h9, s9⟩
    have H9 := Lib.hid h9
    have S9 := Lib.hid s9
    clear h9 s9
    go_wp2_with fail
    refine (rename_st sNew sCur H9.out S9.out (by decide) (by decide) (by omega) (by rfl) (by decide)).mono ?_
    rintro e wa ⟨owna, da, rfl, ha, sa⟩
    have HD := Lib.hid ha
    have SD : Hid (Switched da) := ⟨g1, g2, sa⟩
    clear ha sa
    go_wp2_with fail
    refine (crash_held (c := c) n torn HD.out (HD.out.row (Row.more (HA'.out.below HB1.out) HB1.out.size)) HD.out.below.size (by omega)).mono ?_
    rintro e wb ⟨ownb, fb, db, rfl, _, hb, cb, _⟩
    have LB := switch_look SD.out cb
    have HB := Lib.hid hb
    clear hb cb
    by_cases hn2' : 2 ≤ n
    · rw [if_pos hn2'] at LB
      have CR := Lib.hid (read_look sCur 0 3 HB.out (by decide) LB (by decide) (by omega))
      clear LB
      go_wp2_with fail
      refine CR.out.mono ?_
      rintro e wd ⟨v, rfl, hr, hd, _⟩
      obtain ⟨A6, c6, rfl, _, _⟩ := own_form hr
      have cs := fun c => bytes_string (P := Try.prog) (c := c) (dst := 9) Try.underlying22 Try.underlying5 Try.underlying9 (Row.own hr)
      have HD2 := Lib.hid hd
      clear hr hd CR
      go_wp2_with fail
      go_ret
      exact ⟨rfl, HB1.out.trans (HD2.out.below.mono HB1.out.size)⟩
    · rw [if_neg hn2'] at LB
      have CR := Lib.hid (read_look sCur 0 3 HB.out (by decide) LB (by decide) (by omega))
      clear LB
      go_wp2_with fail
      refine CR.out.mono ?_
      rintro e wd ⟨v, rfl, hr, hd, _⟩
      obtain ⟨A6, c6, rfl, _, _⟩ := own_form hr
      have cs := fun c => bytes_string (P := Try.prog) (c := c) (dst := 9) Try.underlying22 Try.underlying5 Try.underlying9 (Row.own hr)
      have HD2 := Lib.hid hd
      clear hr hd CR
      go_wp2_with fail
      go_ret
      exact ⟨rfl, HB1.out.trans (HD2.out.below.mono HB1.out.size)⟩
  · have h10' : m ≤ 10 := by omega
    have HA' := HA
    go_wp2_with fail
    have CN := new_held 2000 w1
    rw [show room 2000 = 2000 by decide] at CN
    refine CN.mono ?_
    rintro e w2 ⟨own2, f, rfl, h2⟩
    have H2 := Lib.hid h2
    clear h2 CN
    go_wp2_with fail
    refine (create_st sCur H2.out (St.new 2000) (by decide) (by omega) (by decide) (by decide) (by simp)).mono ?_
    rintro e w3 ⟨own3, g1, d3, rfl, h3, s3, _⟩
    have H3 := Lib.hid h3
    have S3 : Hid (St d3 2000 [(nCur, g1)] [] [⟨noName, sCur, some g1⟩] [(g1, emptyFl)]) := s3
    clear h3 s3
    go_wp2_with fail
    refine (write_fresh (m := 3) sCur 0 H3.out S3.out (by simp) (by decide) (by omega) (by rfl) (Nat.le_refl _) bOld rfl rfl (by omega) (by
      show (((d3.fl g1).now.length + 0 : Nat) : Int) + _ ≤ 2000
      rw [S3.out.head]
      decide)).mono ?_
    rintro e w4 ⟨own4, L4, d4, rfl, _, h4, s4⟩
    have H4 := Lib.hid h4
    have S4 : Hid (St d4 2000 [(nCur, g1)] [] [⟨noName, sCur, some g1⟩] [(g1, ⟨bOld, [], L4⟩)]) := s4
    clear h4 s4
    go_wp2_with fail
    refine (sync_st sCur H4.out S4.out (by simp) (by decide) (by omega) (by rfl)).mono ?_
    rintro e w5 ⟨own5, d5, rfl, h5, s5⟩
    have H5 := Lib.hid h5
    have S5 := Lib.hid s5
    clear h5 s5
    go_wp2_with fail
    refine (syncDir_st H5.out S5.out (by omega)).mono ?_
    rintro e w6 ⟨own6, d6, rfl, h6, s6⟩
    have H6 := Lib.hid h6
    have S6 : Hid (St d6 2000 [(nCur, g1)] [(nCur, g1)] [] [(g1, ⟨bOld, bOld, []⟩)]) := s6
    clear h6 s6
    go_wp2_with fail
    refine (create_st sNew H6.out S6.out (by decide) (by omega) (by decide) (by simp) (by
      intro p hp
      obtain rfl := List.mem_singleton.1 hp
      exact .inl (by rw [S6.out.N]; simp))).mono ?_
    rintro e w7 ⟨own7, g2, d7, rfl, h7, s7, n7⟩
    have H7 := Lib.hid h7
    have S7 : Hid (St d7 2000 [(nCur, g1), (nNew, g2)] [(nCur, g1)] [⟨noName, sNew, some g2⟩] [(g2, emptyFl), (g1, ⟨bOld, bOld, []⟩)]) := s7
    have N7 : Hid (∀ p ∈ [(g1, Fl.mk bOld bOld [])], p.1 ≠ g2) := n7
    clear h7 s7 n7
    go_wp2_with fail
    refine (write_fresh (m := 3) sNew 0 H7.out S7.out N7.out (by decide) (by omega) (by rfl) (Nat.le_refl _) nNew rfl rfl (by omega) (by
      show (((d7.fl g1).now.length + ((d7.fl g2).now.length + 0) : Nat) : Int) + _ ≤ 2000
      rw [S7.out.head, show d7.fl g1 = ⟨bOld, bOld, []⟩ from S7.out.fl (g1, _) (by simp)]
      decide)).mono ?_
    rintro e w8 ⟨own8, L8, d8, rfl, _, h8, s8⟩
    have H8 := Lib.hid h8
    have S8 : Hid (St d8 2000 [(nCur, g1), (nNew, g2)] [(nCur, g1)] [⟨noName, sNew, some g2⟩] [(g2, ⟨nNew, [], L8⟩), (g1, ⟨bOld, bOld, []⟩)]) := s8
    clear h8 s8
    go_wp2_with fail
    refine (sync_st sNew H8.out S8.out N7.out (by decide) (by omega) (by rfl)).mono ?_
    rintro e w9 ⟨own9, d9, rfl, h9, s9⟩
    have H9 := Lib.hid h9
    have S9 := Lib.hid s9
    clear h9 s9
    go_wp2_with fail
    refine (rename_st sNew sCur H9.out S9.out (by decide) (by decide) (by omega) (by rfl) (by decide)).mono ?_
    rintro e wa ⟨owna, da, rfl, ha, sa⟩
    have HD := Lib.hid ha
    have SD : Hid (Switched da) := ⟨g1, g2, sa⟩
    clear ha sa
    go_wp2_with fail
    refine (crash_held (c := c) n torn HD.out (HD.out.row (Row.more (HA'.out.below HB1.out) HB1.out.size)) HD.out.below.size (by omega)).mono ?_
    rintro e wb ⟨ownb, fb, db, rfl, _, hb, cb, _⟩
    have LB := switch_look SD.out cb
    have HB := Lib.hid hb
    clear hb cb
    by_cases hn2' : 2 ≤ n
    · rw [if_pos hn2'] at LB
      have CR := Lib.hid (read_look sCur 0 3 HB.out (by decide) LB (by decide) (by omega))
      clear LB
      go_wp2_with fail
      refine CR.out.mono ?_
      rintro e wd ⟨v, rfl, hr, hd, _⟩
      obtain ⟨A6, c6, rfl, _, _⟩ := own_form hr
      have cs := fun c => bytes_string (P := Try.prog) (c := c) (dst := 9) Try.underlying22 Try.underlying5 Try.underlying9 (Row.own hr)
      have HD2 := Lib.hid hd
      clear hr hd CR
      go_wp2_with fail
      go_ret
      exact ⟨rfl, HB1.out.trans (HD2.out.below.mono HB1.out.size)⟩
    · rw [if_neg hn2'] at LB
      have CR := Lib.hid (read_look sCur 0 3 HB.out (by decide) LB (by decide) (by omega))
      clear LB
      go_wp2_with fail
      refine CR.out.mono ?_
      rintro e wd ⟨v, rfl, hr, hd, _⟩
      obtain ⟨A6, c6, rfl, _, _⟩ := own_form hr
      have cs := fun c => bytes_string (P := Try.prog) (c := c) (dst := 9) Try.underlying22 Try.underlying5 Try.underlying9 (Row.own hr)
      have HD2 := Lib.hid hd
      clear hr hd CR
      go_wp2_with fail
      go_ret
      exact ⟨rfl, HB1.out.trans (HD2.out.below.mono HB1.out.size)⟩
end Go.Proofs.Ytebjapinhkeafaa.Disk
