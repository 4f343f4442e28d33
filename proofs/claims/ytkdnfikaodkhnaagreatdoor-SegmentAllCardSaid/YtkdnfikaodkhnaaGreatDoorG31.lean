/-
  Texts one behind the other: NumText, SegLies, ScanAny.
-/
import Derived.Lib.AppendIntMem
import Derived.BigGuard
import Derived.BigCall
import Derived.Lib.MinMax
import Derived.StillTailTactics
import Derived.Deep.RegionLaw
import Derived.Test.YtkdnfikaodkhnaaGreatDoorG23
import Derived.Test.YtkdnfikaodkhnaaGreatDoorG24
import Derived.Test.YtkdnfikaodkhnaaGreatDoorG25
import Derived.Test.YtkdnfikaodkhnaaGreatDoorG30
/-
  Proved: what FormatUint and FormatInt of package strconv return at base 10: the digits of a number that is not negative.
-/
namespace Go.Proofs.YtkdnfikaodkhnaaGreatDoor.Seg
open Go.RowKit Go.Sort Go.Proofs.YtkdnfikaodkhnaaGreatDoor.Rec
set_option linter.unusedVariables false
set_option linter.unusedSimpArgs false

theorem dec_digits (n : Nat) : Lib.decDigits n = digits n := by
  induction n using Nat.strongRecOn with
  | _ n ih =>
    rw [Lib.decDigits]
    by_cases h : n < 10
    · rw [dif_pos h, digits_low h]
    · rw [dif_neg h, digits_high h, ih (n / 10) (by omega)]
theorem grow_below (w : World) (k : Nat) (os : Array Obj) : Below w.heap.size w (grow (w.drewN k) os) := Lib.below_grow w.heap.size w (Nat.le_refl _) k os
set_option maxHeartbeats 6400000 in
set_option maxRecDepth 100000 in
theorem uint10_any (u : Nat) (hu64 : u < 18446744073709551616) (w : World) (htab : Lib.TabIs Tryz.prog w "internal/strconv.uint64pow10" .u64 Lib.pow10Tab) :
    Calls Tryz.prog 75 #[.int .u64 (u : Int), .int .i64 10] w fun e w' => e = .returned (.string (str (digits u))) ∧ Below w.heap.size w w' := by
  have L := Shelf.fint
  by_cases hs : u < 100
  · have CS := Lib.hid (fun W : World => Any.internal_strconv_small { L with } u hs W)
    rw [dec_digits] at CS
    clear L
    go_enter Tryz.func75, Tryz.ntmps75
    go_wp2_with (go_at_call 93; refine (CS.out _).mono ?_; rintro e w' ⟨rfl, rfl⟩)
    go_ret
    exact ⟨rfl, Below.refl _ _⟩
  · have hu1 : 1 ≤ u := by omega
    have hnd20 : Lib.nDigits u ≤ 20 := by have := Lib.numDigits_eq u hu1 hu64; split at this <;> omega
    have hal : Tryz.prog.arrayLen 138 = 24 := by kernel_rfl
    have hsl : ∀ W, (Instr.sliceAt 138 (.pointer (some ⟨w.heap.size, 0, none⟩)) none (some (.int .i64 (Lib.nDigits u : Int))) none).run Tryz.prog W = .ok (.slice (some ⟨w.heap.size, 0, none⟩) (Lib.nDigits u) 24) W := fun W => by
      rw [run_sliceAt_array_h W 138 ⟨w.heap.size, 0, none⟩ (by kernel_rfl) .i64 (Lib.nDigits u : Int) (by omega) (by rw [hal]; omega)]
      go_simp
    have hH0 := Lib.holds_zero0 w 138 (Lib.nDigits u) (by omega)
    have hfmt := Any.internal_strconv_formatBase10 { L with } w.heap.size 0 24 u (Array.replicate (Lib.nDigits u) 0) (w.alloc (.cells Lib.zeros24 138)) hH0 (by rw [Array.size_replicate]; exact Lib.lt_pow_nDigits u) hu64 (by rw [Array.size_replicate]; omega)
    rw [Array.size_replicate] at hfmt
    have HH0 := Lib.hid hH0
    have HFMT := Lib.hid hfmt
    have CD := Lib.hid (Any.internal_strconv_numDigits { L with } u hu1 hu64 _ (Lib.tabIs_alloc htab (.cells Lib.zeros24 138)))
    have iu : (100 : Int) ≤ (u : Int) := by omega
    clear hH0 hal hfmt L
    go_enter Tryz.func75, Tryz.ntmps75
    go_wp2_with (first
      | (go_at_call 94; refine CD.out.mono ?_; rintro e w' ⟨rfl, rfl⟩)
      | (go_at_call 95; fail))
    go_at_call 95
    refine HFMT.out.mono ?_
    rintro e w' ⟨rfl, k, v', dk, rfl, hF⟩
    have hcv : (convert 53 9 (.slice (some ⟨w.heap.size, 0, none⟩) (Lib.nDigits u) 24)).run Tryz.prog ((putRow (fun (b : UInt8) => Value.int .u8 (b.toNat : Int)) (w.alloc (.cells Lib.zeros24 138)) w.heap.size 0 dk).drewN k) = .ok (.string ⟨(Lib.decDigits u).toArray⟩) ((putRow (fun (b : UInt8) => Value.int .u8 (b.toNat : Int)) (w.alloc (.cells Lib.zeros24 138)) w.heap.size 0 dk).drewN k) := by
      have h := run_convert_bytes_back (P := Tryz.prog) ((putRow (fun (b : UInt8) => Value.int .u8 (b.toNat : Int)) (w.alloc (.cells Lib.zeros24 138)) w.heap.size 0 dk).drewN k) 53 9 5 ⟨w.heap.size, 0, none⟩ 24 (Lib.decDigits u) Tryz.underlying53 Tryz.underlying5 Tryz.underlying9 (fun j hj => by
        rw [Lib.row_is_numeral hF j hj, Lib.add_plain, World.cell?_drewN]
        exact cell?_putRow (fun (b : UInt8) => Value.int .u8 (b.toNat : Int)) _ w.heap.size 0 _ dk HH0.out (by rw [hF.size, Array.size_replicate]) j (by rw [hF.size]; rw [Lib.decDigits_length] at hj; exact hj))
      rw [Lib.decDigits_length] at h
      exact h
    go_wp2
    go_ret
    obtain ⟨os, eo⟩ := Lib.fin_at w (.cells Lib.zeros24 138) dk k 0
    refine ⟨?_, ?_⟩
    · rw [dec_digits]; rfl
    · rw [eo]; exact grow_below w k os
theorem formatUint_any (u : Nat) (hu64 : u < 18446744073709551616) (w : World) (htab : Lib.TabIs Tryz.prog w "internal/strconv.uint64pow10" .u64 Lib.pow10Tab) :
    Calls Tryz.prog 45 #[.int .u64 (u : Int), .int .i64 10] w fun e w' => e = .returned (.string (str (digits u))) ∧ Below w.heap.size w w' := by
  have CU := Lib.hid (uint10_any u hu64 w htab)
  clear htab
  go_enter Tryz.func45, Tryz.ntmps45
  go_wp2_with (go_at_call 75; refine CU.out.mono ?_; rintro e w1 ⟨rfl, hb⟩)
  go_ret
  exact ⟨rfl, hb⟩
theorem formatInt_any (u : Nat) (hu : u ≤ 9223372036854775807) (w : World) (htab : Lib.TabIs Tryz.prog w "internal/strconv.uint64pow10" .u64 Lib.pow10Tab) :
    Calls Tryz.prog 46 #[.int .i64 (u : Int), .int .i64 10] w fun e w' => e = .returned (.string (str (digits u))) ∧ Below w.heap.size w w' := by
  refine (Any.strconv_FormatInt_10 Shelf.fint (u : Int) (by omega) (by omega) w htab).mono ?_
  rintro e w' ⟨rfl, k, os, rfl⟩
  rw [Lib.itoa_nonneg, dec_digits]
  exact ⟨rfl, grow_below w k os⟩
set_option maxRecDepth 100000 in
set_option maxHeartbeats 2000000 in
theorem name_any (id num : Nat) (w : World) (htab : Lib.TabIs Tryz.prog w "internal/strconv.uint64pow10" .u64 Lib.pow10Tab) (hid : id < 4294967296) (hn : num ≤ 1099511627776) :
    Calls Tryz.prog 20 #[.int .u32 (id : Int), .int .i64 (num : Int)] w fun e w' => e = .returned (.string (str (segName id num))) ∧ Below w.heap.size w w' := by
  have CU := Lib.hid (formatUint_any id (by omega) w htab)
  have CI : Hid (∀ w1, Below w.heap.size w w1 → Calls Tryz.prog 46 #[.int .i64 (num : Int), .int .i64 10] w1 fun e w' => e = .returned (.string (str (digits num))) ∧ Below w1.heap.size w1 w') := fun w1 hb => formatInt_any num (by omega) w1 (tab_below htab hb)
  have HE : Hid (((⟨#[116]⟩ : ByteArray) ++ str (digits id) ++ (⟨#[46]⟩ : ByteArray)) ++ str (digits num) = str (segName id num)) := by
    apply ByteArray.ext
    simp [str, segName]
  have d1 := digits_length 9 id (by omega)
  have d2 := digits_length 12 num (by omega)
  obtain ⟨s1, h1⟩ : ∃ s, s = str (digits id) := ⟨_, rfl⟩
  obtain ⟨s2, h2⟩ : ∃ s, s = str (digits num) := ⟨_, rfl⟩
  have z1 : s1.size ≤ 10 := by rw [h1, str_size]; exact d1
  have z2 : s2.size ≤ 13 := by rw [h2, str_size]; exact d2
  rw [← h1] at CU HE
  rw [← h2] at CI HE
  clear htab d1 d2 h1 h2
  go_enter Tryz.func20, Tryz.ntmps20
  go_wp2_with (first
    | (go_at_call 45; refine CU.out.mono ?_; rintro e w1 ⟨rfl, hb1⟩; have HB1 := Lib.hid hb1; clear hb1)
    | (go_at_call 46; refine (CI.out _ HB1.out).mono ?_; rintro e w2 ⟨rfl, hb2⟩; have HB2 := Lib.hid (HB1.out.trans (hb2.mono HB1.out.size)); clear hb2))
  go_ret
  refine ⟨?_, HB2.out⟩
  rw [← HE.out]
  rfl
set_option maxRecDepth 100000 in
theorem nameNone_any (id : Nat) (num : Int) (w : World) (hn : num < 0 ∨ 1099511627776 < num) (hb : -9223372036854775808 ≤ num ∧ num ≤ 9223372036854775807) :
    Calls Tryz.prog 20 #[.int .u32 (id : Int), .int .i64 num] w fun e w' => e = .returned (.string ⟨#[]⟩) ∧ w' = w := by
  by_cases h : num < 0
  · clear hn hb
    go_enter Tryz.func20, Tryz.ntmps20
    go_wp2
    go_ret
    exact ⟨rfl, rfl⟩
  · have h2 : 1099511627776 < num := by omega
    have h3 : 0 ≤ num := by omega
    clear hn hb
    go_enter Tryz.func20, Tryz.ntmps20
    go_wp2
    go_ret
    exact ⟨rfl, rfl⟩
end Go.Proofs.YtkdnfikaodkhnaaGreatDoor.Seg
/-
  How a segment lies in memory beside its disk; proved: what its calls Size and bytes do.
-/

namespace Go.Proofs.YtkdnfikaodkhnaaGreatDoor.Seg
open Go.RowKit Go.Proofs.YtkdnfikaodkhnaaGreatDoor.Disk Go.Proofs.YtkdnfikaodkhnaaGreatDoor.Rec
set_option linter.unusedVariables false
set_option linter.unusedSimpArgs false

/-- A segment and its disk, as they lie in memory. -/
structure Lies (own : Own) (w0 w : World) (v : Sv) (d : Dk) : Prop where
  disk : Held own w0 w v.f d v.K
  room : d.room = v.rm
  N : d.N = v.N
  one : v.N = [(segName v.id v.num, v.g)]
  S : d.S = v.S
  wait : d.wait = v.wt
  fl : d.fl v.g = v.x
  blk : Blk w v.sg 67 #[ptr v.f, .int .u32 (v.id : Int), .string (str (segName v.id v.num))]
  own : own v.sg = some (v.sg, v.sg)
  ne : v.sg ≠ v.f
  id : v.id < 4294967296
  num : v.num ≤ 1099511627776
section
variable {own own' : Own} {w0 w w' : World} {v : Sv} {d : Dk}
theorem Lies.look (h : Lies own w0 w v d) : d.look (segName v.id v.num) = some v.x := by
  rw [Dk.look, h.N, h.one]
  simp [Disk.dget, h.fl]
theorem Lies.look' (h : Lies own w0 w v d) : d.look (str (segName v.id v.num)).data.toList = some v.x := h.look
theorem Lies.dget (h : Lies own w0 w v d) : dget (segName v.id v.num) d.N = some v.g := by
  rw [h.N, h.one]
  simp [Disk.dget]
theorem name_small {id num : Nat} (h1 : id < 4294967296) (h2 : num ≤ 1099511627776) : (str (segName id num)).size ≤ maxLen := by
  rw [str_size]
  have := segName_length h1 h2
  unfold maxLen
  omega
theorem Lies.nm (h : Lies own w0 w v d) : (str (segName v.id v.num)).size ≤ maxLen := name_small h.id h.num
theorem Lies.xok (h : Lies own w0 w v d) : v.x.Ok := h.disk.ok h.look
theorem Lies.all (h : Lies own w0 w v d) (hb : Below w.heap.size w w') : Lies own w0 w' v d :=
  { h with disk := h.disk.all hb, blk := (hb.block _ (blk_lt' h.blk)).trans h.blk }
theorem Lies.step {d' : Dk} {x' : Fl} {K' : Nat} {S' : Dir} {wt' : List Chg} (h : Lies own w0 w v d) (hs : Step own own' v.f w w') (hd : Held own' w0 w' v.f d' K') (h1 : d'.room = d.room) (h2 : d'.N = d.N) (h3 : d'.S = S') (h4 : d'.wait = wt') (h5 : d'.fl v.g = x') :
    Lies own' w0 w' { v with x := x', K := K', S := S', wt := wt' } d' where
  disk := hd
  room := h1.trans h.room
  N := h2.trans h.N
  one := h.one
  S := h3
  wait := h4
  fl := h5
  blk := (hs.block _ (blk_lt' h.blk) (fun g e => h.ne (by rw [h.own] at e; injection e with e; injection e))).trans h.blk
  own := (hs.same _ (blk_lt' h.blk)).trans h.own
  ne := h.ne
  id := h.id
  num := h.num
theorem Lies.reads (h : Lies own w0 w v d) {n K' : Nat} (hs : Step own own v.f w w') (hd : Held own w0 w' v.f (d.read n) K') : Lies own w0 w' { v with K := K' } (d.read n) := by
  have := h.step (S' := v.S) (wt' := v.wt) (x' := v.x) hs hd rfl rfl h.S h.wait h.fl
  exact this
/-- A segment on another disk stays. -/
theorem Lies.other {w2 : World} {f : Nat} (h : Lies own w2 w v d) (hs : Step own own' f w w') (ht : ∀ b p, own' b = some p → b < w'.heap.size) (n1 : v.f ≠ f) (n2 : v.sg ≠ f) : Lies own' w2 w' v d :=
  { h with
    disk := h.disk.other hs n1 ht
    blk := (hs.block _ (blk_lt' h.blk) (fun g e => n2 (by rw [h.own] at e; injection e with e; injection e))).trans h.blk
    own := (hs.same _ (blk_lt' h.blk)).trans h.own }
theorem Lies.top (h : Lies own w0 w v d) : ∀ b p, own b = some p → b < w.heap.size := h.disk.top
theorem Lies.stepAll (h : Lies own w0 w v d) (hb : Below w.heap.size w w') : Step own own v.f w w' := Step.of_below h.top hb
end
/-- On a disk that fails no call; on one whose call behind k others is to fail. -/
def SG (own : Own) (w0 w : World) (v : Sv) : Prop := ∃ d, Lies own w0 w v d ∧ d.failing = false
def SF (own : Own) (w0 w : World) (v : Sv) (k : Nat) : Prop := ∃ d, Lies own w0 w v d ∧ d.failing = true ∧ d.others = (k : Int)
theorem frs_step {own own' : Own} {w w' : World} {f sg : Nat} (hs : Step own own' f w w') (ht : ∀ b p, own' b = some p → b < w'.heap.size) : FrS SG f sg own own' w w' :=
  ⟨Fr.of_step hs, fun w2 v2 n1 _ _ n2 ⟨d, h, hf⟩ => ⟨d, h.other hs ht n1 n2, hf⟩⟩
set_option maxRecDepth 100000 in
set_option maxHeartbeats 2000000 in
theorem size_lies {own : Own} {w0 w : World} {v : Sv} {d : Dk} (h : Lies own w0 w v d) :
    Calls Tryz.prog 11 #[ptr v.sg] w fun e w' => e = .returned (.int .i64 (v.x.now.length : Int)) ∧ Below w.heap.size w w' := by
  have c0 : w.cell? ⟨v.sg, 0, none⟩ = some (ptr v.f) := Blk.cell h.blk 0
  have c2 : w.cell? ⟨v.sg, 2, none⟩ = some (.string (str (segName v.id v.num))) := Blk.cell h.blk 2
  have hd := h.all (Below.refl w.heap.size w).drew
  have CS := Lib.hid (size_look _ hd.disk hd.nm hd.look')
  have hmax : max (v.x.now.length : Int) 0 = (v.x.now.length : Int) := by omega
  have hl := h.xok.max
  obtain ⟨sg, hsg⟩ : ∃ sg, sg = v.sg := ⟨_, rfl⟩
  obtain ⟨f, hf⟩ : ∃ f, f = v.f := ⟨_, rfl⟩
  obtain ⟨nm, hnm⟩ : ∃ nm, nm = str (segName v.id v.num) := ⟨_, rfl⟩
  obtain ⟨n, hn⟩ : ∃ n, n = v.x.now.length := ⟨_, rfl⟩
  rw [← hsg, ← hf] at c0
  rw [← hsg, ← hnm] at c2
  rw [← hf, ← hnm, ← hn] at CS
  rw [← hn] at hmax hl ⊢
  rw [← hsg]
  clear h hsg hf hnm hn hd
  unfold ptr at *
  go_enter Tryz.func11, Tryz.ntmps11
  go_wp2_with fail
  go_still_tail 9, (by kernel_rfl)
  still_call (CS.out)
  repeat still_step
  refine wpStill_nil ?_
  change wpList _ _ _ _ _ w.drew
  go_wp2
  go_ret
  exact ⟨rfl, (Below.refl _ _).drew⟩
set_option maxRecDepth 100000 in
set_option maxHeartbeats 2000000 in
theorem bytes_lies {own : Own} {w0 w : World} {v : Sv} {d : Dk} (a n : Nat) (h : Lies own w0 w v d) (hn : a + n ≤ v.x.now.length) (hK : v.K + 1 ≤ 1073741824) :
    Calls Tryz.prog 44 #[ptr v.sg, .int .i64 (a : Int), .int .i64 (n : Int)] w fun e w' => ∃ A c, e = .returned (.slice A n c) ∧ n ≤ c ∧ c ≤ maxLen ∧ Free own w' A n (bvs ((v.x.now.drop a).take n)) ∧ Lies own w0 w' { v with K := v.K + 1 } (d.read n) ∧ Step own own v.f w w' := by
  have c0 : w.cell? ⟨v.sg, 0, none⟩ = some (ptr v.f) := Blk.cell h.blk 0
  have c2 : w.cell? ⟨v.sg, 2, none⟩ = some (.string (str (segName v.id v.num))) := Blk.cell h.blk 2
  have hb := (Below.refl w.heap.size w).drew
  have hd := h.all hb
  have CR := Lib.hid (read_look _ a n hd.disk hd.nm hd.look' hn hK)
  have HH := Lib.hid hd
  have HS := Lib.hid (h.stepAll hb)
  obtain ⟨sg, hsg⟩ : ∃ sg, sg = v.sg := ⟨_, rfl⟩
  obtain ⟨f, hf⟩ : ∃ f, f = v.f := ⟨_, rfl⟩
  obtain ⟨nm, hnm⟩ : ∃ nm, nm = str (segName v.id v.num) := ⟨_, rfl⟩
  rw [← hsg, ← hf] at c0
  rw [← hsg, ← hnm] at c2
  rw [← hf, ← hnm] at CR
  have HF := Lib.hid hf
  have HSG := Lib.hid hsg
  rw [← hsg]
  clear h hsg hf hnm hd hb hn hK
  have ep : ptr f = .pointer (some ⟨f, 0, none⟩) := rfl
  unfold ptr
  rw [ep] at c0
  clear ep
  go_enter Tryz.func44, Tryz.ntmps44
  go_wp2_with fail
  go_region_law (go_simp; go_at_call 66; refine CR.out.mono ?_; rintro e w1 ⟨u, rfl, hr, hd1, hst⟩)
  all_goals
    obtain ⟨A, c, rfl, h1, h2⟩ := own_form hr
    rw [HF.out] at hd1 hst
    have HL := Lib.hid (HH.out.reads hst hd1)
    have HA := Lib.hid (HH.out.disk.answer hr)
    have HT := Lib.hid (HS.out.trans hst)
    have H1 := Lib.hid h1
    have H2 := Lib.hid h2
    clear hr hd1 hst h1 h2
    go_wp2
    go_ret
    exact ⟨A, c, rfl, H1.out, H2.out, HA.out, by rw [HSG.out]; exact HL.out, HT.out⟩
end Go.Proofs.YtkdnfikaodkhnaaGreatDoor.Seg
/-
  Proved: what All and Front of package scan return (an empty text too): the records that stand in a list of bytes, and at its front.
  Conditions: the slice reads as bytes, not too many; the table crc.turned holds its sixteen words.
-/
namespace Go.Proofs.YtkdnfikaodkhnaaGreatDoor.Rec
open Go.RowKit
open Go.Proofs.YtkdnfikaodkhnaaGreatDoor.Crc (Turned)
set_option linter.unusedVariables false
set_option linter.unusedSimpArgs false

set_option maxRecDepth 100000 in
set_option maxHeartbeats 8000000 in
theorem scanrow_none (w0 : World) (v0 : Value) (l0 : List (Nat × Rc)) (c : Nat) (w : World) (hF : Fd w0 94 w v0 l0) (hT : Turned w0) (hc : c ≤ maxLen) :
    Calls Tryz.prog 80 #[v0, .slice none 0 c, .int .i64 0] w fun e w' => e = .returned (.tuple #[v0, .int .i64 0]) ∧ Fd w0 94 w' v0 l0 := by
  have hcm : c ≤ 9223372036854775807 := by unfold maxLen at hc; exact hc
  have HF := Lib.hid hF
  have hz := zeroRec
  have CD := Lib.hid (decode_any none 0 c [] w (turned_kept hT hF.below) empty_row (Nat.zero_le _) hc)
  rw [dec_nil] at CD
  clear hc hT hF
  go_enter Tryz.func80, Tryz.ntmps80
  go_wp2_with fail
  go_loopw [0, 2] (fun v i wr => v = v0 ∧ i = .int .i64 0 ∧ wr = w) (fun _ i _ => 0)
  case atStart => exact ⟨rfl, rfl, rfl⟩
  case round =>
    obtain ⟨rfl, rfl, rfl⟩ := hrel
    have CD2 : Hid (Calls Tryz.prog 43 #[.slice none 0 c] wr fun E w' => E = .returned (.tuple #[.agg zeroRc.vals, .int .i64 0, .int .i64 11]) ∧ Below wr.heap.size wr w') := CD.out
    clear CD
    go_upto_region 2 with (first
        | (go_at_call 43; refine CD2.out.mono ?_; rintro E w2 ⟨rfl, hb2⟩; have HF2 := Lib.hid (HF.out.all hb2); clear hb2)
        | (refine store_recN (zero_new w2) rfl rfl (.tmp 8) (.tmp 16) rfl rfl zeroRc rfl rfl ?_; intro w3 X3 G3))
    have HF3 : Hid (Fd w0 94 w3 u0 l0) := fd_store HF2.out G3.out
    clear G3
    go_wp2_with fail
    go_ret2
    exact ⟨rfl, HF3.out⟩
set_option maxRecDepth 100000 in
set_option maxHeartbeats 8000000 in
theorem scanrow_zero (w0 : World) (v0 : Value) (l0 : List (Nat × Rc)) (ad : Addr) (c : Nat) (w : World) (hF : Fd w0 94 w v0 l0) (hT : Turned w0) (hc : c ≤ maxLen) :
    Calls Tryz.prog 80 #[v0, .slice (some ad) 0 c, .int .i64 0] w fun e w' => e = .returned (.tuple #[v0, .int .i64 0]) ∧ Fd w0 94 w' v0 l0 := by
  have hcm : c ≤ 9223372036854775807 := by unfold maxLen at hc; exact hc
  have HF := Lib.hid hF
  have hz := zeroRec
  have CD : Hid (∀ P, Calls Tryz.prog 43 #[.slice P 0 c] w fun E w' => E = .returned (.tuple #[.agg zeroRc.vals, .int .i64 0, .int .i64 11]) ∧ Below w.heap.size w w') := by
    intro P
    have h := decode_any P 0 c [] w (turned_kept hT hF.below) empty_row (Nat.zero_le _) hc
    rw [dec_nil] at h
    exact h
  clear hc hT hF
  go_enter Tryz.func80, Tryz.ntmps80
  go_wp2_with fail
  go_loopw [0, 2] (fun v i wr => v = v0 ∧ i = .int .i64 0 ∧ wr = w) (fun _ i _ => 0)
  case atStart => exact ⟨rfl, rfl, rfl⟩
  case round =>
    obtain ⟨rfl, rfl, rfl⟩ := hrel
    go_upto_region 2 with (first
        | (go_at_call 43; refine (CD.out _).mono ?_; rintro E w2 ⟨rfl, hb2⟩; have HF2 := Lib.hid (HF.out.all hb2); clear hb2)
        | (refine store_recN (zero_new w2) rfl rfl (.tmp 8) (.tmp 16) rfl rfl zeroRc rfl rfl ?_; intro w3 X3 G3))
    have HF3 : Hid (Fd w0 94 w3 u0 l0) := fd_store HF2.out G3.out
    clear G3
    go_wp2_with fail
    go_ret2
    exact ⟨rfl, HF3.out⟩
/-- .. whatever the slice. -/
theorem scanrow_any (w0 : World) (v0 : Value) (l0 : List (Nat × Rc)) (A : Option Addr) (n c p0 : Nat) (bs : List UInt8) (w : World) (hF : Fd w0 94 w v0 l0) (hT : Turned w0) (hR : Row w0 w0.heap.size A n (bvs bs)) (hnc : n ≤ c) (hc : c ≤ maxLen) (hn : n ≤ 8388608) (hp0 : p0 ≤ n) (hl0 : l0.length ≤ p0) :
    Calls Tryz.prog 80 #[v0, .slice A n c, .int .i64 (p0 : Int)] w fun e w' => ∃ v, e = .returned (.tuple #[v, .int .i64 ((endOf p0 (frontFrom p0 bs) : Nat) : Int)]) ∧ Fd w0 94 w' v (l0 ++ frontFrom p0 bs) := by
  rcases Nat.eq_zero_or_pos n with h0 | h0
  · subst h0
    obtain rfl : p0 = 0 := by omega
    obtain rfl : bs = [] := List.eq_nil_of_length_eq_zero hR.size
    rw [front_nil, List.append_nil]
    cases A with
    | none => exact (scanrow_none w0 v0 l0 c w hF hT hc).mono fun e w' h => ⟨v0, h.1, h.2⟩
    | some ad => exact (scanrow_zero w0 v0 l0 ad c w hF hT hc).mono fun e w' h => ⟨v0, h.1, h.2⟩
  · obtain ⟨b, o, rfl, _, _⟩ := hR.2 h0
    exact scanrow_some w0 v0 l0 b o n c p0 bs w hF hT hR hnc hc hn hp0 hl0
set_option maxRecDepth 100000 in
set_option maxHeartbeats 8000000 in
theorem scanfront_any (A : Option Addr) (n c : Nat) (bs : List UInt8) (w : World) (hT : Turned w) (hR : Row w w.heap.size A n (bvs bs)) (hnc : n ≤ c) (hc : c ≤ maxLen) (hn : n ≤ 8388608) :
    Calls Tryz.prog 54 #[.slice A n c] w fun e w' => ∃ v, e = .returned (.tuple #[v, .int .i64 ((endOf 0 (frontFrom 0 bs) : Nat) : Int)]) ∧ Fd w 94 w' v (frontFrom 0 bs) := by
  have C := Lib.hid (scanrow_any w (.slice none 0 0) [] A n c 0 bs w (Fd.nil w _) hT hR hnc hc hn (Nat.zero_le _) (Nat.zero_le _))
  clear hT hR
  go_enter Tryz.func54, Tryz.ntmps54
  go_wp2_with (go_at_call 80; refine C.out.mono ?_; rintro e w2 ⟨v, rfl, h2⟩)
  go_ret2
  exact ⟨v, rfl, h2⟩
end Go.Proofs.YtkdnfikaodkhnaaGreatDoor.Rec
