/-
  Proved: law 5's 'begun' returns true, and turns nothing that lay.
-/
import Derived.Test.YtebjapinhkeafaaDiskBytes
import Derived.Lib.SlBytesConst
namespace Go.Proofs.Ytebjapinhkeafaa.Disk
open Go.RowKit Go.Maps
set_option linter.unusedVariables false
set_option linter.unusedSimpArgs false

def sA : ByteArray := ⟨#[97]⟩
def nmA : Nm := [97]
def xyz : List UInt8 := [120, 121, 122]
/-- .. behind Create and Write. -/
def begunDk (g : Nat) (fl : Nat → Fl) (L : Secs) : Dk := ⟨1000, [(nmA, g)], [], [⟨noName, sA, some g⟩], 2, 0, false, 0, upd fl g ⟨xyz, [], L⟩⟩
theorem begun_secs {own : Own} {w0 w : World} {f K g : Nat} {fl : Nat → Fl} {L : Secs} (h : Held own w0 w f (begunDk g fl L) K) (hL : ∀ t, shas t L = (shas t [] || touches 0 3 t)) : L.map (·.1) = [0] := by
  have hl : (begunDk g fl L).look nmA = some ⟨xyz, [], L⟩ := by
    show some (upd fl g _ g) = _
    rw [upd, if_pos rfl]
  exact touched (h.ok hl).rising hL
theorem one_secs {L : Secs} (h : L.map (·.1) = [0]) : L.length = 1 := by
  have := congrArg List.length h
  rwa [List.length_map] at this
theorem begun_crash {L : Secs} (h : L.map (·.1) = [0]) : (Fl.mk xyz [] L).crash (partsFor 0 L.length [true] (-1)) = xyz ∧ (Fl.mk xyz [] L).crash (partsFor 0 L.length [] (-1)) = [] := by
  have hl := one_secs h
  unfold Fl.crash Fl.crashLen
  dsimp only
  rw [hl, h]
  exact ⟨by decide, by decide⟩
theorem bytes_string {P : Program} {w : World} {B n c : Nat} {A : Option Addr} {bs : List UInt8} {src dst e : TypeId} (hs : P.underlying src = some (.slice e)) (he : P.underlying e = some (.int .u8)) (hd : P.underlying dst = some .string)
    (hR : Row w B A n (bvs bs)) : (convert src dst (.slice A n c)).run P w = .ok (.string ⟨bs.toArray⟩) w := by
  rcases Nat.eq_zero_or_pos n with h0 | h0
  · subst h0
    obtain rfl : bs = [] := List.eq_nil_of_length_eq_zero hR.size
    rcases A with _ | a
    · exact run_convert_bytes_nil w src e hs he 0 c dst hd
    · rw [run_convert_bytes_string w src dst e _ 0 c hs he hd, run_bytesToString w _ 0 c [] (run_loadCells_list (P := P) w a [] (fun j v hv => by simp at hv))]
      rfl
  · obtain ⟨b, o, rfl, _, hc⟩ := hR.byte h0
    rw [run_convert_bytes_arg w src e hs he b o n c (bs.map fun x => (x.toNat : Int)) (by rw [List.length_map]; exact hR.size) (fun i hi => by
      rw [hc i hi, List.getD_eq_getElem?_getD, List.getD_eq_getElem?_getD, List.getElem?_map, List.getElem?_eq_getElem (by rw [hR.size]; exact hi)]
      rfl) dst hd]
    congr 2
    have e : ((bs.map fun x => (x.toNat : Int)).map fun n => UInt8.ofNat n.toNat) = bs := by
      rw [List.map_map]
      refine (List.map_congr_left (g := id) fun x _ => ?_).trans (List.map_id bs)
      exact UInt8.toNat_inj.1 (by simp)
    unfold strOfNums
    rw [e]
theorem begun_write {own : Own} {w0 w : World} {f g : Nat} (h : Held own w0 w f ((newDk 1000 []).made sA g) 1) :
    Calls Try.prog 14 #[.pointer (some ⟨f, 0, none⟩), .string sA, .int .i64 0, .slice (some ⟨w.heap.size, 0, none⟩) 3 3] (w.alloc (.cells #[.int .u8 120, .int .u8 121, .int .u8 122] 5 (3, 4))) fun e w' => ∃ own' fl L, e = .returned (.int .i64 0) ∧ L.map (·.1) = [0] ∧ Held own' w0 w' f (begunDk g fl L) 2 := by
  have hfl : ((newDk 1000 []).made sA g).fl g = emptyFl := if_pos rfl
  have hN : ((newDk 1000 []).made sA g).N = [(nmA, g)] := rfl
  have h1 := h.all ((Below.refl _ w).alloc (Nat.le_refl _) (.cells #[.int .u8 120, .int .u8 121, .int .u8 122] 5 (3, 4)))
  have hR : Row (w.alloc (.cells #[.int .u8 120, .int .u8 121, .int .u8 122] 5 (3, 4))) (w.heap.size + 1) (some ⟨w.heap.size, 0, none⟩) 3 (bvs xyz) := Row.fresh w 5 (3, 4) #[.int .u8 120, .int .u8 121, .int .u8 122]
  refine (write_held (g := g) (c := 3) (bs := xyz) sA 0 h1 (by decide) (by omega) rfl (by rfl) (by rw [hfl]; exact Nat.le_refl _) hR (by simp) (fun _ ad had => by
    injection had with had
    subst had
    exact h.fresh (Nat.le_refl _)) (Nat.le_refl _) (by decide) (by omega) (by
    rw [hfl, hN]
    show (((((newDk 1000 []).made sA g).fl g).now.length + 0 : Nat) : Int) + _ ≤ 1000
    rw [hfl]
    decide)).mono ?_
  rintro e w' ⟨own', L, he, hL, h2, _⟩
  rw [hfl] at hL h2
  have h3 : Held own' w0 w' f (begunDk g ((newDk 1000 []).made sA g).fl L) 2 := h2
  exact ⟨own', _, L, he, begun_secs h3 hL, h3⟩
theorem begun_dirty {own : Own} {w0 w : World} {f g : Nat} {fl : Nat → Fl} {L : Secs} (h : Held own w0 w f (begunDk g fl L) 2) (hL : L.map (·.1) = [0]) :
    Calls Try.prog 28 #[.pointer (some ⟨f, 0, none⟩)] w fun e w' => e = .returned (.int .i64 1) ∧ Held own w0 w' f (begunDk g fl L) 2 := by
  refine (dirty_held h).mono ?_
  rintro e w' ⟨he, h1, _⟩
  have e1 : total (fun g' => ((begunDk g fl L).fl g').soiled.length) (begunDk g fl L).N = 1 := by
    show ((begunDk g fl L).fl g).soiled.length + 0 = 1
    have : (begunDk g fl L).fl g = ⟨xyz, [], L⟩ := if_pos rfl
    rw [this, ← one_secs hL]
    rfl
  rw [e1] at he
  exact ⟨he, h1⟩
theorem begun_fl (g : Nat) (fl : Nat → Fl) (L : Secs) : (begunDk g fl L).fl g = ⟨xyz, [], L⟩ := if_pos rfl
theorem begun_crash1 {own : Own} {w0 w : World} {f g : Nat} {fl : Nat → Fl} {L : Secs} {fr : Nat × Nat} (h : Held own w0 w f (begunDk g fl L) 2) (hL : L.map (·.1) = [0]) :
    Calls Try.prog 19 #[.pointer (some ⟨f, 0, none⟩), .int .i64 1, .slice (some ⟨w.heap.size, 0, none⟩) 1 1, .int .i64 (-1)] (w.alloc (.cells #[.bool true] 4 fr)) fun e w' => ∃ own' f' d', e = .returned (.pointer (some ⟨f', 0, none⟩)) ∧ Held own' w0 w' f (begunDk g fl L) 2 ∧ Held own' w0 w' f' d' 2 ∧ d'.look nmA = some ⟨xyz, xyz, []⟩ ∧ f' ≠ f := by
  have h1 := h.all ((Below.refl _ w).alloc (Nat.le_refl _) (.cells #[.bool true] 4 fr))
  have hR : Row (w.alloc (.cells #[.bool true] 4 fr)) (w.heap.size + 1) (some ⟨w.heap.size, 0, none⟩) 1 (lvs [true]) := Row.fresh w 4 fr #[.bool true]
  refine (crash_held (c := 1) 1 (-1) h1 hR (by simp) (by omega)).mono ?_
  rintro e w' ⟨own', f', d', he, h2, h3, hc, hne⟩
  refine ⟨own', f', d', he, h2, h3, ?_, hne⟩
  rw [hc.look]
  have e1 : (begunDk g fl L).crashDir 1 = [(nmA, g)] := rfl
  rw [e1, crash_one, begun_fl, (begun_crash hL).1]
  rfl
theorem begun_crash0 {own : Own} {w0 w : World} {f g : Nat} {fl : Nat → Fl} {L : Secs} (h : Held own w0 w f (begunDk g fl L) 2) :
    Calls Try.prog 19 #[.pointer (some ⟨f, 0, none⟩), .int .i64 0, .slice none 0 0, .int .i64 (-1)] w fun e w' => ∃ own' f' d', e = .returned (.pointer (some ⟨f', 0, none⟩)) ∧ Held own' w0 w' f (begunDk g fl L) 2 ∧ Held own' w0 w' f' d' 2 ∧ d'.look nmA = none ∧ f' ≠ f := by
  refine (crash_held (c := 0) (keep := []) 0 (-1) h (Row.nil w 0) (Nat.zero_le _) (by omega)).mono ?_
  rintro e w' ⟨own', f', d', he, h2, h3, hc, hne⟩
  refine ⟨own', f', d', he, h2, h3, ?_, hne⟩
  rw [hc.look]
  rfl
theorem begun_crash2 {own : Own} {w0 w : World} {f g : Nat} {fl : Nat → Fl} {L : Secs} (h : Held own w0 w f (begunDk g fl L) 2) (hL : L.map (·.1) = [0]) :
    Calls Try.prog 19 #[.pointer (some ⟨f, 0, none⟩), .int .i64 1, .slice none 0 0, .int .i64 (-1)] w fun e w' => ∃ own' f' d', e = .returned (.pointer (some ⟨f', 0, none⟩)) ∧ Held own' w0 w' f (begunDk g fl L) 2 ∧ Held own' w0 w' f' d' 2 ∧ d'.look nmA = some ⟨[], [], []⟩ ∧ f' ≠ f := by
  refine (crash_held (c := 0) (keep := []) 1 (-1) h (Row.nil w 0) (Nat.zero_le _) (by omega)).mono ?_
  rintro e w' ⟨own', f', d', he, h2, h3, hc, hne⟩
  refine ⟨own', f', d', he, h2, h3, ?_, hne⟩
  rw [hc.look]
  have e1 : (begunDk g fl L).crashDir 1 = [(nmA, g)] := rfl
  rw [e1, crash_one, begun_fl, (begun_crash hL).2]
  rfl
set_option maxRecDepth 100000 in
set_option maxHeartbeats 1000000 in
theorem begun_any (w : World) : Calls Try.prog 10 #[] w fun e w' => e = .returned (.bool true) ∧ Below w.heap.size w w' := by
  have hcv := fun (w : World) (C : Array Value) (n c : Nat) => Lib.run_convert_bytes_const (P := Try.prog) w 22 5 C n c Try.underlying22 Try.underlying5
  have CN := new_held 1000 w
  rw [show room 1000 = 1000 by decide] at CN
  go_enter Try.func10, Try.ntmps10
  go_wp2_with fail
  refine CN.mono ?_
  rintro e w1 ⟨own1, f, rfl, h1⟩
  have H1 := Lib.hid h1
  clear h1 CN
  go_wp2_with fail
  refine (create_held sA H1.out (by decide) (by omega) rfl (by decide) (by decide)).mono ?_
  rintro e w2 ⟨own2, g, rfl, h2, _, _⟩
  have H2 := Lib.hid h2
  clear h2
  go_wp2_with fail
  refine (begun_write H2.out).mono ?_
  rintro e w3 ⟨own3, fl, L, rfl, hL, h3⟩
  have H3 := Lib.hid h3
  have HL := Lib.hid hL
  clear h3 hL
  go_wp2_with fail
  refine (begun_dirty H3.out HL.out).mono ?_
  rintro e w4 ⟨rfl, h4⟩
  have H4 := Lib.hid h4
  clear h4
  go_wp2_with fail
  refine (begun_crash1 H4.out HL.out).mono ?_
  rintro e w5 ⟨own5, f5, d5, rfl, h5, k5, l5, n5⟩
  have CR := read_look sA 0 3 k5 (by decide) l5 (by decide) (by omega)
  have H5 := Lib.hid h5
  have CR' := Lib.hid CR
  clear h5 k5 l5 CR
  go_wp2_with fail
  refine CR'.out.mono ?_
  rintro e w6 ⟨v, rfl, hr, h6, st6⟩
  obtain ⟨A6, c6, rfl, _, _⟩ := own_form hr
  have cs := fun c => bytes_string (P := Try.prog) (c := c) (dst := 9) Try.underlying22 Try.underlying5 Try.underlying9 (Row.own hr)
  have H6 := Lib.hid (H5.out.other st6 n5.symm h6.top)
  clear hr h6 st6
  go_wp2_with fail
  refine (begun_crash0 H6.out).mono ?_
  rintro e w7 ⟨own7, f7, d7, rfl, h7, k7, l7, n7⟩
  have CZ := Lib.hid (size_lost sA k7 (by decide) l7)
  have H7 := Lib.hid h7
  clear h7 k7 l7 n7
  go_wp2_with fail
  refine CZ.out.mono ?_
  rintro e w' ⟨rfl, rfl⟩
  go_wp2_with fail
  refine (begun_crash2 H7.out HL.out).mono ?_
  rintro e w8 ⟨own8, f8, d8, rfl, h8, k8, l8, n8⟩
  have CY := Lib.hid (size_look sA k8 (by decide) l8)
  have H8 := Lib.hid h8
  clear h8 k8 l8 n8
  go_wp2_with fail
  refine CY.out.mono ?_
  rintro e w' ⟨rfl, rfl⟩
  go_wp2_with fail
  refine (calls_held H8.out).mono ?_
  rintro e w' ⟨rfl, rfl⟩
  go_wp2_with fail
  go_ret
  exact ⟨rfl, H8.out.below⟩
end Go.Proofs.Ytebjapinhkeafaa.Disk
