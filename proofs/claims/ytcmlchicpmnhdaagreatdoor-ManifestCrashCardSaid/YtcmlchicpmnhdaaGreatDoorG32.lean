/-
  Texts one behind the other: SlotPut, SlotZero, SlotTells, DiskBase.
-/
import Derived.Lib.SlBytesConst
import Derived.Test.YtcmlchicpmnhdaaGreatDoorG23
import Derived.Test.YtcmlchicpmnhdaaGreatDoorG31
/-
  Plain facts: what writing one of two slots does to a file's bytes.
-/
namespace Go.Proofs.YtcmlchicpmnhdaaGreatDoor.Slot
open Go.RowKit Go.Proofs.YtcmlchicpmnhdaaGreatDoor.Rec Go.Proofs.YtcmlchicpmnhdaaGreatDoor.Disk
set_option linter.unusedVariables false
set_option linter.unusedSimpArgs false

theorem part_take (l : List UInt8) {i j k : Nat} (hij : i ≤ j) (hj : j ≤ k) : Rec.part (l.take k) i j = Rec.part l i j :=
  part_same (k := k) (by rw [List.take_take, Nat.min_self]) hij hj
/-- Only the first 4096 bytes of a slot count. -/
theorem slot_clip (l : List UInt8) : slotN (l.take 4096) = slotN l := by
  unfold slotN
  have e1 : (l.take 4096).length < 16 ↔ l.length < 16 := by rw [List.length_take]; omega
  have e2 : (4080 < beN (Rec.part l 8 12) ∨ (l.take 4096).length - 16 < beN (Rec.part l 8 12)) ↔ (4080 < beN (Rec.part l 8 12) ∨ l.length - 16 < beN (Rec.part l 8 12)) := by rw [List.length_take]; omega
  rw [part_take l (by omega) (by omega), part_take l (by omega) (by omega)]
  by_cases h1 : l.length < 16
  · rw [if_pos (e1.2 h1), if_pos h1]
  rw [if_neg (fun h => h1 (e1.1 h)), if_neg h1]
  by_cases h2 : 4080 < beN (Rec.part l 8 12) ∨ l.length - 16 < beN (Rec.part l 8 12)
  · rw [if_pos (e2.2 h2), if_pos h2]
  rw [if_neg (fun h => h2 (e2.1 h)), if_neg h2]
  rw [part_take l (by omega) (by omega), List.take_take]
  rfl
theorem slotOf_clip (l : List UInt8) : slotOf (l.take 4096) = slotOf l := by
  unfold slotOf
  rw [slot_clip]
  have h := slotN_bound l
  by_cases h0 : slotN l = 0
  · rw [if_pos h0, if_pos h0]
  · rw [if_neg h0, if_neg h0, part_take l (by omega) (by omega), part_take l (by omega) (by omega)]
/-- Two files that agree on a slot's 4096 bytes tell the same of it. -/
theorem slotOf_agree {a b : List UInt8} (h : a.take 4096 = b.take 4096) : slotOf a = slotOf b := by
  rw [← slotOf_clip a, ← slotOf_clip b, h]
theorem put_length {l bs : List UInt8} {s : Nat} (hl : l.length = 8192) (hs : s < 2) (hb : bs.length ≤ 4096) : (putAt l (4096 * s) bs).length = 8192 := by
  rw [putAt_length _ _ _ (by omega)]; omega
/-- The slot that was written. -/
theorem put_here {l : List UInt8} {s t : Nat} {b r : List UInt8} (hl : l.length = 8192) (hs : s < 2) (hb : b.length ≤ 4080) (ht : t < 18446744073709551616) : slotOf (slotAt (putAt l (4096 * s) (slotB t b ++ r)) s) = some (t, b) := by
  have e : slotAt (putAt l (4096 * s) (slotB t b ++ r)) s = slotB t b ++ (r ++ l.drop (4096 * s + (slotB t b ++ r).length)) := by
    unfold slotAt putAt
    rw [List.append_assoc, List.drop_append_of_le_length (by rw [List.length_take]; omega)]
    rw [List.drop_eq_nil_of_le (by rw [List.length_take]; omega)]
    simp
  rw [e]
  exact slotOf_of t b _ ht hb
/-- The other one. -/
theorem put_there {l bs : List UInt8} {s s' : Nat} (hl : l.length = 8192) (hs : s < 2) (hs' : s' < 2) (hne : s ≠ s') (hb : bs.length ≤ 4096) : slotOf (slotAt (putAt l (4096 * s) bs) s') = slotOf (slotAt l s') := by
  refine slotOf_agree (List.ext_getElem? fun i => ?_)
  rw [List.getElem?_take, List.getElem?_take]
  split
  · unfold slotAt
    rw [List.getElem?_drop, List.getElem?_drop, putAt_get _ _ _ (by omega), if_neg (by omega)]
  · rfl
/-- What a file of two slots tells: the slot that is whole with the greater turn. -/
def tells (l : List UInt8) : Option (Nat × List UInt8) :=
  match slotOf (slotAt l 0), slotOf (slotAt l 1) with
  | none, none => none
  | some p, none => some p
  | none, some q => some q
  | some p, some q => if p.1 < q.1 then some q else some p
theorem tells_of {l : List UInt8} {s : Nat} {t : Nat} {b : List UInt8} (hs : s < 2) (h1 : slotOf (slotAt l s) = some (t, b)) (h2 : ∀ q, slotOf (slotAt l (1 - s)) = some q → q.1 < t) : tells l = some (t, b) := by
  rcases (by omega : s = 0 ∨ s = 1) with rfl | rfl
  · unfold tells
    rw [h1]
    rw [show (1 : Nat) - 0 = 1 from rfl] at h2
    cases h : slotOf (slotAt l 1) with
    | none => rfl
    | some q =>
      have := h2 q h
      show (if (t, b).1 < q.1 then some q else some (t, b)) = _
      rw [if_neg (by show ¬ t < q.1; omega)]
  · unfold tells
    rw [h1]
    rw [show (1 : Nat) - 1 = 0 from rfl] at h2
    cases h : slotOf (slotAt l 0) with
    | none => rfl
    | some q =>
      have := h2 q h
      show (if q.1 < (t, b).1 then some (t, b) else some q) = _
      rw [if_pos (by show q.1 < t; omega)]
/-- The invariant of a file: slot s holds text b with turn t; the other one holds nothing, or a text of a lesser turn. -/
structure Sides (l : List UInt8) (s t : Nat) (b : List UInt8) : Prop where
  len : l.length = 8192
  two : s < 2
  here : slotOf (slotAt l s) = some (t, b)
  there : ∀ q, slotOf (slotAt l (1 - s)) = some q → q.1 < t
theorem Sides.tell {l : List UInt8} {s t : Nat} {b : List UInt8} (h : Sides l s t b) : tells l = some (t, b) := tells_of h.two h.here h.there
/-- A Save that came back. -/
theorem Sides.save {l : List UInt8} {s t t' : Nat} {b b' r : List UInt8} (h : Sides l s t b) (hb : b'.length ≤ 4080) (hr : (slotB t' b' ++ r).length ≤ 4096) (ht : t < t') (ht' : t' < 18446744073709551616) : Sides (putAt l (4096 * (1 - s)) (slotB t' b' ++ r)) (1 - s) t' b' := by
  have h2 := h.two
  refine ⟨put_length h.len (by omega) hr, by omega, put_here h.len (by omega) hb ht', fun q hq => ?_⟩
  have e : 1 - (1 - s) = s := by omega
  rw [e, put_there h.len (by omega) h2 (by omega) hr, h.here] at hq
  injection hq with hq
  subst hq
  exact ht
/-- A file laid by Create. -/
theorem Sides.laid {t : Nat} {b r : List UInt8} (hb : b.length ≤ 4080) (ht : t < 18446744073709551616) (hl : (slotB t b ++ r).length = 8192) (hz : slotOf (slotAt (slotB t b ++ r) 1) = none) : Sides (slotB t b ++ r) 0 t b := by
  refine ⟨hl, by omega, ?_, fun q hq => ?_⟩
  · unfold slotAt
    rw [Nat.mul_zero, List.drop_zero]
    exact slotOf_of t b r ht hb
  · rw [hz] at hq
    cases hq
/-- A slot behind a crash is the one that was, or the one under way, or none: what is told then. -/
theorem tells_crash {l : List UInt8} {s t : Nat} {b : List UInt8} (hs : s < 2) (h1 : slotOf (slotAt l s) = some (t, b)) {q : Nat × List UInt8} (h2 : slotOf (slotAt l (1 - s)) = none ∨ slotOf (slotAt l (1 - s)) = some q ∨ ∃ p, slotOf (slotAt l (1 - s)) = some p ∧ p.1 < t) (hq : t < q.1) : tells l = some (t, b) ∨ tells l = some q := by
  rcases h2 with h | h | ⟨p, h, hp⟩
  · exact .inl (tells_of hs h1 fun q' hq' => by rw [h] at hq'; cases hq')
  · obtain ⟨t', b'⟩ := q
    refine .inr (tells_of (s := 1 - s) (by omega) h fun q' hq' => ?_)
    rw [show 1 - (1 - s) = s by omega, h1] at hq'
    injection hq' with hq'
    subst hq'
    exact hq
  · refine .inl (tells_of hs h1 fun q' hq' => ?_)
    rw [h] at hq'
    injection hq' with hq'
    subst hq'
    exact hp
end Go.Proofs.YtcmlchicpmnhdaaGreatDoor.Slot
/-
  Plain facts: a slot of noughts is none; a file as Create lays it.
-/
namespace Go.Proofs.YtcmlchicpmnhdaaGreatDoor.Slot
open Go.RowKit Go.Proofs.YtcmlchicpmnhdaaGreatDoor.Rec Go.Proofs.YtcmlchicpmnhdaaGreatDoor.Disk
set_option linter.unusedVariables false
set_option linter.unusedSimpArgs false

theorem sum_zeros : (Crc.sum (List.replicate 12 (0 : UInt8))).toNat ≠ 0 := by decide +kernel
theorem slotN_zeros (n : Nat) : slotN (List.replicate n 0) = 0 := by
  unfold slotN
  by_cases h1 : n < 16
  · rw [if_pos (by simpa using h1)]
  rw [if_neg (by simpa using h1)]
  have p1 : Rec.part (List.replicate n (0 : UInt8)) 8 12 = List.replicate 4 0 := by
    unfold Rec.part
    simp only [List.take_replicate, List.drop_replicate]
    congr 1
    omega
  have p2 : Rec.part (List.replicate n (0 : UInt8)) 12 16 = List.replicate 4 0 := by
    unfold Rec.part
    simp only [List.take_replicate, List.drop_replicate]
    congr 1
    omega
  have z : beN (List.replicate 4 (0 : UInt8)) = 0 := by decide +kernel
  rw [p1, p2, z, if_neg (by omega), if_pos]
  have p3 : Rec.part (List.replicate n (0 : UInt8)) 16 (16 + 0) = [] := by
    apply List.eq_nil_of_length_eq_zero
    unfold Rec.part
    simp
  rw [p3, List.append_nil, List.take_replicate, show min 12 n = 12 by omega]
  exact fun h => sum_zeros h.symm
theorem slotOf_zeros (n : Nat) : slotOf (List.replicate n 0) = none := by
  unfold slotOf
  rw [if_pos (slotN_zeros n)]
theorem slotOf_nil : slotOf [] = none := slotOf_zeros 0
/-- The file as Create lays it: turn 1 and the text in the first slot, noughts behind. -/
def laidB (b : List UInt8) : List UInt8 := slotB 1 b ++ List.replicate (8192 - (16 + b.length)) 0
theorem laidB_length {b : List UInt8} (h : b.length ≤ 4080) : (laidB b).length = 8192 := by
  unfold laidB
  rw [List.length_append, slotB_length, List.length_replicate]
  omega
theorem laidB_sides {b : List UInt8} (h : b.length ≤ 4080) : Sides (laidB b) 0 1 b := by
  refine Sides.laid h (by decide) (laidB_length h) ?_
  have e : slotAt (slotB 1 b ++ List.replicate (8192 - (16 + b.length)) 0) 1 = List.replicate 4096 0 := by
    unfold slotAt
    rw [List.drop_append, List.drop_eq_nil_of_le (by rw [slotB_length]; omega), List.nil_append, List.drop_replicate, slotB_length]
    congr 1
    omega
  rw [e]
  exact slotOf_zeros _
/-- A file with no side whole tells nothing. -/
theorem tells_none {l : List UInt8} (h0 : slotOf (slotAt l 0) = none) (h1 : slotOf (slotAt l 1) = none) : tells l = none := by
  unfold tells
  rw [h0, h1]
theorem tells_nil : tells [] = none := tells_none (by unfold slotAt; rw [List.drop_nil]; exact slotOf_nil) (by unfold slotAt; rw [List.drop_nil]; exact slotOf_nil)
end Go.Proofs.YtcmlchicpmnhdaaGreatDoor.Slot
/-
  Plain facts: what a file of two slots tells behind a crash.
-/
namespace Go.Proofs.YtcmlchicpmnhdaaGreatDoor.Slot
open Go.RowKit Go.Proofs.YtcmlchicpmnhdaaGreatDoor.Rec Go.Proofs.YtcmlchicpmnhdaaGreatDoor.Disk
set_option linter.unusedVariables false
set_option linter.unusedSimpArgs false

/-- Slot s of a crash whose sectors were clean. -/
theorem crash_here {x : Fl} (h : x.Ok) (hn : x.now.length = 8192) (hw : x.was.length = 8192) {parts : List Nat} (hp : ∀ i, parts.getD i 0 ≤ 64) {s : Nat} (hs : s < 2) (hc : ∀ t, 64 * s ≤ t → t < 64 * s + 64 → shas t x.soiled = false) : slotOf (slotAt (x.crash parts) s) = slotOf (slotAt x.now s) := by
  refine slotOf_agree ?_
  have e := crash_clean_part h (by omega) hp (64 * s) 64 hc
  unfold slotAt
  rw [show 64 * (64 * s) = 4096 * s by omega] at e
  exact e
/-- What a slot may tell behind a crash: what law 8's Mixed says of it where it says no. -/
def OneSlot (x : Fl) (l : List UInt8) (s : Nat) : Prop := 0 < slotN (slotAt l s) →
    (4096 * s + slotN (slotAt l s) ≤ x.now.length ∧ (slotAt x.now s).take (slotN (slotAt l s)) = (slotAt l s).take (slotN (slotAt l s))) ∨
    (4096 * s + slotN (slotAt l s) ≤ x.was.length ∧ (slotAt x.was s).take (slotN (slotAt l s)) = (slotAt l s).take (slotN (slotAt l s)))
/-- A Save under way, and a crash: the text before it, or its own. -/
theorem crash_tells {x : Fl} (h : x.Ok) (hn : x.now.length = 8192) (hw : x.was.length = 8192) {parts : List Nat} (hp : ∀ i, parts.getD i 0 ≤ 64) {s t : Nat} {b : List UInt8} {q : Nat × List UInt8} (hs : s < 2)
    (here : slotOf (slotAt x.now s) = some (t, b)) (hc : ∀ i, 64 * s ≤ i → i < 64 * s + 64 → shas i x.soiled = false) (hq : t < q.1)
    (was : ∀ p, slotOf (slotAt x.was (1 - s)) = some p → p.1 < t) (now : slotOf (slotAt x.now (1 - s)) = some q ∨ ∀ p, slotOf (slotAt x.now (1 - s)) = some p → p.1 < t) (hone : OneSlot x (x.crash parts) (1 - s)) :
    tells (x.crash parts) = some (t, b) ∨ tells (x.crash parts) = some q := by
  have h1 := (crash_here h hn hw hp hs hc).trans here
  refine tells_crash hs h1 ?_ hq
  have hsome : ∀ l : List UInt8, (∀ p, slotOf l = some p → p.1 < t) → slotOf l = none ∨ slotOf l = some q ∨ ∃ p, slotOf l = some p ∧ p.1 < t := fun l hl => by
    cases e : slotOf l with
    | none => exact .inl rfl
    | some p => exact .inr (.inr ⟨p, rfl, hl p e⟩)
  rcases crash_slot h (1 - s) hone with e | e | e
  · exact .inl e
  · rw [e]
    rcases now with hnow | hnow
    · exact .inr (.inl hnow)
    · exact hsome _ hnow
  · rw [e]
    exact hsome _ was
/-- Nothing under way: the text. -/
theorem clean_tells {x : Fl} (hok : x.Ok) (hx : x.soiled = []) (hw : x.was.length = x.now.length) (hn : x.now.length = 8192) {parts : List Nat} (hp : ∀ i, parts.getD i 0 ≤ 64) {s t : Nat} {b : List UInt8} (h : Sides x.now s t b) : Sides (x.crash parts) s t b := by
  have hall : ∀ t, shas t x.soiled = false := fun t => by
    rw [hx]
    cases e : shas t [] with
    | false => rfl
    | true =>
      have := shas_mem.1 e
      simp at this
  have hs := h.two
  refine ⟨(crash_size hok hw hp).trans hn, hs, (crash_here hok hn (by omega) hp hs fun t _ _ => hall t).trans h.here, fun q hq => h.there q ?_⟩
  rw [← hq]
  exact (crash_here hok hn (by omega) hp (by omega) fun t _ _ => hall t).symm
/-- A file that failed to be saved, in memory: slot s holds what is told, the other one whatever was tried, of no greater turn than the last one given out. -/
structure SidesU (l : List UInt8) (s t u : Nat) (b : List UInt8) : Prop where
  len : l.length = 8192
  two : s < 2
  here : slotOf (slotAt l s) = some (t, b)
  le : t ≤ u
  there : ∀ q, slotOf (slotAt l (1 - s)) = some q → q.1 ≤ u
theorem Sides.toU {l : List UInt8} {s t : Nat} {b : List UInt8} (h : Sides l s t b) : SidesU l s t t b := ⟨h.len, h.two, h.here, Nat.le_refl _, fun q hq => Nat.le_of_lt (h.there q hq)⟩
theorem SidesU.more {l : List UInt8} {s t u u' : Nat} {b : List UInt8} (h : SidesU l s t u b) (hu : u ≤ u') : SidesU l s t u' b := ⟨h.len, h.two, h.here, Nat.le_trans h.le hu, fun q hq => Nat.le_trans (h.there q hq) hu⟩
/-- Whatever was written of the other slot with turn u', and however little of it was kept by the disk. -/
theorem SidesU.tried {l : List UInt8} {s t u u' : Nat} {b b' r : List UInt8} (h : SidesU l s t u b) (hb : b'.length ≤ 4080) (hr : (slotB u' b' ++ r).length ≤ 4096) (hu : u < u') (hu' : u' < 18446744073709551616) : SidesU (putAt l (4096 * (1 - s)) (slotB u' b' ++ r)) s t u' b := by
  have h2 := h.two
  have hle := h.le
  refine ⟨put_length h.len (by omega) hr, h2, (put_there h.len (by omega) h2 (by omega) hr).trans h.here, by omega, fun q hq => ?_⟩
  rw [put_here h.len (by omega) hb hu'] at hq
  injection hq with hq
  subst hq
  exact Nat.le_refl _
/-- A Save that came back, behind whatever failed. -/
theorem SidesU.save {l : List UInt8} {s t u u' : Nat} {b b' r : List UInt8} (h : SidesU l s t u b) (hb : b'.length ≤ 4080) (hr : (slotB u' b' ++ r).length ≤ 4096) (hu : u < u') (hu' : u' < 18446744073709551616) : Sides (putAt l (4096 * (1 - s)) (slotB u' b' ++ r)) (1 - s) u' b' := by
  have h2 := h.two
  have hle := h.le
  refine ⟨put_length h.len (by omega) hr, by omega, put_here h.len (by omega) hb hu', fun q hq => ?_⟩
  have e : 1 - (1 - s) = s := by omega
  rw [e, put_there h.len (by omega) h2 (by omega) hr, h.here] at hq
  injection hq with hq
  subst hq
  show t < u'
  omega
end Go.Proofs.YtcmlchicpmnhdaaGreatDoor.Slot
/-
  Proved: law 5's 'begun' returns true, and turns nothing that lay.
-/
namespace Go.Proofs.YtcmlchicpmnhdaaGreatDoor.Disk
open Go.RowKit Go.Maps
set_option linter.unusedVariables false
set_option linter.unusedSimpArgs false

def sA : ByteArray := ⟨#[97]⟩
def nmA : Nm := [97]
def xyz : List UInt8 := [120, 121, 122]
/-- .. behind Create and Write. -/
def begunDk (g : Nat) (fl : Nat → Fl) (L : Secs) : Dk := ⟨1000, [(nmA, g)], [], [⟨noName, sA, some g⟩], 2, 0, false, 0, upd fl g ⟨xyz, [], L⟩⟩
theorem begun_secs {own : Own} {w0 w : World} {f K g : Nat} {fl : Nat → Fl} {L : Secs} (h : Held own w0 w f (begunDk g fl L) K) (hL : ∀ t, shas t L = (shas t [] || touches 0 3 t)) : L.map (·.1) = [0] := by
  have hl : (begunDk g fl L).look nmA = some ⟨xyz, [], L⟩ := by
    show some (upd fl g _ g) = _
    rw [upd, if_pos rfl]
  exact touched (h.ok hl).rising hL
theorem one_secs {L : Secs} (h : L.map (·.1) = [0]) : L.length = 1 := by
  have := congrArg List.length h
  rwa [List.length_map] at this
theorem begun_crash {L : Secs} (h : L.map (·.1) = [0]) : (Fl.mk xyz [] L).crash (partsFor 0 L.length [true] (-1)) = xyz ∧ (Fl.mk xyz [] L).crash (partsFor 0 L.length [] (-1)) = [] := by
  have hl := one_secs h
  unfold Fl.crash Fl.crashLen
  dsimp only
  rw [hl, h]
  exact ⟨by decide, by decide⟩
theorem bytes_string {P : Program} {w : World} {B n c : Nat} {A : Option Addr} {bs : List UInt8} {src dst e : TypeId} (hs : P.underlying src = some (.slice e)) (he : P.underlying e = some (.int .u8)) (hd : P.underlying dst = some .string)
    (hR : Row w B A n (bvs bs)) : (convert src dst (.slice A n c)).run P w = .ok (.string ⟨bs.toArray⟩) w := by
  rcases Nat.eq_zero_or_pos n with h0 | h0
  · subst h0
    obtain rfl : bs = [] := List.eq_nil_of_length_eq_zero hR.size
    rcases A with _ | a
    · exact run_convert_bytes_nil w src e hs he 0 c dst hd
    · rw [run_convert_bytes_string w src dst e _ 0 c hs he hd, run_bytesToString w _ 0 c [] (run_loadCells_list (P := P) w a [] (fun j v hv => by simp at hv))]
      rfl
  · obtain ⟨b, o, rfl, _, hc⟩ := hR.byte h0
    rw [run_convert_bytes_arg w src e hs he b o n c (bs.map fun x => (x.toNat : Int)) (by rw [List.length_map]; exact hR.size) (fun i hi => by
      rw [hc i hi, List.getD_eq_getElem?_getD, List.getD_eq_getElem?_getD, List.getElem?_map, List.getElem?_eq_getElem (by rw [hR.size]; exact hi)]
      rfl) dst hd]
    congr 2
    have e : ((bs.map fun x => (x.toNat : Int)).map fun n => UInt8.ofNat n.toNat) = bs := by
      rw [List.map_map]
      refine (List.map_congr_left (g := id) fun x _ => ?_).trans (List.map_id bs)
      exact UInt8.toNat_inj.1 (by simp)
    unfold strOfNums
    rw [e]
theorem begun_write {own : Own} {w0 w : World} {f g : Nat} (h : Held own w0 w f ((newDk 1000 []).made sA g) 1) :
    Calls Tryz.prog 56 #[.pointer (some ⟨f, 0, none⟩), .string sA, .int .i64 0, .slice (some ⟨w.heap.size, 0, none⟩) 3 3] (w.alloc (.cells #[.int .u8 120, .int .u8 121, .int .u8 122] 5 (3, 4))) fun e w' => ∃ own' fl L, e = .returned (.int .i64 0) ∧ L.map (·.1) = [0] ∧ Held own' w0 w' f (begunDk g fl L) 2 := by
  have hfl : ((newDk 1000 []).made sA g).fl g = emptyFl := if_pos rfl
  have hN : ((newDk 1000 []).made sA g).N = [(nmA, g)] := rfl
  have h1 := h.all ((Below.refl _ w).alloc (Nat.le_refl _) (.cells #[.int .u8 120, .int .u8 121, .int .u8 122] 5 (3, 4)))
  have hR : Row (w.alloc (.cells #[.int .u8 120, .int .u8 121, .int .u8 122] 5 (3, 4))) (w.heap.size + 1) (some ⟨w.heap.size, 0, none⟩) 3 (bvs xyz) := Row.fresh w 5 (3, 4) #[.int .u8 120, .int .u8 121, .int .u8 122]
  refine (write_held (g := g) (c := 3) (bs := xyz) sA 0 h1 (by decide) (by omega) rfl (by rfl) (by rw [hfl]; exact Nat.le_refl _) hR (by simp) (fun _ ad had => by
    injection had with had
    subst had
    exact h.fresh (Nat.le_refl _)) (Nat.le_refl _) (by decide) (by omega) (by
    rw [hfl, hN]
    show (((((newDk 1000 []).made sA g).fl g).now.length + 0 : Nat) : Int) + _ ≤ 1000
    rw [hfl]
    decide)).mono ?_
  rintro e w' ⟨own', L, he, hL, h2, _⟩
  rw [hfl] at hL h2
  have h3 : Held own' w0 w' f (begunDk g ((newDk 1000 []).made sA g).fl L) 2 := h2
  exact ⟨own', _, L, he, begun_secs h3 hL, h3⟩
theorem begun_dirty {own : Own} {w0 w : World} {f g : Nat} {fl : Nat → Fl} {L : Secs} (h : Held own w0 w f (begunDk g fl L) 2) (hL : L.map (·.1) = [0]) :
    Calls Tryz.prog 92 #[.pointer (some ⟨f, 0, none⟩)] w fun e w' => e = .returned (.int .i64 1) ∧ Held own w0 w' f (begunDk g fl L) 2 := by
  refine (dirty_held h).mono ?_
  rintro e w' ⟨he, h1, _⟩
  have e1 : total (fun g' => ((begunDk g fl L).fl g').soiled.length) (begunDk g fl L).N = 1 := by
    show ((begunDk g fl L).fl g).soiled.length + 0 = 1
    have : (begunDk g fl L).fl g = ⟨xyz, [], L⟩ := if_pos rfl
    rw [this, ← one_secs hL]
    rfl
  rw [e1] at he
  exact ⟨he, h1⟩
theorem begun_fl (g : Nat) (fl : Nat → Fl) (L : Secs) : (begunDk g fl L).fl g = ⟨xyz, [], L⟩ := if_pos rfl
theorem begun_crash1 {own : Own} {w0 w : World} {f g : Nat} {fl : Nat → Fl} {L : Secs} {fr : Nat × Nat} (h : Held own w0 w f (begunDk g fl L) 2) (hL : L.map (·.1) = [0]) :
    Calls Tryz.prog 13 #[.pointer (some ⟨f, 0, none⟩), .int .i64 1, .slice (some ⟨w.heap.size, 0, none⟩) 1 1, .int .i64 (-1)] (w.alloc (.cells #[.bool true] 4 fr)) fun e w' => ∃ own' f' d', e = .returned (.pointer (some ⟨f', 0, none⟩)) ∧ Held own' w0 w' f (begunDk g fl L) 2 ∧ Held own' w0 w' f' d' 2 ∧ d'.look nmA = some ⟨xyz, xyz, []⟩ ∧ f' ≠ f := by
  have h1 := h.all ((Below.refl _ w).alloc (Nat.le_refl _) (.cells #[.bool true] 4 fr))
  have hR : Row (w.alloc (.cells #[.bool true] 4 fr)) (w.heap.size + 1) (some ⟨w.heap.size, 0, none⟩) 1 (lvs [true]) := Row.fresh w 4 fr #[.bool true]
  refine (crash_held (c := 1) 1 (-1) h1 hR (by simp) (by omega)).mono ?_
  rintro e w' ⟨own', f', d', he, h2, h3, hc, hne⟩
  refine ⟨own', f', d', he, h2, h3, ?_, hne⟩
  rw [hc.look]
  have e1 : (begunDk g fl L).crashDir 1 = [(nmA, g)] := rfl
  rw [e1, crash_one, begun_fl, (begun_crash hL).1]
  rfl
theorem begun_crash0 {own : Own} {w0 w : World} {f g : Nat} {fl : Nat → Fl} {L : Secs} (h : Held own w0 w f (begunDk g fl L) 2) :
    Calls Tryz.prog 13 #[.pointer (some ⟨f, 0, none⟩), .int .i64 0, .slice none 0 0, .int .i64 (-1)] w fun e w' => ∃ own' f' d', e = .returned (.pointer (some ⟨f', 0, none⟩)) ∧ Held own' w0 w' f (begunDk g fl L) 2 ∧ Held own' w0 w' f' d' 2 ∧ d'.look nmA = none ∧ f' ≠ f := by
  refine (crash_held (c := 0) (keep := []) 0 (-1) h (Row.nil w 0) (Nat.zero_le _) (by omega)).mono ?_
  rintro e w' ⟨own', f', d', he, h2, h3, hc, hne⟩
  refine ⟨own', f', d', he, h2, h3, ?_, hne⟩
  rw [hc.look]
  rfl
theorem begun_crash2 {own : Own} {w0 w : World} {f g : Nat} {fl : Nat → Fl} {L : Secs} (h : Held own w0 w f (begunDk g fl L) 2) (hL : L.map (·.1) = [0]) :
    Calls Tryz.prog 13 #[.pointer (some ⟨f, 0, none⟩), .int .i64 1, .slice none 0 0, .int .i64 (-1)] w fun e w' => ∃ own' f' d', e = .returned (.pointer (some ⟨f', 0, none⟩)) ∧ Held own' w0 w' f (begunDk g fl L) 2 ∧ Held own' w0 w' f' d' 2 ∧ d'.look nmA = some ⟨[], [], []⟩ ∧ f' ≠ f := by
  refine (crash_held (c := 0) (keep := []) 1 (-1) h (Row.nil w 0) (Nat.zero_le _) (by omega)).mono ?_
  rintro e w' ⟨own', f', d', he, h2, h3, hc, hne⟩
  refine ⟨own', f', d', he, h2, h3, ?_, hne⟩
  rw [hc.look]
  have e1 : (begunDk g fl L).crashDir 1 = [(nmA, g)] := rfl
  rw [e1, crash_one, begun_fl, (begun_crash hL).2]
  rfl
end Go.Proofs.YtcmlchicpmnhdaaGreatDoor.Disk
