/-
  Texts one behind the other: SegCrash, SegKept, SegCrashed, DiskAny.
-/
import Derived.Test.YtkdnfikaodkhnaaGreatDoorG22
import Derived.Test.YtkdnfikaodkhnaaGreatDoorG23
import Derived.Test.YtkdnfikaodkhnaaGreatDoorG25
import Derived.Test.YtkdnfikaodkhnaaGreatDoorG33
import Derived.Test.YtkdnfikaodkhnaaGreatDoorG34
import Derived.Test.YtkdnfikaodkhnaaGreatDoorG36
/-
  Plain facts: of a text of records one behind the other a front is left, where all that a crash left stood there before.
-/
namespace Go.Proofs.YtkdnfikaodkhnaaGreatDoor.Seg
open Go.RowKit Go.Proofs.YtkdnfikaodkhnaaGreatDoor.Rec Go.Proofs.YtkdnfikaodkhnaaGreatDoor.Disk
set_option linter.unusedVariables false
set_option linter.unusedSimpArgs false

theorem front_more (g : List Rc) : ∀ (P R : List UInt8), AllGood g → frontFrom P.length (P ++ (cat g ++ R)) = places P.length g ++ frontFrom (P.length + (cat g).length) (P ++ (cat g ++ R)) := by
  induction g with
  | nil => intro P R _; rfl
  | cons x g ih =>
    intro P R hg
    obtain ⟨hm, hf⟩ := hg x (by simp)
    have hel := enc_length x hm
    have e : P ++ (cat (x :: g) ++ R) = P ++ (enc x ++ (cat g ++ R)) := by rw [cat_cons, List.append_assoc]
    have hd : dec ((P ++ (cat (x :: g) ++ R)).drop P.length) = .ok x (39 + x.body.length) := by
      rw [e]
      exact dec_behind P (cat g ++ R) x hm hf rfl
    have e2 : P ++ (cat (x :: g) ++ R) = (P ++ enc x) ++ (cat g ++ R) := by rw [e, List.append_assoc]
    have hl : P.length + (39 + x.body.length) = (P ++ enc x).length := by rw [List.length_append, hel]
    rw [frontFrom_ok hd, hl, e2, ih (P ++ enc x) R (fun y hy => hg y (List.mem_cons_of_mem _ hy))]
    show _ = ((P.length, x) :: places (P.length + (enc x).length) g) ++ _
    rw [cat_cons, List.length_append, List.length_append, Nat.add_assoc]
    rfl
/-- A whole record at a place is what Decode tells there. -/
theorem dec_stands {b : List UInt8} {p : Nat} {x : Rc} (hm : x.May) (hf : x.Fits) (h : (b.drop p).take (enc x).length = enc x) : dec (b.drop p) = .ok x (39 + x.body.length) := by
  have e : b.drop p = enc x ++ (b.drop p).drop (enc x).length := by
    conv => lhs; rw [← List.take_append_drop (enc x).length (b.drop p), h]
  rw [e, enc_may hm]
  exact dec_bytes x _ hm hf
theorem crash_go_on (l : List Rc) (hl : AllGood l) (y : List UInt8) : ∀ (f i : Nat), y.length ≤ upto l i + f → i ≤ l.length →
    (∀ q ∈ frontFrom (upto l i) y, q.1 + (enc q.2).length ≤ (cat l).length ∧ ((cat l).drop q.1).take (enc q.2).length = enc q.2) →
    ∃ m, i + m ≤ l.length ∧ frontFrom (upto l i) y = places (upto l i) ((l.drop i).take m) := by
  intro f
  induction f with
  | zero =>
    intro i h1 h2 h3
    rcases out_ok (dec (y.drop (upto l i))) with ⟨x, n, hd⟩ | ⟨e, _, _, hno⟩
    · have k1 := (dec_ok hd).1
      have k2 := (dec_ok hd).2.1
      rw [List.length_drop] at k2
      omega
    · exact ⟨0, by omega, by rw [frontFrom_no hno, List.take_zero]; rfl⟩
  | succ f ih =>
    intro i h1 h2 h3
    rcases out_ok (dec (y.drop (upto l i))) with ⟨x, n, hd⟩ | ⟨e, _, _, hno⟩
    · obtain ⟨k1, k2, k3, k4, _⟩ := dec_ok hd
      rw [List.length_drop] at k2
      have hel := enc_length x k3
      have hq := h3 (upto l i, x) (by rw [frontFrom_ok hd]; simp)
      obtain ⟨q1, q2⟩ := hq
      dsimp only at q1 q2
      have hi : i < l.length := by
        rcases Nat.lt_or_ge i l.length with h | h
        · exact h
        · have : upto l i = (cat l).length := by unfold upto; rw [List.take_of_length_le h]
          omega
      obtain ⟨z, hz⟩ : ∃ z, l[i]? = some z := ⟨_, List.getElem?_eq_getElem hi⟩
      have d1 := dec_stands k3 k4 q2
      have d2 : dec ((cat l).drop (upto l i)) = .ok z (39 + z.body.length) := dec_place hl hz
      rw [d2] at d1
      injection d1 with d3 d4
      subst d3
      have hup := upto_next hz
      rw [hel] at hup
      rw [frontFrom_ok hd, k1] at h3 ⊢
      rw [← hup] at h3 ⊢
      obtain ⟨m, m1, m2⟩ := ih (i + 1) (by omega) hi (fun q hq => h3 q (List.mem_cons_of_mem _ hq))
      refine ⟨m + 1, by omega, ?_⟩
      obtain ⟨hi', ez⟩ := List.getElem?_eq_some_iff.1 hz
      rw [List.drop_eq_getElem_cons hi', ez, List.take_succ_cons, m2]
      show _ = (upto l i, z) :: places (upto l i + (enc z).length) _
      rw [hel, ← hup]
    · exact ⟨0, by omega, by rw [frontFrom_no hno, List.take_zero]; rfl⟩
/-- .. from the beginning. -/
theorem crash_front (l : List Rc) (hl : AllGood l) (y : List UInt8) (h : ∀ q ∈ frontFrom 0 y, q.1 + (enc q.2).length ≤ (cat l).length ∧ ((cat l).drop q.1).take (enc q.2).length = enc q.2) :
    ∃ m, m ≤ l.length ∧ frontFrom 0 y = places 0 (l.take m) := by
  obtain ⟨m, h1, h2⟩ := crash_go_on l hl y y.length 0 (by omega) (Nat.zero_le _) h
  exact ⟨m, by omega, by rw [List.drop_zero] at h2; exact h2⟩
/-- At least the records that the text begins with are there. -/
theorem crash_least (l : List Rc) (hl : AllGood l) (R : List UInt8) : l.length ≤ (frontFrom 0 (cat l ++ R)).length := by
  have h := front_more l [] R hl
  simp only [List.nil_append, List.length_nil, Nat.zero_add] at h
  rw [h, List.length_append, places_length]
  exact Nat.le_add_right _ _
end Go.Proofs.YtkdnfikaodkhnaaGreatDoor.Seg
/-
  Plain facts: of a file that was only appended to, a crash leaves all that was synced at its front; a crash that keeps nothing leaves that alone.
-/
namespace Go.Proofs.YtkdnfikaodkhnaaGreatDoor.Seg
open Go.RowKit Go.Proofs.YtkdnfikaodkhnaaGreatDoor.Rec Go.Proofs.YtkdnfikaodkhnaaGreatDoor.Disk
set_option linter.unusedVariables false
set_option linter.unusedSimpArgs false

theorem crash_keeps {x : Fl} (h : x.Ok) (hw : x.now.take x.was.length = x.was) {parts : List Nat} (hp : ∀ i, parts.getD i 0 ≤ 64) : ∃ z, x.crash parts = x.was ++ z := by
  obtain ⟨h1, h2, h3⟩ := x.crash_length h hp
  refine ⟨(x.crash parts).drop x.was.length, ?_⟩
  have e : (x.crash parts).take x.was.length = x.was := by
    refine List.ext_getElem? fun i => ?_
    by_cases hi : i < x.was.length
    · have g := x.crash_get h hp (i := i) (by omega)
      have hn : x.now.getD i 0 = x.was.getD i 0 := by
        conv => rhs; rw [← hw]
        rw [List.getD_eq_getElem?_getD, List.getD_eq_getElem?_getD, List.getElem?_take, if_pos hi]
      have hb : x.was[i]? = some (x.was.getD i 0) := by rw [List.getD_eq_getElem?_getD, List.getElem?_eq_getElem hi]; rfl
      rw [List.getElem?_take, if_pos hi, g, hb]
      split
      · rfl
      · have hlt : i < x.now.length := by have := h.le; omega
        rw [← hn, List.getD_eq_getElem?_getD, List.getElem?_eq_getElem hlt]
        rfl
    · rw [List.getElem?_eq_none (by rw [List.length_take]; omega), List.getElem?_eq_none (by omega)]
  conv => lhs; rw [← List.take_append_drop x.was.length (x.crash parts), e]
theorem csize_none {n S : Nat} {secs parts : Nat → Nat} (h : ∀ k, parts k = 0) : ∀ k, csize n S secs parts k = S
  | 0 => rfl
  | k + 1 => by
    unfold csize
    rw [if_neg (by rw [h k]; omega)]
    exact csize_none h k
theorem crash_nothing {x : Fl} (h : x.Ok) (hw : x.now.take x.was.length = x.was) {parts : List Nat} (hp : ∀ i, parts.getD i 0 = 0) : x.crash parts = x.was := by
  have hp' : ∀ i, parts.getD i 0 ≤ 64 := fun i => by rw [hp i]; omega
  obtain ⟨z, hz⟩ := crash_keeps h hw hp'
  have hl := (x.crash_length h hp').1
  have e : x.crashLen parts = x.was.length := csize_none (fun k => hp k) _
  rw [hz, List.length_append, e] at hl
  have : z = [] := List.eq_nil_of_length_eq_zero (by omega)
  rw [hz, this, List.append_nil]
theorem parts_none (n : Nat) : ∀ i, (partsFor 0 n [] (-1)).getD i 0 = 0 := by
  intro i
  unfold partsFor
  rw [List.getD_eq_getElem?_getD, List.getElem?_map]
  cases h : (List.range n)[i]? with
  | none => rfl
  | some j =>
    show partOf (0 + j) [] (-1) = 0
    unfold partOf
    rw [if_neg (by omega)]
    rfl
theorem take_front {a b : List UInt8} {p k : Nat} (h : p + k ≤ a.length) : ((a ++ b).drop p).take k = (a.drop p).take k := by
  rw [List.drop_append_of_le_length (by omega), List.take_append_of_le_length (by rw [List.length_drop]; omega)]
/-- Records one behind the other, of which so many were synced: what a crash leaves of them, where all that stands at its front was written. -/
theorem seg_crash (l : List Rc) (hl : AllGood l) (s : Nat) (x : Fl) (hx : x.Ok) (hnow : x.now = cat l) (hwas : x.was = cat (l.take s)) {parts : List Nat} (hp : ∀ i, parts.getD i 0 ≤ 64)
    (h : ∀ q ∈ frontFrom 0 (x.crash parts), (q.1 + (enc q.2).length ≤ x.now.length ∧ (x.now.drop q.1).take (enc q.2).length = enc q.2) ∨ (q.1 + (enc q.2).length ≤ x.was.length ∧ (x.was.drop q.1).take (enc q.2).length = enc q.2)) :
    ∃ m, min s l.length ≤ m ∧ m ≤ l.length ∧ frontFrom 0 (x.crash parts) = places 0 (l.take m) := by
  have e : cat l = cat (l.take s) ++ cat (l.drop s) := by rw [← cat_append, List.take_append_drop]
  have hw : x.now.take x.was.length = x.was := by rw [hnow, hwas, e, List.take_left]
  obtain ⟨m, h1, h2⟩ := crash_front l hl (x.crash parts) (fun q hq => by
    rw [← hnow]
    rcases h q hq with h | ⟨k1, k2⟩
    · exact h
    · have e2 : x.now = x.was ++ cat (l.drop s) := by rw [hnow, hwas, e]
      refine ⟨by rw [e2, List.length_append]; omega, ?_⟩
      rw [e2, take_front k1]
      exact k2)
  refine ⟨m, ?_, h1, h2⟩
  obtain ⟨z, hz⟩ := crash_keeps hx hw hp
  have hc := crash_least (l.take s) (fun x hx => hl x (List.mem_of_mem_take hx)) z
  rw [← hwas, ← hz, h2, places_length, List.length_take, List.length_take] at hc
  omega
end Go.Proofs.YtkdnfikaodkhnaaGreatDoor.Seg
/-
  Proved: a crash of a segment's disk leaves one file of that name; the segments that lie beside it stay.
-/
namespace Go.Proofs.YtkdnfikaodkhnaaGreatDoor.Seg
open Go.RowKit Go.Proofs.YtkdnfikaodkhnaaGreatDoor.Disk Go.Proofs.YtkdnfikaodkhnaaGreatDoor.Rec
set_option linter.unusedVariables false
set_option linter.unusedSimpArgs false

theorem Lies.beside {own own' : Own} {w0 w w' : World} {v : Sv} {d : Dk} (h : Lies own w0 w v d) (hb : Below w.heap.size w w') (hs : ∀ b, b < w.heap.size → own' b = own b) (ht : ∀ b p, own' b = some p → b < w'.heap.size) : Lies own' w0 w' v d :=
  { h with
    disk := h.disk.beside hb hs ht
    blk := (hb.block _ (blk_lt' h.blk)).trans h.blk
    own := (hs _ (blk_lt' h.blk)).trans h.own }
theorem landed_crashes : Crashes SG where
  crash := by
    intro own w0 w v B m c A keep n torn hSG hR hB hm
    obtain ⟨d, h, hf⟩ := hSG
    refine (crash_any (c := c) n torn h.disk.disk hR hB hm).mono ?_
    rintro e w' ⟨own', f', d', he, hge, hd, hc, hb, hs, _⟩
    have hk := h.disk.beside hb hs hd.top
    exact ⟨own', f', d, d', he, ⟨d, h.beside hb hs hd.top, hf⟩, h.st hf, hk, ⟨hd, hk.below, hk.free⟩, hc, hge,
      ⟨hb.os, hb.tape, hb.output, hb.size, hs, fun b hb' _ => hb.block b hb'⟩, fun w2 v2 ⟨d2, h2, hf2⟩ => ⟨d2, h2.beside hb hs hd.top, hf2⟩⟩
  lt := fun ⟨d, h, hf⟩ => ⟨blk_lt' h.blk, h.disk.disk.lt⟩
  opens := fun hT h hS hN hid hnum => open_ok' hT h hS hN hid hnum
  grow := by
    intro own w0 w w' v row hSG hg hr
    obtain ⟨d, h, hf⟩ := hSG
    cases row with
    | none => exact ⟨d, h.all ⟨hg.os, hg.tape, hg.output, hg.size, fun b hb => hg.block b hb (by simp)⟩, hf⟩
    | some g => exact ⟨d, h.write hg (hr g rfl).1 (hr g rfl).2, hf⟩
theorem crashed_one {d d' : Dk} {n : Int} {keep : List Bool} {torn : Int} {nm : Nm} {g : Nat} (h : d.Crashed d' n keep torn) (hw : d.wait = []) (hS : d.S = [(nm, g)]) :
    ∃ g', St d' d.room [(nm, g')] [(nm, g')] [] [(g', ⟨(d.fl g).crash (partsFor 0 (d.fl g).soiled.length keep torn), (d.fl g).crash (partsFor 0 (d.fl g).soiled.length keep torn), []⟩)] := by
  have hdir : d.crashDir n = [(nm, g)] := by rw [Dk.crashDir, hw, hS, List.take_nil]; rfl
  have hfl := h.files
  rw [hdir] at hfl
  have e : (crashFiles d.fl keep torn 0 [(nm, g)]).map (fun p => (p.1, (⟨p.2, p.2, []⟩ : Fl))) = [(nm, ⟨(d.fl g).crash (partsFor 0 (d.fl g).soiled.length keep torn), (d.fl g).crash (partsFor 0 (d.fl g).soiled.length keep torn), []⟩)] := rfl
  rw [e] at hfl
  unfold Dk.files at hfl
  match hN : d'.N with
  | [] => rw [hN] at hfl; have := congrArg List.length hfl; simp at this
  | [(n1, g1)] =>
    rw [hN] at hfl
    have hfl : [(n1, d'.fl g1)] = [(nm, (⟨(d.fl g).crash (partsFor 0 (d.fl g).soiled.length keep torn), (d.fl g).crash (partsFor 0 (d.fl g).soiled.length keep torn), []⟩ : Fl))] := hfl
    injection hfl with h1
    injection h1 with h1 h2
    subst h1
    exact ⟨g1, h.room, h.failing, hN, by rw [h.synced, hN], h.wait, fun p hp => by obtain rfl := List.mem_singleton.1 hp; exact h2⟩
  | p :: q :: r => rw [hN] at hfl; have := congrArg List.length hfl; simp at this
end Go.Proofs.YtkdnfikaodkhnaaGreatDoor.Seg
/-
  Proved: steps of a law on a disk of which nothing is known but that it is one; a crash of a crash.
-/
namespace Go.Proofs.YtkdnfikaodkhnaaGreatDoor.Disk
open Go.RowKit Go.Maps
set_option linter.unusedVariables false
set_option linter.unusedSimpArgs false

/-- A call came back with a number, and the disk is held. -/
def Went (w0 : World) (f K : Nat) (e : Ending) (w' : World) : Prop := ∃ own' n d', e = .returned (.int .i64 n) ∧ Held own' w0 w' f d' K
theorem create_went {own : Own} {w0 w : World} {f K : Nat} {d : Dk} (s : ByteArray) (h : Held own w0 w f d K) (hs : s.size ≤ maxLen) (hK : K + 1 ≤ 1073741824) :
    Calls Tryz.prog 23 #[.pointer (some ⟨f, 0, none⟩), .string s] w (Went w0 f (K + 1)) := by
  refine (create_any s h.disk hs hK).mono ?_
  rintro e w' ⟨own', g, _, he, hd, hst⟩
  exact ⟨own', _, _, he, h.next hst hd⟩
theorem sync_went {own : Own} {w0 w : World} {f K : Nat} {d : Dk} (s : ByteArray) (h : Held own w0 w f d K) (hs : s.size ≤ maxLen) (hK : K + 1 ≤ 1073741824) :
    Calls Tryz.prog 30 #[.pointer (some ⟨f, 0, none⟩), .string s] w (Went w0 f (K + 1)) := by
  refine (sync_any s h.disk hs hK).mono ?_
  rintro e w' ⟨own', g, _, he, hd, hst⟩
  exact ⟨own', _, _, he, h.next hst hd⟩
theorem syncDir_went {own : Own} {w0 w : World} {f K : Nat} {d : Dk} (h : Held own w0 w f d K) (hK : K + 1 ≤ 1073741824) :
    Calls Tryz.prog 24 #[.pointer (some ⟨f, 0, none⟩)] w (Went w0 f (K + 1)) := by
  refine (syncDir_any h.disk hK).mono ?_
  rintro e w' ⟨own', g, _, he, hd, hst⟩
  exact ⟨own', _, _, he, h.next hst hd⟩
theorem write_went {own : Own} {w0 w : World} {f K : Nat} {d : Dk} (s : ByteArray) (a : Int) (h : Held own w0 w f d K) (hs : s.size ≤ maxLen) (hK : K + 1 ≤ 1073741824) (ha : -9223372036854775808 ≤ a ∧ a ≤ 9223372036854775807)
    {A : Option Addr} {m c : Nat} {bs : List UInt8} (hR : Row w0 w0.heap.size A m (bvs bs)) (hc : m ≤ c) (hcm : c ≤ maxLen) (hm : m ≤ 1099511627776) :
    Calls Tryz.prog 29 #[.pointer (some ⟨f, 0, none⟩), .string s, .int .i64 a, .slice A m c] w (Went w0 f (K + 1)) := by
  have hF := h.elder hR
  refine (write_any s a h.disk hs hK ha.1 ha.2 hF.row (Nat.le_refl _) (fun hm0 ad had g => by rw [hF.none_at hm0 ad had]; simp) hc hcm hm).mono ?_
  rintro e w' ⟨own', n, d', _, he, hd, hst⟩
  exact ⟨own', n, d', he, h.next hst hd⟩
set_option maxRecDepth 100000 in
theorem names_held {own : Own} {w0 w : World} {f K : Nat} {d : Dk} (h : Held own w0 w f d K) :
    Calls Tryz.prog 37 #[.pointer (some ⟨f, 0, none⟩)] w fun e w' => ∃ v, e = .returned v ∧ w'.ownsRow w.heap.size 9 1 v d.N.length ((d.N.map (·.1)).map encStr) ∧ Below w.heap.size w w' := by
  obtain ⟨nb, sb, wv, hd⟩ := h.disk
  have b1 : w.cell? ⟨f, 1, none⟩ = some (.map (some nb)) := Blk.cell hd.blk 1
  have CN := names_any hd.mapN (by have := hd.ok.N; have := hd.ok.big; omega)
  clear hd h
  go_enter Tryz.func37, Tryz.ntmps37
  go_wp2_with (go_at_call 34; refine CN.mono ?_; rintro e w' ⟨v, rfl, hrow, hb⟩)
  go_ret
  exact ⟨v, rfl, hrow, hb⟩
/-! A crash of a crash. -/
theorem dget_some {n : Nm} {N : Dir} (h : n ∈ N.map (·.1)) : ∃ g, dget n N = some g := by
  cases hg : dget n N with
  | some g => exact ⟨g, rfl⟩
  | none =>
    obtain ⟨p, hp, rfl⟩ := List.mem_map.1 h
    exact absurd rfl (dget_none hg p hp)
theorem crash_names (fl : Nat → Fl) (keep : List Bool) (torn : Int) : ∀ (k : Nat) (N : Dir), (crashFiles fl keep torn k N).map (·.1) = N.map (·.1)
  | _, [] => rfl
  | k, p :: r => by rw [crashFiles, List.map_cons, List.map_cons, crash_names]
theorem crash_find (fl : Nat → Fl) (keep : List Bool) (torn : Int) (n : Nm) (g : Nat) : ∀ (k : Nat) (N : Dir), dget n N = some g → ∃ parts, (crashFiles fl keep torn k N).find? (fun p => p.1 == n) = some (n, (fl g).crash parts)
  | _, [], h => by cases h
  | k, p :: r, h => by
    rw [crashFiles]
    by_cases hp : p.1 = n
    · rw [List.find?_cons_of_pos (by simpa using hp)]
      have e : dget n (p :: r) = some p.2 := by rw [dget, List.find?_cons_of_pos (by simpa using hp)]; rfl
      rw [e] at h
      obtain rfl := Option.some.inj h
      rw [hp]
      exact ⟨_, rfl⟩
    · rw [List.find?_cons_of_neg (by simpa using hp)]
      refine crash_find fl keep torn n g _ r ?_
      rw [dget, List.find?_cons_of_neg (by simpa using hp)] at h
      exact h
theorem files_names (d : Dk) : d.files.map (·.1) = d.N.map (·.1) := by
  rw [Dk.files, List.map_map]
  rfl
theorem Dk.Crashed.names {d a : Dk} {n : Int} {keep : List Bool} {torn : Int} (ha : d.Crashed a n keep torn) : a.N.map (·.1) = (d.crashDir n).map (·.1) := by
  rw [← files_names, ha.files, List.map_map]
  exact crash_names d.fl keep torn 0 (d.crashDir n)
theorem Dk.Crashed.clean {d a : Dk} {n : Int} {keep : List Bool} {torn : Int} (ha : d.Crashed a n keep torn) {p : Nm × Nat} (hp : p ∈ a.N) : ∃ y, a.fl p.2 = ⟨y, y, []⟩ := by
  have h1 : (p.1, a.fl p.2) ∈ a.files := List.mem_map.2 ⟨p, hp, rfl⟩
  rw [ha.files] at h1
  obtain ⟨q, _, hq⟩ := List.mem_map.1 h1
  injection hq with _ hq
  exact ⟨q.2, hq.symm⟩
theorem Dk.Crashed.again {d a : Dk} {n : Int} {keep : List Bool} {torn : Int} (ha : d.Crashed a n keep torn) (c : Int) : a.crashDir c = a.N := by
  rw [Dk.crashDir, ha.wait, ha.synced, List.take_nil]
  rfl
theorem Dk.Crashed.total {d a : Dk} {n : Int} {keep : List Bool} {torn : Int} (ha : d.Crashed a n keep torn) : total (fun g => (a.fl g).soiled.length) a.N = 0 := by
  unfold Disk.total
  rw [List.sum_eq_zero_iff_forall_eq_nat]
  intro x hx
  obtain ⟨p, hp, rfl⟩ := List.mem_map.1 hx
  obtain ⟨y, hy⟩ := ha.clean hp
  dsimp only
  rw [hy]
  rfl
theorem twice {d a b : Dk} {n : Int} {keep : List Bool} {torn : Int} (ha : d.Crashed a n keep torn) (hb : a.Crashed b 0 [] (-1)) :
    b.N.map (·.1) = a.N.map (·.1) ∧ ∀ nm ∈ a.N.map (·.1), ∃ y, a.look nm = some ⟨y, y, []⟩ ∧ b.look nm = some ⟨y, y, []⟩ := by
  refine ⟨by rw [hb.names, ha.again], fun nm hn => ?_⟩
  obtain ⟨g, hg⟩ := dget_some hn
  obtain ⟨y, hy⟩ := ha.clean (dget_mem hg)
  refine ⟨y, by rw [Dk.look, hg]; exact congrArg some hy, ?_⟩
  rw [hb.look, ha.again]
  obtain ⟨parts, hp⟩ := crash_find a.fl [] (-1) nm g 0 a.N hg
  rw [hp]
  have e : (a.fl g).crash parts = y := by
    dsimp only at hy
    rw [hy]
    exact Fl.crash_clean rfl rfl parts
  rw [e]
  rfl
theorem Dk.look_read (d : Dk) (k : Nat) (n : Nm) : (d.read k).look n = d.look n := rfl
/-- A row that a call has laid. -/
theorem Held.laid {own : Own} {w0 w w' : World} {f K : Nat} {d : Dk} (h : Held own w0 w f d K) {t : TypeId} {A : Option Addr} {n c : Nat} {xs : List Value} (hr : w'.ownsRow w.heap.size t 1 (.slice A n c) n xs) : Free own w' A n xs := by
  refine h.younger (Row.own hr) fun hn ad had => ?_
  rcases hr.2 with ⟨e, _⟩ | ⟨g, cap, cur, e, hb, _⟩
  · injection e with e1 e2 e3; omega
  · injection e with e1 e2 e3
    rw [e1] at had
    injection had with had
    rw [← had]
    exact hb
/-! Two disks beside each other, and rows that are no disk's. -/
structure Two (own : Own) (w1 w : World) (fa fb : Nat) (a b : Dk) (K : Nat) (Al Am : Option Addr) (L : Nat) (vs : List Value) : Prop where
  a : ∃ a', Held own w1 w fa a' K ∧ ∀ n, a'.look n = a.look n
  b : ∃ b', Held own w1 w fb b' K ∧ ∀ n, b'.look n = b.look n
  ne : fb ≠ fa
  l : Free own w Al L vs
  m : Free own w Am L vs
theorem Two.all {own : Own} {w1 w w' : World} {fa fb : Nat} {a b : Dk} {K : Nat} {Al Am : Option Addr} {L : Nat} {vs : List Value} (h : Two own w1 w fa fb a b K Al Am L vs) (hb : Below w.heap.size w w') : Two own w1 w' fa fb a b K Al Am L vs := by
  obtain ⟨a', ha, la⟩ := h.a
  obtain ⟨b', hb', lb⟩ := h.b
  exact ⟨⟨a', ha.all hb, la⟩, ⟨b', hb'.all hb, lb⟩, h.ne, h.l.keep (fun _ _ => rfl) hb, h.m.keep (fun _ _ => rfl) hb⟩
theorem Two.size_a {own : Own} {w1 w : World} {fa fb : Nat} {a b : Dk} {K : Nat} {Al Am : Option Addr} {L : Nat} {vs : List Value} (h : Two own w1 w fa fb a b K Al Am L vs) (nm y : List UInt8) (hs : nm.length ≤ maxLen) (hy : a.look nm = some ⟨y, y, []⟩) (q : Nat) :
    Calls Tryz.prog 22 #[.pointer (some ⟨fa, 0, none⟩), .string ⟨nm.toArray⟩] (w.drewN q) fun e w' => e = .returned (.int .i64 (y.length : Int)) ∧ w' = w.drewN q := by
  obtain ⟨a', ha, la⟩ := h.a
  exact size_look ⟨nm.toArray⟩ (ha.all (below_drewN (Below.refl _ w) q)) (by show nm.toArray.size ≤ maxLen; rw [List.size_toArray]; exact hs) (x := ⟨y, y, []⟩) (by show a'.look nm = _; rw [la]; exact hy)
theorem Two.size_b {own : Own} {w1 w : World} {fa fb : Nat} {a b : Dk} {K : Nat} {Al Am : Option Addr} {L : Nat} {vs : List Value} (h : Two own w1 w fa fb a b K Al Am L vs) (nm y : List UInt8) (hs : nm.length ≤ maxLen) (hy : b.look nm = some ⟨y, y, []⟩) (q : Nat) :
    Calls Tryz.prog 22 #[.pointer (some ⟨fb, 0, none⟩), .string ⟨nm.toArray⟩] (w.drewN q) fun e w' => e = .returned (.int .i64 (y.length : Int)) ∧ w' = w.drewN q := by
  obtain ⟨b', hb, lb⟩ := h.b
  exact size_look ⟨nm.toArray⟩ (hb.all (below_drewN (Below.refl _ w) q)) (by show nm.toArray.size ≤ maxLen; rw [List.size_toArray]; exact hs) (x := ⟨y, y, []⟩) (by show b'.look nm = _; rw [lb]; exact hy)
theorem Two.read_a {own : Own} {w1 w : World} {fa fb : Nat} {a b : Dk} {K : Nat} {Al Am : Option Addr} {L : Nat} {vs : List Value} (h : Two own w1 w fa fb a b K Al Am L vs) (nm y : List UInt8) (hs : nm.length ≤ maxLen) (hy : a.look nm = some ⟨y, y, []⟩) (hK : K + 1 ≤ 1073741824) :
    Calls Tryz.prog 66 #[.pointer (some ⟨fa, 0, none⟩), .string ⟨nm.toArray⟩, .int .i64 0, .int .i64 (y.length : Int)] w fun e w' => ∃ A c, e = .returned (.tuple #[.slice A y.length c, .int .i64 0]) ∧ Two own w1 w' fa fb a b (K + 1) Al Am L vs ∧ Free own w' A y.length (bvs y) := by
  obtain ⟨a', ha, la⟩ := h.a
  obtain ⟨b', hb, lb⟩ := h.b
  refine (read_look (x := ⟨y, y, []⟩) ⟨nm.toArray⟩ 0 y.length ha (by show nm.toArray.size ≤ maxLen; rw [List.size_toArray]; exact hs) (by show a'.look nm = _; rw [la]; exact hy) (by show 0 + y.length ≤ y.length; omega) hK).mono ?_
  rintro e w' ⟨v, rfl, hr, h1, st⟩
  obtain ⟨A, c, rfl, _, _⟩ := own_form hr
  have e0 : (y.drop 0).take y.length = y := by rw [List.drop_zero, List.take_length]
  rw [e0] at hr
  exact ⟨A, c, rfl, ⟨⟨_, h1, la⟩, ⟨b', (hb.other st h.ne h1.top).mono (by omega) hK, lb⟩, h.ne, h.l.step st, h.m.step st⟩, ha.answer hr⟩
theorem Two.read_b {own : Own} {w1 w : World} {fa fb : Nat} {a b : Dk} {K : Nat} {Al Am : Option Addr} {L : Nat} {vs : List Value} (h : Two own w1 w fa fb a b K Al Am L vs) (nm y : List UInt8) (hs : nm.length ≤ maxLen) (hy : b.look nm = some ⟨y, y, []⟩) (hK : K + 1 ≤ 1073741824) {A1 : Option Addr} (hx : Free own w A1 y.length (bvs y)) :
    Calls Tryz.prog 66 #[.pointer (some ⟨fb, 0, none⟩), .string ⟨nm.toArray⟩, .int .i64 0, .int .i64 (y.length : Int)] w fun e w' => ∃ A c, e = .returned (.tuple #[.slice A y.length c, .int .i64 0]) ∧ Two own w1 w' fa fb a b (K + 1) Al Am L vs ∧ Free own w' A y.length (bvs y) ∧ Free own w' A1 y.length (bvs y) := by
  obtain ⟨a', ha, la⟩ := h.a
  obtain ⟨b', hb, lb⟩ := h.b
  refine (read_look (x := ⟨y, y, []⟩) ⟨nm.toArray⟩ 0 y.length hb (by show nm.toArray.size ≤ maxLen; rw [List.size_toArray]; exact hs) (by show b'.look nm = _; rw [lb]; exact hy) (by show 0 + y.length ≤ y.length; omega) hK).mono ?_
  rintro e w' ⟨v, rfl, hr, h1, st⟩
  obtain ⟨A, c, rfl, _, _⟩ := own_form hr
  have e0 : (y.drop 0).take y.length = y := by rw [List.drop_zero, List.take_length]
  rw [e0] at hr
  exact ⟨A, c, rfl, ⟨⟨a', (ha.other st h.ne.symm h1.top).mono (by omega) hK, la⟩, ⟨_, h1, lb⟩, h.ne, h.l.step st, h.m.step st⟩, hb.answer hr, hx.step st⟩
end Go.Proofs.YtkdnfikaodkhnaaGreatDoor.Disk
