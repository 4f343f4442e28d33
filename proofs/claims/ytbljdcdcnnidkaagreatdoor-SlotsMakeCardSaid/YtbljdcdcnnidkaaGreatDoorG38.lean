/-
  Texts one behind the other: SlotMixed.
-/
import Derived.Test.YtbljdcdcnnidkaaGreatDoorG34
import Derived.Test.YtbljdcdcnnidkaaGreatDoorG37
/-
  What law 8's Mixed says of the disks of layer 9's laws; what a crash leaves of a Create that failed: facts, and a contract.
-/
namespace Go.Proofs.YtbljdcdcnnidkaaGreatDoor.Slot
open Go.RowKit Go.Proofs.YtbljdcdcnnidkaaGreatDoor.Rec Go.Proofs.YtbljdcdcnnidkaaGreatDoor.Disk Go.Proofs.YtbljdcdcnnidkaaGreatDoor.Mix
open Go.Proofs.YtbljdcdcnnidkaaGreatDoor.Crc (Turned)
open Go.Proofs.YtbljdcdcnnidkaaGreatDoor.Seg (Fr ptr mark_old mark_top free_fr failRaw_held)
set_option linter.unusedVariables false
set_option linter.unusedSimpArgs false

theorem mixed_slots {own : Own} {wa w : World} {fa fc K : Nat} {da dc : Dk} (ha : Held own wa w fa da K) (hc : Held own wa w fc dc K) (hne : fa ≠ fc) (hma : da.N.length ≤ 1) (hms : (da.crashDir 0).length ≤ 1) (hna : ∀ n ∈ da.N.map (·.1), n.length ≤ maxLen) (hns : ∀ n ∈ (da.crashDir 0).map (·.1), n.length ≤ maxLen)
    (hnl : dc.N.length ≤ 1) (hnc : ∀ n ∈ dc.N.map (·.1), n.length ≤ maxLen) (hK : K ≤ 1000) :
    Calls Tryz.prog 13 #[.pointer (some ⟨fa, 0, none⟩), .pointer (some ⟨fc, 0, none⟩)] w fun e w' => ∃ t, e = .returned (.bool t) ∧ Says own wa wa w fa fc 300000 da dc t w' :=
  mixed_any (M := 1) ha hc hne hma hms hna hns hnc (fun n x hx => hc.ok hx) (by
    have : dc.N.length * (1 + 107602 * (2 * 1)) ≤ 1 * (1 + 107602 * (2 * 1)) := Nat.mul_le_mul_right _ hnl
    omega) (by decide)
theorem dget_iff {n : Nm} {N : Dir} : dget n N = none ↔ n ∉ N.map (·.1) := by
  constructor
  · intro h hm
    obtain ⟨p, hp, rfl⟩ := List.mem_map.1 hm
    exact dget_none h p hp rfl
  · intro h
    cases e : dget n N with
    | none => rfl
    | some g => exact absurd (List.mem_map.2 ⟨_, dget_mem e, rfl⟩) h
/-- The crashed disk behind Mixed. -/
theorem says_disk {own : Own} {wa wb w w' : World} {fa fc KT : Nat} {da dc : Dk} {t : Bool} (h : Says own wa wb w fa fc KT da dc t w') : ∃ own' d, Held own' wb w' fc d KT ∧ (∀ b, b < w.heap.size → own' b = own b) ∧ Rd own' w w' ∧ (∀ n, dc.look n = none → d.look n = none) ∧ (∀ n x, dc.look n = some x → ∃ y, d.look n = some y ∧ y.now = x.now) := by
  obtain ⟨own', pa, pc, pf, d2, _, hs, hd, hr, _, hpc, _⟩ := h.ex
  obtain ⟨d, h1, h2, h3⟩ := hd.disk pc (by simp)
  rw [hpc] at h1 h2 h3
  refine ⟨own', d, h1, hs, hr, fun n hn => ?_, fun n x hx => ?_⟩
  · unfold Dk.look at hn ⊢
    have h4 := Option.map_eq_none_iff.1 hn
    rw [Option.map_eq_none_iff, dget_iff, h2]
    exact dget_iff.1 h4
  · have h4 : text d n = text dc n := h3 n
    cases hy : d.look n with
    | none =>
      unfold Dk.look at hx hy
      have h5 := Option.map_eq_none_iff.1 hy
      rw [dget_iff, h2] at h5
      obtain ⟨g, h6, _⟩ := Option.map_eq_some_iff.1 hx
      exact absurd (List.mem_map.2 ⟨_, dget_mem h6, rfl⟩) h5
    | some y =>
      unfold text at h4
      rw [hx, hy] at h4
      exact ⟨y, rfl, h4⟩
theorem crash_names_le (d d' : Dk) {n : Int} {keep : List Bool} {torn : Int} (h : d.Crashed d' n keep torn) (hl : (d.crashDir n).length ≤ 1) (hn : ∀ m ∈ (d.crashDir n).map (·.1), m.length ≤ maxLen) : d'.N.length ≤ 1 ∧ ∀ m ∈ d'.N.map (·.1), m.length ≤ maxLen := by
  have e := h.names
  refine ⟨?_, fun m hm => hn m (e ▸ hm)⟩
  have := congrArg List.length e
  rw [List.length_map, List.length_map] at this
  omega
/-- The directory that a crash of a half made file leaves. -/
theorem half_dir {nm : ByteArray} {b : List UInt8} {d : Dk} (h : Half nm b d) (n : Int) : d.crashDir n = [] ∨ (∃ g, d.crashDir n = [(nmNew, g)]) ∨ ∃ g, d.crashDir n = [(nm.data.toList, g)] ∧ d.fl g = ⟨laidB b, laidB b, []⟩ := by
  cases h with
  | bare hb =>
    refine .inl ?_
    rw [Dk.crashDir, hb.wait, hb.S, List.take_nil]
    rfl
  | beside g x hb =>
    rw [Dk.crashDir, hb.wait, hb.S]
    generalize (min (max n 0) ([⟨noName, sNew, some g⟩] : List Chg).length).toNat = k
    match k with
    | 0 => exact .inl rfl
    | k + 1 => exact .inr (.inl ⟨g, by rw [List.take_of_length_le (by simp)]; rfl⟩)
  | named g hb =>
    have hfl := hb.fl
    rw [Dk.crashDir, hb.wait, hb.S]
    generalize (min (max n 0) ([⟨noName, sNew, some g⟩, ⟨sNew, nm, some g⟩] : List Chg).length).toNat = k
    match k with
    | 0 => exact .inl rfl
    | 1 => exact .inr (.inl ⟨g, rfl⟩)
    | k + 2 =>
      refine .inr (.inr ⟨g, ?_, hfl⟩)
      rw [List.take_of_length_le (by simp)]
      rfl
theorem look_crash {d d' : Dk} {n : Int} {keep : List Bool} {torn : Int} (h : d.Crashed d' n keep torn) (nm : Nm) (hd : nm ∉ (d.crashDir n).map (·.1)) : d'.look nm = none := by
  unfold Dk.look
  rw [Option.map_eq_none_iff, dget_iff, h.names]
  exact hd
theorem half_crash {nm : ByteArray} {b : List UInt8} {d d' : Dk} {n : Int} {keep : List Bool} {torn : Int} (h : Half nm b d) (hne : nm.data.toList ≠ nmNew) (hc : d.Crashed d' n keep torn) : d'.look nm.data.toList = none ∨ ∃ x, d'.look nm.data.toList = some x ∧ x.now = laidB b := by
  rcases half_dir h n with e | ⟨g, e⟩ | ⟨g, e, hfl⟩
  · exact .inl (look_crash hc _ (by rw [e]; simp))
  · exact .inl (look_crash hc _ (by rw [e]; simpa using hne))
  · refine .inr ⟨⟨laidB b, laidB b, []⟩, ?_, rfl⟩
    rw [hc.look, e, crash_first, hfl, Fl.crash_clean (x := ⟨laidB b, laidB b, []⟩) rfl rfl]
    rfl
theorem half_small {nm : ByteArray} {b : List UInt8} {d : Dk} (h : Half nm b d) (hs : nm.data.toList.length ≤ maxLen) (n : Int) : (d.N.length ≤ 1 ∧ ∀ m ∈ d.N.map (·.1), m.length ≤ maxLen) ∧ (d.crashDir n).length ≤ 1 ∧ ∀ m ∈ (d.crashDir n).map (·.1), m.length ≤ maxLen := by
  refine ⟨?_, ?_⟩
  · cases h with
    | bare hb => rw [hb.N]; exact ⟨by simp, by simp⟩
    | beside g x hb => rw [hb.N]; exact ⟨by simp, by intro m hm; simp at hm; rw [hm]; decide⟩
    | named g hb => rw [hb.N]; exact ⟨by simp, by intro m hm; simp at hm; rw [hm]; exact hs⟩
  · rcases half_dir h n with e | ⟨g, e⟩ | ⟨g, e, _⟩
    · rw [e]; exact ⟨by simp, by simp⟩
    · rw [e]; exact ⟨by simp, by intro m hm; simp at hm; rw [hm]; decide⟩
    · rw [e]; exact ⟨by simp, by intro m hm; simp at hm; rw [hm]; exact hs⟩
end Go.Proofs.YtbljdcdcnnidkaaGreatDoor.Slot
