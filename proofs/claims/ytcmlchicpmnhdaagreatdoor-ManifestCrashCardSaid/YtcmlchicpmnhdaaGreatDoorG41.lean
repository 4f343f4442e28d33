/-
  Texts one behind the other: SlotMake, SlotCreate.
-/
import Derived.Test.YtcmlchicpmnhdaaGreatDoorG40
/-
  Proved: what layBeside of package slots does on a disk without files, of which a call may be to fail; the steps of Create on the disk.
  Conditions: the slice reads as bytes; the disk has room.
-/
namespace Go.Proofs.YtcmlchicpmnhdaaGreatDoor.Slot
open Go.RowKit Go.Proofs.YtcmlchicpmnhdaaGreatDoor.Rec Go.Proofs.YtcmlchicpmnhdaaGreatDoor.Disk
open Go.Proofs.YtcmlchicpmnhdaaGreatDoor.Crc (Turned)
open Go.Proofs.YtcmlchicpmnhdaaGreatDoor.Seg (Fr ptr mark_old mark_top free_fr)
set_option linter.unusedVariables false
set_option linter.unusedSimpArgs false

def sNew : ByteArray := ⟨#[78, 69, 87]⟩
def nmNew : Nm := [78, 69, 87]
/-- A disk without files. -/
structure Bare (d : Dk) : Prop where
  N : d.N = []
  S : d.S = []
  wait : d.wait = []
/-- A disk with the file that is laid beside. -/
structure Beside (d : Dk) (g : Nat) (x : Fl) : Prop where
  N : d.N = [(nmNew, g)]
  S : d.S = []
  wait : d.wait = [⟨noName, sNew, some g⟩]
  fl : d.fl g = x
/-- .. that has got its name. -/
structure Named (d : Dk) (nm : ByteArray) (g : Nat) (x : Fl) : Prop where
  N : d.N = [(nm.data.toList, g)]
  S : d.S = []
  wait : d.wait = [⟨noName, sNew, some g⟩, ⟨sNew, nm, some g⟩]
  fl : d.fl g = x
theorem Bare.begin {d : Dk} (h : Bare d) : Bare d.begin := ⟨d.begin_dir.trans h.N, d.begin_S.trans h.S, d.begin_wait.trans h.wait⟩
theorem Beside.begin {d : Dk} {g : Nat} {x : Fl} (h : Beside d g x) : Beside d.begin g x := ⟨d.begin_dir.trans h.N, d.begin_S.trans h.S, d.begin_wait.trans h.wait, by rw [d.begin_fl]; exact h.fl⟩
theorem Named.begin {d : Dk} {nm : ByteArray} {g : Nat} {x : Fl} (h : Named d nm g x) : Named d.begin nm g x := ⟨d.begin_dir.trans h.N, d.begin_S.trans h.S, d.begin_wait.trans h.wait, by rw [d.begin_fl]; exact h.fl⟩
theorem Beside.dget {d : Dk} {g : Nat} {x : Fl} (h : Beside d g x) : dget sNew.data.toList d.N = some g := by
  rw [h.N]
  rfl
theorem err_three {d : Dk} (h : ¬ d.err = 0) : d.err = 3 := by
  rcases d.err_cases with h' | h'
  · exact absurd h' h
  · exact h'
theorem create_bare {own : Own} {w0 w : World} {f K : Nat} {d : Dk} (h : Held own w0 w f d K) (hB : Bare d) (hK : K + 1 ≤ 1073741824) :
    Calls Tryz.prog 75 #[.pointer (some ⟨f, 0, none⟩), .string sNew] w fun e w' => ∃ own' d', e = .returned (.int .i64 d.err) ∧ Held own' w0 w' f d' (K + 1) ∧ Step own own' f w w' ∧ d'.arm = armed d.arm ∧ d'.room = d.room ∧
      (d.err ≠ 0 → Bare d') ∧ (d.err = 0 → ∃ g, Beside d' g emptyFl) := by
  refine (create_any sNew h.disk (by decide) hK).mono ?_
  rintro e w' ⟨own', g, _, he, hd, hst⟩
  by_cases herr : d.err = 0
  · have e1 : d.create sNew g = (0, (d.begin.withFile g emptyFl).change ⟨noName, sNew, some g⟩) := by
      rw [Dk.create, if_neg (by rw [herr]; simp), if_neg (by decide), if_neg (by rw [hB.N]; rintro ⟨_, h⟩; simp at h)]
    rw [e1] at he hd
    have hb := hB.begin
    refine ⟨own', _, by rw [herr]; exact he, h.next hst hd, hst, d.begin_arm, d.begin_room, fun hh => absurd herr hh, fun _ => ⟨g, ?_, hb.S, ?_, if_pos rfl⟩⟩
    · show dput sNew.data.toList g (ddel [] d.begin.N) = _
      rw [hb.N]
      rfl
    · show d.begin.wait ++ _ = _
      rw [hb.wait]
      rfl
  · have e1 : d.create sNew g = (3, d.begin) := by rw [Dk.create, if_pos herr]
    rw [e1] at he hd
    exact ⟨own', _, by rw [err_three herr]; exact he, h.next hst hd, hst, d.begin_arm, d.begin_room, fun _ => hB.begin, fun hh => absurd hh herr⟩
theorem write_beside {own : Own} {w0 w : World} {f K g : Nat} {d : Dk} (h : Held own w0 w f d K) (o : Beside d g emptyFl) (hK : K + 1 ≤ 1073741824)
    {A : Option Addr} {m c : Nat} {bs : List UInt8} (hR : Free own w A m (bvs bs)) (hc : m ≤ c) (hcm : c ≤ maxLen) (hroom : (m : Int) ≤ d.room) (hm1 : m ≤ 4194304) :
    Calls Tryz.prog 56 #[.pointer (some ⟨f, 0, none⟩), .string sNew, .int .i64 0, .slice A m c] w fun e w' => ∃ own' d', e = .returned (.int .i64 d.err) ∧ Held own' w0 w' f d' (K + 1) ∧ Step own own' f w w' ∧ d'.arm = armed d.arm ∧ d'.room = d.room ∧
      (d.err ≠ 0 → Beside d' g emptyFl) ∧ (d.err = 0 → ∃ L, Beside d' g ⟨bs, [], L⟩) := by
  have hm : bs.length = m := by have := hR.1; rwa [bvs_length] at this
  refine (write_any sNew 0 h.disk (by decide) hK (by omega) (by omega) hR.row (Nat.le_refl _) (fun h0 ad had g' => by rw [hR.none_at h0 ad had]; simp) hc hcm (by omega)).mono ?_
  rintro e w' ⟨own', n, d', hW, he, hd, hst⟩
  unfold Dk.Writes at hW
  by_cases herr : d.err = 0
  · rw [if_neg (by rw [herr]; simp), o.dget] at hW
    dsimp only at hW
    have ht : total (fun g => (d.fl g).now.length) d.N = 0 := by
      rw [o.N]
      show (d.fl g).now.length + 0 = 0
      rw [o.fl]
      rfl
    rw [o.fl, ht] at hW
    rw [if_neg (by simp [emptyFl]), if_neg (by rintro ⟨_, h2⟩; simp [emptyFl] at h2; omega)] at hW
    obtain ⟨rfl, L, hL, rfl⟩ := hW
    have hb := o.begin
    refine ⟨own', _, by rw [herr]; exact he, h.next hst hd, hst, d.begin_arm, d.begin_room, fun hh => absurd herr hh, fun _ => ⟨L, hb.N, hb.S, hb.wait, ?_⟩⟩
    show upd d.begin.fl g _ g = _
    rw [upd, if_pos rfl]
    show (⟨putAt [] 0 bs, [], L⟩ : Fl) = _
    rw [putAt_start]
  · rw [if_pos herr] at hW
    obtain ⟨rfl, rfl⟩ := hW
    exact ⟨own', _, by rw [err_three herr]; exact he, h.next hst hd, hst, d.begin_arm, d.begin_room, fun _ => o.begin, fun hh => absurd hh herr⟩
theorem sync_beside {own : Own} {w0 w : World} {f K g : Nat} {d : Dk} {x : Fl} (h : Held own w0 w f d K) (o : Beside d g x) (hK : K + 1 ≤ 1073741824) :
    Calls Tryz.prog 57 #[.pointer (some ⟨f, 0, none⟩), .string sNew] w fun e w' => ∃ own' d', e = .returned (.int .i64 d.err) ∧ Held own' w0 w' f d' (K + 1) ∧ Step own own' f w w' ∧ d'.arm = armed d.arm ∧ d'.room = d.room ∧
      (d.err ≠ 0 → Beside d' g x) ∧ (d.err = 0 → Beside d' g ⟨x.now, x.now, []⟩) := by
  refine (sync_any sNew h.disk (by decide) hK).mono ?_
  rintro e w' ⟨own', g', _, he, hd, hst⟩
  dsimp only at he hd
  by_cases herr : d.err = 0
  · have e1 : d.sync sNew = (0, d.begin.withFile g ⟨(d.fl g).now, (d.fl g).now, []⟩) := by
      rw [Dk.sync, if_neg (by rw [herr]; simp), o.dget]
    rw [e1, o.fl] at hd
    rw [e1] at he
    have hb := o.begin
    exact ⟨own', _, by rw [herr]; exact he, h.next hst hd, hst, d.begin_arm, d.begin_room, fun hh => absurd herr hh, fun _ => ⟨hb.N, hb.S, hb.wait, if_pos rfl⟩⟩
  · have e1 : d.sync sNew = (3, d.begin) := by rw [Dk.sync, if_pos herr]
    rw [e1] at he hd
    exact ⟨own', _, by rw [err_three herr]; exact he, h.next hst hd, hst, d.begin_arm, d.begin_room, fun _ => o.begin, fun hh => absurd hh herr⟩
theorem rename_beside {own : Own} {w0 w : World} {f K g : Nat} {d : Dk} {x : Fl} (nm : ByteArray) (h : Held own w0 w f d K) (o : Beside d g x) (hs : nm.size ≤ maxLen) (hg : goodName nm.data.toList = true) (hK : K + 1 ≤ 1073741824) :
    Calls Tryz.prog 48 #[.pointer (some ⟨f, 0, none⟩), .string sNew, .string nm] w fun e w' => ∃ own' d', e = .returned (.int .i64 d.err) ∧ Held own' w0 w' f d' (K + 1) ∧ Step own own' f w w' ∧ d'.arm = armed d.arm ∧ d'.room = d.room ∧
      (d.err ≠ 0 → Beside d' g x) ∧ (d.err = 0 → Named d' nm g x) := by
  refine (rename_any sNew nm h.disk (by decide) hs hK).mono ?_
  rintro e w' ⟨own', g', _, he, hd, hst⟩
  dsimp only at he hd
  by_cases herr : d.err = 0
  · have e1 : d.rename sNew nm = (0, d.begin.change ⟨sNew, nm, some g⟩) := by
      rw [Dk.rename, if_neg (by rw [herr]; simp), o.dget]
      dsimp only
      rw [if_neg (by rw [hg]; simp)]
    rw [e1] at he hd
    have hb := o.begin
    refine ⟨own', _, by rw [herr]; exact he, h.next hst hd, hst, d.begin_arm, d.begin_room, fun hh => absurd herr hh, fun _ => ⟨?_, hb.S, ?_, hb.fl⟩⟩
    · show dput nm.data.toList g (ddel sNew.data.toList d.begin.N) = _
      rw [hb.N]
      rfl
    · show d.begin.wait ++ _ = _
      rw [hb.wait]
      rfl
  · have e1 : d.rename sNew nm = (3, d.begin) := by rw [Dk.rename, if_pos herr]
    rw [e1] at he hd
    exact ⟨own', _, by rw [err_three herr]; exact he, h.next hst hd, hst, d.begin_arm, d.begin_room, fun _ => o.begin, fun hh => absurd hh herr⟩
theorem syncDir_named {own : Own} {w0 w : World} {f K g : Nat} {d : Dk} {x : Fl} {nm : ByteArray} (h : Held own w0 w f d K) (o : Named d nm g x) (hne : nm.data.toList ≠ nmNew) (hK : K + 1 ≤ 1073741824) :
    Calls Tryz.prog 49 #[.pointer (some ⟨f, 0, none⟩)] w fun e w' => ∃ own' d', e = .returned (.int .i64 d.err) ∧ Held own' w0 w' f d' (K + 1) ∧ Step own own' f w w' ∧ d'.arm = armed d.arm ∧ d'.room = d.room ∧
      (d.err ≠ 0 → Named d' nm g x) ∧ (d.err = 0 → OneFile d' nm.data.toList g x) := by
  refine (syncDir_any h.disk hK).mono ?_
  rintro e w' ⟨own', g', _, he, hd, hst⟩
  dsimp only at he hd
  by_cases herr : d.err = 0
  · have e1 : d.syncDir = (0, { d.begin with S := foldDir d.S d.wait d.wait.length, wait := [] }) := by
      rw [Dk.syncDir, if_neg (by rw [herr]; simp)]
    rw [e1] at he hd
    have hb := o.begin
    refine ⟨own', _, by rw [herr]; exact he, h.next hst hd, hst, d.begin_arm, d.begin_room, fun hh => absurd herr hh, fun _ => ⟨hb.N, ?_, rfl, hb.fl⟩⟩
    show foldDir d.S d.wait d.wait.length = _
    rw [o.S, o.wait]
    rfl
  · have e1 : d.syncDir = (3, d.begin) := by rw [Dk.syncDir, if_pos herr]
    rw [e1] at he hd
    exact ⟨own', _, by rw [err_three herr]; exact he, h.next hst hd, hst, d.begin_arm, d.begin_room, fun _ => o.begin, fun hh => absurd hh herr⟩
/-- What layBeside has done. -/
inductive LayS (bs : List UInt8) : Option Nat → Int → Dk → Prop
  | create (d : Dk) : Bare d → d.arm = none → LayS bs (some 0) 3 d
  | write (d : Dk) (g : Nat) : Beside d g emptyFl → d.arm = none → LayS bs (some 1) 3 d
  | sync (d : Dk) (g : Nat) (L : Secs) : Beside d g ⟨bs, [], L⟩ → d.arm = none → LayS bs (some 2) 3 d
  | ok (a : Option Nat) (d : Dk) (g : Nat) : a ≠ some 0 → a ≠ some 1 → a ≠ some 2 → Beside d g ⟨bs, bs, []⟩ → d.arm = armed (armed (armed a)) → LayS bs a 0 d
structure Lay (own : Own) (w0 w : World) (f : Nat) (bs : List UInt8) (a : Option Nat) (K : Nat) (rm : Int) (er : Int) (w' : World) : Prop where
  ex : ∃ own' d, LayS bs a er d ∧ Held own' w0 w' f d (K + 3) ∧ Step own own' f w w' ∧ d.room = rm
theorem arm_zero {d : Dk} {a : Option Nat} (ha : d.arm = a) (h : ¬ d.err = 0) : a = some 0 := by
  rw [← ha]
  exact Classical.byContradiction fun hh => h (Dk.err_arm hh)
theorem arm_not {d : Dk} {a : Option Nat} (ha : d.arm = a) (h : d.err = 0) : a ≠ some 0 := fun e => by
  have := Dk.err_zero (ha.trans e)
  rw [h] at this
  exact absurd this (by decide)
theorem armed_zero {a : Option Nat} {k : Nat} (h : armed a = some k) : a = some (k + 1) := by
  match a, h with
  | some (k' + 1), h =>
    injection h with h
    rw [h]
theorem armed_not {a : Option Nat} {k : Nat} (h : armed a ≠ some k) : a ≠ some (k + 1) := fun e => h (by rw [e]; rfl)
set_option maxRecDepth 100000 in
set_option maxHeartbeats 8000000 in
theorem layBeside_any {own : Own} {w0 w : World} {f K : Nat} {d : Dk} {a : Option Nat} (h : Held own w0 w f d K) (hB : Bare d) (ha : d.arm = a) (hK : K + 3 ≤ 1073741824)
    {A : Option Addr} {m c : Nat} {bs : List UInt8} (hR : Free own w A m (bvs bs)) (hc : m ≤ c) (hcm : c ≤ maxLen) (hroom : (m : Int) ≤ d.room) (hm1 : m ≤ 4194304) :
    Calls Tryz.prog 46 #[.pointer (some ⟨f, 0, none⟩), .slice A m c] w fun e w' => ∃ er, e = .returned (.int .i64 er) ∧ Lay own w0 w f bs a K d.room er w' := by
  have CC := Lib.hid (create_bare h hB (by omega))
  have HH := Lib.hid h
  have HA := Lib.hid ha
  have HR := Lib.hid hR
  have HC := Lib.hid hc
  have HM := Lib.hid hcm
  have HRM := Lib.hid hroom
  have HM1 := Lib.hid hm1
  have HK := Lib.hid hK
  have en : (⟨#[78, 69, 87]⟩ : ByteArray) = sNew := rfl
  clear h hB ha hR hc hcm hroom hm1 hK
  by_cases h0 : d.err = 0
  case neg =>
    have HZ := Lib.hid (arm_zero HA.out h0)
    rw [err_three h0] at CC
    clear h0
    go_enter Tryz.func46, Tryz.ntmps46
    go_wp2_with (go_at_call 75; refine CC.out.mono ?_; rintro e w1 ⟨own1, d1, rfl, hd1, hst1, ha1, hr1, k1, _⟩; have HD1 := Lib.hid hd1; have HS1 := Lib.hid hst1; have HA1 := Lib.hid ha1; have HR1 := Lib.hid hr1; have K1 := Lib.hid (k1 (by decide)); clear hd1 hst1 ha1 hr1 k1)
    go_ret
    refine ⟨3, rfl, ⟨own1, d1, ?_, HD1.out.mono (by omega) HK.out, HS1.out, HR1.out⟩⟩
    rw [HZ.out]
    exact .create d1 K1.out (by rw [HA1.out, HA.out, HZ.out]; rfl)
  have N0 := Lib.hid (arm_not HA.out h0)
  rw [h0] at CC
  clear h0
  go_enter Tryz.func46, Tryz.ntmps46
  go_upto_region 4 with (go_at_call 75; refine CC.out.mono ?_; rintro e w1 ⟨own1, d1, rfl, hd1, hst1, ha1, hr1, _, k2⟩; have HD1 := Lib.hid hd1; have HS1 := Lib.hid hst1; have HA1 := Lib.hid ha1; have HR1 := Lib.hid hr1; have K1 := Lib.hid (k2 (by simp)); clear hd1 hst1 ha1 hr1 k2)
  obtain ⟨g, hbes⟩ := K1.out
  have HB1 := Lib.hid hbes
  have A1 : Hid (d1.arm = armed a) := HA1.out.trans (by rw [HA.out])
  have CW := Lib.hid (write_beside HD1.out hbes (by have := HK.out; omega) (HR.out.step HS1.out) HC.out HM.out (by rw [HR1.out]; exact HRM.out) HM1.out)
  clear hbes CC K1 HA1
  by_cases h1 : d1.err = 0
  case neg =>
    have HZ := Lib.hid (armed_zero (arm_zero A1.out h1))
    rw [err_three h1] at CW
    clear h1
    go_wp2_with (go_at_call 56; refine CW.out.mono ?_; rintro e w2 ⟨own2, d2, rfl, hd2, hst2, ha2, hr2, k1, _⟩; have HD2 := Lib.hid hd2; have HS2 := Lib.hid hst2; have HA2 := Lib.hid ha2; have HR2 := Lib.hid hr2; have K2 := Lib.hid (k1 (by decide)); clear hd2 hst2 ha2 hr2 k1)
    go_ret
    refine ⟨3, rfl, ⟨own2, d2, ?_, HD2.out.mono (by omega) HK.out, HS1.out.trans HS2.out, HR2.out.trans HR1.out⟩⟩
    rw [HZ.out]
    exact .write d2 g K2.out (by rw [HA2.out, A1.out, HZ.out]; rfl)
  have N1 := Lib.hid (armed_not (arm_not A1.out h1))
  rw [h1] at CW
  clear h1
  go_upto_region 7 with (go_at_call 56; refine CW.out.mono ?_; rintro e w2 ⟨own2, d2, rfl, hd2, hst2, ha2, hr2, _, k2⟩; have HD2 := Lib.hid hd2; have HS2 := Lib.hid hst2; have HA2 := Lib.hid ha2; have HR2 := Lib.hid hr2; have K2 := Lib.hid (k2 (by simp)); clear hd2 hst2 ha2 hr2 k2)
  obtain ⟨L, hbes⟩ := K2.out
  have HB2 := Lib.hid hbes
  have A2 : Hid (d2.arm = armed (armed a)) := HA2.out.trans (by rw [A1.out])
  have CS := Lib.hid (sync_beside HD2.out hbes (by have := HK.out; omega))
  clear hbes CW K2 HA2
  by_cases h2 : d2.err = 0
  case neg =>
    have HZ := Lib.hid (armed_zero (armed_zero (arm_zero A2.out h2)))
    rw [err_three h2] at CS
    clear h2
    go_wp2_with (go_at_call 57; refine CS.out.mono ?_; rintro e w3 ⟨own3, d3, rfl, hd3, hst3, ha3, hr3, k1, _⟩; have HD3 := Lib.hid hd3; have HS3 := Lib.hid hst3; have HA3 := Lib.hid ha3; have HR3 := Lib.hid hr3; have K3 := Lib.hid (k1 (by decide)); clear hd3 hst3 ha3 hr3 k1)
    go_ret
    refine ⟨3, rfl, ⟨own3, d3, ?_, HD3.out, (HS1.out.trans HS2.out).trans HS3.out, (HR3.out.trans HR2.out).trans HR1.out⟩⟩
    rw [HZ.out]
    exact .sync d3 g L K3.out (by rw [HA3.out, A2.out, HZ.out]; rfl)
  have N2 := Lib.hid (armed_not (armed_not (arm_not A2.out h2)))
  rw [h2] at CS
  clear h2
  go_wp2_with (go_at_call 57; refine CS.out.mono ?_; rintro e w3 ⟨own3, d3, rfl, hd3, hst3, ha3, hr3, _, k2⟩; have HD3 := Lib.hid hd3; have HS3 := Lib.hid hst3; have HA3 := Lib.hid ha3; have HR3 := Lib.hid hr3; have K3 := Lib.hid (k2 (by simp)); clear hd3 hst3 ha3 hr3 k2)
  go_ret
  exact ⟨0, rfl, ⟨own3, d3, .ok a d3 g N0.out N1.out N2.out K3.out (by rw [HA3.out, A2.out]), HD3.out, (HS1.out.trans HS2.out).trans HS3.out, (HR3.out.trans HR2.out).trans HR1.out⟩⟩
end Go.Proofs.YtcmlchicpmnhdaaGreatDoor.Slot
/-
  Proved: what Create of package slots does on a disk without files, of which a call may be to fail; its refusals.
  Conditions: the slice reads as bytes; the disk has room; the name may be.
-/
namespace Go.Proofs.YtcmlchicpmnhdaaGreatDoor.Slot
open Go.RowKit Go.Proofs.YtcmlchicpmnhdaaGreatDoor.Rec Go.Proofs.YtcmlchicpmnhdaaGreatDoor.Disk
open Go.Proofs.YtcmlchicpmnhdaaGreatDoor.Crc (Turned)
open Go.Proofs.YtcmlchicpmnhdaaGreatDoor.Seg (Fr ptr mark_old mark_top free_fr)
set_option linter.unusedVariables false
set_option linter.unusedSimpArgs false

/-- What a Create that failed leaves. -/
inductive Half (nm : ByteArray) (b : List UInt8) : Dk → Prop
  | bare (d : Dk) : Bare d → Half nm b d
  | beside (d : Dk) (g : Nat) (x : Fl) : Beside d g x → Half nm b d
  | named (d : Dk) (g : Nat) : Named d nm g ⟨laidB b, laidB b, []⟩ → Half nm b d
structure NotMade (own : Own) (w0 w : World) (f : Nat) (nm : ByteArray) (b : List UInt8) (a : Option Nat) (K : Nat) (w' : World) : Prop where
  ex : ∃ own' d, Half nm b d ∧ d.arm = none ∧ Held own' w0 w' f d (K + 5) ∧ Step own own' f w w'
  arm : ∃ k, a = some k ∧ k < 5
structure Created (own : Own) (w0 w : World) (f : Nat) (nm : ByteArray) (b : List UInt8) (a : Option Nat) (K : Nat) (rm : Int) (sf : Nat) (w' : World) : Prop where
  ex : ∃ own' g d, SG own' w0 w' ⟨f, sf, nm, 0, 1, b, 1, true⟩ g ⟨laidB b, laidB b, []⟩ (armed (armed (armed (armed (armed a))))) (K + 5) d ∧ Stp own own' f w w' ∧ d.room = rm
  new : w.heap.size ≤ sf
  arm : ∀ k, k < 5 → a ≠ some k
theorem createLarge_any {f : Nat} {w : World} (nm : ByteArray) (A : Option Addr) (n c : Nat) (hn : 4080 < n) (hnm : n ≤ 1000000) :
    Calls Tryz.prog 24 #[.pointer (some ⟨f, 0, none⟩), .string nm, .slice A n c] w fun e w' => e = .returned (.tuple #[.pointer none, .int .i64 9]) ∧ w' = w := by
  go_enter Tryz.func24, Tryz.ntmps24
  go_wp2
  go_ret2
  exact ⟨rfl, rfl⟩
set_option maxHeartbeats 1000000 in
theorem createExists_any {own : Own} {w0 w : World} {f K : Nat} {d : Dk} {x : Fl} (nm : ByteArray) (h : Held own w0 w f d K) (hs : nm.size ≤ maxLen) (hx : d.look nm.data.toList = some x) (A : Option Addr) (n c : Nat) (hn : n ≤ 4080) :
    Calls Tryz.prog 24 #[.pointer (some ⟨f, 0, none⟩), .string nm, .slice A n c] w fun e w' => e = .returned (.tuple #[.pointer none, .int .i64 7]) ∧ w = w' := by
  have CS := size_look nm h hs hx
  obtain ⟨L, hL⟩ : ∃ L, L = x.now.length := ⟨_, rfl⟩
  rw [← hL] at CS
  have hn' : ¬ (4080 : Int) < (n : Int) := by omega
  have CS' : Hid (Calls Tryz.prog 45 #[.pointer (some ⟨f, 0, none⟩), .string nm] w fun e w' => e = .returned (.int .i64 (L : Int)) ∧ w = w') := CS.mono fun e w' ⟨h1, h2⟩ => ⟨h1, h2.symm⟩
  clear h hs hx hn hL CS
  go_enter Tryz.func24, Tryz.ntmps24
  go_wp2_with (go_at_call 45; refine CS'.out.mono ?_; rintro e w' ⟨rfl, rfl⟩)
  go_ret2
  exact ⟨rfl, rfl⟩
set_option maxRecDepth 100000 in
set_option maxHeartbeats 8000000 in
theorem create_slots {own : Own} {w0 w : World} {f K : Nat} {d : Dk} {a : Option Nat} (nm : ByteArray) (hT : Turned w0) (h : Held own w0 w f d K) (hB : Bare d) (ha : d.arm = a) (hs : nm.size ≤ maxLen) (hg : goodName nm.data.toList = true) (hne : nm.data.toList ≠ nmNew) (hK : K + 5 ≤ 1073741824) (hroom : 8192 ≤ d.room)
    {A : Option Addr} {n c : Nat} {b : List UInt8} (hR : Free own w A n (bvs b)) (hnc : n ≤ c) (hc : c ≤ maxLen) (hn : n ≤ 4080) :
    Calls Tryz.prog 24 #[.pointer (some ⟨f, 0, none⟩), .string nm, .slice A n c] w fun e w' => (e = .returned (.tuple #[.pointer none, .int .i64 3]) ∧ NotMade own w0 w f nm b a K w') ∨ ∃ sf, e = .returned (.tuple #[.pointer (some ⟨sf, 0, none⟩), .int .i64 0]) ∧ Created own w0 w f nm b a K d.room sf w' := by
  have hbn : b.length = n := by have := hR.1; rwa [bvs_length] at this
  have hn' : ¬ (4080 : Int) < (n : Int) := by omega
  have hcm : c ≤ 9223372036854775807 := by unfold maxLen at hc; exact hc
  have CZ : Hid (Calls Tryz.prog 45 #[.pointer (some ⟨f, 0, none⟩), .string nm] w fun e w' => e = .returned (.int .i64 (-1)) ∧ w = w') := (size_lost nm h hs (by unfold Dk.look; rw [hB.N]; rfl)).mono fun e w' ⟨h1, h2⟩ => ⟨h1, h2.symm⟩
  have CL : Hid (Calls Tryz.prog 47 #[.int .u64 1, .slice A n c] w fun e w' => ∃ v, e = .returned v ∧ Mk w w' v 4096 (slotFull 1 b)) := laid_any 1 A n c b w (turned_below hT h.below rfl) hR.row hnc hc hn (by decide)
  have CB : Hid (∀ W A2 c2, Mk w W (.slice A2 8192 c2) 8192 (slotFull 1 b ++ List.replicate 4096 0) → 8192 ≤ c2 → c2 ≤ maxLen → Calls Tryz.prog 46 #[.pointer (some ⟨f, 0, none⟩), .slice A2 8192 c2] W fun e w' => ∃ er, e = .returned (.int .i64 er) ∧
      ∃ own' d', LayS (laidB b) a er d' ∧ Held own' w0 w' f d' (K + 3) ∧ Step own own' f w w' ∧ d'.room = d.room) := fun W A2 c2 hm h1 h2 => by
    have hF : Free own W A2 8192 (bvs (laidB b)) := by
      have := h.answer hm.row
      rwa [slotFull_laid (by omega)] at this
    refine (layBeside_any (h.all hm.below) hB ha (by omega) hF h1 h2 hroom (by decide)).mono ?_
    rintro e w' ⟨er, he, own', d', k1, k2, k3, k4⟩
    exact ⟨er, he, own', d', k1, k2, (Step.of_below h.top hm.below).trans k3, k4⟩
  have HH := Lib.hid h
  have HR := Lib.hid hR
  have HS := Lib.hid hs
  have HG := Lib.hid hg
  have HNE := Lib.hid hne
  have HK := Lib.hid hK
  have en : (⟨#[78, 69, 87]⟩ : ByteArray) = sNew := rfl
  clear h hB ha hR hnc hc hn hbn hT hs hg hne hK hroom
  by_cases hbad : a = some 0 ∨ a = some 1 ∨ a = some 2
  · have CB2 : Hid (∀ W A2 c2, Mk w W (.slice A2 8192 c2) 8192 (slotFull 1 b ++ List.replicate 4096 0) → 8192 ≤ c2 → c2 ≤ maxLen → Calls Tryz.prog 46 #[.pointer (some ⟨f, 0, none⟩), .slice A2 8192 c2] W fun e w' => e = .returned (.int .i64 3) ∧
        Hid (NotMade own w0 w f nm b a K w')) := fun W A2 c2 hm h1 h2 => by
      refine (CB.out W A2 c2 hm h1 h2).mono ?_
      rintro e w' ⟨er, he, own', d', k1, k2, k3, k4⟩
      cases k1 with
      | create _ hb hn => exact ⟨he, ⟨own', d', .bare _ hb, hn, k2.mono (by omega) HK.out, k3⟩, ⟨0, rfl, by decide⟩⟩
      | write _ g hb hn => exact ⟨he, ⟨own', d', .beside _ _ _ hb, hn, k2.mono (by omega) HK.out, k3⟩, ⟨1, rfl, by decide⟩⟩
      | sync _ g L hb hn => exact ⟨he, ⟨own', d', .beside _ _ _ hb, hn, k2.mono (by omega) HK.out, k3⟩, ⟨2, rfl, by decide⟩⟩
      | ok _ _ g n0 n1 n2 _ _ => rcases hbad with e | e | e <;> contradiction
    clear hbad CB
    go_enter Tryz.func24, Tryz.ntmps24
    go_wp2_with (first
      | (go_at_call 45; refine CZ.out.mono ?_; rintro e w' ⟨rfl, rfl⟩)
      | (go_at_call 47; refine CL.out.mono ?_; rintro e w1 ⟨v1, rfl, hm1⟩; have M1 := Lib.hid hm1; clear hm1)
      | (at_builtin; refine mk_zeros M1.out rfl (.tmp 20) _ rfl rfl 4096 rfl 8192 rfl (by decide) ?_; intro v2 w2 M2 _; obtain ⟨A2, c2, rfl, hc2, hm2, _⟩ := M2.out.form; have I2 := Lib.hid hc2; have J2 := Lib.hid hm2; clear hc2 hm2)
      | (go_at_call 46; refine (CB2.out _ _ _ M2.out I2.out J2.out).mono ?_; rintro e w3 ⟨rfl, HN⟩))
    go_ret2
    exact .inl ⟨rfl, HN.out⟩
  have n0 : a ≠ some 0 := fun e => hbad (.inl e)
  have n1 : a ≠ some 1 := fun e => hbad (.inr (.inl e))
  have n2 : a ≠ some 2 := fun e => hbad (.inr (.inr e))
  have CB2 : Hid (∀ W A2 c2, Mk w W (.slice A2 8192 c2) 8192 (slotFull 1 b ++ List.replicate 4096 0) → 8192 ≤ c2 → c2 ≤ maxLen → Calls Tryz.prog 46 #[.pointer (some ⟨f, 0, none⟩), .slice A2 8192 c2] W fun e w' => e = .returned (.int .i64 0) ∧
      Hid (∃ own' d' g, Beside d' g ⟨laidB b, laidB b, []⟩ ∧ d'.arm = armed (armed (armed a)) ∧ Held own' w0 w' f d' (K + 3) ∧ Step own own' f w w' ∧ d'.room = d.room)) := fun W A2 c2 hm h1 h2 => by
    refine (CB.out W A2 c2 hm h1 h2).mono ?_
    rintro e w' ⟨er, he, own', d', k1, k2, k3, k4⟩
    cases k1 with
    | create _ hb hn => contradiction
    | write _ g hb hn => contradiction
    | sync _ g L hb hn => contradiction
    | ok _ _ g _ _ _ hb hn => exact ⟨he, own', d', g, hb, hn, k2, k3, k4⟩
  have N0 := Lib.hid n0
  have N1 := Lib.hid n1
  have N2 := Lib.hid n2
  clear hbad CB n0 n1 n2
  go_enter Tryz.func24, Tryz.ntmps24
  go_upto_region 8 with (first
    | (go_at_call 45; refine CZ.out.mono ?_; rintro e w' ⟨rfl, rfl⟩)
    | (go_at_call 47; refine CL.out.mono ?_; rintro e w1 ⟨v1, rfl, hm1⟩; have M1 := Lib.hid hm1; clear hm1)
    | (at_builtin; refine mk_zeros M1.out rfl (.tmp 20) _ rfl rfl 4096 rfl 8192 rfl (by decide) ?_; intro v2 w2 M2 _; obtain ⟨A2, c2, rfl, hc2, hm2, _⟩ := M2.out.form; have I2 := Lib.hid hc2; have J2 := Lib.hid hm2; clear hc2 hm2)
    | (go_at_call 46; refine (CB2.out _ _ _ M2.out I2.out J2.out).mono ?_; rintro e w3 ⟨rfl, HN⟩))
  obtain ⟨own3, d3, g, hb3, ha3, hd3, hs3, hr3⟩ := HN.out
  have CR := Lib.hid (rename_beside nm hd3 hb3 HS.out HG.out (by have := HK.out; omega))
  have HB3 := Lib.hid hb3
  have HA3 := Lib.hid ha3
  have HS3 := Lib.hid hs3
  have HR3 := Lib.hid hr3
  clear hb3 ha3 hd3 hs3 hr3 HN CB2 CL CZ M1 M2 I2 J2
  by_cases h3 : d3.err = 0
  case neg =>
    have HZ := Lib.hid (armed_zero (armed_zero (armed_zero (arm_zero HA3.out h3))))
    rw [err_three h3] at CR
    clear h3
    go_wp2_with (go_at_call 48; refine CR.out.mono ?_; rintro e w4 ⟨own4, d4, rfl, hd4, hst4, ha4, hr4, k1, _⟩; have HD4 := Lib.hid hd4; have HS4 := Lib.hid hst4; have HA4 := Lib.hid ha4; have K4 := Lib.hid (k1 (by decide)); clear hd4 hst4 ha4 hr4 k1)
    go_ret2
    exact .inl ⟨rfl, ⟨own4, d4, .beside _ _ _ K4.out, by rw [HA4.out, HA3.out, HZ.out]; rfl, HD4.out.mono (by omega) HK.out, HS3.out.trans HS4.out⟩, ⟨3, HZ.out, by decide⟩⟩
  have N3 := Lib.hid (armed_not (armed_not (armed_not (arm_not HA3.out h3))))
  rw [h3] at CR
  clear h3
  go_upto_region 11 with (go_at_call 48; refine CR.out.mono ?_; rintro e w4 ⟨own4, d4, rfl, hd4, hst4, ha4, hr4, _, k2⟩; have HD4 := Lib.hid hd4; have HS4 := Lib.hid (HS3.out.trans hst4); have HA4 : Hid (d4.arm = armed (armed (armed (armed a)))) := (ha4.trans (by rw [HA3.out])); have HR4 := Lib.hid (hr4.trans HR3.out); have K4 := Lib.hid (k2 (by simp)); clear hd4 hst4 ha4 hr4 k2)
  have CY := Lib.hid (syncDir_named HD4.out K4.out HNE.out (by have := HK.out; omega))
  clear CR HB3 HA3 HS3 HR3
  by_cases h4 : d4.err = 0
  case neg =>
    have HZ := Lib.hid (armed_zero (armed_zero (armed_zero (armed_zero (arm_zero HA4.out h4)))))
    rw [err_three h4] at CY
    clear h4
    go_wp2_with (go_at_call 49; refine CY.out.mono ?_; rintro e w5 ⟨own5, d5, rfl, hd5, hst5, ha5, hr5, k1, _⟩; have HD5 := Lib.hid hd5; have HS5 := Lib.hid hst5; have HA5 := Lib.hid ha5; have K5 := Lib.hid (k1 (by decide)); clear hd5 hst5 ha5 hr5 k1)
    go_ret2
    exact .inl ⟨rfl, ⟨own5, d5, .named _ _ K5.out, by rw [HA5.out, HA4.out, HZ.out]; rfl, HD5.out, HS4.out.trans HS5.out⟩, ⟨4, HZ.out, by decide⟩⟩
  have N4 := Lib.hid (armed_not (armed_not (armed_not (armed_not (arm_not HA4.out h4)))))
  rw [h4] at CY
  clear h4
  go_upto_region 14 with (go_at_call 49; refine CY.out.mono ?_; rintro e w5 ⟨own5, d5, rfl, hd5, hst5, ha5, hr5, _, k2⟩; have HD5 := Lib.hid hd5; have HS5 := Lib.hid (HS4.out.trans hst5); have HA5 := Lib.hid (ha5.trans (by rw [HA4.out])); have HR5 := Lib.hid (hr5.trans HR4.out); have K5 := Lib.hid (k2 (by simp)); clear hd5 hst5 ha5 hr5 k2)
  have hcv : (convert 51 9 (.slice A n c)).run Tryz.prog w5 = .ok (.string (str b)) w5 := Disk.bytes_string (P := Tryz.prog) (c := c) (dst := 9) Tryz.underlying51 Tryz.underlying5 Tryz.underlying9 (HR.out.step HS5.out).row
  go_wp2_with fail
  go_ret2
  have hl := lies_new (own := own5) (w := w5) ⟨f, w5.heap.size, nm, 0, 1, b, 1, true⟩ HD5.out.disk.lt rfl _ rfl
  refine .inr ⟨_, rfl, ⟨Seg.mark own5 w5.heap.size, g, d5, ⟨held_made HD5.out _, K5.out, HA5.out, hl, HS.out⟩, (Stp.of HS5.out).trans (Stp.made _), HR5.out⟩, HS5.out.size, ?_⟩
  intro k hk
  match k, hk with
  | 0, _ => exact N0.out
  | 1, _ => exact N1.out
  | 2, _ => exact N2.out
  | 3, _ => exact N3.out
  | 4, _ => exact N4.out
end Go.Proofs.YtcmlchicpmnhdaaGreatDoor.Slot
