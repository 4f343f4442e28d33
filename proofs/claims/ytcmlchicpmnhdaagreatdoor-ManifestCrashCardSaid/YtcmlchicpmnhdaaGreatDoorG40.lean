/-
  Texts one behind the other: SlotSave.
-/
import Derived.Deep.RegionHeld
import Derived.Test.YtcmlchicpmnhdaaGreatDoorG35
import Derived.Test.YtcmlchicpmnhdaaGreatDoorG39
/-
  Proved: what Save of package slots does, on a disk of which a call may be to fail.
  Conditions: the file's text is surely synced; its file on the disk is of two slots; the text is not too long; the last turn is not reached.
-/
namespace Go.Proofs.YtcmlchicpmnhdaaGreatDoor.Slot
open Go.RowKit Go.Proofs.YtcmlchicpmnhdaaGreatDoor.Rec Go.Proofs.YtcmlchicpmnhdaaGreatDoor.Disk
open Go.Proofs.YtcmlchicpmnhdaaGreatDoor.Crc (Turned)
open Go.Proofs.YtcmlchicpmnhdaaGreatDoor.Seg (Fr ptr mark_old mark_top free_fr)
set_option linter.unusedVariables false
set_option linter.unusedSimpArgs false

/-- A file of slots and its disk, as they lie in memory. -/
structure SG (own : Own) (w0 w : World) (v : Sf) (g : Nat) (x : Fl) (a : Option Nat) (K : Nat) (d : Dk) : Prop where
  disk : Held own w0 w v.f d K
  one : OneFile d v.nm.data.toList g x
  arm : d.arm = a
  lies : Lies own w v
  nm : v.nm.size ≤ maxLen
theorem SG.all {own : Own} {w0 w w' : World} {v : Sf} {g : Nat} {x : Fl} {a : Option Nat} {K : Nat} {d : Dk} (h : SG own w0 w v g x a K d) (hb : Below w.heap.size w w') : SG own w0 w' v g x a K d :=
  { h with disk := h.disk.all hb, lies := h.lies.all hb }
theorem SG.top {own : Own} {w0 w : World} {v : Sf} {g : Nat} {x : Fl} {a : Option Nat} {K : Nat} {d : Dk} (h : SG own w0 w v g x a K d) : ∀ b p, own b = some p → b < w.heap.size := h.disk.top
theorem SG.xok {own : Own} {w0 w : World} {v : Sf} {g : Nat} {x : Fl} {a : Option Nat} {K : Nat} {d : Dk} (h : SG own w0 w v g x a K d) : x.Ok := h.disk.ok h.one.look
theorem SG.mono {own : Own} {w0 w : World} {v : Sf} {g : Nat} {x : Fl} {a : Option Nat} {K K' : Nat} {d : Dk} (h : SG own w0 w v g x a K d) (hK : K ≤ K') (hb : K' ≤ 1073741824) : SG own w0 w v g x a K' d := { h with disk := h.disk.mono hK hb }
/-- A block of the file's own turns. -/
theorem own_turn {own : Own} {w w' : World} {g : Nat} (hg : w.grownBy w' (some g)) (ho : own g = some (g, g)) : Stp own own g w w' :=
  ⟨hg.os, hg.tape, hg.output, hg.size, fun _ _ => rfl, fun b hb hne => hg.block b hb (fun e => hne g (by injection e with e; rw [e]; exact ho))⟩
theorem write_one {own : Own} {w0 w : World} {f K g : Nat} {d : Dk} {x : Fl} (s : ByteArray) (at' : Nat) (h : Held own w0 w f d K) (o : OneFile d s.data.toList g x) (hs : s.size ≤ maxLen) (hK : K + 1 ≤ 1073741824)
    {A : Option Addr} {m c : Nat} {bs : List UInt8} (hR : Free own w A m (bvs bs)) (hc : m ≤ c) (hcm : c ≤ maxLen) (hin : at' + m ≤ x.now.length) :
    Calls Tryz.prog 56 #[.pointer (some ⟨f, 0, none⟩), .string s, .int .i64 (at' : Int), .slice A m c] w fun e w' => ∃ own' d' x', e = .returned (.int .i64 d.err) ∧ Held own' w0 w' f d' (K + 1) ∧ Step own own' f w w' ∧ OneFile d' s.data.toList g x' ∧ d'.arm = armed d.arm ∧
      (d.err ≠ 0 → x' = x) ∧ (d.err = 0 → ∃ L, (∀ t, shas t L = (shas t x.soiled || touches at' bs.length t)) ∧ x' = ⟨putAt x.now at' bs, x.was, L⟩) := by
  have hm : bs.length = m := by have := hR.1; rwa [bvs_length] at this
  have hx := h.ok o.look
  have hmx := hx.max
  refine (write_any s (at' : Int) h.disk hs hK (by omega) (by omega) hR.row (Nat.le_refl _) (fun h0 ad had g' => by rw [hR.none_at h0 ad had]; simp) hc hcm (by omega)).mono ?_
  rintro e w' ⟨own', n, d', hW, he, hd, hst⟩
  unfold Dk.Writes at hW
  by_cases herr : d.err = 0
  · rw [if_neg (by rw [herr]; simp), o.dget] at hW
    dsimp only at hW
    rw [o.fl] at hW
    rw [if_neg (by omega), if_neg (by rintro ⟨h1, _⟩; omega)] at hW
    obtain ⟨rfl, L, hL, rfl⟩ := hW
    rw [Int.toNat_natCast] at hL hd
    refine ⟨own', _, _, by rw [herr]; exact he, h.next hst hd, hst, (o.begin).put _, ?_, fun hh => absurd herr hh, fun _ => ⟨L, hL, rfl⟩⟩
    exact d.begin_arm
  · rw [if_pos herr] at hW
    obtain ⟨rfl, rfl⟩ := hW
    have h3 : d.err = 3 := by rcases d.err_cases with h | h; exact absurd h herr; exact h
    refine ⟨own', _, x, by rw [h3]; exact he, h.next hst hd, hst, o.begin, d.begin_arm, fun _ => rfl, fun hh => absurd hh herr⟩
theorem sync_one {own : Own} {w0 w : World} {f K g : Nat} {d : Dk} {x : Fl} (s : ByteArray) (h : Held own w0 w f d K) (o : OneFile d s.data.toList g x) (hs : s.size ≤ maxLen) (hK : K + 1 ≤ 1073741824) :
    Calls Tryz.prog 57 #[.pointer (some ⟨f, 0, none⟩), .string s] w fun e w' => ∃ own' d' x', e = .returned (.int .i64 d.err) ∧ Held own' w0 w' f d' (K + 1) ∧ Step own own' f w w' ∧ OneFile d' s.data.toList g x' ∧ d'.arm = armed d.arm ∧
      (d.err ≠ 0 → x' = x) ∧ (d.err = 0 → x' = ⟨x.now, x.now, []⟩) := by
  refine (sync_any s h.disk hs hK).mono ?_
  rintro e w' ⟨own', g', _, he, hd, hst⟩
  dsimp only at he hd
  by_cases herr : d.err = 0
  · have e1 : d.sync s = (0, d.begin.withFile g ⟨(d.fl g).now, (d.fl g).now, []⟩) := by
      rw [Dk.sync, if_neg (by rw [herr]; simp), o.dget]
    rw [e1, o.fl] at hd
    rw [e1] at he
    exact ⟨own', _, _, by rw [herr]; exact he, h.next hst hd, hst, (o.begin).put _, d.begin_arm, fun hh => absurd herr hh, fun _ => rfl⟩
  · have e1 : d.sync s = (3, d.begin) := by
      rw [Dk.sync, if_pos herr]
    have h3 : d.err = 3 := by rcases d.err_cases with h | h; exact absurd h herr; exact h
    rw [e1] at he hd
    exact ⟨own', _, x, by rw [h3]; exact he, h.next hst hd, hst, o.begin, d.begin_arm, fun _ => rfl, fun hh => absurd hh herr⟩
theorem makeLast_any {own : Own} {w : World} {v : Sf} (h : Lies own w v) (hl : v.lasts = true) : Calls Tryz.prog 55 #[.pointer (some ⟨v.sf, 0, none⟩)] w fun e w' => e = .returned (.int .i64 0) ∧ w = w' := by
  have c6 : w.cell? ⟨v.sf, 6, none⟩ = some (.bool true) := by rw [← hl]; exact Blk.cell h.blk 6
  clear h
  go_enter Tryz.func55, Tryz.ntmps55
  go_wp2
  go_ret
  exact ⟨rfl, rfl⟩
/-- What a Save has done. -/
inductive Saved (v : Sf) (b : List UInt8) (x : Fl) : Option Nat → Int → Sf → Fl → Option Nat → Prop
  | write : Saved v b x (some 0) 3 { v with used := v.used + 1 } x none
  | sync (L : Secs) : (∀ t, shas t L = (shas t x.soiled || touches (4096 * (1 - v.slot)) 4096 t)) → Saved v b x (some 1) 3 { v with used := v.used + 1 } ⟨putAt x.now (4096 * (1 - v.slot)) (slotFull (v.used + 1) b), x.was, L⟩ none
  | ok (a : Option Nat) : a ≠ some 0 → a ≠ some 1 → Saved v b x a 0 { v with slot := 1 - v.slot, turn := v.used + 1, txt := b, used := v.used + 1 } ⟨putAt x.now (4096 * (1 - v.slot)) (slotFull (v.used + 1) b), putAt x.now (4096 * (1 - v.slot)) (slotFull (v.used + 1) b), []⟩ (armed (armed a))
/-- A Save's answer. -/
structure Kept (own : Own) (w0 w : World) (v : Sf) (b : List UInt8) (g : Nat) (x : Fl) (a : Option Nat) (K : Nat) (er : Int) (w' : World) : Prop where
  ex : ∃ own' d' v' x' a', Saved v b x a er v' x' a' ∧ SG own' w0 w' v' g x' a' (K + 2) d' ∧ Fr own own' w w'
theorem saveLarge_any {own : Own} {w : World} {v : Sf} (A : Option Addr) (n c : Nat) (hn : 4080 < n) (hnm : n ≤ 1000000) :
    Calls Tryz.prog 27 #[.pointer (some ⟨v.sf, 0, none⟩), .slice A n c] w fun e w' => e = .returned (.int .i64 9) ∧ w' = w := by
  go_enter Tryz.func27, Tryz.ntmps27
  go_wp2
  go_ret
  exact ⟨rfl, rfl⟩
set_option maxRecDepth 100000 in
set_option maxHeartbeats 8000000 in
theorem save_any {own : Own} {w0 w : World} {v : Sf} {g : Nat} {x : Fl} {a : Option Nat} {K : Nat} {d : Dk} (hT : Turned w0) (h : SG own w0 w v g x a K d) (hl : v.lasts = true) (hu : v.used < 1099511627776) (hs : v.slot < 2) (hx : x.now.length = 8192)
    {A : Option Addr} {n c : Nat} {b : List UInt8} (hR : Free own w A n (bvs b)) (hnc : n ≤ c) (hc : c ≤ maxLen) (hn : n ≤ 4080) (hK : K + 2 ≤ 1073741824) :
    Calls Tryz.prog 27 #[.pointer (some ⟨v.sf, 0, none⟩), .slice A n c] w fun e w' => ∃ er, e = .returned (.int .i64 er) ∧ Kept own w0 w v b g x a K er w' := by
  have hbn : b.length = n := by have := hR.1; rwa [bvs_length] at this
  have hcm : c ≤ 9223372036854775807 := by unfold maxLen at hc; exact hc
  obtain ⟨u1, hu1⟩ : ∃ u1, u1 = v.used + 1 := ⟨_, rfl⟩
  obtain ⟨s1, hs1⟩ : ∃ s1, s1 = 1 - v.slot := ⟨_, rfl⟩
  obtain ⟨a1, ha1⟩ : ∃ a1, a1 = 4096 * s1 := ⟨_, rfl⟩
  have q1 : (v.used : Int) + 1 = (u1 : Int) := by omega
  have q2 : (1 : Int) - (v.slot : Int) = (s1 : Int) := by omega
  have q3 : (s1 : Int) * 4096 = (a1 : Int) := by omega
  have q4 : s1 ≤ 1 := by omega
  have hu' : ¬ (1099511627776 : Int) ≤ (v.used : Int) := by omega
  have hn' : ¬ (4080 : Int) < (n : Int) := by omega
  have HN := Lib.hid hn
  have c5 : w.cell? ⟨v.sf, 5, none⟩ = some (.int .u64 (v.used : Int)) := Blk.cell h.lies.blk 5
  have f5 := Blk.free h.lies.blk 5
  obtain ⟨w1, hw1⟩ : ∃ w1, w1 = w.setCell ⟨v.sf, 5, none⟩ (.int .u64 (u1 : Int)) := ⟨_, rfl⟩
  have S1 : Hid (Stp own own v.sf w w1) := by rw [hw1]; exact own_turn (only_setCell w ⟨v.sf, 5, none⟩ _) h.lies.own
  have L1 : Hid (Lies own w1 { v with used := u1 }) := by
    refine ⟨?_, h.lies.own, h.lies.ne⟩
    rw [hw1]
    exact Blk.put h.lies.blk 5 _
  have H1 : Hid (Held own w0 w1 v.f d K) := S1.out.held h.disk (fun e => h.lies.ne e.symm) (fun b p hp => Nat.lt_of_lt_of_le (h.top b p hp) S1.out.size)
  have R1 : Hid (Free own w1 A n (bvs b)) := free_fr hR S1.out.fr
  have CM := Lib.hid (makeLast_any L1.out hl)
  have HT1 : Hid (Turned w1) := turned_below hT H1.out.below rfl
  have CL : Hid (Calls Tryz.prog 47 #[.int .u64 (u1 : Int), .slice A n c] w1.drew fun e w' => ∃ v, e = .returned v ∧ Mk w1.drew w' v 4096 (slotFull u1 b)) := laid_any u1 A n c b w1.drew HT1.out R1.out.row hnc hc hn (by omega)
  have c10 : w1.cell? ⟨v.sf, 0, none⟩ = some (.pointer (some ⟨v.f, 0, none⟩)) := Blk.cell L1.out.blk 0
  have c11 : w1.cell? ⟨v.sf, 1, none⟩ = some (.string v.nm) := Blk.cell L1.out.blk 1
  have c12 : w1.cell? ⟨v.sf, 2, none⟩ = some (.int .i64 (v.slot : Int)) := Blk.cell L1.out.blk 2
  have c15 : w1.cell? ⟨v.sf, 5, none⟩ = some (.int .u64 (u1 : Int)) := Blk.cell L1.out.blk 5
  have HH := Lib.hid h
  have HX := Lib.hid hx
  have HB := Lib.hid hbn
  have HU := Lib.hid hu1
  have HS1 := Lib.hid hs1
  have HA1 := Lib.hid ha1
  have HW := Lib.hid hw1
  have hu2 : u1 ≤ 1099511627776 := by omega
  have ha2 : a1 + 4096 ≤ 8192 := by omega
  clear h hR hx hbn hT hu1 hs1 ha1 hw1 hs hu hn
  go_enter Tryz.func27, Tryz.ntmps27
  go_upto_region 8 with fail
  rw [← HW.out]
  clear HW c5 f5
  go_upto_region 12 with (go_at_call 55; refine CM.out.mono ?_; rintro e w' ⟨rfl, rfl⟩)
  clear CM c10 c11 c12 c15
  have cells : ∀ W, Below w1.heap.size w1 W → W.cell? ⟨v.sf, 0, none⟩ = some (.pointer (some ⟨v.f, 0, none⟩)) ∧ W.cell? ⟨v.sf, 1, none⟩ = some (.string v.nm) ∧ W.cell? ⟨v.sf, 5, none⟩ = some (.int .u64 (u1 : Int)) := fun W hb => by
    have hb1 := L1.out.all hb
    exact ⟨Blk.cell hb1.blk 0, Blk.cell hb1.blk 1, Blk.cell hb1.blk 5⟩
  have CK := Lib.hid cells
  have CW : Hid (∀ W A2 c2 (z : Int), z = (a1 : Int) → Mk w1.drew W (.slice A2 4096 c2) 4096 (slotFull u1 b) → 4096 ≤ c2 → c2 ≤ maxLen → Calls Tryz.prog 56 #[.pointer (some ⟨v.f, 0, none⟩), .string v.nm, .int .i64 z, .slice A2 4096 c2] W fun e w' => ∃ own' d' x', e = .returned (.int .i64 d.err) ∧
      Hid (SG own' w0 w' { v with used := u1 } g x' (armed a) (K + 1) d' ∧ Fr own own' w w' ∧ Free own' w' A n (bvs b) ∧ (d.err ≠ 0 → x' = x) ∧ (d.err = 0 → ∃ L, (∀ t, shas t L = (shas t x.soiled || touches a1 4096 t)) ∧ x' = ⟨putAt x.now a1 (slotFull u1 b), x.was, L⟩)) ∧
      (w'.cell? ⟨v.sf, 0, none⟩ = some (.pointer (some ⟨v.f, 0, none⟩)) ∧ w'.cell? ⟨v.sf, 1, none⟩ = some (.string v.nm) ∧ w'.cell? ⟨v.sf, 5, none⟩ = some (.int .u64 (u1 : Int)))) := fun W A2 c2 z hz hm h1 h2 => by
    subst hz
    have hbW : Below w1.heap.size w1 W := (Below.refl _ _).drew.trans hm.below
    have hF : Free own W A2 4096 (bvs (slotFull u1 b)) := (H1.out.all (Below.refl _ _).drew).answer hm.row
    have hlen := slotFull_length (t := u1) (b := b) (by rw [HB.out]; exact HN.out)
    refine (write_one v.nm a1 (H1.out.all hbW) HH.out.one HH.out.nm (by omega) hF h1 h2 (by rw [HX.out]; omega)).mono ?_
    rintro e w' ⟨own', d', x', he, hd, hst, ho, ha, k1, k2⟩
    rw [HH.out.arm] at ha
    rw [hlen] at k2
    have hL := (L1.out.all hbW).stp (Stp.of hst) HH.out.lies.ne
    exact ⟨own', d', x', he, ⟨⟨hd, ho, ha, hL, HH.out.nm⟩, (S1.out.fr.trans (Fr.of_below hbW)).trans (Fr.of_step hst), (R1.out.keep (fun _ _ => rfl) hbW).step hst, k1, k2⟩, Blk.cell hL.blk 0, Blk.cell hL.blk 1, Blk.cell hL.blk 5⟩
  have KK1 := CK.out w1.drew (Below.refl _ _).drew
  clear cells
  by_cases herr : d.err = 0
  case neg =>
    have h3 : d.err = 3 := by rcases d.err_cases with h | h; exact absurd h herr; exact h
    have ha0 : a = some 0 := by
      rw [← HH.out.arm]
      exact Classical.byContradiction fun hh => herr (Dk.err_arm hh)
    rw [h3] at CW
    have HA0 := Lib.hid ha0
    have H3E := Lib.hid h3
    clear herr h3 ha0
    go_region_held (fun W => W.cell? ⟨v.sf, 0, none⟩ = some (.pointer (some ⟨v.f, 0, none⟩)) ∧ W.cell? ⟨v.sf, 1, none⟩ = some (.string v.nm) ∧ W.cell? ⟨v.sf, 5, none⟩ = some (.int .u64 (u1 : Int))) (with_reducible (first | exact KK3 | exact KK2 | exact KK1))
      (first
        | (go_at_call 47; refine CL.out.mono ?_; rintro e w2 ⟨v2, rfl, hm2⟩; obtain ⟨A2, c2, rfl, hc2, hm2', _⟩ := hm2.form; have KK2 := CK.out w2 ((Below.refl _ _).drew.trans hm2.below); have M2 := Lib.hid hm2; have I2 := Lib.hid hc2; have J2 := Lib.hid hm2'; clear hm2 hc2 hm2')
        | (go_at_call 56; refine (CW.out _ _ _ _ (by first | rfl | (simp [IntKind.wrap, IntKind.bits, IntKind.signed]; omega) | omega) M2.out I2.out J2.out).mono ?_; rintro e w3 ⟨own3, d3, x3, rfl, HW3, KK3⟩))
    obtain ⟨hsg, hfr, _, hk1, _⟩ := HW3.out
    go_wp2_with fail
    go_ret
    have ex := hk1 (by decide)
    rw [ex, HU.out, HA0.out] at hsg
    refine ⟨3, rfl, ⟨own3, d3, _, _, _, ?_, hsg.mono (by omega) hK, hfr⟩⟩
    rw [HA0.out]
    exact .write
  rw [herr] at CW
  have HE := Lib.hid herr
  clear herr
  go_region_held (fun W => W.cell? ⟨v.sf, 0, none⟩ = some (.pointer (some ⟨v.f, 0, none⟩)) ∧ W.cell? ⟨v.sf, 1, none⟩ = some (.string v.nm) ∧ W.cell? ⟨v.sf, 5, none⟩ = some (.int .u64 (u1 : Int))) (with_reducible (first | exact KK3 | exact KK2 | exact KK1))
    (first
      | (go_at_call 47; refine CL.out.mono ?_; rintro e w2 ⟨v2, rfl, hm2⟩; obtain ⟨A2, c2, rfl, hc2, hm2', _⟩ := hm2.form; have KK2 := CK.out w2 ((Below.refl _ _).drew.trans hm2.below); have M2 := Lib.hid hm2; have I2 := Lib.hid hc2; have J2 := Lib.hid hm2'; clear hm2 hc2 hm2')
      | (go_at_call 56; refine (CW.out _ _ _ _ (by first | rfl | (simp [IntKind.wrap, IntKind.bits, IntKind.signed]; omega) | omega) M2.out I2.out J2.out).mono ?_; rintro e w3 ⟨own3, d3, x3, rfl, HW3, KK3⟩))
  have KK4 : w3.drew.cell? ⟨v.sf, 0, none⟩ = some (.pointer (some ⟨v.f, 0, none⟩)) ∧ w3.drew.cell? ⟨v.sf, 1, none⟩ = some (.string v.nm) ∧ w3.drew.cell? ⟨v.sf, 5, none⟩ = some (.int .u64 (u1 : Int)) := KK3
  clear CW CL KK1 KK3 CK
  obtain ⟨hsg, hfr, hfree, _, hk2⟩ := HW3.out
  obtain ⟨L, hL, hx3⟩ := hk2 (by simp)
  have HSG := Lib.hid (hsg.all (Below.refl _ _).drew)
  have HFR := Lib.hid (hfr.trans (Fr.of_below (Below.refl _ _).drew))
  have HFREE := Lib.hid (hfree.keep (fun _ _ => rfl) (Below.refl _ _).drew)
  have HLL := Lib.hid hL
  have HX3 := Lib.hid hx3
  clear hsg hfr hfree hk2 HW3 hL hx3
  have CS : Hid (Calls Tryz.prog 57 #[.pointer (some ⟨v.f, 0, none⟩), .string v.nm] w3.drew fun e w' => ∃ own' d' x', e = .returned (.int .i64 d3.err) ∧
      Hid (SG own' w0 w' { v with used := u1 } g x' (armed (armed a)) (K + 2) d' ∧ Fr own own' w w' ∧ Free own' w' A n (bvs b) ∧ (d3.err ≠ 0 → x' = x3) ∧ (d3.err = 0 → x' = ⟨x3.now, x3.now, []⟩)) ∧
      (w'.cell? ⟨v.sf, 0, none⟩ = some (.pointer (some ⟨v.f, 0, none⟩)) ∧ w'.cell? ⟨v.sf, 1, none⟩ = some (.string v.nm) ∧ w'.cell? ⟨v.sf, 5, none⟩ = some (.int .u64 (u1 : Int)))) := by
    refine (sync_one v.nm HSG.out.disk HSG.out.one HSG.out.nm (by omega)).mono ?_
    rintro e w' ⟨own', d', x', he, hd, hst, ho, ha, k1, k2⟩
    rw [HSG.out.arm] at ha
    have hL := HSG.out.lies.stp (Stp.of hst) HSG.out.lies.ne
    exact ⟨own', d', x', he, ⟨⟨hd, ho, ha, hL, HSG.out.nm⟩, HFR.out.trans (Fr.of_step hst), HFREE.out.step hst, k1, k2⟩, Blk.cell hL.blk 0, Blk.cell hL.blk 1, Blk.cell hL.blk 5⟩
  by_cases herr : d3.err = 0
  case neg =>
    have h3 : d3.err = 3 := by rcases d3.err_cases with h | h; exact absurd h herr; exact h
    have ha1 : armed a = some 0 := by
      rw [← HSG.out.arm]
      exact Classical.byContradiction fun hh => herr (Dk.err_arm hh)
    rw [h3] at CS
    have HA1' := Lib.hid ha1
    have H3E := Lib.hid h3
    clear herr h3 ha1
    go_upto_region 15 with fail
    go_region_held (fun W => W.cell? ⟨v.sf, 0, none⟩ = some (.pointer (some ⟨v.f, 0, none⟩)) ∧ W.cell? ⟨v.sf, 1, none⟩ = some (.string v.nm) ∧ W.cell? ⟨v.sf, 5, none⟩ = some (.int .u64 (u1 : Int))) (with_reducible (first | exact KK5 | exact KK4))
      (first | (go_at_call 57; refine CS.out.mono ?_; rintro e w5 ⟨own5, d5, x5, rfl, HW5, KK5⟩))
    obtain ⟨hsg, hfr, _, hk1, _⟩ := HW5.out
    go_wp2_with fail
    go_ret
    have ex := hk1 (by decide)
    have ea : a = some 1 := by
      have := HA1'.out
      match a, this with
      | some 1, _ => rfl
    rw [ex, HX3.out, HU.out, HA1'.out, HA1.out, HS1.out] at hsg
    refine ⟨3, rfl, ⟨own5, d5, _, _, _, ?_, hsg, hfr⟩⟩
    rw [ea]
    exact .sync L (by rw [← HS1.out, ← HA1.out]; exact HLL.out)
  rw [herr] at CS
  have HE3 := Lib.hid herr
  clear herr
  go_upto_region 15 with fail
  go_region_held (fun W => W.cell? ⟨v.sf, 0, none⟩ = some (.pointer (some ⟨v.f, 0, none⟩)) ∧ W.cell? ⟨v.sf, 1, none⟩ = some (.string v.nm) ∧ W.cell? ⟨v.sf, 5, none⟩ = some (.int .u64 (u1 : Int))) (with_reducible (first | exact KK5 | exact KK4))
    (first | (go_at_call 57; refine CS.out.mono ?_; rintro e w5 ⟨own5, d5, x5, rfl, HW5, KK5⟩))
  obtain ⟨hsg, hfr, hfree, _, hk2⟩ := HW5.out
  have HSG5 := Lib.hid hsg
  have HFR5 := Lib.hid hfr
  have HFREE5 := Lib.hid hfree
  have HX5 := Lib.hid (hk2 (by simp))
  have HAR3 : Hid (d3.arm = armed a) := HSG.out.arm
  clear hsg hfr hfree hk2 HW5 CS KK4 HSG HFR HFREE
  go_upto_region 18 with fail
  have hx5 := HX5.out
  obtain ⟨SW, hSW⟩ : ∃ SW : World → Prop, SW = fun W => ∃ s t y, Blk W v.sf 105 #[ptr v.f, .string v.nm, s, t, y, .int .u64 (u1 : Int), .bool v.lasts] ∧ Stp own5 own5 v.sf w5 W := ⟨_, rfl⟩
  have hown : own5 v.sf = some (v.sf, v.sf) := HSG5.out.lies.own
  have HB5 : Hid (Blk w5 v.sf 105 ({ v with used := u1 } : Sf).cells) := HSG5.out.lies.blk
  have hcv : ∀ W, SW W → (convert 51 9 (.slice A n c)).run Tryz.prog W = .ok (.string (str b)) W := fun W hW => by
    rw [hSW] at hW
    obtain ⟨s, t, y, _, hst⟩ := hW
    exact Disk.bytes_string (P := Tryz.prog) (c := c) (dst := 9) Tryz.underlying51 Tryz.underlying5 Tryz.underlying9 (free_fr HFREE5.out hst.fr).row
  obtain ⟨G2, hG2⟩ : ∃ G : World → Value, ∀ W, Hid (SW W) → W.cell? ⟨v.sf, 2, none⟩ = some (G W) := ⟨fun W => (W.cell? ⟨v.sf, 2, none⟩).getD undef, fun W hW => by
    have hW := hW.out
    rw [hSW] at hW
    obtain ⟨s, t, y, hb, _⟩ := hW
    have e : W.cell? ⟨v.sf, 2, none⟩ = some s := Blk.cell hb 2
    show _ = some ((W.cell? ⟨v.sf, 2, none⟩).getD undef)
    rw [e]
    rfl⟩
  obtain ⟨G3, hG3⟩ : ∃ G : World → Value, ∀ W, Hid (SW W) → W.cell? ⟨v.sf, 3, none⟩ = some (G W) := ⟨fun W => (W.cell? ⟨v.sf, 3, none⟩).getD undef, fun W hW => by
    have hW := hW.out
    rw [hSW] at hW
    obtain ⟨s, t, y, hb, _⟩ := hW
    have e : W.cell? ⟨v.sf, 3, none⟩ = some t := Blk.cell hb 3
    show _ = some ((W.cell? ⟨v.sf, 3, none⟩).getD undef)
    rw [e]
    rfl⟩
  obtain ⟨G4, hG4⟩ : ∃ G : World → Value, ∀ W, Hid (SW W) → W.cell? ⟨v.sf, 4, none⟩ = some (G W) := ⟨fun W => (W.cell? ⟨v.sf, 4, none⟩).getD undef, fun W hW => by
    have hW := hW.out
    rw [hSW] at hW
    obtain ⟨s, t, y, hb, _⟩ := hW
    have e : W.cell? ⟨v.sf, 4, none⟩ = some y := Blk.cell hb 4
    show _ = some ((W.cell? ⟨v.sf, 4, none⟩).getD undef)
    rw [e]
    rfl⟩
  have hF : ∀ W i, Hid (SW W) → W.frozen? ⟨v.sf, i, none⟩ = false := fun W i hW => by
    have hW := hW.out
    rw [hSW] at hW
    obtain ⟨s, t, y, hb, _⟩ := hW
    exact Blk.free hb i
  have mk : ∀ W, SW W → W.cell? ⟨v.sf, 5, none⟩ = some (.int .u64 (u1 : Int)) ∧ (convert 51 9 (.slice A n c)).run Tryz.prog W = .ok (.string (str b)) W ∧ Hid (SW W) := fun W hW => by
    refine ⟨?_, hcv W hW, hW⟩
    rw [hSW] at hW
    obtain ⟨s, t, y, hb, _⟩ := hW
    exact Blk.cell hb 5
  have sw5 : SW w5 := by
    rw [hSW]
    exact ⟨_, _, _, HB5.out, Stp.refl _ _ _⟩
  have swd : ∀ W, SW W → SW W.drew := fun W hW => by
    rw [hSW] at hW ⊢
    obtain ⟨s, t, y, hb, hst⟩ := hW
    exact ⟨s, t, y, hb, hst.trans ⟨rfl, rfl, rfl, Nat.le_refl _, fun _ _ => rfl, fun _ _ _ => rfl⟩⟩
  have sw1 : ∀ W u, Hid (SW W) → SW (W.setCell ⟨v.sf, 2, none⟩ u) := fun W u hW => by
    have hW := hW.out
    rw [hSW] at hW ⊢
    obtain ⟨s, t, y, hb, hst⟩ := hW
    exact ⟨_, _, _, Blk.put hb 2 _, hst.trans (own_turn (only_setCell W ⟨v.sf, 2, none⟩ u) hown)⟩
  have sw2 : ∀ W u, Hid (SW W) → SW (W.setCell ⟨v.sf, 3, none⟩ u) := fun W u hW => by
    have hW := hW.out
    rw [hSW] at hW ⊢
    obtain ⟨s, t, y, hb, hst⟩ := hW
    exact ⟨_, _, _, Blk.put hb 3 _, hst.trans (own_turn (only_setCell W ⟨v.sf, 3, none⟩ u) hown)⟩
  have sw3 : ∀ W u, Hid (SW W) → SW (W.setCell ⟨v.sf, 4, none⟩ u) := fun W u hW => by
    have hW := hW.out
    rw [hSW] at hW ⊢
    obtain ⟨s, t, y, hb, hst⟩ := hW
    exact ⟨_, _, _, Blk.put hb 4 _, hst.trans (own_turn (only_setCell W ⟨v.sf, 4, none⟩ u) hown)⟩
  have M0 := mk _ (swd _ sw5)
  have M1 := mk _ (swd _ (sw1 w5 (.int .i64 (s1 : Int)) sw5))
  have M2 := mk _ (swd _ (sw2 _ (.int .u64 (u1 : Int)) (sw1 w5 (.int .i64 (s1 : Int)) sw5)))
  have sw6 := sw3 _ (.string (str b)) (sw2 _ (.int .u64 (u1 : Int)) (sw1 w5 (.int .i64 (s1 : Int)) sw5))
  have M3 := mk _ (swd _ sw6)
  have hB6 := Blk.put (Blk.put (Blk.put HB5.out 2 (.int .i64 (s1 : Int))) 3 (.int .u64 (u1 : Int))) 4 (.string (str b))
  have HB6 := Lib.hid hB6
  have HS6 : Hid (Stp own5 own5 v.sf w5 (((w5.setCell ⟨v.sf, 2, none⟩ (.int .i64 (s1 : Int))).setCell ⟨v.sf, 3, none⟩ (.int .u64 (u1 : Int))).setCell ⟨v.sf, 4, none⟩ (.string (str b)))) := by
    show Stp _ _ _ _ _
    rw [hSW] at sw6
    obtain ⟨_, _, _, _, hst⟩ := sw6
    exact hst
  clear mk sw1 sw2 sw3 sw5 sw6 swd hSW hcv hown hx5 KK5 hB6
  go_region_held (fun W => W.cell? ⟨v.sf, 5, none⟩ = some (.int .u64 (u1 : Int)) ∧ (convert 51 9 (.slice A n c)).run Tryz.prog W = .ok (.string (str b)) W ∧ Hid (SW W))
    (with_reducible (first | exact M0 | exact M1 | exact M2 | exact M3)) (fail)
  go_wp2_with fail
  go_ret
  have hst : Stp own5 own5 v.sf w5 ((((w5.setCell ⟨v.sf, 2, none⟩ (.int .i64 (s1 : Int))).setCell ⟨v.sf, 3, none⟩ (.int .u64 (u1 : Int))).setCell ⟨v.sf, 4, none⟩ (.string (str b))).drew) := HS6.out.trans ⟨rfl, rfl, rfl, Nat.le_refl _, fun _ _ => rfl, fun _ _ _ => rfl⟩
  have ea : a ≠ some 0 := fun e => by
    have := Dk.err_zero (HH.out.arm.trans e)
    rw [HE.out] at this
    exact absurd this (by decide)
  have ea1 : a ≠ some 1 := fun e => by
    have := Dk.err_zero (HAR3.out.trans (by rw [e]; rfl))
    rw [HE3.out] at this
    exact absurd this (by decide)
  refine ⟨0, rfl, ⟨own5, d5, { v with slot := s1, turn := u1, txt := b, used := u1 }, x5, armed (armed a), ?_, ⟨hst.held HSG5.out.disk (fun e => HSG5.out.lies.ne e.symm) (fun b p hp => Nat.lt_of_lt_of_le (HSG5.out.top b p hp) hst.size), HSG5.out.one, HSG5.out.arm, ⟨HB6.out, HSG5.out.lies.own, HSG5.out.lies.ne⟩, HSG5.out.nm⟩, HFR5.out.trans hst.fr⟩⟩
  have hok := Saved.ok (v := v) (b := b) (x := x) a ea ea1
  rw [← HU.out, ← HS1.out, ← HA1.out] at hok
  rw [HX5.out, HX3.out]
  exact hok
end Go.Proofs.YtcmlchicpmnhdaaGreatDoor.Slot
