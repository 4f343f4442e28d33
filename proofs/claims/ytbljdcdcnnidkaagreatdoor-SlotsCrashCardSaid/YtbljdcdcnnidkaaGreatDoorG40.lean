/-
  Texts one behind the other: SlotCrashLaw.
-/
import Derived.Test.YtbljdcdcnnidkaaGreatDoorG29
import Derived.Test.YtbljdcdcnnidkaaGreatDoorG38
/-
  Proved: SlotsCrash returns true, whatever it is handed: behind a failure of any call, and a crash.
-/
namespace Go.Proofs.YtbljdcdcnnidkaaGreatDoor.Slot
open Go.RowKit Go.Proofs.YtbljdcdcnnidkaaGreatDoor.Rec Go.Proofs.YtbljdcdcnnidkaaGreatDoor.Disk Go.Proofs.YtbljdcdcnnidkaaGreatDoor.Mix
open Go.Proofs.YtbljdcdcnnidkaaGreatDoor.Crc (Turned)
open Go.Proofs.YtbljdcdcnnidkaaGreatDoor.Seg (Fr ptr mark_old mark_top free_fr failRaw_held)
set_option linter.unusedVariables false
set_option linter.unusedSimpArgs false

theorem parts_zero (n : Nat) : ∀ i, (partsFor 0 n [] (-1)).getD i 0 = 0 := by
  intro i
  unfold partsFor
  rw [List.getD_eq_getElem?_getD, List.getElem?_map]
  by_cases h : i < n
  · rw [List.getElem?_range h]
    show partOf (0 + i) [] (-1) = 0
    unfold partOf
    rw [if_neg (by omega)]
    simp
  · rw [List.getElem?_eq_none (by simpa using h)]
    rfl
/-- What Mixed says of a file of slots where it says no. -/
theorem says_one {own : Own} {wa wb w w' : World} {fa fc KT g g' : Nat} {da dc : Dk} {nm : Nm} {x : Fl} {y : List UInt8} (h : Says own wa wb w fa fc KT da dc false w') (oa : OneFile da nm g x) (oc : OneFile dc nm g' ⟨y, y, []⟩) (hx : x.Ok) (hl : x.now.length = 8192) (hw : x.was.length = 8192) (hy : y.length = 8192) (s : Nat) (hs : s < 2) : OneSlot x y s := by
  intro h0
  obtain ⟨own', pa, pc, pf, d2, hcr, _, _, _, hpa, hpc, _, hns, hT, hone⟩ := h.ex
  have h1 := hone rfl nm (by rw [hpc]; show nm ∈ dc.N.map (·.1); rw [oc.N]; simp)
  have e1 : pc.T nm = y := by
    rw [hpc]
    show text dc nm = y
    unfold text
    rw [oc.look]
    rfl
  rw [e1] at h1
  obtain ⟨g2, o2, _⟩ := oa.crashed hcr
  have hle : slotN (slotAt y s) ≤ (slotAt y s).length := slotN_le _
  have hlen : ((y.drop (4096 * s)).take (slotN (slotAt y s))).length = slotN (slotAt y s) := by
    rw [List.length_take]
    exact Nat.min_eq_left hle
  rcases h1.slots s hs (by omega) h0 with ⟨q, hq, k1, k2⟩ | ⟨q, hq, k1, k2⟩
  · refine .inl ?_
    rw [hpa] at hq k1 k2
    have hq' : q ∈ da.N.map (·.1) := hq
    rw [oa.N] at hq'
    obtain rfl : q = nm := by simpa using hq'
    have e2 : text da q = x.now := by
      unfold text
      rw [oa.look]
      rfl
    have k1' : 4096 * s + ((y.drop (4096 * s)).take (slotN (slotAt y s))).length ≤ (text da q).length := k1
    have k2' : ((text da q).drop (4096 * s)).take ((y.drop (4096 * s)).take (slotN (slotAt y s))).length = (y.drop (4096 * s)).take (slotN (slotAt y s)) := k2
    rw [e2, hlen] at k1' k2'
    exact ⟨k1', k2'⟩
  · refine .inr ?_
    rw [hns] at hq
    rw [hT] at k1 k2
    have hq' : q ∈ d2.N.map (·.1) := hq
    rw [o2.N] at hq'
    obtain rfl : q = nm := by simpa using hq'
    have e2 : text d2 q = x.was := by
      unfold text
      rw [o2.look]
      show x.crash _ = x.was
      exact crash_old hx (by omega) (parts_zero _)
    have k1' : 4096 * s + ((y.drop (4096 * s)).take (slotN (slotAt y s))).length ≤ (text d2 q).length := k1
    have k2' : ((text d2 q).drop (4096 * s)).take ((y.drop (4096 * s)).take (slotN (slotAt y s))).length = (y.drop (4096 * s)).take (slotN (slotAt y s)) := k2
    rw [e2, hlen] at k1' k2'
    exact ⟨k1', k2'⟩
/-- A file of slots that was saved, on a disk of which a call may be to fail. -/
structure UpA (own : Own) (w0 w : World) (v : Sf) (x : Fl) (a : Option Nat) (K : Nat) : Prop where
  ex : ∃ g d, SG own w0 w v g x a K d
  lasts : v.lasts = true
  sides : Sides x.now v.slot v.turn v.txt
  used : v.used = v.turn
  was : x.was = x.now
  clean : x.soiled = []
/-- .. of which it is known what a crash leaves. -/
structure Ends (own : Own) (w0 w : World) (v : Sf) (x : Fl) (a : Option Nat) (K : Nat) (p q : List UInt8) : Prop where
  ex : ∃ g d, SG own w0 w v g x a K d
  ok : x.Ok
  len : x.now.length = 8192
  waslen : x.was.length = 8192
  tells : ∀ parts : List Nat, (∀ i, parts.getD i 0 ≤ 64) → (∀ s, s < 2 → OneSlot x (x.crash parts) s) → ∃ t b', Slot.tells (x.crash parts) = some (t, b') ∧ (b' = p ∨ b' = q)
theorem UpA.lies {own : Own} {w0 w : World} {v : Sf} {x : Fl} {a : Option Nat} {K : Nat} (h : UpA own w0 w v x a K) : Lies own w v := by
  obtain ⟨g, d, hs⟩ := h.ex
  exact hs.lies
theorem UpA.below {own : Own} {w0 w : World} {v : Sf} {x : Fl} {a : Option Nat} {K : Nat} (h : UpA own w0 w v x a K) : Below w0.heap.size w0 w := by
  obtain ⟨g, d, hs⟩ := h.ex
  exact hs.disk.below
theorem UpA.top {own : Own} {w0 w : World} {v : Sf} {x : Fl} {a : Option Nat} {K : Nat} (h : UpA own w0 w v x a K) : ∀ b p, own b = some p → b < w.heap.size := by
  obtain ⟨g, d, hs⟩ := h.ex
  exact hs.top
theorem UpA.none {own : Own} {w0 w : World} {v : Sf} {x : Fl} {a : Option Nat} {K : Nat} (h : UpA own w0 w v x a K) : ∀ b, b < w0.heap.size → own b = none := by
  obtain ⟨g, d, hs⟩ := h.ex
  exact hs.disk.free
theorem Ends.lies {own : Own} {w0 w : World} {v : Sf} {x : Fl} {a : Option Nat} {K : Nat} {p q : List UInt8} (h : Ends own w0 w v x a K p q) : Lies own w v := by
  obtain ⟨g, d, hs⟩ := h.ex
  exact hs.lies
theorem Ends.all {own : Own} {w0 w w' : World} {v : Sf} {x : Fl} {a : Option Nat} {K : Nat} {p q : List UInt8} (h : Ends own w0 w v x a K p q) (hb : Below w.heap.size w w') : Ends own w0 w' v x a K p q := by
  obtain ⟨g, d, hs⟩ := h.ex
  exact { h with ex := ⟨g, d, hs.all hb⟩ }
theorem calm_tells {x : Fl} {s t : Nat} {b : List UInt8} (hs : Sides x.now s t b) (hw : x.was = x.now) (hc : x.soiled = []) (q : List UInt8) (parts : List Nat) : ∃ t' b', tells (x.crash parts) = some (t', b') ∧ (b' = b ∨ b' = q) := by
  rw [Fl.crash_clean hc hw]
  exact ⟨t, b, hs.tell, .inl rfl⟩
theorem UpA.ends {own : Own} {w0 w : World} {v : Sf} {x : Fl} {a : Option Nat} {K : Nat} (h : UpA own w0 w v x a K) (q : List UInt8) : Ends own w0 w v x a K v.txt q := by
  obtain ⟨g, d, hs⟩ := h.ex
  exact ⟨⟨g, d, hs⟩, hs.xok, h.sides.len, by rw [h.was]; exact h.sides.len, fun parts _ _ => calm_tells h.sides h.was h.clean q parts⟩
theorem upa_fail {own : Own} {w0 w : World} {v : Sf} {x : Fl} {K : Nat} (n : Int) (h : Up own w0 w v x K) (hn : n ≤ 9223372036854775807) :
    Calls Tryz.prog 8 #[.pointer (some ⟨v.f, 0, none⟩), .int .i64 n] w fun e w' => e = .returned undef ∧ ∃ a, UpA own w0 w' v x a K := by
  refine (tried_fail n h.tried hn).mono ?_
  rintro e w' ⟨he, ht, _⟩
  exact ⟨he, failArm n, ht.ex, h.lasts, h.sides, h.used, h.was, h.clean⟩
theorem upa_ok {own : Own} {w0 w : World} {v : Sf} {x : Fl} {a : Option Nat} {K : Nat} (hT : Turned w0) (h : UpA own w0 w v x a K) (hok : ¬ (a = some 0 ∨ a = some 1)) (hu : v.turn < 1099511627776) (hK : K + 2 ≤ 1073741824)
    {A : Option Addr} {n c : Nat} {b : List UInt8} (hR : Free own w A n (bvs b)) (hnc : n ≤ c) (hc : c ≤ maxLen) (hn : n ≤ 4080) :
    Calls Tryz.prog 10 #[.pointer (some ⟨v.sf, 0, none⟩), .slice A n c] w fun e w' => e = .returned (.int .i64 0) ∧ ∃ own' x' a', UpA own' w0 w' { v with slot := 1 - v.slot, turn := v.turn + 1, txt := b, used := v.turn + 1 } x' a' (K + 2) ∧ Fr own own' w w' := by
  obtain ⟨g, d, hs⟩ := h.ex
  have hbn : b.length = n := by have := hR.1; rwa [bvs_length] at this
  refine (save_any hT hs h.lasts (by rw [h.used]; exact hu) h.sides.two h.sides.len hR hnc hc hn hK).mono ?_
  rintro e w' ⟨er, he, own', d', v', x', a', hsv, hsg, hfr⟩
  cases hsv with
  | write => exact absurd (.inl rfl) hok
  | sync L _ => exact absurd (.inr rfl) hok
  | ok _ h0 h1 =>
    rw [h.used] at hsg
    exact ⟨he, own', ⟨putAt x.now (4096 * (1 - v.slot)) (slotFull (v.turn + 1) b), putAt x.now (4096 * (1 - v.slot)) (slotFull (v.turn + 1) b), []⟩, armed (armed a), ⟨⟨g, d', hsg⟩, h.lasts, h.sides.save (by omega) (slotFull_len (by omega)) (Nat.lt_succ_self _) (by omega), rfl, rfl, rfl⟩, hfr⟩
theorem clean_sec {L : Secs} {x0 : Fl} {s t : Nat} (hc : x0.soiled = []) (hL : ∀ t, shas t L = (shas t x0.soiled || touches (4096 * (1 - s)) 4096 t)) (hs : s < 2) (h1 : 64 * s ≤ t) (h2 : t < 64 * s + 64) : shas t L = false := by
  rw [hL, hc]
  have e : touches (4096 * (1 - s)) 4096 t = false := by
    unfold touches
    rcases (by omega : s = 0 ∨ s = 1) with rfl | rfl
    · rw [decide_eq_false (by omega)]
      rfl
    · rw [Bool.and_eq_false_iff]
      refine .inr (decide_eq_false ?_)
      have : sectors (4096 * (1 - 1)) 4096 = 64 := by decide
      rw [this]
      omega
  rw [e]
  rfl
theorem upa_bad {own : Own} {w0 w : World} {v : Sf} {x : Fl} {a : Option Nat} {K : Nat} (hT : Turned w0) (h : UpA own w0 w v x a K) (hbad : a = some 0 ∨ a = some 1) (hu : v.turn < 1099511627776) (hK : K + 2 ≤ 1073741824)
    {A : Option Addr} {n c : Nat} {b : List UInt8} (hR : Free own w A n (bvs b)) (hnc : n ≤ c) (hc : c ≤ maxLen) (hn : n ≤ 4080) :
    Calls Tryz.prog 10 #[.pointer (some ⟨v.sf, 0, none⟩), .slice A n c] w fun e w' => e = .returned (.int .i64 3) ∧ ∃ own' x' a', Ends own' w0 w' { v with used := v.turn + 1 } x' a' (K + 2) v.txt b := by
  obtain ⟨g, d, hs⟩ := h.ex
  have hbn : b.length = n := by have := hR.1; rwa [bvs_length] at this
  refine (save_any hT hs h.lasts (by rw [h.used]; exact hu) h.sides.two h.sides.len hR hnc hc hn hK).mono ?_
  rintro e w' ⟨er, he, own', d', v', x', a', hsv, hsg, hfr⟩
  cases hsv with
  | write =>
    rw [h.used] at hsg
    exact ⟨he, own', x, none, ⟨g, d', hsg⟩, hsg.xok, h.sides.len, by rw [h.was]; exact h.sides.len, fun parts _ _ => calm_tells h.sides h.was h.clean b parts⟩
  | sync L hL =>
    rw [h.used] at hsg
    have h2 := h.sides.two
    have hlen : (putAt x.now (4096 * (1 - v.slot)) (slotFull (v.turn + 1) b)).length = 8192 := put_length h.sides.len (by omega) (slotFull_len (by omega))
    refine ⟨he, own', ⟨putAt x.now (4096 * (1 - v.slot)) (slotFull (v.turn + 1) b), x.was, L⟩, none, ⟨g, d', hsg⟩, hsg.xok, hlen, by show x.was.length = 8192; rw [h.was]; exact h.sides.len, fun parts hp hone => ?_⟩
    have here : slotOf (slotAt (putAt x.now (4096 * (1 - v.slot)) (slotFull (v.turn + 1) b)) v.slot) = some (v.turn, v.txt) := (put_there h.sides.len (by omega) h2 (by omega) (slotFull_len (by omega))).trans h.sides.here
    have hct := crash_tells (x := ⟨putAt x.now (4096 * (1 - v.slot)) (slotFull (v.turn + 1) b), x.was, L⟩) hsg.xok hlen (by show x.was.length = 8192; rw [h.was]; exact h.sides.len) hp h2 here (fun i h3 h4 => clean_sec h.clean hL h2 h3 h4) (q := (v.turn + 1, b)) (Nat.lt_succ_self _)
      (by intro p hp2; have hp3 : slotOf (slotAt x.was (1 - v.slot)) = some p := hp2; rw [h.was] at hp3; exact h.sides.there p hp3) (.inl (put_here h.sides.len (by omega) (by omega) (by omega))) (hone (1 - v.slot) (by omega))
    rcases hct with e | e
    · exact ⟨_, _, e, .inl rfl⟩
    · exact ⟨_, _, e, .inr rfl⟩
  | ok _ h0 h1 => rcases hbad with e | e <;> contradiction
set_option maxRecDepth 100000 in
set_option maxHeartbeats 8000000 in
theorem slotsCrash_walk (A0 : Option Addr) (nt cn : Nat) (fail n : Int) (A3 : Option Addr) (m3 c3 : Nat) (ks0 : List Bool) (torn : Int) (w : World) (hT : Turned w) (hA : RowsB w A0 nt) (hn : nt ≤ cn) (hc : cn ≤ maxLen) (hfb : -9223372036854775808 ≤ fail ∧ fail ≤ 9223372036854775807) (hnb : -9223372036854775808 ≤ n ∧ n ≤ 9223372036854775807) (hk : Row w w.heap.size A3 m3 (lvs ks0)) (hk1 : m3 ≤ c3) (hk2 : c3 ≤ maxLen) (htb : -9223372036854775808 ≤ torn ∧ torn ≤ 9223372036854775807) :
    Calls Tryz.prog 3 #[.slice A0 nt cn, .int .i64 fail, .int .i64 n, .slice A3 m3 c3, .int .i64 torn] w fun e w' => e = .returned (.bool true) ∧ Below w.heap.size w w' := by
  have hcv := fun (w : World) (C : Array Value) (n c : Nat) => Lib.run_convert_bytes_const (P := Tryz.prog) w 31 5 C n c Tryz.underlying31 Tryz.underlying5
  have HT := Lib.hid hT
  have HBEG := Lib.hid (slotbegun_any w hT)
  have HB := Lib.hid hk
  have HA := Lib.hid hA
  have hcm : cn ≤ 9223372036854775807 := by unfold maxLen at hc; exact hc
  have hcm3 : c3 ≤ 9223372036854775807 := by unfold maxLen at hk2; exact hk2
  clear hT hk hk2 hc hA
  by_cases hbad : fail < 0 ∨ 60 < fail
  · go_enter Tryz.func3, Tryz.ntmps3
    go_upto_region 4 with (go_at_call 5; refine HBEG.out.mono ?_; rintro e w1 ⟨rfl, hb1⟩; have HB1 := Lib.hid hb1; clear hb1)
    by_cases h1 : fail < 0
    · go_wp2_with fail
      go_ret
      exact ⟨rfl, HB1.out⟩
    have h4 : 60 < fail := by omega
    go_wp2_with fail
    go_ret
    exact ⟨rfl, HB1.out⟩
  have q1 : ¬ fail < 0 := by omega
  have q2 : ¬ 60 < fail := by omega
  have HFB : Hid (fail ≤ 9223372036854775807) := hfb.2
  clear hbad hfb
  go_enter Tryz.func3, Tryz.ntmps3
  go_upto_region 6 with (go_at_call 5; refine HBEG.out.mono ?_; rintro e w1 ⟨rfl, hb1⟩; have HB1 := Lib.hid hb1; clear hb1)
  obtain ⟨tk, htk⟩ : ∃ tk, tk = decide (140 < m3) := ⟨_, rfl⟩
  have HTK := Lib.hid htk
  clear htk q1 q2
  go_cut [33] (fun v w' => v = .bool tk ∧ w1 = w')
  case first =>
    by_cases hb : 140 < m3
    · have h1 : (140 : Int) < (m3 : Int) := by omega
      go_wp2_with fail
      go_meet
      case rel => exact ⟨by rw [HTK.out, decide_eq_true hb], rfl⟩
    · have h1 : ¬ (140 : Int) < (m3 : Int) := by omega
      go_wp2_with fail
      go_meet
      case rel => exact ⟨by rw [HTK.out, decide_eq_false hb], rfl⟩
  case rest =>
  obtain ⟨rfl, rfl⟩ := hcut
  go_upto_if 33 with fail
  go_cut [3] (fun v w' => ∃ (m : Nat) (ks : List Bool), v = .slice A3 m c3 ∧ m ≤ 140 ∧ Hid (Row w w.heap.size A3 m (lvs ks)) ∧ w1 = w')
  case first =>
    by_cases hb : 140 < m3
    · obtain rfl : tk = true := by rw [HTK.out, decide_eq_true hb]
      have h2 : (140 : Int) ≤ (c3 : Int) := by omega
      have HB2 : Hid (Row w w.heap.size A3 140 (lvs (ks0.take 140))) := by
        have := HB.out.take (k := 140) (by omega)
        rw [lvs_take] at this
        exact this
      go_wp2_with fail
      go_meet
      case rel => exact ⟨140, ks0.take 140, rfl, Nat.le_refl _, HB2, rfl⟩
    · obtain rfl : tk = false := by rw [HTK.out, decide_eq_false hb]
      go_wp2_with fail
      go_meet
      case rel => exact ⟨m3, ks0, rfl, by omega, HB, rfl⟩
  case rest =>
  obtain ⟨m, ks, rfl, hm140, HKS, rfl⟩ := hcut
  have HM140 := Lib.hid hm140
  have HKR : Hid (∀ W, Below w1.heap.size w1 W → Row W W.heap.size A3 m (lvs ks)) := fun W hb => ((HKS.out.below HB1.out).below (hb.mono HB1.out.size)).more (Nat.le_trans HB1.out.size hb.size)
  have CN := Lib.hid (new_held 100000 w1)
  rw [show room 100000 = 100000 by decide] at CN
  have HT1 := Lib.hid (turned_below HT.out HB1.out rfl)
  clear hm140 hk1 HB HTK
  go_upto_region 9 with (go_at_call 6; refine CN.out.mono ?_; rintro e w2 ⟨own2, f, rfl, hd2⟩)
  have CC : Hid (Calls Tryz.prog 7 #[.pointer (some ⟨f, 0, none⟩), .string ⟨#[65]⟩, .slice (some ⟨w2.heap.size, 0, none⟩) 5 5] (w2.alloc (.cells #[.int .u8 102, .int .u8 105, .int .u8 114, .int .u8 115, .int .u8 116] 5 (5, 6))) fun e w' => ∃ sf, e = .returned (.tuple #[.pointer (some ⟨sf, 0, none⟩), .int .i64 0]) ∧ ∃ own', Up own' w1 w' ⟨f, sf, sA, 0, 1, [102, 105, 114, 115, 116], 1, true⟩ ⟨laidB [102, 105, 114, 115, 116], laidB [102, 105, 114, 115, 116], []⟩ 5 ∧ Stp own2 own' f (w2.alloc (.cells #[.int .u8 102, .int .u8 105, .int .u8 114, .int .u8 115, .int .u8 116] 5 (5, 6))) w') :=
    up_create sA HT1.out (hd2.all (below_alloc w2 _)) (new_bare _) (new_arm _) (by decide) (by decide) (by decide) (by decide) (by decide) (lit_free hd2.top [102, 105, 114, 115, 116] 5 rfl _ rfl (5, 6)) (by decide) (by decide) (by decide)
  clear hd2 CN
  go_upto_region 12 with (go_at_call 7; refine CC.out.mono ?_; rintro e w3 ⟨sf, rfl, own3, hu3, _⟩)
  have CF : Hid (Calls Tryz.prog 8 #[.pointer (some ⟨f, 0, none⟩), .int .i64 fail] w3 fun e w' => e = .returned undef ∧ ∃ a, UpA own3 w1 w' ⟨f, sf, sA, 0, 1, [102, 105, 114, 115, 116], 1, true⟩ ⟨laidB [102, 105, 114, 115, 116], laidB [102, 105, 114, 115, 116], []⟩ a 5) := by
    have h := upa_fail fail hu3 HFB.out
    exact h
  clear hu3 CC
  go_upto_region 13 with (go_at_call 8; refine CF.out.mono ?_; rintro e w4 ⟨rfl, a4, hu4⟩)
  have HU4 := Lib.hid hu4
  clear hu4 CF
  go_wp2_with fail
  go_loopw [15, 16, 17] (fun nv xv iv wr => ∃ (i K' sl tn : Nat) (own' : Own) (tx nx : List UInt8) (x : Fl) (a : Option Nat), nv = .string (str tx) ∧ xv = .string (str nx) ∧ iv = .int .i64 (i : Int) ∧ i ≤ 20 ∧ tn ≤ i + 1 ∧ K' ≤ 8 + 8 * i ∧ Hid (UpA own' w1 wr ⟨f, sf, sA, sl, tn, tx, tn, true⟩ x a K')) (fun _ _ iv _ => 20 - (RowKit.intOf iv).toNat)
  case atStart => exact ⟨0, 5, 0, 1, own3, [102, 105, 114, 115, 116], [102, 105, 114, 115, 116], _, a4, rfl, rfl, rfl, by decide, by decide, by decide, HU4⟩
  case round =>
    obtain ⟨i, K', sl, tn, own', tx, nx, x, a, rfl, rfl, rfl, hi, htn, hK', HU⟩ := hrel
    obtain ⟨t, ht⟩ : ∃ t, t = decide (i < nt ∧ i < 20) := ⟨_, rfl⟩
    have HTT := Lib.hid ht
    clear ht
    go_upto_region 16 with fail
    go_cut [57] (fun v w' => v = .bool t ∧ wr = w')
    case first =>
      by_cases h1 : i < nt
      · have h1' : (i : Int) < (nt : Int) := by omega
        by_cases h2 : i < 20
        · have h2' : (i : Int) < 20 := by omega
          go_wp2_with fail
          go_meet
          case rel => exact ⟨by rw [HTT.out, decide_eq_true ⟨h1, h2⟩], rfl⟩
        · have h2' : ¬ (i : Int) < 20 := by omega
          go_wp2_with fail
          go_meet
          case rel => exact ⟨by rw [HTT.out, decide_eq_false (fun h => by omega)], rfl⟩
      · have h1' : ¬ (i : Int) < (nt : Int) := by omega
        go_wp2_with fail
        go_meet
        case rel => exact ⟨by rw [HTT.out, decide_eq_false (fun h => by omega)], rfl⟩
    case rest =>
    obtain ⟨rfl, rfl⟩ := hcut
    cases t with
    | false =>
      have HE : Hid (Ends own' w1 wr ⟨f, sf, sA, sl, tn, tx, tn, true⟩ x a K' tx nx) := HU.out.ends nx
      obtain ⟨g4, d4, hsg4⟩ := HE.out.ex
      have hd4 : Held own' w1 wr f d4 (K') := hsg4.disk
      have ho4 : OneFile d4 nmA g4 x := hsg4.one
      have CR : Hid (Calls Tryz.prog 12 #[.pointer (some ⟨f, 0, none⟩), .int .i64 n, .slice A3 m c3, .int .i64 torn] wr fun e w' => ∃ own9 f' d', e = .returned (.pointer (some ⟨f', 0, none⟩)) ∧ Held own9 w1 w' f d4 (K') ∧ Held own9 w1 w' f' d' (K') ∧ d4.Crashed d' n ks torn ∧ wr.heap.size ≤ f' ∧ (∀ b, b < wr.heap.size → own9 b = own' b) ∧ Below wr.heap.size wr w') := crash_more n torn hd4 (HKR.out wr hd4.below) (Nat.le_refl _) (by have := HM140.out; omega)
      have HO4 := Lib.hid ho4
      have hlt4 := hd4.disk.lt
      have HK4 : Hid (K' ≤ 1000) := (by show K' ≤ 1000; omega)
      clear hsg4 hd4 ho4
      go_upto_region 26 with (go_at_call 12; refine CR.out.mono ?_; rintro e w5 ⟨own5, f5, d5, rfl, hd5, hc5, hcr, hge, _, _⟩)
      obtain ⟨g5, ho5, _⟩ := HO4.out.crashed hcr
      have hdir0 : ∀ q, d4.crashDir q = [(nmA, g4)] := fun q => by rw [Dk.crashDir, HO4.out.wait, HO4.out.S, List.take_nil]; rfl
      have CM := Lib.hid (mixed_slots hd5 hc5 (by omega) (by rw [HO4.out.N]; exact Nat.le_refl _) (by rw [hdir0]; exact Nat.le_refl _) (by rw [HO4.out.N]; intro q hq; simp at hq; rw [hq]; decide) (by rw [hdir0]; intro q hq; simp at hq; rw [hq]; decide) (by rw [ho5.N]; exact Nat.le_refl _) (by rw [ho5.N]; intro q hq; simp at hq; rw [hq]; decide) HK4.out)
      have HO5 := Lib.hid ho5
      clear hd5 hc5 hge hdir0 ho5 CR hlt4
      go_cut [89] (fun v w' => ∃ t, v = .bool t ∧ Hid (Says own5 w1 w1 w5 f f5 300000 d4 d5 t w'))
      case first =>
        go_wp2_with (go_at_call 13; refine CM.out.mono ?_; rintro e w6 ⟨t, rfl, hs⟩; have HSY := Lib.hid hs; clear hs)
        go_meet
        case rel => exact ⟨t, rfl, HSY⟩
      case rest =>
      obtain ⟨t, rfl, HSY⟩ := hcut
      obtain ⟨w6, hw6⟩ : ∃ w6, w6 = wc := ⟨_, rfl⟩
      subst hw6
      obtain ⟨own6, d6, hd6, _, _, hno, hyes⟩ := says_disk HSY.out
      have HB6 : Hid (Below w.heap.size w w6) := HB1.out.trans (hd6.below.mono HB1.out.size)
      clear CM
      cases t with
      | true =>
        go_wp2_with fail
        go_ret
        exact ⟨rfl, HB6.out⟩
      | false =>
        obtain ⟨y, hly, hyn⟩ := hyes _ _ HO5.out.look
        obtain ⟨t', b', htl, hbb⟩ := HE.out.tells _ (partsFor_le 0 _ ks torn) (fun s hs => says_one HSY.out HO4.out HO5.out HE.out.ok HE.out.len HE.out.waslen (by rw [crash_size HE.out.ok (by rw [HE.out.len, HE.out.waslen]) (partsFor_le 0 _ ks torn)]; exact HE.out.len) s hs)
        have hyn' : y.now = x.crash (partsFor 0 x.soiled.length ks torn) := hyn
        rw [← hyn'] at htl
        obtain ⟨s', hs2, hbest⟩ := best_some htl
        have hylen : y.now.length = 8192 := by rw [hyn', crash_size HE.out.ok (by rw [HE.out.len, HE.out.waslen]) (partsFor_le 0 _ ks torn)]; exact HE.out.len
        have CO : Hid (Calls Tryz.prog 14 #[.pointer (some ⟨f5, 0, none⟩), .string ⟨#[65]⟩] w6 fun e w' => ∃ sf own', e = .returned (.tuple #[.pointer (some ⟨sf, 0, none⟩), .int .i64 0]) ∧ w6.heap.size ≤ sf ∧ Lies own' w' ⟨f5, sf, sA, s', t', b', t', Dk.clean d6⟩ ∧ (∃ d', Like d6 d' ∧ Held own' w1 w' f5 d' (300000 + 2)) ∧ Stp own6 own' f5 w6 w') := open_tells sA HT1.out hd6 (by decide) hly hylen (by decide) hbest
        have HBB := Lib.hid hbb
        clear hno hyes hcr hly hyn hyn' htl hbest hylen hd6 hbb HSY
        go_upto_region 29 with (go_at_call 14; refine CO.out.mono ?_; rintro e w7 ⟨sf7, own7, rfl, _, hl7, hh7, hs7⟩)
        have HL7 := Lib.hid hl7
        have HB7 : Hid (Below w.heap.size w w7) := by
          obtain ⟨d', _, hd'⟩ := hh7
          exact HB1.out.trans (hd'.below.mono HB1.out.size)
        clear hl7 hh7 hs7 CO
        have CT : Hid (∀ W, Below w7.heap.size w7 W → Calls Tryz.prog 11 #[.pointer (some ⟨sf7, 0, none⟩)] W fun e w' => ∃ A c, e = .returned (.slice A b'.length c) ∧ Hid (Row w' w'.heap.size A b'.length (bvs b')) ∧ Hid (Below w7.heap.size w7 w')) := fun W hb => (text_any (HL7.out.all hb)).mono fun e w' ⟨A, c, he, hr, hb2⟩ => ⟨A, c, he, hr, hb.trans (hb2.out.mono hb.size)⟩
        obtain ⟨NN, hNN⟩ : ∃ NN, NN = b'.length := ⟨_, rfl⟩
        rw [← hNN] at CT
        clear hNN
        by_cases heq : b' = tx
        · subst heq
          clear HBB
          go_wp2_with (go_at_call 11; refine (CT.out w7 (Below.refl _ _)).mono ?_; rintro e w8 ⟨A8, c8, rfl, R8, B8⟩
                       have cs8 : ∀ c, (convert 31 9 (.slice A8 NN c)).run Tryz.prog w8 = .ok (.string (str b')) w8 := fun c => Disk.bytes_string (P := Tryz.prog) (c := c) (dst := 9) Tryz.underlying31 Tryz.underlying5 Tryz.underlying9 R8.out)
          go_ret
          exact ⟨rfl, HB7.out.trans (B8.out.mono HB7.out.size)⟩
        · obtain rfl : b' = nx := by rcases HBB.out with h | h; exact absurd h heq; exact h
          have hne : ¬ (str b' = str tx) := fun h => heq (str_inj h)
          have hne2 : ((str b').toList == (str tx).toList) = false := by rw [text_eq]; exact decide_eq_false hne
          clear HBB heq
          go_wp2_with (first
            | (go_at_call 11; refine (CT.out w7 (Below.refl _ _)).mono ?_; rintro e w8 ⟨A8, c8, rfl, R8, B8⟩
               have cs8 : ∀ c, (convert 31 9 (.slice A8 NN c)).run Tryz.prog w8 = .ok (.string (str b')) w8 := fun c => Disk.bytes_string (P := Tryz.prog) (c := c) (dst := 9) Tryz.underlying31 Tryz.underlying5 Tryz.underlying9 R8.out)
            | (go_at_call 11; refine (CT.out _ B8.out).mono ?_; rintro e w9 ⟨A9, c9, rfl, R9, B9⟩
               have cs9 : ∀ c, (convert 31 9 (.slice A9 NN c)).run Tryz.prog w9 = .ok (.string (str b')) w9 := fun c => Disk.bytes_string (P := Tryz.prog) (c := c) (dst := 9) Tryz.underlying31 Tryz.underlying5 Tryz.underlying9 R9.out))
          go_ret
          exact ⟨rfl, HB7.out.trans (B9.out.mono HB7.out.size)⟩
    | true =>
      obtain ⟨hin, hi20⟩ := of_decide_eq_true HTT.out.symm
      obtain ⟨b, o, rfl, hbl, hit⟩ := HA.out (by omega)
      obtain ⟨A', l, c, bs, hcell, hrow, hlc, hcm'⟩ := hit i hin
      have HBw : Hid (Below w.heap.size w wr) := HB1.out.trans (HU.out.below.mono HB1.out.size)
      have yc : wr.cell? ⟨b, o + i, none⟩ = some (.slice A' l c) := (HBw.out.cell (p := ⟨b, o + i, none⟩) hbl).trans hcell
      have hin' : (i : Int) < (nt : Int) := by omega
      have CSH : Hid (Calls Tryz.prog 9 #[.slice A' l c, .int .i64 300] wr fun e w' => e = .returned (.slice A' (min l 300) c) ∧ wr = w') := Com.short_any A' l c 300 wr hlc hcm'
      have hr100 : Row w w.heap.size A' (min l 300) (bvs (bs.take 300)) := Com.short_row (Below.refl _ _) hrow
      have HFB' : Hid (Free own' wr A' (min l 300) (bvs (bs.take 300))) := free_of HU.out.top HU.out.below HB1.out ⟨fun q hq => HU.out.none q (Nat.lt_of_lt_of_le hq HB1.out.size), hr100⟩
      have HC := Lib.hid hcm'
      obtain ⟨N1, hN1⟩ : ∃ N1, N1 = min l 300 := ⟨_, rfl⟩
      obtain ⟨tb, htb⟩ : ∃ tb, tb = bs.take 300 := ⟨_, rfl⟩
      have HN1 : Hid (N1 ≤ 300 ∧ N1 ≤ c) := ⟨by omega, by omega⟩
      rw [← hN1] at CSH HFB'
      rw [← htb] at HFB'
      have cs5 : ∀ c, (convert 31 9 (.slice A' N1 c)).run Tryz.prog wr = .ok (.string (str tb)) wr := fun c => Disk.bytes_string (P := Tryz.prog) (c := c) (dst := 9) Tryz.underlying31 Tryz.underlying5 Tryz.underlying9 HFB'.out.row
      clear hit hcell hrow hcm' hr100 hbl hN1 htb
      go_upto_region 20 with (go_at_call 9; refine CSH.out.mono ?_; rintro e w' ⟨rfl, rfl⟩)
      clear CSH yc cs5
      by_cases hbad : a = some 0 ∨ a = some 1
      · have CS : Hid (Calls Tryz.prog 10 #[.pointer (some ⟨sf, 0, none⟩), .slice A' N1 c] wr fun e w' => e = .returned (.int .i64 3) ∧ ∃ own5 x5 a5, Ends own5 w1 w' ⟨f, sf, sA, sl, tn, tx, tn + 1, true⟩ x5 a5 (K' + 2) tx tb) := by
          have h := upa_bad HT1.out HU.out hbad (by show tn < 1099511627776; omega) (by omega) HFB'.out HN1.out.2 HC.out (by have := HN1.out.1; omega)
          exact h
        clear hbad
        go_upto_region 22 with (go_at_call 10; refine CS.out.mono ?_; rintro e wq ⟨rfl, ownq, xq, aq, heq⟩)
        have HE0 := Lib.hid heq
        clear heq CS
        have CT : Hid (Calls Tryz.prog 11 #[.pointer (some ⟨sf, 0, none⟩)] wq fun e w' => ∃ A c, e = .returned (.slice A tx.length c) ∧ Hid (Row w' w'.heap.size A tx.length (bvs tx)) ∧ Hid (Below wq.heap.size wq w')) := text_any HE0.out.lies
        obtain ⟨NN, hNN⟩ : ∃ NN, NN = tx.length := ⟨_, rfl⟩
        rw [← hNN] at CT
        clear hNN
        go_upto_region 25 with (go_at_call 11; refine CT.out.mono ?_; rintro e wz ⟨A9, c9, rfl, R9, B9⟩; have cs9 : ∀ c, (convert 31 9 (.slice A9 NN c)).run Tryz.prog wz = .ok (.string (str tx)) wz := fun c => Disk.bytes_string (P := Tryz.prog) (c := c) (dst := 9) Tryz.underlying31 Tryz.underlying5 Tryz.underlying9 R9.out)
        have HE : Hid (Ends ownq w1 wz ⟨f, sf, sA, sl, tn, tx, tn + 1, true⟩ xq aq (K' + 2) tx tb) := HE0.out.all B9.out
        clear CT HE0 cs9 R9 B9
        obtain ⟨g4, d4, hsg4⟩ := HE.out.ex
        have hd4 : Held ownq w1 wz f d4 (K' + 2) := hsg4.disk
        have ho4 : OneFile d4 nmA g4 xq := hsg4.one
        have CR : Hid (Calls Tryz.prog 12 #[.pointer (some ⟨f, 0, none⟩), .int .i64 n, .slice A3 m c3, .int .i64 torn] wz fun e w' => ∃ own9 f' d', e = .returned (.pointer (some ⟨f', 0, none⟩)) ∧ Held own9 w1 w' f d4 (K' + 2) ∧ Held own9 w1 w' f' d' (K' + 2) ∧ d4.Crashed d' n ks torn ∧ wz.heap.size ≤ f' ∧ (∀ b, b < wz.heap.size → own9 b = ownq b) ∧ Below wz.heap.size wz w') := crash_more n torn hd4 (HKR.out wz hd4.below) (Nat.le_refl _) (by have := HM140.out; omega)
        have HO4 := Lib.hid ho4
        have hlt4 := hd4.disk.lt
        have HK4 : Hid (K' + 2 ≤ 1000) := (by show K' + 2 ≤ 1000; omega)
        clear hsg4 hd4 ho4
        go_upto_region 26 with (go_at_call 12; refine CR.out.mono ?_; rintro e w5 ⟨own5, f5, d5, rfl, hd5, hc5, hcr, hge, _, _⟩)
        obtain ⟨g5, ho5, _⟩ := HO4.out.crashed hcr
        have hdir0 : ∀ q, d4.crashDir q = [(nmA, g4)] := fun q => by rw [Dk.crashDir, HO4.out.wait, HO4.out.S, List.take_nil]; rfl
        have CM := Lib.hid (mixed_slots hd5 hc5 (by omega) (by rw [HO4.out.N]; exact Nat.le_refl _) (by rw [hdir0]; exact Nat.le_refl _) (by rw [HO4.out.N]; intro q hq; simp at hq; rw [hq]; decide) (by rw [hdir0]; intro q hq; simp at hq; rw [hq]; decide) (by rw [ho5.N]; exact Nat.le_refl _) (by rw [ho5.N]; intro q hq; simp at hq; rw [hq]; decide) HK4.out)
        have HO5 := Lib.hid ho5
        clear hd5 hc5 hge hdir0 ho5 CR hlt4
        go_cut [89] (fun v w' => ∃ t, v = .bool t ∧ Hid (Says own5 w1 w1 w5 f f5 300000 d4 d5 t w'))
        case first =>
          go_wp2_with (go_at_call 13; refine CM.out.mono ?_; rintro e w6 ⟨t, rfl, hs⟩; have HSY := Lib.hid hs; clear hs)
          go_meet
          case rel => exact ⟨t, rfl, HSY⟩
        case rest =>
        obtain ⟨t, rfl, HSY⟩ := hcut
        obtain ⟨w6, hw6⟩ : ∃ w6, w6 = wc := ⟨_, rfl⟩
        subst hw6
        obtain ⟨own6, d6, hd6, _, _, hno, hyes⟩ := says_disk HSY.out
        have HB6 : Hid (Below w.heap.size w w6) := HB1.out.trans (hd6.below.mono HB1.out.size)
        clear CM
        cases t with
        | true =>
          go_wp2_with fail
          go_ret
          exact ⟨rfl, HB6.out⟩
        | false =>
          obtain ⟨y, hly, hyn⟩ := hyes _ _ HO5.out.look
          obtain ⟨t', b', htl, hbb⟩ := HE.out.tells _ (partsFor_le 0 _ ks torn) (fun s hs => says_one HSY.out HO4.out HO5.out HE.out.ok HE.out.len HE.out.waslen (by rw [crash_size HE.out.ok (by rw [HE.out.len, HE.out.waslen]) (partsFor_le 0 _ ks torn)]; exact HE.out.len) s hs)
          have hyn' : y.now = xq.crash (partsFor 0 xq.soiled.length ks torn) := hyn
          rw [← hyn'] at htl
          obtain ⟨s', hs2, hbest⟩ := best_some htl
          have hylen : y.now.length = 8192 := by rw [hyn', crash_size HE.out.ok (by rw [HE.out.len, HE.out.waslen]) (partsFor_le 0 _ ks torn)]; exact HE.out.len
          have CO : Hid (Calls Tryz.prog 14 #[.pointer (some ⟨f5, 0, none⟩), .string ⟨#[65]⟩] w6 fun e w' => ∃ sf own', e = .returned (.tuple #[.pointer (some ⟨sf, 0, none⟩), .int .i64 0]) ∧ w6.heap.size ≤ sf ∧ Lies own' w' ⟨f5, sf, sA, s', t', b', t', Dk.clean d6⟩ ∧ (∃ d', Like d6 d' ∧ Held own' w1 w' f5 d' (300000 + 2)) ∧ Stp own6 own' f5 w6 w') := open_tells sA HT1.out hd6 (by decide) hly hylen (by decide) hbest
          have HBB := Lib.hid hbb
          clear hno hyes hcr hly hyn hyn' htl hbest hylen hd6 hbb HSY
          go_upto_region 29 with (go_at_call 14; refine CO.out.mono ?_; rintro e w7 ⟨sf7, own7, rfl, _, hl7, hh7, hs7⟩)
          have HL7 := Lib.hid hl7
          have HB7 : Hid (Below w.heap.size w w7) := by
            obtain ⟨d', _, hd'⟩ := hh7
            exact HB1.out.trans (hd'.below.mono HB1.out.size)
          clear hl7 hh7 hs7 CO
          have CT : Hid (∀ W, Below w7.heap.size w7 W → Calls Tryz.prog 11 #[.pointer (some ⟨sf7, 0, none⟩)] W fun e w' => ∃ A c, e = .returned (.slice A b'.length c) ∧ Hid (Row w' w'.heap.size A b'.length (bvs b')) ∧ Hid (Below w7.heap.size w7 w')) := fun W hb => (text_any (HL7.out.all hb)).mono fun e w' ⟨A, c, he, hr, hb2⟩ => ⟨A, c, he, hr, hb.trans (hb2.out.mono hb.size)⟩
          obtain ⟨NN, hNN⟩ : ∃ NN, NN = b'.length := ⟨_, rfl⟩
          rw [← hNN] at CT
          clear hNN
          by_cases heq : b' = tx
          · subst heq
            clear HBB
            go_wp2_with (go_at_call 11; refine (CT.out w7 (Below.refl _ _)).mono ?_; rintro e w8 ⟨A8, c8, rfl, R8, B8⟩
                         have cs8 : ∀ c, (convert 31 9 (.slice A8 NN c)).run Tryz.prog w8 = .ok (.string (str b')) w8 := fun c => Disk.bytes_string (P := Tryz.prog) (c := c) (dst := 9) Tryz.underlying31 Tryz.underlying5 Tryz.underlying9 R8.out)
            go_ret
            exact ⟨rfl, HB7.out.trans (B8.out.mono HB7.out.size)⟩
          · obtain rfl : b' = tb := by rcases HBB.out with h | h; exact absurd h heq; exact h
            have hne : ¬ (str b' = str tx) := fun h => heq (str_inj h)
            have hne2 : ((str b').toList == (str tx).toList) = false := by rw [text_eq]; exact decide_eq_false hne
            clear HBB heq
            go_wp2_with (first
              | (go_at_call 11; refine (CT.out w7 (Below.refl _ _)).mono ?_; rintro e w8 ⟨A8, c8, rfl, R8, B8⟩
                 have cs8 : ∀ c, (convert 31 9 (.slice A8 NN c)).run Tryz.prog w8 = .ok (.string (str b')) w8 := fun c => Disk.bytes_string (P := Tryz.prog) (c := c) (dst := 9) Tryz.underlying31 Tryz.underlying5 Tryz.underlying9 R8.out)
              | (go_at_call 11; refine (CT.out _ B8.out).mono ?_; rintro e w9 ⟨A9, c9, rfl, R9, B9⟩
                 have cs9 : ∀ c, (convert 31 9 (.slice A9 NN c)).run Tryz.prog w9 = .ok (.string (str b')) w9 := fun c => Disk.bytes_string (P := Tryz.prog) (c := c) (dst := 9) Tryz.underlying31 Tryz.underlying5 Tryz.underlying9 R9.out))
            go_ret
            exact ⟨rfl, HB7.out.trans (B9.out.mono HB7.out.size)⟩
      · have CS : Hid (Calls Tryz.prog 10 #[.pointer (some ⟨sf, 0, none⟩), .slice A' N1 c] wr fun e w' => e = .returned (.int .i64 0) ∧ ∃ own5 x5 a5, UpA own5 w1 w' ⟨f, sf, sA, 1 - sl, tn + 1, tb, tn + 1, true⟩ x5 a5 (K' + 2) ∧ Fr own' own5 wr w') := by
          have h := upa_ok HT1.out HU.out hbad (by show tn < 1099511627776; omega) (by omega) HFB'.out HN1.out.2 HC.out (by have := HN1.out.1; omega)
          exact h
        clear hbad
        go_wp2_with (go_at_call 10; refine CS.out.mono ?_; rintro e w5 ⟨rfl, own5, x5, a5, hu5, _⟩; have HU5 := Lib.hid hu5; clear hu5)
        go_roundw
        case rel => exact ⟨i + 1, K' + 2, 1 - sl, tn + 1, own5, tb, tb, x5, a5, rfl, rfl, by go_num, by omega, by omega, by omega, HU5⟩
        case measure => (simp [RowKit.intOf]; omega)
end Go.Proofs.YtbljdcdcnnidkaaGreatDoor.Slot
