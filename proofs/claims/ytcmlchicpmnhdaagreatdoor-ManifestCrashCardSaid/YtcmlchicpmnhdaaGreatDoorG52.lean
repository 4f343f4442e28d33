/-
  Texts one behind the other: ManCrash.
-/
import Derived.Test.YtcmlchicpmnhdaaGreatDoorG49
import Derived.Test.YtcmlchicpmnhdaaGreatDoorG51
/-
  Proved: law 10's 'ManifestCrash': behind a failure and a crash tenants are as the last Put that came back left them, or the one under way.
-/
namespace Go.Proofs.YtcmlchicpmnhdaaGreatDoor.Slot
open Go.RowKit Go.Proofs.YtcmlchicpmnhdaaGreatDoor.Rec Go.Proofs.YtcmlchicpmnhdaaGreatDoor.Disk Go.Proofs.YtcmlchicpmnhdaaGreatDoor.Mix
open Go.Proofs.YtcmlchicpmnhdaaGreatDoor.Crc (Turned)
open Go.Proofs.YtcmlchicpmnhdaaGreatDoor.Seg (Fr ptr mark_old mark_top free_fr)
set_option linter.unusedVariables false
set_option linter.unusedSimpArgs false
/-- A Save that fails: what a crash leaves, and whose blocks turned. -/
theorem upa_bad2 {own : Own} {w0 w : World} {v : Sf} {x : Fl} {a : Option Nat} {K : Nat} (hT : Turned w0) (h : UpA own w0 w v x a K) (hbad : a = some 0 ∨ a = some 1) (hu : v.turn < 1099511627776) (hK : K + 2 ≤ 1073741824)
    {A : Option Addr} {n c : Nat} {b : List UInt8} (hR : Free own w A n (bvs b)) (hnc : n ≤ c) (hc : c ≤ maxLen) (hn : n ≤ 4080) :
    Calls Tryz.prog 27 #[.pointer (some ⟨v.sf, 0, none⟩), .slice A n c] w fun e w' => e = .returned (.int .i64 3) ∧ ∃ own' x' a', Ends own' w0 w' { v with used := v.turn + 1 } x' a' (K + 2) v.txt b ∧ Fr own own' w w' := by
  obtain ⟨g, d, hs⟩ := h.ex
  have hbn : b.length = n := by have := hR.1; rwa [bvs_length] at this
  refine (save_any hT hs h.lasts (by rw [h.used]; exact hu) h.sides.two h.sides.len hR hnc hc hn hK).mono ?_
  rintro e w' ⟨er, he, own', d', v', x', a', hsv, hsg, hfr⟩
  cases hsv with
  | write =>
    rw [h.used] at hsg
    exact ⟨he, own', x, none, ⟨⟨g, d', hsg⟩, hsg.xok, h.sides.len, by rw [h.was]; exact h.sides.len, fun parts _ _ => calm_tells h.sides h.was h.clean b parts⟩, hfr⟩
  | sync L hL =>
    rw [h.used] at hsg
    have h2 := h.sides.two
    have hlen : (putAt x.now (4096 * (1 - v.slot)) (slotFull (v.turn + 1) b)).length = 8192 := put_length h.sides.len (by omega) (slotFull_len (by omega))
    refine ⟨he, own', ⟨putAt x.now (4096 * (1 - v.slot)) (slotFull (v.turn + 1) b), x.was, L⟩, none, ⟨⟨g, d', hsg⟩, hsg.xok, hlen, by show x.was.length = 8192; rw [h.was]; exact h.sides.len, fun parts hp hone => ?_⟩, hfr⟩
    have here : slotOf (slotAt (putAt x.now (4096 * (1 - v.slot)) (slotFull (v.turn + 1) b)) v.slot) = some (v.turn, v.txt) := (put_there h.sides.len (by omega) h2 (by omega) (slotFull_len (by omega))).trans h.sides.here
    have hct := crash_tells (x := ⟨putAt x.now (4096 * (1 - v.slot)) (slotFull (v.turn + 1) b), x.was, L⟩) hsg.xok hlen (by show x.was.length = 8192; rw [h.was]; exact h.sides.len) hp h2 here (fun i h3 h4 => clean_sec h.clean hL h2 h3 h4) (q := (v.turn + 1, b)) (Nat.lt_succ_self _)
      (by intro p hp2; have hp3 : slotOf (slotAt x.was (1 - v.slot)) = some p := hp2; rw [h.was] at hp3; exact h.sides.there p hp3) (.inl (put_here h.sides.len (by omega) (by omega) (by omega))) (hone (1 - v.slot) (by omega))
    rcases hct with e | e
    · exact ⟨_, _, e, .inl rfl⟩
    · exact ⟨_, _, e, .inr rfl⟩
  | ok _ h0 h1 => rcases hbad with e | e <;> contradiction
end Go.Proofs.YtcmlchicpmnhdaaGreatDoor.Slot
namespace Go.Proofs.YtcmlchicpmnhdaaGreatDoor.Man
open Go.RowKit Go.Proofs.YtcmlchicpmnhdaaGreatDoor.Rec Go.Proofs.YtcmlchicpmnhdaaGreatDoor.Ten Go.Proofs.YtcmlchicpmnhdaaGreatDoor.Disk
open Go.Proofs.YtcmlchicpmnhdaaGreatDoor.Crc (Turned)
open Go.Proofs.YtcmlchicpmnhdaaGreatDoor.Slot (Sf Up SG Stp laidB UpA)
open Go.Proofs.YtcmlchicpmnhdaaGreatDoor.Seg (Fr ptr mark_old mark_top free_fr)
set_option linter.unusedVariables false
set_option linter.unusedSimpArgs false

theorem upa_all {own : Own} {w0 w w' : World} {v : Sf} {x : Fl} {a : Option Nat} {K : Nat} (h : UpA own w0 w v x a K) (hb : Below w.heap.size w w') : UpA own w0 w' v x a K := by
  obtain ⟨g, d, hs⟩ := h.ex
  exact { h with ex := ⟨g, d, hs.all hb⟩ }
/-- A manifest on a disk of which a call may be to fail. -/
structure MUpA (own : Own) (w0 w : World) (m : Nat) (v : Sf) (x : Fl) (a : Option Nat) (K : Nat) (L : List Te) : Prop where
  up : UpA own w0 w v x a K
  man : ManAt w m v.sf
  free : own m = none
  txt : Txt v.txt L
  nm : v.nm = sMAN
theorem MUpA.all {own : Own} {w0 w w' : World} {m K : Nat} {v : Sf} {x : Fl} {a : Option Nat} {L : List Te} (h : MUpA own w0 w m v x a K L) (hb : Below w.heap.size w w') : MUpA own w0 w' m v x a K L :=
  { h with up := upa_all h.up hb, man := h.man.below hb h.man.lt }
/-- .. of which it is known what a crash leaves. -/
structure MEnd (own : Own) (w0 w : World) (m : Nat) (v : Sf) (x : Fl) (a : Option Nat) (K : Nat) (Ln Lx : List Te) : Prop where
  ex : ∃ p q, Slot.Ends own w0 w v x a K p q ∧ Txt p Ln ∧ (Txt q Ln ∨ Txt q Lx)
  man : ManAt w m v.sf
  txt : Txt v.txt Ln
  nm : v.nm = sMAN
theorem MUpA.ends {own : Own} {w0 w : World} {m K : Nat} {v : Sf} {x : Fl} {a : Option Nat} {L : List Te} (h : MUpA own w0 w m v x a K L) (Lx : List Te) : MEnd own w0 w m v x a K L Lx :=
  ⟨⟨_, v.txt, h.up.ends v.txt, h.txt, .inl h.txt⟩, h.man, h.txt, h.nm⟩
theorem MEnd.all {own : Own} {w0 w w' : World} {m K : Nat} {v : Sf} {x : Fl} {a : Option Nat} {Ln Lx : List Te} (h : MEnd own w0 w m v x a K Ln Lx) (hb : Below w.heap.size w w') : MEnd own w0 w' m v x a K Ln Lx := by
  obtain ⟨p, q, h1, h2⟩ := h.ex
  exact { h with ex := ⟨p, q, h1.all hb, h2⟩, man := h.man.below hb h.man.lt }
theorem mupa_fail {own : Own} {w0 w : World} {m K : Nat} {v : Sf} {x : Fl} {L : List Te} (n : Int) (h : MUp own w0 w m v x K L) (hn : n ≤ 9223372036854775807) :
    Calls Tryz.prog 18 #[.pointer (some ⟨v.f, 0, none⟩), .int .i64 n] w fun e w' => e = .returned undef ∧ ∃ a, MUpA own w0 w' m v x a K L ∧ Fr own own w w' := by
  refine (Slot.tried_fail n h.up.tried hn).mono ?_
  rintro e w' ⟨he, ht, hf⟩
  exact ⟨he, _, ⟨⟨ht.ex, h.up.lasts, h.up.sides, h.up.used, h.up.was, h.up.clean⟩, (man_fr h.man h.free hf).1, h.free, h.txt, h.nm⟩, hf⟩
/-- What Put does to it. -/
def PutMay (own : Own) (w0 w : World) (m : Nat) (v : Sf) (K : Nat) (L next : List Te) (e : Ending) (w' : World) : Prop :=
  ∃ er : Int, e = .returned (.int .i64 er) ∧ ((er = wantOf next ∧ ∃ own' v' x' a' K' L', Hid (MUpA own' w0 w' m v' x' a' K' L') ∧ Hid (Fr own own' w w') ∧ v'.f = v.f ∧ v'.turn ≤ v.turn + 1 ∧ K' ≤ K + 2 ∧ Hid ((wantOf next = 0 → L' = next) ∧ (¬ wantOf next = 0 → L' = L))) ∨
  (er = 3 ∧ ∃ own' v' x' a' K', Hid (MEnd own' w0 w' m v' x' a' K' L next) ∧ Hid (Fr own own' w w') ∧ v'.f = v.f ∧ K' ≤ K + 2))
theorem mupa_put {own : Own} {w0 w : World} {m K : Nat} {v : Sf} {x : Fl} {a : Option Nat} {L : List Te} {t : Tv} (hT : Turned w0) (h : MUpA own w0 w m v x a K L) (hu : v.turn < 1099511627776) (hK : K + 2 ≤ 1073741824) (hok : t.te.Ok) (hin : t.In w w.heap.size) (next : List Te) (hn : next = put t.te false L) :
    Calls Tryz.prog 11 #[.pointer (some ⟨m, 0, none⟩), .agg t.vals] w (PutMay own w0 w m v K L next) := by
  have HS : Hid (May next → ∀ W A c, Below w.heap.size w W → W.ownsRow w.heap.size 5 1 (.slice A (encAll next).length c) (encAll next).length (bvs (encAll next)) → (encAll next).length ≤ c → c ≤ maxLen →
      Calls Tryz.prog 27 #[.pointer (some ⟨v.sf, 0, none⟩), .slice A (encAll next).length c] W fun e w' => ∃ er : Int, e = .returned (.int .i64 er) ∧
        ((er = 0 ∧ ∃ own' x' a', UpA own' w0 w' { v with slot := 1 - v.slot, turn := v.turn + 1, txt := encAll next, used := v.turn + 1 } x' a' (K + 2) ∧ Fr own own' w w') ∨
         (er = 3 ∧ ∃ own' x' a', Slot.Ends own' w0 w' { v with used := v.turn + 1 } x' a' (K + 2) v.txt (encAll next) ∧ Fr own own' w w'))) := Lib.hid fun hm W A c hb hr h1 h2 => by
    obtain ⟨g, d, hs⟩ := h.up.ex
    have hle : (encAll next).length ≤ 4080 := by have := encAll_length hm; omega
    by_cases hbad : a = some 0 ∨ a = some 1
    · refine (Slot.upa_bad2 hT (upa_all h.up hb) hbad hu hK (hs.disk.answer hr) h1 h2 hle).mono ?_
      rintro e w' ⟨rfl, own', x', a', h3, h4⟩
      exact ⟨3, rfl, .inr ⟨rfl, own', x', a', h3, (Fr.of_below hb).trans h4⟩⟩
    · refine (Slot.upa_ok hT (upa_all h.up hb) hbad hu hK (hs.disk.answer hr) h1 h2 hle).mono ?_
      rintro e w' ⟨rfl, own', x', a', h3, h4⟩
      exact ⟨0, rfl, .inl ⟨rfl, own', x', a', h3, (Fr.of_below hb).trans h4⟩⟩
  refine (manput_any next hn h.up.lies h.man h.txt hok hin HS).mono ?_
  rintro e w' ⟨er, rfl, hh⟩
  rcases hh with ⟨h1, rfl, hb⟩ | ⟨h1, h2, rfl, hb⟩ | ⟨h1, ⟨rfl, own', x', a', hu', hf⟩ | ⟨rfl, own', x', a', he, hf⟩⟩
  · exact ⟨_, rfl, .inl ⟨by rw [want_full h1], own, v, x, a, K, L, Lib.hid (h.all hb), Lib.hid (Fr.of_below hb), rfl, by omega, by omega, Lib.hid ⟨fun h => by rw [want_full h1] at h; simp at h, fun _ => rfl⟩⟩⟩
  · exact ⟨_, rfl, .inl ⟨by rw [want_form (by omega) h2], own, v, x, a, K, L, Lib.hid (h.all hb), Lib.hid (Fr.of_below hb), rfl, by omega, by omega, Lib.hid ⟨fun h => by rw [want_form (by omega) h2] at h; simp at h, fun _ => rfl⟩⟩⟩
  · obtain ⟨hm1, hm2⟩ := man_fr h.man h.free hf
    exact ⟨_, rfl, .inl ⟨by rw [want_ok h1], own', _, x', a', K + 2, next, Lib.hid ⟨hu', hm1, hm2, txt_put h.txt hn h1 hok.id, h.nm⟩, Lib.hid hf, rfl, Nat.le_refl _, Nat.le_refl _, Lib.hid ⟨fun _ => rfl, fun h => absurd (want_ok h1) h⟩⟩⟩
  · obtain ⟨hm1, hm2⟩ := man_fr h.man h.free hf
    exact ⟨_, rfl, .inr ⟨rfl, own', _, x', a', K + 2, Lib.hid ⟨⟨_, _, he, h.txt, .inr (txt_put h.txt hn h1 hok.id)⟩, hm1, h.txt, h.nm⟩, Lib.hid hf, rfl, Nat.le_refl _⟩⟩
theorem want_ne (next : List Te) : ¬ wantOf next = 3 := by
  unfold wantOf
  split
  · decide
  · split <;> decide
/-- What stands when the puts are over. -/
structure Over (w : World) (own : Own) (w0 w' : World) (m f : Nat) (nv xv : Value) (nl nx : List Tv) : Prop where
  ex : ∃ v x a K, MEnd own w0 w' m v x a K (nl.map Tv.te) (nx.map Tv.te) ∧ v.f = f ∧ K ≤ 900
  now : Nw w own w' nv nl
  next : Nw w own w' xv nx
set_option maxRecDepth 100000 in
set_option maxHeartbeats 8000000 in
theorem manifestCrash_walk (A : Option Addr) (nt c : Nat) (fail n : Int) (A3 : Option Addr) (m3 c3 : Nat) (ks0 : List Bool) (torn : Int) (w : World) (hT : Turned w) (hA : ∃ l : List Tv, l.length = nt ∧ (∀ y ∈ l, y.te.Ok ∧ y.In w w.heap.size) ∧ Row w w.heap.size A (nt * 6) (tflat l)) (hnc : nt ≤ c) (hc : c ≤ maxLen)
    (hfb : -9223372036854775808 ≤ fail ∧ fail ≤ 9223372036854775807) (hnb : -9223372036854775808 ≤ n ∧ n ≤ 9223372036854775807) (hk : Row w w.heap.size A3 m3 (lvs ks0)) (hk1 : m3 ≤ c3) (hk2 : c3 ≤ maxLen) (htb : -9223372036854775808 ≤ torn ∧ torn ≤ 9223372036854775807) :
    Calls Tryz.prog 4 #[.slice A nt c, .int .i64 fail, .int .i64 n, .slice A3 m3 c3, .int .i64 torn] w fun e w' => e = .returned (.bool true) ∧ Below w.heap.size w w' := by
  obtain ⟨ts, hl, hls, hrow⟩ := hA
  have HT := Lib.hid hT
  have HBEG := Lib.hid (manbegun_any w hT)
  have HB := Lib.hid hk
  have HTS : Hid (Tens w w.heap.size A nt ts) := Lib.hid ⟨hl, hrow, fun v hv => (hls v hv).1, fun v hv => (hls v hv).2⟩
  have hcm : c ≤ 9223372036854775807 := by unfold maxLen at hc; exact hc
  have hcm3 : c3 ≤ 9223372036854775807 := by unfold maxLen at hk2; exact hk2
  clear hT hk hk2 hc hl hls hrow
  by_cases hbad : fail < 0 ∨ 40 < fail
  · go_enter Tryz.func4, Tryz.ntmps4
    go_upto_region 4 with (go_at_call 5; (with_reducible refine HBEG.out.mono ?_); rintro e w1 ⟨rfl, hb1⟩; have HB1 := Lib.hid hb1; clear hb1)
    by_cases h1 : fail < 0
    · go_wp2_with fail
      go_ret
      exact ⟨rfl, HB1.out⟩
    have h4 : 40 < fail := by omega
    go_wp2_with fail
    go_ret
    exact ⟨rfl, HB1.out⟩
  have q1 : ¬ fail < 0 := by omega
  have q2 : ¬ 40 < fail := by omega
  have HFB : Hid (fail ≤ 9223372036854775807) := hfb.2
  clear hbad hfb
  go_enter Tryz.func4, Tryz.ntmps4
  go_upto_region 6 with (go_at_call 5; (with_reducible refine HBEG.out.mono ?_); rintro e w1 ⟨rfl, hb1⟩; have HB1 := Lib.hid hb1; clear hb1)
  obtain ⟨tk, htk⟩ : ∃ tk, tk = decide (140 < m3) := ⟨_, rfl⟩
  have HTK := Lib.hid htk
  clear htk q1 q2
  go_cut [33] (fun v w' => v = .bool tk ∧ w1 = w')
  case first =>
    by_cases hb : 140 < m3
    · have h1 : (140 : Int) < (m3 : Int) := by omega
      go_wp2_with fail
      go_meet
      case rel => exact ⟨by rw [HTK.out, decide_eq_true hb], rfl⟩
    · have h1 : ¬ (140 : Int) < (m3 : Int) := by omega
      go_wp2_with fail
      go_meet
      case rel => exact ⟨by rw [HTK.out, decide_eq_false hb], rfl⟩
  case rest =>
  obtain ⟨rfl, rfl⟩ := hcut
  go_upto_if 33 with fail
  go_cut [3] (fun v w' => ∃ (m : Nat) (ks : List Bool), v = .slice A3 m c3 ∧ m ≤ 140 ∧ Hid (Row w w.heap.size A3 m (lvs ks)) ∧ w1 = w')
  case first =>
    by_cases hb : 140 < m3
    · obtain rfl : tk = true := by rw [HTK.out, decide_eq_true hb]
      have h2 : (140 : Int) ≤ (c3 : Int) := by omega
      have HB2 : Hid (Row w w.heap.size A3 140 (lvs (ks0.take 140))) := by
        have := HB.out.take (k := 140) (by omega)
        rw [lvs_take] at this
        exact this
      go_wp2_with fail
      go_meet
      case rel => exact ⟨140, ks0.take 140, rfl, Nat.le_refl _, HB2, rfl⟩
    · obtain rfl : tk = false := by rw [HTK.out, decide_eq_false hb]
      go_wp2_with fail
      go_meet
      case rel => exact ⟨m3, ks0, rfl, by omega, HB, rfl⟩
  case rest =>
  obtain ⟨mk, ks, rfl, hm140, HKS, rfl⟩ := hcut
  have HM140 := Lib.hid hm140
  have HKR : Hid (∀ W, Below w1.heap.size w1 W → Row W W.heap.size A3 mk (lvs ks)) := fun W hb => ((HKS.out.below HB1.out).below (hb.mono HB1.out.size)).more (Nat.le_trans HB1.out.size hb.size)
  have CN := Lib.hid (new_held 100000 w1)
  rw [show room 100000 = 100000 by decide] at CN
  have HT1 := Lib.hid (turned_below HT.out HB1.out rfl)
  clear hm140 hk1 HB HTK HBEG
  go_upto_region 9 with (go_at_call 6; refine CN.out.mono ?_; rintro e w2 ⟨own2, f, rfl, hd2⟩)
  have CC : Hid (Calls Tryz.prog 7 #[.pointer (some ⟨f, 0, none⟩)] w2 fun e w' => ∃ m sf own' x, e = .returned (.tuple #[.pointer (some ⟨m, 0, none⟩), .int .i64 0]) ∧ MUp own' w1 w' m ⟨f, sf, sMAN, 0, 1, encAll [], 1, true⟩ x 5 [] ∧ Stp own2 own' f w2 w') :=
    mancreate_up HT1.out hd2 (Slot.new_bare _) (Slot.new_arm _) (by decide) (by decide)
  clear hd2 CN
  go_upto_region 12 with (go_at_call 7; (with_reducible refine CC.out.mono ?_); rintro e w3 ⟨m, sf, own3, x3, rfl, hu3, _⟩; have HU3 := Lib.hid hu3; clear hu3)
  have CF : Hid (Calls Tryz.prog 18 #[.pointer (some ⟨f, 0, none⟩), .int .i64 fail] w3 fun e w' => e = .returned undef ∧ ∃ a, MUpA own3 w1 w' m ⟨f, sf, sMAN, 0, 1, encAll [], 1, true⟩ x3 a 5 [] ∧ Fr own3 own3 w3 w') := Lib.hid (mupa_fail fail HU3.out HFB.out)
  clear CC HU3
  go_upto_region 13 with (go_at_call 18; (with_reducible refine CF.out.mono ?_); rintro e w4 ⟨rfl, a4, hu4, _⟩; have HU4 := Lib.hid hu4; clear hu4)
  clear CF
  go_upto_block 0 with fail
  go_cut [15, 16] (fun nv xv w' => ∃ own' nl nx, Hid (Over w own' w1 w' m f nv xv nl nx))
  case first =>
    go_wp2_with fail
    go_loopw [15, 16, 17] (fun nv xv iv wr => ∃ (i K : Nat) (own' : Own) (v : Sf) (x : Fl) (a : Option Nat) (nl nx : List Tv) (zn zx : Value), zn = nv ∧ zx = xv ∧ iv = .int .i64 (i : Int) ∧ i ≤ 15 ∧ Hid (v.f = f) ∧ v.turn ≤ 1 + i ∧ K ≤ 5 + 2 * i ∧ Hid (MUpA own' w1 wr m v x a K (nl.map Tv.te)) ∧ Hid (Nw w own' wr nv nl) ∧ Hid (Nw w own' wr xv nx)) (fun _ _ iv _ => 15 - (RowKit.intOf iv).toNat)
    case atStart => exact ⟨0, 5, own3, _, x3, a4, [], [], _, _, rfl, rfl, rfl, Nat.zero_le _, Lib.hid rfl, Nat.le_refl _, Nat.le_refl _, HU4, Lib.hid (Nw.nil w own3 _), Lib.hid (Nw.nil w own3 _)⟩
    case round =>
      clear HU4
      obtain ⟨i, K, own', v, x, a, nl, nx, nv, xv, rfl, rfl, rfl, hi, HVF, hvt, hK, HU, HNW, HXW⟩ := hrel
      have HW : Hid (Below w.heap.size w wr) := Lib.hid (HB1.out.trans (HU.out.up.below.mono HB1.out.size))
      have HOV : Hid (Over w own' w1 wr m f nv xv nl nx) := Lib.hid ⟨⟨v, x, a, K, HU.out.ends _, HVF.out, by omega⟩, HNW.out, HXW.out⟩
      by_cases h1 : i < nt
      case neg =>
        have h1' : ¬ (i : Int) < (nt : Int) := by omega
        go_wp2_with fail
        go_meet
        case rel => exact ⟨own', nl, nx, HOV⟩
      have h1' : (i : Int) < (nt : Int) := by omega
      by_cases h2 : i < 15
      case neg =>
        have h2' : ¬ (i : Int) < 15 := by omega
        go_wp2_with fail
        go_meet
        case rel => exact ⟨own', nl, nx, HOV⟩
      have h2' : (i : Int) < 15 := by omega
      obtain ⟨An, cn, rfl, r1, r2, htn⟩ := HNW.out.tens HW.out
      have HTN := Lib.hid htn
      obtain ⟨b, o, rfl, hb, _⟩ := HTS.out.row.2 (by omega)
      obtain ⟨x0, hx0, hm0, hr0⟩ := HTS.out.at h1
      have HIT : Hid (wr.rangeAt b (o + i * 6) x0.vals.toList) := Lib.hid (ten_item (HTS.out.row.below HW.out) i x0 hx0)
      have HIN0 := Lib.hid (HTS.out.ins x0 hm0)
      obtain ⟨t, ht⟩ : ∃ t, t = cutTv x0 := ⟨_, rfl⟩
      have CX : Hid (Calls Tryz.prog 8 #[.agg x0.vals] wr fun e w' => e = .returned (.agg t.vals) ∧ Below wr.heap.size wr w') := Lib.hid (by rw [ht]; exact mancut_any x0 wr w.heap.size (HIN0.out.below HW.out))
      have HTI : Hid (t.In w w.heap.size) := Lib.hid (by rw [ht]; exact cut_in HIN0.out)
      have HTO : Hid (t.te.Ok) := Lib.hid (by rw [ht]; exact cut_ok (HTS.out.ok x0 hm0))
      have hnl6 : nl.length ≤ 6 := by have := HU.out.txt.may.1; rwa [List.length_map] at this
      obtain ⟨nn, hnn⟩ : ∃ nn, nn = nl.length := ⟨_, rfl⟩
      rw [← hnn] at HTN r1 hnl6 ⊢
      have HNN := Lib.hid hnn
      clear htn hx0 hm0 hr0 hb ht hnn HOV
      go_upto_region 18 with (first
        | (refine load_tenM HIT.out rfl (.tmp 59) rfl rfl ?_)
        | (go_at_call 8; (with_reducible refine CX.out.mono ?_); rintro e w5 ⟨rfl, hb5⟩; have HB4 := Lib.hid hb5; clear hb5)
        | (refine store_ten (ten_zero w5) rfl rfl (.tmp 18) (.tmp 61) rfl rfl t rfl rfl ?_; intro w6 X6 G6))
      have HBA := Lib.hid (below_only (below_alloc w5 (.cells #[.int .u32 0, .int .u64 0, .int .i64 0, .int .u64 0, .int .i64 0, .slice none 0 0] 35)) G6.out (Nat.le_refl _) (by simp))
      have HB6 := Lib.hid (HB4.out.trans (HBA.out.mono HB4.out.size))
      obtain ⟨tb, htb⟩ : ∃ tb, tb = w5.heap.size := ⟨_, rfl⟩
      rw [← htb] at X6 ⊢
      have HU6 := Lib.hid (HU.out.all HB6.out)
      have HN6 := Lib.hid (HNW.out.all HB6.out)
      have HW6 := Lib.hid (HW.out.trans (HB6.out.mono HW.out.size))
      have HTN6 : Hid (Tens w6 w6.heap.size An nn nl) := Lib.hid ((HTN.out.below HB6.out).more HB6.out.size)
      have CPT := Lib.hid (putten_any An nn cn nl t w6 HTN6.out r1 r2 (by omega))
      have hcnm : cn ≤ 9223372036854775807 := by unfold maxLen at r2; exact r2
      clear htb HU HNW HXW HTN HIT CX HB4 G6 HBA HW
      go_upto_region 19 with (first
        | (refine load_ten X6.out rfl (.tmp 18) rfl rfl ?_)
        | (go_at_call 9; (with_reducible refine CPT.out.mono ?_); rintro e w7 ⟨v7, rfl, hts⟩; have HTS7 := Lib.hid hts; clear hts))
      obtain ⟨next, hnext⟩ : ∃ next, next = putTv t false nl := ⟨_, rfl⟩
      rw [← hnext] at HTS7
      have HNX := Lib.hid hnext
      clear hnext
      have HB7 : Hid (Below w6.heap.size w6 w7) := Lib.hid HTS7.out.below
      have X7 : Hid (TenAt w7 tb t) := Lib.hid (X6.out.below HB7.out X6.out.lt)
      have HU7 := Lib.hid (HU6.out.all HB7.out)
      have HN7 := Lib.hid (HN6.out.all HB7.out)
      have HW7 := Lib.hid (HW6.out.trans (HB7.out.mono HW6.out.size))
      have HP7 : Hid (Nw w own' w7 v7 next) := Lib.hid (by
        have h := HTS7.out
        rw [HNX.out] at h ⊢
        exact nw_put (fun x hx => ⟨HN6.out.ins x hx, HN6.out.ok x hx⟩) h HW6.out HU6.out.up.top HTI.out HTO.out)
      have HNE : Hid (next.map Tv.te = put t.te false (nl.map Tv.te)) := Lib.hid (by rw [HNX.out]; exact putTv_te t nl false)
      obtain ⟨wv, hwv⟩ : ∃ wv, wv = wantOf (next.map Tv.te) := ⟨_, rfl⟩
      have HWV := Lib.hid hwv
      have hw3 : (wv == 3) = false := beq_eq_false_iff_ne.2 (by rw [hwv]; exact want_ne _)
      have CP := Lib.hid (mupa_put HT1.out HU7.out (by omega) (by omega) HTO.out ((HTI.out.below HW7.out).more HW7.out.size) (next.map Tv.te) HNE.out)
      clear hwv HTS7 HU6 HN6 HB6 X6 CPT HTN6 HU7
      go_upto_region 20 with (first
        | (refine load_ten X7.out rfl (.tmp 18) rfl rfl ?_)
        | (go_at_call 11; (with_reducible refine CP.out.mono ?_); rintro e w8 ⟨er, rfl, hpm⟩))
      rcases hpm with ⟨rfl, own8, v8, x8, a8, K8, L8, HU8, HF8, hvf8, hvt8, hK8, HL8⟩ | ⟨rfl, own8, v8, x8, a8, K8, HE8, HF8, hvf8, hK8⟩
      · rw [← HWV.out] at HL8 ⊢
        have HVF8 : Hid (v8.f = f) := Lib.hid (by rw [hvf8]; exact HVF.out)
        have HP8 := Lib.hid (HP7.out.fr HF8.out)
        have HN8 := Lib.hid (HN7.out.fr HF8.out)
        clear CP hvf8
        by_cases hz : wv = 0
        · have HU8' : Hid (MUpA own8 w1 w8 m v8 x8 a8 K8 (next.map Tv.te)) := Lib.hid (by have h := HU8.out; rw [HL8.out.1 hz] at h; exact h)
          have hz1 : (wv == 0) = true := by rw [hz]; rfl
          have hz2 : (wv != 0) = false := by rw [hz]; rfl
          clear hz
          go_wp2_with fail
          go_roundw
          case rel => exact ⟨i + 1, K8, own8, v8, x8, a8, next, next, _, _, rfl, rfl, by go_num, by omega, HVF8, by omega, by omega, HU8', HP8, HP8⟩
          case measure => (simp [RowKit.intOf]; omega)
        · have HU8' : Hid (MUpA own8 w1 w8 m v8 x8 a8 K8 (nl.map Tv.te)) := Lib.hid (by have h := HU8.out; rw [HL8.out.2 hz] at h; exact h)
          have hz1 : (wv == 0) = false := beq_eq_false_iff_ne.2 hz
          have hz2 : (wv != 0) = true := bne_iff_ne.2 hz
          have HN8' : Hid (Nw w own8 w8 (.slice An nn cn) nl) := Lib.hid (by rw [HNN.out]; exact HN8.out)
          clear hz
          go_wp2_with fail
          go_roundw
          case rel => exact ⟨i + 1, K8, own8, v8, x8, a8, nl, nl, _, _, rfl, rfl, by go_num, by omega, HVF8, by omega, by omega, HU8', HN8', HN8'⟩
          case measure => (simp [RowKit.intOf]; omega)
      · have HW8 : Hid (Below w.heap.size w w8) := Lib.hid (by
          obtain ⟨p, q, h1, _⟩ := HE8.out.ex
          obtain ⟨g, d, hs⟩ := h1.ex
          exact HB1.out.trans (hs.disk.below.mono HB1.out.size))
        have HP8 := Lib.hid (HP7.out.fr HF8.out)
        have HN8 : Hid (Nw w own8 w8 (.slice An nn cn) nl) := Lib.hid (by rw [HNN.out]; exact HN7.out.fr HF8.out)
        have CA : Hid (Calls Tryz.prog 17 #[.pointer (some ⟨m, 0, none⟩)] w8 (Told (nl.map Tv.te) w8)) := Lib.hid (by
          obtain ⟨p, q, h1, _⟩ := HE8.out.ex
          exact manall_any h1.lies HE8.out.man HE8.out.txt)
        have HTN8 : Hid (Tens w8 w8.heap.size An nn nl) := Lib.hid (by
          obtain ⟨A', c', e, e1, e2, h⟩ := HN8.out.tens HW8.out
          injection e with e3 e4 e5
          subst e3
          rw [← e4] at h
          exact h)
        have HVF8 : Hid (v8.f = f) := Lib.hid (by rw [hvf8]; exact HVF.out)
        clear CP hvf8
        go_wp2_with (first
          | (go_at_call 17; (with_reducible refine CA.out.mono ?_); rintro e w9 ⟨va, l, rfl, hl, hto⟩
             have HL := Lib.hid hl
             have HTO9 := Lib.hid hto
             obtain ⟨A9, c9, rfl, q91, q92, hten9⟩ := hto.form
             have CE := Lib.hid (eqtens_any A9 An l.length c9 nn cn l nl w9 hten9 ((HTN8.out.below HTO9.out.below).more HTO9.out.below.size) q91 q92 r1 r2)
             rw [eqB_true HL.out] at CE
             clear hl hto hten9)
          | (go_at_call 16; (with_reducible refine CE.out.mono ?_); rintro e w10 ⟨rfl, hb10⟩
             have HB10 := Lib.hid hb10
             clear hb10))
        go_meet
        case rel =>
          have hb := HTO9.out.below.trans (HB10.out.mono HTO9.out.below.size)
          exact ⟨own8, nl, next, Lib.hid ⟨⟨v8, x8, a8, K8, HE8.out.all hb, HVF8.out, by omega⟩, HN8.out.all hb, HP8.out.all hb⟩⟩
  case rest =>
  obtain ⟨own', nl, nx, HOV⟩ := hcut
  obtain ⟨v, x, a, K, hE, hvf, hK⟩ := HOV.out.ex
  obtain ⟨p, q, hends, hp, hq⟩ := hE.ex
  have HE := Lib.hid hends
  obtain ⟨g4, d4, hsg4⟩ := hends.ex
  have hd4 : Held own' w1 wc f d4 K := by rw [← hvf]; exact hsg4.disk
  have ho4 : OneFile d4 [77, 65, 78] g4 x := by have h := hsg4.one; rw [hE.nm] at h; exact h
  have HWC : Hid (Below w.heap.size w wc) := Lib.hid (HB1.out.trans (hd4.below.mono HB1.out.size))
  obtain ⟨An, cn, rfl, r1, r2, _⟩ := HOV.out.now.tens HWC.out
  obtain ⟨Ax, cx, rfl, r3, r4, _⟩ := HOV.out.next.tens HWC.out
  have CR : Hid (Calls Tryz.prog 13 #[.pointer (some ⟨f, 0, none⟩), .int .i64 n, .slice A3 mk c3, .int .i64 torn] wc fun e w' => ∃ own9 f' d', e = .returned (.pointer (some ⟨f', 0, none⟩)) ∧ Held own9 w1 w' f d4 K ∧ Held own9 w1 w' f' d' K ∧ d4.Crashed d' n ks torn ∧ wc.heap.size ≤ f' ∧ (∀ b, b < wc.heap.size → own9 b = own' b) ∧ Below wc.heap.size wc w') := Mix.crash_more n torn hd4 (HKR.out wc hd4.below) (Nat.le_refl _) (by have := HM140.out; omega)
  have HO4 := Lib.hid ho4
  have hlt4 := hd4.disk.lt
  have HK4 : Hid (K ≤ 1000) := Lib.hid (by omega)
  have HNQ : Hid (Nw w own' wc (.slice An nl.length cn) nl) := Lib.hid HOV.out.now
  have HXQ : Hid (Nw w own' wc (.slice Ax nx.length cx) nx) := Lib.hid HOV.out.next
  have HPT := Lib.hid hp
  have HQT := Lib.hid hq
  obtain ⟨nn, hnn⟩ : ∃ nn, nn = nl.length := ⟨_, rfl⟩
  obtain ⟨ne, hne⟩ : ∃ ne, ne = nx.length := ⟨_, rfl⟩
  rw [← hnn] at HNQ r1 ⊢
  rw [← hne] at HXQ r3 ⊢
  have HNN := Lib.hid hnn
  have HNE := Lib.hid hne
  clear hsg4 hd4 ho4 hE hvf hK hends hp hq HOV hnn hne
  go_upto_region 28 with (go_at_call 13; refine CR.out.mono ?_; rintro e w5 ⟨own5, f5, d5, rfl, hd5, hc5, hcr, hge, hsm5, hbw5⟩)
  obtain ⟨g5, ho5, _⟩ := HO4.out.crashed hcr
  have HF5 : Hid (Fr own' own5 wc w5) := Lib.hid ⟨hbw5.os, hbw5.tape, hbw5.output, hbw5.size, hsm5, fun b hb _ => hbw5.block b hb⟩
  have hdir0 : ∀ q, d4.crashDir q = [([77, 65, 78], g4)] := fun q => by rw [Dk.crashDir, HO4.out.wait, HO4.out.S, List.take_nil]; rfl
  have CM := Lib.hid (Slot.mixed_slots hd5 hc5 (by omega) (by rw [HO4.out.N]; exact Nat.le_refl _) (by rw [hdir0]; exact Nat.le_refl _) (by rw [HO4.out.N]; intro q hq; simp at hq; rw [hq]; decide) (by rw [hdir0]; intro q hq; simp at hq; rw [hq]; decide) (by rw [ho5.N]; exact Nat.le_refl _) (by rw [ho5.N]; intro q hq; simp at hq; rw [hq]; decide) HK4.out)
  have HO5 := Lib.hid ho5
  have HN5 := Lib.hid (HNQ.out.fr HF5.out)
  have HX5 := Lib.hid (HXQ.out.fr HF5.out)
  clear hd5 hc5 hge hdir0 ho5 CR hlt4 hsm5 hbw5 HNQ HXQ HF5
  go_cut [88] (fun v w' => ∃ t, v = .bool t ∧ Hid (Mix.Says own5 w1 w1 w5 f f5 300000 d4 d5 t w'))
  case first =>
    go_wp2_with (go_at_call 19; refine CM.out.mono ?_; rintro e w6 ⟨t, rfl, hs⟩; have HSY := Lib.hid hs; clear hs)
    go_meet
    case rel => exact ⟨t, rfl, HSY⟩
  case rest =>
  obtain ⟨t, rfl, HSY⟩ := hcut
  obtain ⟨w6, hw6⟩ : ∃ w6, w6 = wc := ⟨_, rfl⟩
  subst hw6
  obtain ⟨own6, d6, hd6, hsm6, hrd6, hno, hyes⟩ := Slot.says_disk HSY.out
  have HB6 : Hid (Below w.heap.size w w6) := Lib.hid (HB1.out.trans (hd6.below.mono HB1.out.size))
  have HF6 : Hid (Fr own5 own6 w5 w6) := Lib.hid ⟨hrd6.os, hrd6.tape, hrd6.output, hrd6.size, hsm6, fun b hb ho => hrd6.block b hb (by rw [hsm6 b hb]; exact ho)⟩
  have HN6 := Lib.hid (HN5.out.fr HF6.out)
  have HX6 := Lib.hid (HX5.out.fr HF6.out)
  clear CM hsm6 hrd6 HN5 HX5
  cases t with
  | true =>
    go_wp2_with fail
    go_ret
    exact ⟨rfl, HB6.out⟩
  | false =>
    obtain ⟨y, hly, hyn⟩ := hyes _ _ HO5.out.look
    obtain ⟨t', b', htl, hbb⟩ := HE.out.tells _ (partsFor_le 0 _ ks torn) (fun s hs => Slot.says_one HSY.out HO4.out HO5.out HE.out.ok HE.out.len HE.out.waslen (by rw [Slot.crash_size HE.out.ok (by rw [HE.out.len, HE.out.waslen]) (partsFor_le 0 _ ks torn)]; exact HE.out.len) s hs)
    obtain ⟨L, hLT, hLL⟩ : ∃ L, Txt b' L ∧ (L = nl.map Tv.te ∨ L = nx.map Tv.te) := by
      rcases hbb with rfl | rfl
      · exact ⟨_, HPT.out, .inl rfl⟩
      · rcases HQT.out with h | h
        · exact ⟨_, h, .inl rfl⟩
        · exact ⟨_, h, .inr rfl⟩
    have hyn' : y.now = x.crash (partsFor 0 x.soiled.length ks torn) := hyn
    rw [← hyn'] at htl
    obtain ⟨s', hs2, hbest⟩ := Slot.best_some htl
    have hylen : y.now.length = 8192 := by rw [hyn', Slot.crash_size HE.out.ok (by rw [HE.out.len, HE.out.waslen]) (partsFor_le 0 _ ks torn)]; exact HE.out.len
    have HO : Hid (Calls Tryz.prog 33 #[.pointer (some ⟨f5, 0, none⟩), .string ⟨#[77, 65, 78]⟩] w6 fun e w' => ∃ sf, e = .returned (.tuple #[.pointer (some ⟨sf, 0, none⟩), .int .i64 0]) ∧ ∃ own' v', v'.sf = sf ∧ Slot.Lies own' w' v' ∧ Txt v'.txt L ∧ (Slot.Lies own' w' v' ∧ Txt v'.txt L ∧ Fr own6 own' w6 w' ∧ Below w1.heap.size w1 w')) := Lib.hid (by
      refine (Slot.open_tells sMAN HT1.out hd6 (by decide) hly hylen (by decide) hbest).mono ?_
      rintro e w' ⟨sf, own', rfl, _, k1, ⟨d', _, k2⟩, k3⟩
      exact ⟨sf, rfl, own', _, rfl, k1, hLT, k1, hLT, k3.fr, k2.below⟩)
    have CO := Lib.hid (manopen_any (R := fun own' v' w' => Slot.Lies own' w' v' ∧ Txt v'.txt L ∧ Fr own6 own' w6 w' ∧ Below w1.heap.size w1 w') HO)
    have HLL := Lib.hid hLL
    clear hno hyes hcr hly hyn hyn' htl hbest hylen hd6 hbb HSY hLT hLL HO HPT HQT
    go_upto_region 31 with (go_at_call 14; (with_reducible refine CO.out.mono ?_); rintro e w8 ⟨m8, w7, own7, v7, rfl, ⟨hl7, ht7, hf7, hb7⟩, hb8, hm8, _⟩)
    have HB8 : Hid (Below w.heap.size w w8) := Lib.hid ((HB1.out.trans (hb7.mono HB1.out.size)).trans (hb8.mono (Nat.le_trans HB1.out.size hb7.size)))
    have HN8 := Lib.hid ((HN6.out.fr hf7).all hb8)
    have HX8 := Lib.hid ((HX6.out.fr hf7).all hb8)
    have CA : Hid (∀ W, Below w8.heap.size w8 W → Calls Tryz.prog 17 #[.pointer (some ⟨m8, 0, none⟩)] W (Told L W)) := by
      have h1 := hl7.all hb8
      exact Lib.hid fun W hb => manall_any (h1.all hb) (hm8.below hb hm8.lt) ht7
    have HTN : Hid (Tens w8 w8.heap.size An nn nl) := Lib.hid (by
      obtain ⟨A', c', e, e1, e2, h⟩ := HN8.out.tens HB8.out
      injection e with e3 e4 e5
      subst e3
      rw [← e4] at h
      exact h)
    have HTX : Hid (Tens w8 w8.heap.size Ax ne nx) := Lib.hid (by
      obtain ⟨A', c', e, e1, e2, h⟩ := HX8.out.tens HB8.out
      injection e with e3 e4 e5
      subst e3
      rw [← e4] at h
      exact h)
    clear CO hl7 ht7 hf7 hb7 hb8 hm8 HN6 HX6
    by_cases heq : L = nl.map Tv.te
    · have HEQ := Lib.hid heq
      clear heq HLL
      go_wp2_with (first
        | (go_at_call 17; (with_reducible refine (CA.out w8 (Below.refl _ _)).mono ?_); rintro e w9 ⟨va, l, rfl, hl, hto⟩
           have HL := Lib.hid hl
           have HTO9 := Lib.hid hto
           obtain ⟨A9, c9, rfl, q91, q92, hten9⟩ := hto.form
           have CE := Lib.hid (eqtens_any A9 An l.length c9 nn cn l nl w9 hten9 ((HTN.out.below HTO9.out.below).more HTO9.out.below.size) q91 q92 r1 r2)
           rw [eqB_true (HL.out.trans HEQ.out)] at CE
           clear hl hto hten9)
        | (go_at_call 16; (with_reducible refine CE.out.mono ?_); rintro e w10 ⟨rfl, hb10⟩
           have HB10 := Lib.hid (HTO9.out.below.trans (hb10.mono HTO9.out.below.size))
           clear hb10))
      go_ret
      exact ⟨by first | rfl | simp, HB8.out.trans (HB10.out.mono HB8.out.size)⟩
    · have HEX : Hid (L = nx.map Tv.te) := Lib.hid (by rcases HLL.out with h | h; exact absurd h heq; exact h)
      have HNEQ := Lib.hid heq
      clear heq HLL
      go_wp2_with (first
        | (go_at_call 17; (with_reducible refine (CA.out _ HB10.out).mono ?_); rintro e w11 ⟨va2, l2, rfl, hl2, hto2⟩
           have HL2 := Lib.hid hl2
           have HTO11 := Lib.hid hto2
           have HB11 := Lib.hid (HB10.out.trans (hto2.below.mono HB10.out.size))
           obtain ⟨A11, c11, rfl, q111, q112, hten11⟩ := hto2.form
           have CE2 := Lib.hid (eqtens_any A11 Ax l2.length c11 ne cx l2 nx w11 hten11 ((HTX.out.below HB11.out).more HB11.out.size) q111 q112 r3 r4)
           rw [eqB_true (HL2.out.trans HEX.out)] at CE2
           clear hl2 hto2 hten11 CA)
        | (go_at_call 17; (with_reducible refine (CA.out w8 (Below.refl _ _)).mono ?_); rintro e w9 ⟨va, l, rfl, hl, hto⟩
           have HL := Lib.hid hl
           have HTO9 := Lib.hid hto
           obtain ⟨A9, c9, rfl, q91, q92, hten9⟩ := hto.form
           have CE := Lib.hid (eqtens_any A9 An l.length c9 nn cn l nl w9 hten9 ((HTN.out.below HTO9.out.below).more HTO9.out.below.size) q91 q92 r1 r2)
           rw [show eqB (l.map Tv.te) (nl.map Tv.te) = false from decide_eq_false (by rw [HL.out]; exact HNEQ.out)] at CE
           clear hl hto hten9)
        | (go_at_call 16; (with_reducible refine CE2.out.mono ?_); rintro e w12 ⟨rfl, hb12⟩
           have HB12 := Lib.hid (HB11.out.trans (hb12.mono HB11.out.size))
           clear hb12)
        | (go_at_call 16; (with_reducible refine CE.out.mono ?_); rintro e w10 ⟨rfl, hb10⟩
           have HB10 := Lib.hid (HTO9.out.below.trans (hb10.mono HTO9.out.below.size))
           clear hb10))
      go_ret
      exact ⟨by first | rfl | simp, HB8.out.trans (HB12.out.mono HB8.out.size)⟩
end Go.Proofs.YtcmlchicpmnhdaaGreatDoor.Man
