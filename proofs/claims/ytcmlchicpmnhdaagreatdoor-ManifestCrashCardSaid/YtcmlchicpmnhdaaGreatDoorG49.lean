/-
  Texts one behind the other: ManAll.
-/
import Derived.Deep.CutBlock
import Derived.Test.YtcmlchicpmnhdaaGreatDoorG44
import Derived.Test.YtcmlchicpmnhdaaGreatDoorG45
import Derived.Test.YtcmlchicpmnhdaaGreatDoorG46
import Derived.Test.YtcmlchicpmnhdaaGreatDoorG47
import Derived.Test.YtcmlchicpmnhdaaGreatDoorG48
/-
  Proved: law 10's 'ManifestAll': tenants are put, kept, told again when it is opened anew.
-/
namespace Go.Proofs.YtcmlchicpmnhdaaGreatDoor.Man
open Go.RowKit Go.Proofs.YtcmlchicpmnhdaaGreatDoor.Rec Go.Proofs.YtcmlchicpmnhdaaGreatDoor.Ten Go.Proofs.YtcmlchicpmnhdaaGreatDoor.Disk
open Go.Proofs.YtcmlchicpmnhdaaGreatDoor.Crc (Turned)
open Go.Proofs.YtcmlchicpmnhdaaGreatDoor.Slot (Sf Up SG Stp laidB)
open Go.Proofs.YtcmlchicpmnhdaaGreatDoor.Seg (Fr ptr mark_old mark_top free_fr)
set_option linter.unusedVariables false
set_option linter.unusedSimpArgs false

/-- Tenants that the walk holds: in a row that is no disk's; their segments lie in an older world. -/
structure Nw (w : World) (own : Own) (wr : World) (v : Value) (l : List Tv) : Prop where
  row : wr.ownsRow w.heap.size 35 6 v l.length (tflat l)
  free : ∀ g, v.ownBlock = some g → own g = none
  ins : ∀ x ∈ l, x.In w w.heap.size
  ok : ∀ x ∈ l, x.te.Ok
theorem Nw.nil (w : World) (own : Own) (wr : World) : Nw w own wr (.slice none 0 0) [] := ⟨World.ownsRow_nil _ _ _ _, fun g h => by simp [Value.ownBlock] at h, fun x h => by simp at h, fun x h => by simp at h⟩
theorem Nw.fr {w : World} {own own' : Own} {wr w' : World} {v : Value} {l : List Tv} (h : Nw w own wr v l) (hf : Fr own own' wr w') : Nw w own' w' v l := by
  refine ⟨⟨h.row.1, ?_⟩, fun g hg => (hf.same g (h.row.lt g hg).2).trans (h.free g hg), h.ins, h.ok⟩
  rcases h.row.2 with h0 | ⟨g, cap, cur, hv, h1, h2, h3⟩
  · exact .inl h0
  · have hw : v.ownBlock = some g := by rw [hv]; rfl
    exact .inr ⟨g, cap, cur, hv, h1, (hf.block g (h.row.lt g hw).2 (h.free g hw)).trans h2, h3⟩
theorem Nw.all {w : World} {own : Own} {wr w' : World} {v : Value} {l : List Tv} (h : Nw w own wr v l) (hb : Below wr.heap.size wr w') : Nw w own w' v l := h.fr (Fr.of_below hb)
theorem Nw.tens {w : World} {own : Own} {wr : World} {v : Value} {l : List Tv} (h : Nw w own wr v l) (hb : Below w.heap.size w wr) : ∃ A c, v = .slice A l.length c ∧ l.length ≤ c ∧ c ≤ maxLen ∧ Tens wr wr.heap.size A l.length l := by
  obtain ⟨A, c, rfl, h1, h2, h3⟩ := own_row h.row
  exact ⟨A, c, rfl, h1, h2, rfl, h3, h.ok, fun x hx => ((h.ins x hx).below hb).more hb.size⟩
theorem nw_put {w : World} {own : Own} {wr w' : World} {v : Value} {l : List Tv} {t : Tv} (h : ∀ x ∈ l, x.In w w.heap.size ∧ x.te.Ok) (ht : Ts wr w' v (putTv t false l)) (hb : Below w.heap.size w wr) (hown : ∀ b p, own b = some p → b < wr.heap.size) (hin : t.In w w.heap.size) (hok : t.te.Ok) : Nw w own w' v (putTv t false l) := by
  refine ⟨own_base ht.row hb.size, fun g hg => ?_, fun x hx => ?_, fun x hx => ?_⟩
  · cases ho : own g with
    | none => rfl
    | some p => have := hown _ _ ho; have := (ht.row.lt g hg).1; omega
  · rcases putTv_mem _ _ _ hx with rfl | hx
    · exact hin
    · exact (h x hx).1
  · rcases putTv_mem _ _ _ hx with rfl | hx
    · exact hok
    · exact (h x hx).2
theorem ten_fr {own own' : Own} {w w' : World} {g : Nat} {x : Tv} (h : TenAt w g x) (ho : own g = none) (hf : Fr own own' w w') : TenAt w' g x ∧ own' g = none := ⟨(hf.block g h.lt ho).trans h, (hf.same g h.lt).trans ho⟩
/-- What the walk wants of Put. -/
noncomputable def wantOf (next : List Te) : Int := open Classical in if 6 < next.length then 2 else if May next then 0 else 5
theorem want_full {next : List Te} (h : 6 < next.length) : wantOf next = 2 := by unfold wantOf; rw [if_pos h]
theorem want_ok {next : List Te} (h : May next) : wantOf next = 0 := by have := h.1; unfold wantOf; rw [if_neg (by omega), if_pos h]
theorem want_form {next : List Te} (h6 : ¬ 6 < next.length) (h : ¬ May next) : wantOf next = 5 := by unfold wantOf; rw [if_neg h6, if_neg h]
/-- Crash and Open of a manifest. -/
theorem man_again {own : Own} {w0 w : World} {m K : Nat} {v : Sf} {x : Fl} {L : List Te} (hT : Turned w0) (h : MUp own w0 w m v x K L) (hK : K + 2 ≤ 1073741824) :
    Calls Tryz.prog 13 #[.pointer (some ⟨v.f, 0, none⟩), .int .i64 0, .slice none 0 0, .int .i64 (-1)] w fun e w' => ∃ f', e = .returned (.pointer (some ⟨f', 0, none⟩)) ∧ ∃ own', Fr own own' w w' ∧
      Calls Tryz.prog 14 #[.pointer (some ⟨f', 0, none⟩)] w' fun e w2 => ∃ m2 own2 v2, e = .returned (.tuple #[.pointer (some ⟨m2, 0, none⟩), .int .i64 0]) ∧ MUp own2 w0 w2 m2 v2 x (K + 2) L ∧ Fr own' own2 w' w2 ∧ v2.f = f' ∧ v2.turn = v.turn := by
  refine (Slot.up_crash 0 (-1) h.up (keep := []) (Row.nil w 0) (Nat.zero_le _) (by decide)).mono ?_
  rintro e w' ⟨f', rfl, own', d', g', h1, h2, h3, h4, h5⟩
  refine ⟨f', rfl, own', h5, ?_⟩
  have HO : Hid (Calls Tryz.prog 33 #[.pointer (some ⟨f', 0, none⟩), .string ⟨#[77, 65, 78]⟩] w' fun e w2 => ∃ sf, e = .returned (.tuple #[.pointer (some ⟨sf, 0, none⟩), .int .i64 0]) ∧ ∃ own2 v2, v2.sf = sf ∧ Slot.Lies own2 w2 v2 ∧ Txt v2.txt L ∧
      (Up own2 w0 w2 v2 x (K + 2) ∧ v2.nm = sMAN ∧ v2.f = f' ∧ v2.turn = v.turn ∧ Fr own' own2 w' w2)) := by
    have ho := Slot.up_again v.nm hT h1 h2 h3 (by rw [h.nm]; decide) h.up.sides h.up.was h.up.clean hK
    rw [h.nm] at ho
    refine Lib.hid (ho.mono ?_)
    rintro e w2 ⟨sf, rfl, own2, k1, k2⟩
    exact ⟨sf, rfl, own2, _, rfl, k1.lies, h.txt, k1, rfl, rfl, rfl, k2.fr⟩
  refine (manopen_any (R := fun own2 v2 w2 => Up own2 w0 w2 v2 x (K + 2) ∧ Txt v2.txt L ∧ v2.nm = sMAN ∧ v2.f = f' ∧ v2.turn = v.turn ∧ Fr own' own2 w' w2) (L := L) (Lib.hid (HO.out.mono ?_))).mono ?_
  · rintro e w2 ⟨sf, rfl, own2, v2, k1, k2, k3, k4, k5, k6, k7, k8⟩
    exact ⟨sf, rfl, own2, v2, k1, k2, k3, k4, k3, k5, k6, k7, k8⟩
  · rintro e w2 ⟨m2, w3, own2, v2, rfl, ⟨k1, k2, k3, k4, k5, k6⟩, hb, hm, hge⟩
    have hf2 : own2 m2 = none := by
      cases ho : own2 m2 with
      | none => rfl
      | some p => have := k1.top _ _ ho; omega
    exact ⟨m2, own2, v2, rfl, ⟨k1.all hb, hm, hf2, k2, k3⟩, k6.trans (Fr.of_below hb), k4, k5⟩
theorem manput_want {own : Own} {w0 w : World} {m K : Nat} {v : Sf} {x : Fl} {L : List Te} {t : Tv} (hT : Turned w0) (h : MUp own w0 w m v x K L) (hu : v.turn < 1099511627776) (hK : K + 2 ≤ 1073741824) (hok : t.te.Ok) (hin : t.In w w.heap.size) (next : List Te) (hn : next = put t.te false L) :
    Calls Tryz.prog 11 #[.pointer (some ⟨m, 0, none⟩), .agg t.vals] w fun e w' => e = .returned (.int .i64 (wantOf next)) ∧ ∃ own2 v2 x2 K2 L2, Hid (MUp own2 w0 w' m v2 x2 K2 L2) ∧ Hid (Fr own own2 w w') ∧ v2.f = v.f ∧ v2.turn ≤ v.turn + 1 ∧ K2 ≤ K + 2 ∧ Hid ((wantOf next = 0 → L2 = next) ∧ (¬ wantOf next = 0 → L2 = L)) := by
  refine (manput_up hT h hu hK hok hin next hn).mono ?_
  rintro e w' ⟨er, rfl, own2, v2, x2, K2, L2, k1, k2, k3, k4, k5, k6, ⟨k7, rfl, rfl⟩ | ⟨k8, k7, rfl, rfl⟩ | ⟨k7, rfl, rfl⟩⟩
  · exact ⟨by rw [want_full k7], own2, v2, x2, K2, _, Lib.hid k1, Lib.hid k2, k3, k5, k6, Lib.hid ⟨fun h => by rw [want_full k7] at h; simp at h, fun _ => rfl⟩⟩
  · exact ⟨by rw [want_form (by omega) k7], own2, v2, x2, K2, _, Lib.hid k1, Lib.hid k2, k3, k5, k6, Lib.hid ⟨fun h => by rw [want_form (by omega) k7] at h; simp at h, fun _ => rfl⟩⟩
  · exact ⟨by rw [want_ok k7], own2, v2, x2, K2, _, Lib.hid k1, Lib.hid k2, k3, k5, k6, Lib.hid ⟨fun _ => rfl, fun h => absurd (want_ok k7) h⟩⟩
theorem tens_one {w w' : World} {x : Tv} (hx : x.te.Ok) (ix : x.In w w.heap.size) (hw : w' = w.alloc (.cells x.vals 35)) : Tens w' w'.heap.size (some ⟨w.heap.size, 0, none⟩) 1 [x] := by
  have hb : Below w.heap.size w w' := by rw [hw]; exact below_alloc w _
  have hs : w'.heap.size = w.heap.size + 1 := by rw [hw]; simp
  have e : tflat [x] = x.vals.toList := by simp [tflat]
  refine ⟨rfl, ?_, fun v hv => ?_, fun v hv => ?_⟩
  · rw [e, hs, hw]
    exact Row.fresh w 35 (0, 0) x.vals
  · rw [List.mem_singleton.1 hv]; exact hx
  · rw [List.mem_singleton.1 hv]; exact (ix.below hb).more hb.size
theorem tens_at {W : World} {b p : Nat} {y : Tv} (h : W.rangeAt b p y.vals.toList) (hb : b < W.heap.size) (hy : y.te.Ok) (iy : y.In W W.heap.size) : Tens W W.heap.size (some ⟨b, p, none⟩) 1 [y] := by
  have e : tflat [y] = y.vals.toList := by simp [tflat]
  refine ⟨rfl, ⟨by rw [e]; rfl, fun _ => ⟨b, p, rfl, hb, fun i v hv => h i v (by rw [← e]; exact hv)⟩⟩, fun v hv => ?_, fun v hv => ?_⟩
  · rw [List.mem_singleton.1 hv]; exact hy
  · rw [List.mem_singleton.1 hv]; exact iy
/-- Get, and where the tenant stands. -/
theorem got_place {own : Own} {w : World} {v : Sf} {m : Nat} {nl : List Tv} (id : Nat) (h : Slot.Lies own w v) (hm : ManAt w m v.sf) (ht : Txt v.txt (nl.map Tv.te)) :
    Calls Tryz.prog 15 #[.pointer (some ⟨m, 0, none⟩), .int .u32 (id : Int)] w fun e w' => ∃ (xg : Tv) (jx : Nat), e = .returned (.tuple #[.agg xg.vals, .bool (decide (jx < nl.length))]) ∧ Hid (Below w.heap.size w w') ∧ Hid (∀ j y, nl[j]? = some y → (y.te.id = id ↔ j = jx)) ∧ Hid (jx < nl.length → (∃ y, nl[jx]? = some y ∧ xg.te = y.te) ∧ xg.te.Ok ∧ xg.In w' w'.heap.size) := by
  have hr := may_rises ht.may
  refine (manget_any id h hm ht).mono ?_
  rintro e w' (⟨xg, rfl, h1, h2, h3, h4, h5⟩ | ⟨rfl, h1, h2⟩)
  · obtain ⟨y, hy, hye⟩ := List.mem_map.1 h1
    obtain ⟨jx, hj, rfl⟩ := List.getElem_of_mem hy
    have ej := idAt_of (List.getElem?_eq_getElem hj)
    refine ⟨xg, jx, by rw [decide_eq_true hj], Lib.hid h5, Lib.hid fun j y hjy => ?_, Lib.hid fun _ => ⟨⟨_, List.getElem?_eq_getElem hj, hye.symm⟩, h4, h3.in⟩⟩
    have e2 := idAt_of hjy
    have hjl : j < nl.length := (List.getElem?_eq_some_iff.1 hjy).1
    have hid : (nl[jx]).te.id = id := by rw [hye, h2]
    constructor
    · intro hyi
      rcases Nat.lt_trichotomy j jx with hlt | heq | hgt
      · have := idAt_lt hr hlt hj; omega
      · exact heq
      · have := idAt_lt hr hgt hjl; omega
    · intro hjj
      subst hjj
      rw [List.getElem?_eq_getElem hj] at hjy
      injection hjy with hjy
      rw [← hjy]; exact hid
  · refine ⟨zeroTv, nl.length, by rw [decide_eq_false (Nat.lt_irrefl _)], Lib.hid h2, Lib.hid fun j y hjy => ?_, Lib.hid fun hh => absurd hh (Nat.lt_irrefl _)⟩
    obtain ⟨hjl, hjy2⟩ := List.getElem?_eq_some_iff.1 hjy
    constructor
    · intro hyi
      exact absurd hyi (h1 y.te (List.mem_map_of_mem (by rw [← hjy2]; exact List.getElem_mem hjl)))
    · intro hjj; omega
set_option maxRecDepth 100000 in
set_option maxHeartbeats 8000000 in
theorem manifestAll_walk (A : Option Addr) (n c : Nat) (A2 : Option Addr) (no co : Nat) (os : List Bool) (w : World) (hT : Turned w) (hA : ∃ l : List Tv, l.length = n ∧ (∀ y ∈ l, y.te.Ok ∧ y.In w w.heap.size) ∧ Row w w.heap.size A (n * 6) (tflat l)) (hnc : n ≤ c) (hc : c ≤ maxLen)
    (ho : Row w w.heap.size A2 no (lvs os)) (hno : no ≤ co) (hco : co ≤ maxLen) :
    Calls Tryz.prog 3 #[.slice A n c, .slice A2 no co] w fun e w' => e = .returned (.bool true) ∧ Below w.heap.size w w' := by
  obtain ⟨ts, hl, hls, hrow⟩ := hA
  have hcm : c ≤ 9223372036854775807 := by unfold maxLen at hc; exact hc
  have hcom : co ≤ 9223372036854775807 := by unfold maxLen at hco; exact hco
  have HT := Lib.hid hT
  have HBEG := Lib.hid (manbegun_any w hT)
  have HTS : Hid (Tens w w.heap.size A n ts) := Lib.hid ⟨hl, hrow, fun v hv => (hls v hv).1, fun v hv => (hls v hv).2⟩
  have HOS := Lib.hid ho
  clear hT hl hls hrow hc ho hco
  go_enter Tryz.func3, Tryz.ntmps3
  go_upto_region 4 with (go_at_call 5; (with_reducible refine HBEG.out.mono ?_); rintro e w1 ⟨rfl, hb1⟩; have HB1 := Lib.hid hb1; clear hb1)
  have CN := Lib.hid (new_held 100000 w1)
  rw [show room 100000 = 100000 by decide] at CN
  have HT1 := Lib.hid (turned_below HT.out HB1.out rfl)
  clear HBEG
  go_upto_region 5 with (go_at_call 6; refine CN.out.mono ?_; rintro e w2 ⟨own2, f0, rfl, hd2⟩)
  have CC : Hid (Calls Tryz.prog 7 #[.pointer (some ⟨f0, 0, none⟩)] w2 fun e w' => ∃ m sf own' x, e = .returned (.tuple #[.pointer (some ⟨m, 0, none⟩), .int .i64 0]) ∧ MUp own' w1 w' m ⟨f0, sf, sMAN, 0, 1, encAll [], 1, true⟩ x 5 [] ∧ Stp own2 own' f0 w2 w') :=
    mancreate_up HT1.out hd2 (Slot.new_bare _) (Slot.new_arm _) (by decide) (by decide)
  clear hd2 CN
  go_upto_region 8 with (go_at_call 7; (with_reducible refine CC.out.mono ?_); rintro e w3 ⟨m0, sf, own3, x3, rfl, hu3, _⟩; have HU3 := Lib.hid hu3; clear hu3)
  clear CC
  go_wp2_with fail
  go_loopw [6, 7, 9, 10] (fun fv mv nv iv wr => ∃ (i K m f : Nat) (own' : Own) (v : Sf) (x : Fl) (nl : List Tv), fv = .pointer (some ⟨f, 0, none⟩) ∧ mv = .pointer (some ⟨m, 0, none⟩) ∧ iv = .int .i64 (i : Int) ∧ i ≤ 20 ∧ Hid (v.f = f) ∧ v.turn ≤ 1 + i ∧ K ≤ 5 + 4 * i ∧ Hid (MUp own' w1 wr m v x K (nl.map Tv.te)) ∧ Hid (Nw w own' wr nv nl)) (fun _ _ _ iv _ => 20 - (RowKit.intOf iv).toNat)
  case atStart => exact ⟨0, 5, m0, f0, own3, _, x3, [], rfl, rfl, rfl, Nat.zero_le _, Lib.hid rfl, Nat.le_refl _, Nat.le_refl _, HU3, Lib.hid (Nw.nil w own3 _)⟩
  case round =>
    clear HU3
    obtain ⟨i, K, m, f, own', v, x, nl, rfl, rfl, rfl, hi, HVF, hvt, hK, HU, HNW⟩ := hrel
    have HW : Hid (Below w.heap.size w wr) := Lib.hid (HB1.out.trans (HU.out.below.mono HB1.out.size))
    by_cases h1 : i < n
    case neg =>
      have h1' : ¬ (i : Int) < (n : Int) := by omega
      go_wp2_with fail
      go_ret
      exact ⟨by first | rfl | simp, HW.out⟩
    have h1' : (i : Int) < (n : Int) := by omega
    by_cases h2 : i < 20
    case neg =>
      have h2' : ¬ (i : Int) < 20 := by omega
      go_wp2_with fail
      go_ret
      exact ⟨by first | rfl | simp, HW.out⟩
    have h2' : (i : Int) < 20 := by omega
    obtain ⟨An, cn, rfl, q1, q2, htn⟩ := HNW.out.tens HW.out
    have HTN := Lib.hid htn
    obtain ⟨b, o, rfl, hb, _⟩ := HTS.out.row.2 (by omega)
    obtain ⟨x0, hx0, hm0, hr0⟩ := HTS.out.at h1
    have HIT : Hid (wr.rangeAt b (o + i * 6) x0.vals.toList) := Lib.hid (ten_item (HTS.out.row.below HW.out) i x0 hx0)
    have HIN0 := Lib.hid (HTS.out.ins x0 hm0)
    obtain ⟨t, ht⟩ : ∃ t, t = cutTv x0 := ⟨_, rfl⟩
    have CX : Hid (Calls Tryz.prog 8 #[.agg x0.vals] wr fun e w' => e = .returned (.agg t.vals) ∧ Below wr.heap.size wr w') := Lib.hid (by rw [ht]; exact mancut_any x0 wr w.heap.size (HIN0.out.below HW.out))
    have HTI : Hid (t.In w w.heap.size) := Lib.hid (by rw [ht]; exact cut_in HIN0.out)
    have HTO : Hid (t.te.Ok) := Lib.hid (by rw [ht]; exact cut_ok (HTS.out.ok x0 hm0))
    have hnl6 : nl.length ≤ 6 := by have := HU.out.txt.may.1; rwa [List.length_map] at this
    obtain ⟨nn, hnn⟩ : ∃ nn, nn = nl.length := ⟨_, rfl⟩
    rw [← hnn] at HTN q1 hnl6 ⊢
    have HNN := Lib.hid hnn
    clear htn hx0 hm0 hr0 hb ht hnn
    go_upto_region 13 with (first
      | (refine load_tenM HIT.out rfl (.tmp 42) rfl rfl ?_)
      | (go_at_call 8; (with_reducible refine CX.out.mono ?_); rintro e w4 ⟨rfl, hb4⟩; have HB4 := Lib.hid hb4; clear hb4)
      | (refine store_ten (ten_zero w4) rfl rfl (.tmp 11) (.tmp 44) rfl rfl t rfl rfl ?_; intro w5 X5 G5))
    have HBA := Lib.hid (below_only (below_alloc w4 (.cells #[.int .u32 0, .int .u64 0, .int .i64 0, .int .u64 0, .int .i64 0, .slice none 0 0] 35)) G5.out (Nat.le_refl _) (by simp))
    have HB5 := Lib.hid (HB4.out.trans (HBA.out.mono HB4.out.size))
    obtain ⟨tb, htb⟩ : ∃ tb, tb = w4.heap.size := ⟨_, rfl⟩
    have HFT : Hid (own' tb = none) := Lib.hid (by
      cases ho : own' tb with
      | none => rfl
      | some p => have := HU.out.top _ _ ho; have := HB4.out.size; omega)
    rw [← htb] at X5 ⊢
    have HU5 := Lib.hid (HU.out.all HB5.out)
    have HN5 := Lib.hid (HNW.out.all HB5.out)
    have HW5 := Lib.hid (HW.out.trans (HB5.out.mono HW.out.size))
    have HTN5 : Hid (Tens w5 w5.heap.size An nn nl) := Lib.hid ((HTN.out.below HB5.out).more HB5.out.size)
    have CPT := Lib.hid (putten_any An nn cn nl t w5 HTN5.out q1 q2 (by omega))
    have hcnm : cn ≤ 9223372036854775807 := by unfold maxLen at q2; exact q2
    clear htb HU HNW HTN HIT CX HB4 G5 HBA HW
    go_upto_region 14 with (first
      | (refine load_ten X5.out rfl (.tmp 11) rfl rfl ?_)
      | (go_at_call 9; (with_reducible refine CPT.out.mono ?_); rintro e w6 ⟨v6, rfl, hts⟩; have HTS6 := Lib.hid hts; clear hts))
    obtain ⟨next, hnext⟩ : ∃ next, next = putTv t false nl := ⟨_, rfl⟩
    rw [← hnext] at HTS6
    have HNX := Lib.hid hnext
    clear hnext
    have HB6 : Hid (Below w5.heap.size w5 w6) := Lib.hid HTS6.out.below
    have X6 : Hid (TenAt w6 tb t) := Lib.hid (X5.out.below HB6.out X5.out.lt)
    have HU6 := Lib.hid (HU5.out.all HB6.out)
    have HN6 := Lib.hid (HN5.out.all HB6.out)
    have HW6 := Lib.hid (HW5.out.trans (HB6.out.mono HW5.out.size))
    have HP6 : Hid (Nw w own' w6 v6 next) := Lib.hid (by
      have h := HTS6.out
      rw [HNX.out] at h ⊢
      exact nw_put (fun x hx => ⟨HN5.out.ins x hx, HN5.out.ok x hx⟩) h HW5.out HU5.out.top HTI.out HTO.out)
    obtain ⟨A6, c6, rfl, q61, q62, hten6⟩ := HP6.out.tens HW6.out
    have HTN6 := Lib.hid hten6
    have HNE : Hid (next.map Tv.te = put t.te false (nl.map Tv.te)) := Lib.hid (by rw [HNX.out]; exact putTv_te t nl false)
    obtain ⟨n6, hn6⟩ : ∃ n6, n6 = next.length := ⟨_, rfl⟩
    have HL6 : Hid ((next.map Tv.te).length = n6) := Lib.hid (by rw [List.length_map, hn6])
    rw [← hn6] at HTN6 q61 ⊢
    have HN66 := Lib.hid hn6
    obtain ⟨wv, hwv⟩ : ∃ wv, wv = wantOf (next.map Tv.te) := ⟨_, rfl⟩
    have HWV := Lib.hid hwv
    have CM := Lib.hid (maytens_any A6 n6 c6 next w6 HTN6.out q61 q62)
    have hc6m : c6 ≤ 9223372036854775807 := by unfold maxLen at q62; exact q62
    clear hten6 hn6 hwv HTS6 HU5 HN5 HB5 X5 CPT HTN5
    go_upto_block 2 with fail
    go_cut [13] (fun u w' => u = .int .i64 wv ∧ Hid (Below w6.heap.size w6 w'))
    case first =>
      by_cases h6 : 6 < n6
      · have h6' : (6 : Int) < (n6 : Int) := by omega
        go_wp2_with fail
        go_meet
        case rel => exact ⟨by rw [HWV.out, want_full (by rw [HL6.out]; exact h6)], Lib.hid (Below.refl _ _)⟩
      · have h6' : ¬ (6 : Int) < (n6 : Int) := by omega
        obtain ⟨mb, hmb⟩ : ∃ mb, mb = mayAllB (next.map Tv.te) := ⟨_, rfl⟩
        rw [← hmb] at CM
        have HMB := Lib.hid hmb
        clear hmb
        cases mb with
        | true =>
          go_wp2_with (go_at_call 10; (with_reducible refine CM.out.mono ?_); rintro e w7 ⟨rfl, hb7⟩; have HB7 := Lib.hid hb7; clear hb7)
          go_meet
          case rel => exact ⟨by rw [HWV.out, want_ok (of_decide_eq_true HMB.out.symm)], HB7⟩
        | false =>
          go_wp2_with (go_at_call 10; (with_reducible refine CM.out.mono ?_); rintro e w7 ⟨rfl, hb7⟩; have HB7 := Lib.hid hb7; clear hb7)
          go_meet
          case rel => exact ⟨by rw [HWV.out, want_form (by rw [HL6.out]; exact h6) (of_decide_eq_false HMB.out.symm)], HB7⟩
    case rest =>
    obtain ⟨rfl, HBC⟩ := hcut
    have XC : Hid (TenAt wc tb t) := Lib.hid (X6.out.below HBC.out X6.out.lt)
    have HUC := Lib.hid (HU6.out.all HBC.out)
    have HNC := Lib.hid (HN6.out.all HBC.out)
    have HPC := Lib.hid (HP6.out.all HBC.out)
    have HWC := Lib.hid (HW6.out.trans (HBC.out.mono HW6.out.size))
    have CP := Lib.hid (manput_want HT1.out HUC.out (by omega) (by omega) HTO.out ((HTI.out.below HWC.out).more HWC.out.size) (next.map Tv.te) HNE.out)
    rw [← HWV.out] at CP
    clear X6 HU6 HN6 HP6 HW6 HBC HB6 HTN6 CM
    go_upto_region 20 with (first
      | (refine load_ten XC.out rfl (.tmp 11) rfl rfl ?_)
      | (go_at_call 11; (with_reducible refine CP.out.mono ?_); rintro e w7 ⟨rfl, own7, v7, x7, K7, L7, HU7, HF7, hvf7, hvt7, hK7, HL7⟩))
    have X7 : Hid (TenAt w7 tb t ∧ own7 tb = none) := Lib.hid (ten_fr XC.out HFT.out HF7.out)
    have HN7 := Lib.hid (HNC.out.fr HF7.out)
    have HP7 := Lib.hid (HPC.out.fr HF7.out)
    obtain ⟨nA2, nn2, nc2, nl2, hz1, hz2, HN2, HLL2, hn26, hnc2, hnm2⟩ : ∃ A2 n2 c2 l2, (wv = 0 → A2 = A6 ∧ n2 = n6 ∧ c2 = c6) ∧ (¬ wv = 0 → A2 = An ∧ n2 = nn ∧ c2 = cn) ∧ Hid (Nw w own7 w7 (.slice A2 n2 c2) l2) ∧ Hid (l2.map Tv.te = L7 ∧ l2.length = n2) ∧ n2 ≤ 6 ∧ n2 ≤ c2 ∧ c2 ≤ 9223372036854775807 := by
      by_cases hz : wv = 0
      · have e7 := HL7.out.1 hz
        have h6 : n6 ≤ 6 := by have := HU7.out.txt.may.1; rw [e7, HL6.out] at this; exact this
        exact ⟨A6, n6, c6, next, fun _ => ⟨rfl, rfl, rfl⟩, fun h => absurd hz h, (by rw [HN66.out]; exact HP7), Lib.hid ⟨e7.symm, HN66.out.symm⟩, h6, q61, hc6m⟩
      · have e7 := HL7.out.2 hz
        exact ⟨An, nn, cn, nl, fun h => absurd h hz, fun _ => ⟨rfl, rfl, rfl⟩, (by rw [HNN.out]; exact HN7), Lib.hid ⟨e7.symm, HNN.out.symm⟩, hnl6, q1, hcnm⟩
    have HZ1 := Lib.hid hz1
    have HZ2 := Lib.hid hz2
    have HVF7 : Hid (v7.f = f) := Lib.hid (by rw [hvf7]; exact HVF.out)
    clear hz1 hz2 hvf7 CP XC HUC HNC HPC HWC HVF
    go_upto_if 77 with fail
    go_cut [9] (fun u w' => u = .slice nA2 nn2 nc2 ∧ w7 = w')
    case first =>
      by_cases hz : wv = 0
      · obtain ⟨rfl, rfl, rfl⟩ := HZ1.out hz
        have hzb : (wv == 0) = true := by rw [hz]; rfl
        clear hz
        go_wp2_with fail
        go_meet
        case rel => exact ⟨rfl, rfl⟩
      · obtain ⟨rfl, rfl, rfl⟩ := HZ2.out hz
        have hzb : (wv == 0) = false := beq_eq_false_iff_ne.2 hz
        clear hz
        go_wp2_with fail
        go_meet
        case rel => exact ⟨rfl, rfl⟩
    case rest =>
    obtain ⟨rfl, rfl⟩ := hcut
    have HU7' : Hid (MUp own7 w1 w7 m v7 x7 K7 (nl2.map Tv.te)) := Lib.hid (by rw [HLL2.out.1]; exact HU7.out)
    have HW7 : Hid (Below w.heap.size w w7) := Lib.hid (HB1.out.trans (HU7.out.below.mono HB1.out.size))
    obtain ⟨bo, hbo⟩ : ∃ bo, bo = (decide (i < no) && os.getD i false) := ⟨_, rfl⟩
    have HBO := Lib.hid hbo
    clear hbo HU7 HP7 HN7 HZ1 HZ2 HL7 HF7 HFT
    go_upto_region 24 with fail
    go_cut [88] (fun v w' => v = .bool bo ∧ w7 = w')
    case first =>
      by_cases h3 : i < no
      · have h3' : (i : Int) < (no : Int) := by omega
        obtain ⟨b2, o2, rfl, hb2, hq2⟩ := HOS.out.2 (by omega)
        obtain ⟨bb, hbb⟩ : ∃ bb, bb = os.getD i false := ⟨_, rfl⟩
        have yo : w7.cell? ⟨b2, o2 + i, none⟩ = some (.bool bb) := by
          have hl : os.length = no := by have := HOS.out.1; rwa [lvs_length] at this
          refine (HW7.out.cell (p := ⟨b2, o2 + i, none⟩) hb2).trans (hq2 i _ ?_)
          rw [lvs, List.getElem?_map, hbb, List.getD_eq_getElem?_getD, List.getElem?_eq_getElem (by omega)]
          rfl
        have HBB := Lib.hid hbb
        clear hbb hq2 hb2
        go_wp2_with fail
        go_meet
        case rel => exact ⟨by rw [HBO.out, decide_eq_true h3, ← HBB.out, Bool.true_and], rfl⟩
      · have h3' : ¬ (i : Int) < (no : Int) := by omega
        go_wp2_with fail
        go_meet
        case rel => exact ⟨by rw [HBO.out, decide_eq_false h3, Bool.false_and], rfl⟩
    case rest =>
    obtain ⟨rfl, rfl⟩ := hcut
    have CR := Lib.hid (man_again HT1.out HU7'.out (by omega))
    rw [HVF7.out] at CR
    clear HBO
    go_upto_if 88 with fail
    go_cut [6, 7] (fun fv mv w' => ∃ f3 m3 own3 v3 x3 K3, fv = .pointer (some ⟨f3, 0, none⟩) ∧ mv = .pointer (some ⟨m3, 0, none⟩) ∧ Hid (v3.f = f3) ∧ v3.turn ≤ v.turn + 1 ∧ K3 ≤ K + 4 ∧ Hid (MUp own3 w1 w' m3 v3 x3 K3 (nl2.map Tv.te)) ∧ Hid (Nw w own3 w' (.slice nA2 nn2 nc2) nl2) ∧ Hid (TenAt w' tb t))
    case first =>
      cases bo with
      | true =>
        go_wp2_with (first
          | (go_at_call 13; (with_reducible refine CR.out.mono ?_); rintro e w8 ⟨f8, rfl, own8, hf8, co8⟩; have HF8 := Lib.hid hf8; have CO8 := Lib.hid co8; clear hf8 co8)
          | (go_at_call 14; (with_reducible refine CO8.out.mono ?_); rintro e w9 ⟨m9, own9, v9, rfl, hu9, hf9, hvf9, hvt9⟩; have HU9 := Lib.hid hu9; have HF9 := Lib.hid hf9; have HVF9 := Lib.hid hvf9; clear hu9 hf9 hvf9))
        go_meet
        case rel =>
          have hx8 := ten_fr X7.out.1 X7.out.2 HF8.out
          exact ⟨f8, m9, own9, v9, x7, K7 + 2, rfl, rfl, HVF9, by omega, by omega, HU9, Lib.hid ((HN2.out.fr HF8.out).fr HF9.out), Lib.hid (ten_fr hx8.1 hx8.2 HF9.out).1⟩
      | false =>
        go_wp2_with fail
        go_meet
        case rel => exact ⟨f, m, own7, v7, x7, K7, rfl, rfl, HVF7, hvt7, by omega, HU7', HN2, Lib.hid X7.out.1⟩
    case rest =>
    obtain ⟨f3, m3, own3, v3, x3, K3, rfl, rfl, HVF3, hvt3, hK3, HUQ, HNQ, XQ⟩ := hcut
    have HWQ : Hid (Below w.heap.size w wc) := Lib.hid (HB1.out.trans (HUQ.out.below.mono HB1.out.size))
    obtain ⟨id, hid⟩ : ∃ id, id = t.te.id := ⟨_, rfl⟩
    have HIDT := Lib.hid hid
    have CG := Lib.hid (got_place id HUQ.out.up.lies HUQ.out.man HUQ.out.txt)
    rw [HLL2.out.2] at CG
    have yid : wc.cell? ⟨tb, 0, none⟩ = some (.int .u32 (id : Int)) := by rw [hid]; exact XQ.out.cells.1
    clear hid CR HU7' HN2 X7 HW7 HTI HTO
    go_upto_region 30 with (first
      | (go_at_call 15; (with_reducible refine CG.out.mono ?_); rintro e wg ⟨xg, jx, rfl, HBG, HJX, HXG⟩)
      | (refine store_ten (ten_zero wg) rfl rfl (.tmp 15) (.tmp 103) rfl rfl xg rfl rfl ?_; intro ws XS GS))
    have HBA2 := Lib.hid (below_only (below_alloc wg (.cells #[.int .u32 0, .int .u64 0, .int .i64 0, .int .u64 0, .int .i64 0, .slice none 0 0] 35)) GS.out (Nat.le_refl _) (by simp))
    obtain ⟨xb, hxb⟩ : ∃ xb, xb = wg.heap.size := ⟨_, rfl⟩
    rw [← hxb] at XS ⊢
    have HBS := Lib.hid (HBG.out.trans (HBA2.out.mono HBG.out.size))
    have HUS := Lib.hid (HUQ.out.all HBS.out)
    have HNS := Lib.hid (HNQ.out.all HBS.out)
    have XTS : Hid (TenAt ws tb t) := Lib.hid (XQ.out.below HBS.out XQ.out.lt)
    have HWS := Lib.hid (HWQ.out.trans (HBS.out.mono HWQ.out.size))
    have HXGS : Hid (jx < nn2 → (∃ y, nl2[jx]? = some y ∧ xg.te = y.te) ∧ xg.te.Ok ∧ xg.In ws ws.heap.size) := Lib.hid fun h => by
      obtain ⟨k1, k2, k3⟩ := HXG.out h
      exact ⟨k1, k2, (k3.below HBA2.out).more HBA2.out.size⟩
    have HTN : Hid (Tens ws ws.heap.size nA2 nn2 nl2) := Lib.hid (by
      obtain ⟨A', c', e, e1, e2, h⟩ := HNS.out.tens HWS.out
      injection e with e3 e4 e5
      subst e3
      rw [HLL2.out.2] at h
      exact h)
    obtain ⟨okb, hokb⟩ : ∃ okb, okb = decide (jx < nn2) := ⟨_, rfl⟩
    rw [← hokb]
    have HOKB := Lib.hid hokb
    clear hokb hxb yid CG HUQ HNQ XQ HBG HXG GS HBA2 HBS HWQ
    go_wp2_with fail
    go_loopw [17, 18] (fun bv kv wz => ∃ (k : Nat) (bk : Bool), bv = .bool bk ∧ kv = .int .i64 (k : Int) ∧ k ≤ nn2 ∧ Hid (bk = decide (jx < k)) ∧ Hid (Below ws.heap.size ws wz)) (fun _ kv _ => nn2 - (RowKit.intOf kv).toNat)
    case atStart => exact ⟨0, false, rfl, rfl, Nat.zero_le _, Lib.hid (decide_eq_false (Nat.not_lt_zero _)).symm, Below.refl _ _⟩
    case round =>
      obtain ⟨k, bk, rfl, rfl, hk, HBK, HBZ⟩ := hrel
      by_cases hlt : k < nn2
      case pos =>
        have hlt' : (k : Int) < (nn2 : Int) := by omega
        obtain ⟨b3, o3, rfl, hb3, _⟩ := HTN.out.row.2 (by omega)
        obtain ⟨y, hy, hmy, hry⟩ := HTN.out.at hlt
        have HIY : Hid (∀ W, Below wr.heap.size wr W → W.rangeAt b3 (o3 + k * 6) y.vals.toList) := Lib.hid fun W hW => ten_item (HTN.out.row.below (HBZ.out.trans (hW.mono HBZ.out.size))) k y hy
        have HXT : Hid (∀ W, Below wr.heap.size wr W → TenAt W tb t) := Lib.hid fun W hW => XTS.out.below (HBZ.out.trans (hW.mono HBZ.out.size)) XTS.out.lt
        obtain ⟨yi, hyi⟩ : ∃ yi, yi = y.te.id := ⟨_, rfl⟩
        have yy : wr.cell? ⟨b3, o3 + k * 6, none⟩ = some (.int .u32 (yi : Int)) := by rw [hyi]; exact (range_ten (HIY.out wr (Below.refl _ _))).1
        have yt : wr.cell? ⟨tb, 0, none⟩ = some (.int .u32 (id : Int)) := by rw [HIDT.out]; exact (HXT.out wr (Below.refl _ _)).cells.1
        have HJ := Lib.hid (HJX.out k y hy)
        rw [← hyi] at HJ
        have HYI := Lib.hid hyi
        have HY := Lib.hid hy
        have HMY := Lib.hid hmy
        have HB3 := Lib.hid hb3
        clear hy hmy hry hb3 hyi
        cases bk with
        | true =>
          have hjk := of_decide_eq_true HBK.out.symm
          go_wp2_with fail
          go_quiet (fail)
          go_wp2_with fail
          go_roundw
          case rel => exact ⟨k + 1, true, rfl, by go_num, by omega, Lib.hid (decide_eq_true (by omega)).symm, Lib.hid (HBZ.out.trans ((below_drewN (Below.refl _ _) _).mono HBZ.out.size))⟩
          case measure => (simp [RowKit.intOf]; omega)
        | false =>
          have hjk := of_decide_eq_false HBK.out.symm
          by_cases hkj : k = jx
          case neg =>
            have hne : ((yi : Int) == (id : Int)) = false := beq_eq_false_iff_ne.2 (fun h => hkj (HJ.out.1 (by omega)))
            have HKJ := Lib.hid hkj
            clear hkj
            go_wp2_with fail
            go_quiet (fail)
            go_wp2_with fail
            go_roundw
            case rel => exact ⟨k + 1, false, rfl, by go_num, by omega, Lib.hid (decide_eq_false (by have := HKJ.out; omega)).symm, Lib.hid (HBZ.out.trans ((below_drewN (Below.refl _ _) _).mono HBZ.out.size))⟩
            case measure => (simp [RowKit.intOf]; omega)
          case pos =>
            subst hkj
            have HYC : Hid (∀ W, Below wr.heap.size wr W → W.cell? ⟨b3, o3 + k * 6, none⟩ = some (.int .u32 (id : Int))) := Lib.hid fun W hW => by
              have h := (range_ten (HIY.out W hW)).1
              rw [← HYI.out, HJ.out.2 rfl] at h
              exact h
            have HTC : Hid (∀ W, Below wr.heap.size wr W → W.cell? ⟨tb, 0, none⟩ = some (.int .u32 (id : Int))) := Lib.hid fun W hW => by rw [HIDT.out]; exact (HXT.out W hW).cells.1
            have HXC : Hid (∀ W, Below wr.heap.size wr W → TenAt W xb xg) := Lib.hid fun W hW => XS.out.below (HBZ.out.trans (hW.mono HBZ.out.size)) XS.out.lt
            have HBD : Hid (Below wr.heap.size wr wr.drew) := (Below.refl _ _).drew
            have hk1 : IntKind.i64.wrap ((k : Int) + 1) = ((k + 1 : Nat) : Int) := by rw [IntKind.wrap_i64]; omega
            have hk2 : 0 ≤ (k : Int) + 1 := by omega
            have hk3 : (k : Int) + 1 ≤ (nc2 : Int) := by omega
            have hk4 : ¬ nc2 = k := by omega
            clear yy yt
            go_upto_region 34 with fail
            refine wp_region_noPanic ?_
            refine wp_region_held_drew (S := fun W => Hid (Below wr.heap.size wr W)) (by kernel_rfl) HBD (fun h0 => ?_)
            refine held_take 0 (v := ?_) (d := (some 111)) rfl rfl (by kernel_rfl) (by kernel_rfl) (by kernel_rfl) (fun _ _ _ h => h) (Or.inl ⟨by rfl, ?_⟩) h0 ?_
            rotate_left
            · intro _ _; go_simp; (try with_reducible rfl)
            try simp only [Act.put, List.setIfInBounds_toArray, List.set_cons_zero, List.set_cons_succ]
            refine held_take 1 (v := ?_) (d := (some 112)) rfl rfl (by kernel_rfl) (by kernel_rfl) (by kernel_rfl) (fun _ _ _ h => h) (Or.inl ⟨by rfl, ?_⟩) h0 ?_
            rotate_left
            · intro _ _; go_simp; (try with_reducible rfl)
            try simp only [Act.put, List.setIfInBounds_toArray, List.set_cons_zero, List.set_cons_succ]
            refine held_take 2 (v := ?_) (d := (some 113)) rfl rfl (by kernel_rfl) (by kernel_rfl) (by kernel_rfl) (fun _ _ _ h => h) (Or.inl ⟨by rfl, ?_⟩) h0 ?_
            rotate_left
            · intro _ _; go_simp; (try with_reducible rfl)
            try simp only [Act.put, List.setIfInBounds_toArray, List.set_cons_zero, List.set_cons_succ]
            refine held_take 3 (v := ?_) (d := (some 114)) rfl rfl (by kernel_rfl) (by kernel_rfl) (by kernel_rfl) (fun _ _ _ h => h) (Or.inl ⟨by rfl, ?_⟩) h0 ?_
            rotate_left
            · intro _ _; go_simp; (try with_reducible rfl)
            try simp only [Act.put, List.setIfInBounds_toArray, List.set_cons_zero, List.set_cons_succ]
            refine held_take 4 (v := ?_) (d := (some 115)) rfl rfl (by kernel_rfl) (by kernel_rfl) (by kernel_rfl) (fun _ _ _ h => h) (Or.inl ⟨by rfl, ?_⟩) h0 ?_
            rotate_left
            · intro _ _; go_simp; (try with_reducible rfl)
            try simp only [Act.put, List.setIfInBounds_toArray, List.set_cons_zero, List.set_cons_succ]
            refine held_take 5 (v := ?_) (d := (some 116)) rfl rfl (by kernel_rfl) (by kernel_rfl) (by kernel_rfl) (fun _ _ _ h => h) (Or.inl ⟨by rfl, ?_⟩) h0 ?_
            rotate_left
            · intro _ _; go_simp; (try with_reducible rfl)
            try simp only [Act.put, List.setIfInBounds_toArray, List.set_cons_zero, List.set_cons_succ]
            refine held_take 6 (v := ?_) (d := (some 117)) rfl rfl (by kernel_rfl) (by kernel_rfl) (by kernel_rfl) (fun _ _ _ h => h) (Or.inl ⟨by rfl, ?_⟩) h0 ?_
            rotate_left
            · intro W hW; have y9 := HYC.out W hW.out; go_simp; (try with_reducible rfl)
            try simp only [Act.put, List.setIfInBounds_toArray, List.set_cons_zero, List.set_cons_succ]
            refine held_take 7 (v := ?_) (d := (some 118)) rfl rfl (by kernel_rfl) (by kernel_rfl) (by kernel_rfl) (fun _ _ _ h => h) (Or.inl ⟨by rfl, ?_⟩) h0 ?_
            rotate_left
            · intro _ _; go_simp; (try with_reducible rfl)
            try simp only [Act.put, List.setIfInBounds_toArray, List.set_cons_zero, List.set_cons_succ]
            refine held_take 8 (v := ?_) (d := (some 119)) rfl rfl (by kernel_rfl) (by kernel_rfl) (by kernel_rfl) (fun _ _ _ h => h) (Or.inl ⟨by rfl, ?_⟩) h0 ?_
            rotate_left
            · intro W hW; have y9 := HTC.out W hW.out; go_simp; (try with_reducible rfl)
            try simp only [Act.put, List.setIfInBounds_toArray, List.set_cons_zero, List.set_cons_succ]
            refine held_take 9 (v := ?_) (d := (some 120)) rfl rfl (by kernel_rfl) (by kernel_rfl) (by kernel_rfl) (fun _ _ _ h => h) (Or.inl ⟨by rfl, ?_⟩) h0 ?_
            rotate_left
            · intro _ _; go_simp; (try with_reducible rfl)
            try simp only [Act.put, List.setIfInBounds_toArray, List.set_cons_zero, List.set_cons_succ]
            refine held_take 10 (v := ?_) (d := (some 121)) rfl rfl (by kernel_rfl) (by kernel_rfl) (by kernel_rfl) (fun _ _ _ h => h) (Or.inl ⟨by rfl, ?_⟩) h0 ?_
            rotate_left
            · intro _ _; go_simp; (try with_reducible rfl)
            try simp only [Act.put, List.setIfInBounds_toArray, List.set_cons_zero, List.set_cons_succ]
            refine held_take 11 (v := .agg xg.vals) (d := some 122) rfl rfl (by kernel_rfl) (by kernel_rfl) (by kernel_rfl) (fun _ _ _ h => h) (yieldsIf_load_ten (by rfl) (.tmp 15) rfl xb rfl xg (fun W h => HXC.out W h.out)) h0 ?_
            try simp only [Act.put, List.setIfInBounds_toArray, List.set_cons_zero, List.set_cons_succ]
            refine held_take 13 (v := ?_) (d := (some 124)) rfl rfl (by kernel_rfl) (by kernel_rfl) (by kernel_rfl) (fun _ _ _ h => h) (Or.inl ⟨by rfl, ?_⟩) h0 ?_
            rotate_left
            · intro _ _; go_simp; (try with_reducible rfl)
            try simp only [Act.put, List.setIfInBounds_toArray, List.set_cons_zero, List.set_cons_succ]
            refine held_take 14 (v := ?_) (d := (some 125)) rfl rfl (by kernel_rfl) (by kernel_rfl) (by kernel_rfl) (fun _ _ _ h => h) (Or.inl ⟨by rfl, ?_⟩) h0 ?_
            rotate_left
            · intro _ _; go_simp; (try with_reducible rfl)
            try simp only [Act.put, List.setIfInBounds_toArray, List.set_cons_zero, List.set_cons_succ]
            refine held_take 15 (v := ?_) (d := (some 126)) rfl rfl (by kernel_rfl) (by kernel_rfl) (by kernel_rfl) (fun _ _ _ h => h) (Or.inl ⟨by rfl, ?_⟩) h0 ?_
            rotate_left
            · intro _ _; go_simp; (try with_reducible rfl)
            try simp only [Act.put, List.setIfInBounds_toArray, List.set_cons_zero, List.set_cons_succ]
            refine held_take 16 (v := ?_) (d := (some 127)) rfl rfl (by kernel_rfl) (by kernel_rfl) (by kernel_rfl) (fun _ _ _ h => h) (Or.inl ⟨by rfl, ?_⟩) h0 ?_
            rotate_left
            · intro _ _; go_simp; (try with_reducible rfl)
            try simp only [Act.put, List.setIfInBounds_toArray, List.set_cons_zero, List.set_cons_succ]
            refine held_take 17 (v := ?_) (d := (some 128)) rfl rfl (by kernel_rfl) (by kernel_rfl) (by kernel_rfl) (fun _ _ _ h => h) (Or.inl ⟨by rfl, ?_⟩) h0 ?_
            rotate_left
            · intro _ _; go_simp; (try with_reducible rfl)
            try simp only [Act.put, List.setIfInBounds_toArray, List.set_cons_zero, List.set_cons_succ]
            obtain ⟨wd, hwd⟩ : ∃ wd, wd = wr.drew := ⟨_, rfl⟩
            rw [← hwd] at HBD ⊢
            clear hwd h0
            refine wpAnyH_ready (rs := [12]) (by kernel_rfl) (by simp) (AllReadyH.cons rfl (fun K hK => ?_) AllReadyH.nil)
            rw [if_pos (by rfl)]
            refine wp_build_one 22 35 (.tmp 122) rfl (some 123) rfl Tryz.underlying22 (by decide) ten_zeros (.agg xg.vals) rfl xg.vals (slice_ten xg) ?_
            obtain ⟨we, hwe⟩ : ∃ we, we = wd.alloc (.cells xg.vals 35) := ⟨_, rfl⟩
            have HDE : Hid (Below wd.heap.size wd we) := Lib.hid (by rw [hwe]; exact below_alloc wd _)
            have HBE : Hid (Below wr.heap.size wr we) := Lib.hid (HBD.out.trans (HDE.out.mono HBD.out.size))
            have CE : Hid (Calls Tryz.prog 16 #[.slice (some ⟨wd.heap.size, 0, none⟩) 1 1, .slice (some ⟨b3, o3 + k * 6, none⟩) 1 (nc2 - k)] we fun e w' => e = .returned (.bool true) ∧ Below we.heap.size we w') := Lib.hid (by
              obtain ⟨⟨y', e1, e2⟩, e3, e4⟩ := HXGS.out hlt
              rw [HY.out] at e1
              injection e1 with e1
              subst e1
              have hbs := HBZ.out.trans (HBD.out.mono HBZ.out.size)
              have hbe := HBZ.out.trans (HBE.out.mono HBZ.out.size)
              have h := eqtens_any (some ⟨wd.heap.size, 0, none⟩) (some ⟨b3, o3 + k * 6, none⟩) 1 1 1 (nc2 - k) [xg] [y] we (tens_one e3 ((e4.below hbs).more hbs.size) hwe) (tens_at (HIY.out we HBE.out) (Nat.lt_of_lt_of_le HB3.out hbe.size) (HTN.out.ok y HMY.out) (((HTN.out.ins y HMY.out).below hbe).more hbe.size)) (Nat.le_refl _) (by decide) (by omega) (by unfold maxLen; omega)
              rw [eqB_true (by rw [List.map_singleton, List.map_singleton, e2])] at h
              exact h)
            rw [← hwe]
            clear hwe
            refine hK.out _ _ HBE (fun h1 => ?_)
            clear hK K
            try simp only [Act.put, List.setIfInBounds_toArray, List.set_cons_zero, List.set_cons_succ]
            refine wpAnyH_ready (rs := [18]) (by kernel_rfl) (by simp) (AllReadyH.cons rfl (fun K hK => ?_) AllReadyH.nil)
            go_simp
            go_at_call 16
            (with_reducible refine CE.out.mono ?_)
            rintro e wf ⟨rfl, hbf⟩
            have HBF : Hid (Below wr.heap.size wr wf) := Lib.hid (HBE.out.trans (hbf.mono HBE.out.size))
            clear hbf CE
            refine hK.out _ _ HBF (fun h2 => ?_)
            clear hK K
            try simp only [Act.put, List.setIfInBounds_toArray, List.set_cons_zero, List.set_cons_succ]
            refine held_take 19 (v := ?_) (d := (some 130)) rfl rfl (by kernel_rfl) (by kernel_rfl) (by kernel_rfl) (fun _ _ _ h => h) (Or.inl ⟨by rfl, ?_⟩) h2 ?_
            rotate_left
            · intro _ _; go_simp; (try with_reducible rfl)
            try simp only [Act.put, List.setIfInBounds_toArray, List.set_cons_zero, List.set_cons_succ]
            refine held_take 20 (v := ?_) (d := (some 131)) rfl rfl (by kernel_rfl) (by kernel_rfl) (by kernel_rfl) (fun _ _ _ h => h) (Or.inl ⟨by rfl, ?_⟩) h2 ?_
            rotate_left
            · intro _ _; go_simp; (try with_reducible rfl)
            try simp only [Act.put, List.setIfInBounds_toArray, List.set_cons_zero, List.set_cons_succ]
            refine held_take 21 (v := ?_) (d := (some 17)) rfl rfl (by kernel_rfl) (by kernel_rfl) (by kernel_rfl) (fun _ _ _ h => h) (Or.inl ⟨by rfl, ?_⟩) h2 ?_
            rotate_left
            · intro _ _; go_simp; (try with_reducible rfl)
            try simp only [Act.put, List.setIfInBounds_toArray, List.set_cons_zero, List.set_cons_succ]
            refine wpAnyH_done (by kernel_rfl) ?_ _
            refine NoPanic.normal ?_
            go_wp2_with fail
            go_roundw
            case rel => exact ⟨k + 1, true, rfl, by go_num, by omega, Lib.hid (decide_eq_true (by omega)).symm, Lib.hid (HBZ.out.trans (HBF.out.mono HBZ.out.size))⟩
            case measure => (simp [RowKit.intOf]; omega)
      case neg =>
      obtain rfl : k = nn2 := by omega
      have hbk : bk = okb := HBK.out.trans HOKB.out.symm
      subst hbk
      have CA := Lib.hid (manall_any (HUS.out.all HBZ.out).up.lies (HUS.out.all HBZ.out).man (HUS.out.all HBZ.out).txt)
      have HUZ := Lib.hid (HUS.out.all HBZ.out)
      have HNZ := Lib.hid (HNS.out.all HBZ.out)
      have HTZ : Hid (Tens wr wr.heap.size nA2 k nl2) := Lib.hid ((HTN.out.below HBZ.out).more HBZ.out.size)
      clear HUS HNS HTN XS XTS HJX HXGS HBK HOKB
      go_wp2_with (first
        | (go_at_call 17; (with_reducible refine CA.out.mono ?_); rintro e w4 ⟨va, l, rfl, hl, hto⟩
           have HL := Lib.hid hl
           have HTO := Lib.hid hto
           obtain ⟨A4, c4, rfl, q41, q42, hten4⟩ := hto.form
           have CE := Lib.hid (eqtens_any A4 nA2 l.length c4 k nc2 l nl2 w4 hten4 ((HTZ.out.below HTO.out.below).more HTO.out.below.size) q41 q42 hnc2 (by unfold maxLen; exact hnm2))
           rw [eqB_true HL.out] at CE
           clear hl hto hten4)
        | (go_at_call 16; (with_reducible refine CE.out.mono ?_); rintro e w5 ⟨rfl, hb5⟩
           have HB5 := Lib.hid hb5
           clear hb5))
      go_roundw
      case rel =>
        have hb := HTO.out.below.trans (HB5.out.mono HTO.out.below.size)
        exact ⟨i + 1, K3, m3, f3, own3, v3, x3, nl2, rfl, rfl, by go_num, by omega, HVF3, by omega, by omega, Lib.hid (HUZ.out.all hb), Lib.hid (HNZ.out.all hb)⟩
      case measure => (simp [RowKit.intOf]; omega)
end Go.Proofs.YtcmlchicpmnhdaaGreatDoor.Man
