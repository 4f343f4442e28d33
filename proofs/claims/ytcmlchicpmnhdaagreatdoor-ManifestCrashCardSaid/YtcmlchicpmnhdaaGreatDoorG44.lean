/-
  Texts one behind the other: ManUp, ManBase, ManBegun.
-/
import Derived.Test.YtcmlchicpmnhdaaGreatDoorG39
import Derived.Test.YtcmlchicpmnhdaaGreatDoorG43
/-
  A manifest on a disk that fails no call: Create, Put, Open; the law's 'one'.
-/
namespace Go.Proofs.YtcmlchicpmnhdaaGreatDoor.Man
open Go.RowKit Go.Proofs.YtcmlchicpmnhdaaGreatDoor.Rec Go.Proofs.YtcmlchicpmnhdaaGreatDoor.Ten Go.Proofs.YtcmlchicpmnhdaaGreatDoor.Disk
open Go.Proofs.YtcmlchicpmnhdaaGreatDoor.Crc (Turned)
open Go.Proofs.YtcmlchicpmnhdaaGreatDoor.Slot (Sf Up SG Stp laidB)
open Go.Proofs.YtcmlchicpmnhdaaGreatDoor.Seg (Fr ptr mark_old mark_top free_fr)
set_option linter.unusedVariables false
set_option linter.unusedSimpArgs false

def sMAN : ByteArray := ⟨#[77, 65, 78]⟩
theorem man_size : (Tryz.prog.info? 63).map (·.size) = some 1 := by kernel_rfl
/-- A manifest that was saved, on a disk that fails no call. -/
structure MUp (own : Own) (w0 w : World) (m : Nat) (v : Sf) (x : Fl) (K : Nat) (L : List Te) : Prop where
  up : Up own w0 w v x K
  man : ManAt w m v.sf
  free : own m = none
  txt : Txt v.txt L
  nm : v.nm = sMAN
theorem MUp.all {own : Own} {w0 w w' : World} {m K : Nat} {v : Sf} {x : Fl} {L : List Te} (h : MUp own w0 w m v x K L) (hb : Below w.heap.size w w') : MUp own w0 w' m v x K L :=
  { h with up := h.up.all hb, man := h.man.below hb h.man.lt }
theorem MUp.below {own : Own} {w0 w : World} {m K : Nat} {v : Sf} {x : Fl} {L : List Te} (h : MUp own w0 w m v x K L) : Below w0.heap.size w0 w := h.up.below
theorem MUp.top {own : Own} {w0 w : World} {m K : Nat} {v : Sf} {x : Fl} {L : List Te} (h : MUp own w0 w m v x K L) : ∀ b p, own b = some p → b < w.heap.size := h.up.top
theorem man_fr {own own' : Own} {w w' : World} {m sf : Nat} (h : ManAt w m sf) (ho : own m = none) (hf : Fr own own' w w') : ManAt w' m sf ∧ own' m = none :=
  ⟨(hf.block m h.lt ho).trans h, (hf.same m h.lt).trans ho⟩
theorem txt_nil : Txt (encAll []) [] := ⟨rfl, ⟨by decide, fun i hi => absurd hi (by simp)⟩, fun t ht => by simp at ht⟩
theorem may_nil : May ([] : List Te) := txt_nil.may
theorem ids_put {L : List Te} {t : Te} (h : ∀ u ∈ L, u.id < 4294967296) (ht : t.id < 4294967296) : ∀ b, ∀ u ∈ put t b L, u.id < 4294967296 := by
  induction L with
  | nil =>
    intro b u hu
    cases b with
    | true => simp [put] at hu
    | false => simp [put] at hu; rw [hu]; exact ht
  | cons y L ih =>
    intro b u hu
    simp only [put, List.mem_append] at hu
    rcases hu with (hu | hu) | hu
    · split at hu
      · simp at hu; rw [hu]; exact ht
      · simp at hu
    · split at hu
      · simp at hu
      · simp at hu; rw [hu]; exact h y (by simp)
    · exact ih (fun v hv => h v (List.mem_cons_of_mem _ hv)) _ u hu
theorem txt_put {b : List UInt8} {L next : List Te} {t : Te} (h : Txt b L) (hn : next = put t false L) (hm : May next) (ht : t.id < 4294967296) : Txt (encAll next) next := ⟨rfl, hm, by rw [hn]; exact ids_put h.ids ht false⟩
/-- Create on a new disk. -/
theorem up_mark {own own' : Own} {w0 w : World} {v : Sf} {x : Fl} {K : Nat} (h : Up own w0 w v x K) : own w.heap.size = none := by
  cases ho : own w.heap.size with
  | none => rfl
  | some p => have := h.top _ _ ho; omega
set_option maxRecDepth 100000 in
set_option maxHeartbeats 4000000 in
theorem mancreate_up {own : Own} {w0 w : World} {f K : Nat} {d : Dk} (hT : Turned w0) (h : Held own w0 w f d K) (hB : Slot.Bare d) (ha : d.arm = none) (hK : K + 5 ≤ 1073741824) (hroom : 8192 ≤ d.room) :
    Calls Tryz.prog 7 #[.pointer (some ⟨f, 0, none⟩)] w fun e w' => ∃ m sf own' x, e = .returned (.tuple #[.pointer (some ⟨m, 0, none⟩), .int .i64 0]) ∧ MUp own' w0 w' m ⟨f, sf, sMAN, 0, 1, encAll [], 1, true⟩ x (K + 5) [] ∧ Stp own own' f w w' := by
  have CE := Lib.hid (encode_ok none 0 0 [] w (Tens.nil w _) (Nat.le_refl _) (by decide) may_nil)
  have e1 : (encAll (([] : List Tv).map Tv.te)).length = 1 := by decide
  have e2 : encAll (([] : List Tv).map Tv.te) = encAll [] := rfl
  rw [e1, e2] at CE
  have CC : Hid (∀ W A c, Below w.heap.size w W → W.ownsRow w.heap.size 5 1 (.slice A 1 c) 1 (bvs (encAll [])) → 1 ≤ c → c ≤ maxLen →
      Calls Tryz.prog 24 #[.pointer (some ⟨f, 0, none⟩), .string ⟨#[77, 65, 78]⟩, .slice A 1 c] W fun e w' => ∃ sf, e = .returned (.tuple #[.pointer (some ⟨sf, 0, none⟩), .int .i64 0]) ∧ ∃ own', Up own' w0 w' ⟨f, sf, sMAN, 0, 1, encAll [], 1, true⟩ ⟨laidB (encAll []), laidB (encAll []), []⟩ (K + 5) ∧ Stp own own' f W w') := Lib.hid fun W A c hb hr h1 h2 =>
    Slot.up_create sMAN hT (h.all hb) hB ha (by decide) (by decide) (by decide) hK hroom (h.answer hr) h1 h2 (by decide)
  clear h hB ha hT
  go_enter Tryz.func7, Tryz.ntmps7
  go_wp2_with (first
    | (go_at_call 22; (with_reducible refine CE.out.mono ?_); rintro e w1 ⟨A1, c1, rfl, R1, p1, p2, hb1⟩; have B1 := Lib.hid hb1; have P1 := Lib.hid p1; have P2 := Lib.hid p2; clear hb1 p1 p2)
    | (go_at_call 24; (with_reducible refine (CC.out w1 A1 c1 B1.out R1.out P1.out P2.out).mono ?_); rintro e w2 ⟨sf, rfl, own2, hu2, hs2⟩; have HU2 := Lib.hid hu2; have HS2 := Lib.hid hs2; clear hu2 hs2))
  go_ret2
  have hu := HU2.out
  refine ⟨w2.heap.size, sf, own2, _, rfl, ⟨hu.all (below_alloc w2 _), Blk.new w2 _ _, up_mark (own' := own2) hu, txt_nil, rfl⟩, ?_⟩
  exact ((Stp.below B1.out).trans HS2.out).trans (Stp.below (below_alloc w2 _))
/-- What Put does to it. -/
structure PutUp (own : Own) (w0 w : World) (m : Nat) (v : Sf) (x : Fl) (K : Nat) (L next : List Te) (er : Int) (w' : World) : Prop where
  ex : ∃ own' v' x' K' L', MUp own' w0 w' m v' x' K' L' ∧ Fr own own' w w' ∧ v'.f = v.f ∧ v'.sf = v.sf ∧ v'.turn ≤ v.turn + 1 ∧ K' ≤ K + 2 ∧
    ((6 < next.length ∧ er = 2 ∧ L' = L) ∨ (next.length ≤ 6 ∧ ¬ May next ∧ er = 5 ∧ L' = L) ∨ (May next ∧ er = 0 ∧ L' = next))
theorem manput_up {own : Own} {w0 w : World} {m K : Nat} {v : Sf} {x : Fl} {L : List Te} {t : Tv} (hT : Turned w0) (h : MUp own w0 w m v x K L) (hu : v.turn < 1099511627776) (hK : K + 2 ≤ 1073741824) (hok : t.te.Ok) (hin : t.In w w.heap.size) (next : List Te) (hn : next = put t.te false L) :
    Calls Tryz.prog 11 #[.pointer (some ⟨m, 0, none⟩), .agg t.vals] w fun e w' => ∃ er : Int, e = .returned (.int .i64 er) ∧ PutUp own w0 w m v x K L next er w' := by
  have HS : Hid (May next → ∀ W A c, Below w.heap.size w W → W.ownsRow w.heap.size 5 1 (.slice A (encAll next).length c) (encAll next).length (bvs (encAll next)) → (encAll next).length ≤ c → c ≤ maxLen →
      Calls Tryz.prog 27 #[.pointer (some ⟨v.sf, 0, none⟩), .slice A (encAll next).length c] W fun e w' => ∃ er : Int, e = .returned (.int .i64 er) ∧ (er = 0 ∧ ∃ own' x', Up own' w0 w' { v with slot := 1 - v.slot, turn := v.turn + 1, txt := encAll next, used := v.turn + 1 } x' (K + 2) ∧ Fr own own' w w')) := Lib.hid fun hm W A c hb hr h1 h2 => by
    obtain ⟨g, d, hs⟩ := h.up.ex
    have hle : (encAll next).length ≤ 4080 := by have := encAll_length hm; omega
    refine (Slot.up_save hT (h.up.all hb) hu hK (hs.disk.answer hr) h1 h2 hle).mono ?_
    rintro e w' ⟨rfl, own', x', h3, h4⟩
    exact ⟨0, rfl, rfl, own', x', h3, (Fr.of_below hb).trans h4⟩
  refine (manput_any next hn h.up.lies h.man h.txt hok hin HS).mono ?_
  rintro e w' ⟨er, rfl, hh⟩
  refine ⟨er, rfl, ?_⟩
  rcases hh with ⟨h1, rfl, hb⟩ | ⟨h1, h2, rfl, hb⟩ | ⟨h1, rfl, own', x', hu', hf⟩
  · exact ⟨own, v, x, K, L, h.all hb, Fr.of_below hb, rfl, rfl, by omega, by omega, .inl ⟨h1, rfl, rfl⟩⟩
  · exact ⟨own, v, x, K, L, h.all hb, Fr.of_below hb, rfl, rfl, by omega, by omega, .inr (.inl ⟨h1, h2, rfl, rfl⟩)⟩
  · obtain ⟨hm1, hm2⟩ := man_fr h.man h.free hf
    exact ⟨own', _, x', K + 2, next, ⟨hu', hm1, hm2, txt_put h.txt hn h1 hok.id, h.nm⟩, hf, rfl, rfl, Nat.le_refl _, Nat.le_refl _, .inr (.inr ⟨h1, rfl, rfl⟩)⟩
/-- Open, where the file's own Open tells tenants. -/
def Opened (R : Own → Sf → World → Prop) (e : Ending) (w' : World) : Prop := ∃ m w1 own' v', e = .returned (.tuple #[.pointer (some ⟨m, 0, none⟩), .int .i64 0]) ∧ R own' v' w1 ∧ Below w1.heap.size w1 w' ∧ ManAt w' m v'.sf ∧ w1.heap.size ≤ m
set_option maxRecDepth 100000 in
set_option maxHeartbeats 4000000 in
theorem manopen_any {w : World} {f : Nat} {L : List Te} {R : Own → Sf → World → Prop}
    (HO : Hid (Calls Tryz.prog 33 #[.pointer (some ⟨f, 0, none⟩), .string ⟨#[77, 65, 78]⟩] w fun e w' => ∃ sf, e = .returned (.tuple #[.pointer (some ⟨sf, 0, none⟩), .int .i64 0]) ∧ ∃ own' v', v'.sf = sf ∧ Slot.Lies own' w' v' ∧ Txt v'.txt L ∧ R own' v' w')) :
    Calls Tryz.prog 14 #[.pointer (some ⟨f, 0, none⟩)] w (Opened R) := by
  go_enter Tryz.func14, Tryz.ntmps14
  go_upto_region 4 with (go_at_call 33; (with_reducible refine HO.out.mono ?_); rintro e w1 ⟨sf, rfl, own1, v1, hsf, hl, ht, hr⟩; have HSF := Lib.hid hsf; have HL := Lib.hid hl; have HT := Lib.hid ht; have HRR := Lib.hid hr; clear hsf hl ht hr)
  have CT := Lib.hid (mantext_any HL.out (by have := HT.out.small; omega))
  rw [HSF.out] at CT
  have HD := Lib.hid HT.out.dec
  obtain ⟨b, hb⟩ : ∃ b, b = v1.txt := ⟨_, rfl⟩
  rw [← hb] at CT HD
  clear hb HO
  go_wp2_with (first
    | (go_at_call 35; (with_reducible refine CT.out.mono ?_); rintro e w2 ⟨A2, c2, rfl, R2, B2, q1, q2⟩
       have CD := Lib.hid (mandec_any A2 b.length c2 b w2 R2.out q1 q2))
    | (go_at_call 34; (with_reducible refine CD.out.mono ?_); rintro e w3 (⟨k1, _⟩ | ⟨v3, l, k1, rfl, k2⟩)
       · have := HD.out; rw [k1] at this; cases this
       have K2 := Lib.hid k2.below
       clear k1 k2))
  go_ret2
  refine ⟨w3.heap.size, w1, own1, v1, rfl, HRR.out, ?_, ?_, Nat.le_trans B2.out.size K2.out.size⟩
  · exact (B2.out.trans (K2.out.mono B2.out.size)).alloc (Nat.le_trans B2.out.size K2.out.size) _
  · rw [ManAt, HSF.out]
    exact Blk.new w3 _ _
/-- Open, where the file's own Open says no. -/
theorem manopen_no {w : World} {f : Nat} {er : Int} (her : er ≠ 0)
    (HO : Hid (Calls Tryz.prog 33 #[.pointer (some ⟨f, 0, none⟩), .string ⟨#[77, 65, 78]⟩] w fun e w' => e = .returned (.tuple #[.pointer none, .int .i64 er]) ∧ Below w.heap.size w w')) :
    Calls Tryz.prog 14 #[.pointer (some ⟨f, 0, none⟩)] w fun e w' => e = .returned (.tuple #[.pointer none, .int .i64 er]) ∧ Below w.heap.size w w' := by
  have hne : (er != 0) = true := bne_iff_ne.2 her
  clear her
  go_enter Tryz.func14, Tryz.ntmps14
  go_wp2_with (go_at_call 33; (with_reducible refine HO.out.mono ?_); rintro e w1 ⟨rfl, hb⟩; have HB := Lib.hid hb; clear hb)
  go_ret2
  exact ⟨rfl, HB.out⟩
end Go.Proofs.YtcmlchicpmnhdaaGreatDoor.Man
/-
  Proved: law 10's 'one' and 'begun'; Open on the disk of a manifest that stands, and behind a crash.
-/
namespace Go.Proofs.YtcmlchicpmnhdaaGreatDoor.Man
open Go.RowKit Go.Proofs.YtcmlchicpmnhdaaGreatDoor.Rec Go.Proofs.YtcmlchicpmnhdaaGreatDoor.Ten Go.Proofs.YtcmlchicpmnhdaaGreatDoor.Disk
open Go.Proofs.YtcmlchicpmnhdaaGreatDoor.Crc (Turned)
open Go.Proofs.YtcmlchicpmnhdaaGreatDoor.Slot (Sf Up SG Stp laidB)
open Go.Proofs.YtcmlchicpmnhdaaGreatDoor.Seg (Fr ptr mark_old mark_top free_fr)
set_option linter.unusedVariables false
set_option linter.unusedSimpArgs false

/-- Open on its disk: another manifest beside it. -/
def OpenUp (own : Own) (w0 w : World) (m : Nat) (v : Sf) (x : Fl) (K : Nat) (L : List Te) (e : Ending) (w' : World) : Prop :=
  ∃ m2 own' v2, e = .returned (.tuple #[.pointer (some ⟨m2, 0, none⟩), .int .i64 0]) ∧ MUp own' w0 w' m v x (K + 2) L ∧ MUp own' w0 w' m2 v2 x (K + 2) L ∧ Fr own own' w w' ∧ v2.f = v.f ∧ v2.turn = v.turn
theorem manopen_up {own : Own} {w0 w : World} {m K : Nat} {v : Sf} {x : Fl} {L : List Te} (hT : Turned w0) (h : MUp own w0 w m v x K L) (hK : K + 2 ≤ 1073741824) :
    Calls Tryz.prog 14 #[.pointer (some ⟨v.f, 0, none⟩)] w (OpenUp own w0 w m v x K L) := by
  have HO : Hid (Calls Tryz.prog 33 #[.pointer (some ⟨v.f, 0, none⟩), .string ⟨#[77, 65, 78]⟩] w fun e w' => ∃ sf, e = .returned (.tuple #[.pointer (some ⟨sf, 0, none⟩), .int .i64 0]) ∧ ∃ own' v', v'.sf = sf ∧ Slot.Lies own' w' v' ∧ Txt v'.txt L ∧
      (Up own' w0 w' v x (K + 2) ∧ Up own' w0 w' v' x (K + 2) ∧ v'.nm = sMAN ∧ v'.f = v.f ∧ v'.turn = v.turn ∧ Fr own own' w w')) := by
    have ho := Slot.up_open hT h.up hK
    rw [h.nm] at ho
    refine Lib.hid (ho.mono ?_)
    rintro e w' ⟨sf, rfl, own', h1, h2, h3, h4⟩
    exact ⟨sf, rfl, own', _, rfl, h2.lies, h.txt, h1, h2, rfl, rfl, rfl, h4.fr⟩
  refine (manopen_any (R := fun own' v' w' => Up own' w0 w' v x (K + 2) ∧ Up own' w0 w' v' x (K + 2) ∧ Txt v'.txt L ∧ v'.nm = sMAN ∧ v'.f = v.f ∧ v'.turn = v.turn ∧ Fr own own' w w') (L := L) (Lib.hid (HO.out.mono ?_))).mono ?_
  · rintro e w' ⟨sf, rfl, own', v', h1, h2, h3, h4, h5, h6, h7, h8, h9⟩
    exact ⟨sf, rfl, own', v', h1, h2, h3, h4, h5, h3, h6, h7, h8, h9⟩
  · rintro e w' ⟨m2, w1, own', v', rfl, ⟨h1, h2, h3, h4, h5, h6, h7⟩, hb, hm, hge⟩
    obtain ⟨k1, k2⟩ := man_fr h.man h.free h7
    have hf2 : own' m2 = none := by
      cases ho : own' m2 with
      | none => rfl
      | some p => have := h1.top _ _ ho; omega
    exact ⟨m2, own', v', rfl, ⟨h1.all hb, k1.below hb k1.lt, k2, h.txt, h.nm⟩, ⟨h2.all hb, hm, hf2, h3, h4⟩, h7.trans (Fr.of_below hb), h5, h6⟩
/-! 'one'. -/
def oneTe (id : Nat) : Te := ⟨id, 1, 5000, 1, 3, [1, 2]⟩
theorem one_may (id : Nat) : (oneTe id).May := by
  refine ⟨by unfold Te.nums; dsimp only [oneTe]; decide, fun k hk => ?_⟩
  have hk' : k < 2 := hk
  rcases (by omega : k = 0 ∨ k = 1) with rfl | rfl
  · dsimp only [oneTe]; decide
  · dsimp only [oneTe]; decide
theorem one_ok {id : Nat} (h : id < 4294967296) : (oneTe id).Ok := by
  refine ⟨h, by show (1 : Nat) < _; decide, by dsimp only [oneTe]; decide, by show (1 : Nat) < _; decide, by dsimp only [oneTe]; decide, fun i => ?_⟩
  show _ ≤ ([1, 2] : List Int).getD i 0 ∧ ([1, 2] : List Int).getD i 0 ≤ _
  rcases i with _ | _ | i
  · decide
  · decide
  · simp
theorem built_one (a : Nat) (A : Option Addr) : Tryz.prog.built 35 [(0, .int .u32 (a : Int)), (1, .int .u64 1), (2, .int .i64 5000), (3, .int .u64 1), (4, .int .i64 3), (5, .slice A 2 2)] = some (Tv.vals ⟨oneTe a, A, 2⟩) := by kernel_rfl
theorem build_oneTe {w : World} {ops : Array Oper} {rest : List Oper} {o : Oper} {a : Act} {Q : Exit → Act → World → Prop} (hg : o.guard = none) (y0 y5 : Operand) (ho : o.op = .build 35 #[(0, y0), (1, .const (.int .u64 1)), (2, .const (.int .i64 5000)), (3, .const (.int .u64 1)), (4, .const (.int .i64 3)), (5, y5)]) (d : Option Tmp) (hd : o.dst = d) (id : Nat) (A : Option Addr)
    (h0 : a.eval y0 = .int .u32 (id : Int)) (h5 : a.eval y5 = .slice A 2 2) (k : wpList Tryz.prog ops Q rest (a.put d (.agg (Tv.vals ⟨oneTe id, A, 2⟩))) w) : wpList Tryz.prog ops Q (o :: rest) a w := by
  refine wpList_buildTo hg 35 _ ho d hd (Tv.vals ⟨oneTe id, A, 2⟩) ?_ k
  rw [Array.toList_map]
  simp only [List.map_cons, List.map_nil, h0, h5]
  exact built_one id A
theorem manTwo_cells (w : World) (t : TypeId) : Row (w.alloc (.cells #[.int .i64 1, .int .i64 2] t)) (w.heap.size + 1) (some ⟨w.heap.size, 0, none⟩) 2 (ivs [1, 2]) := Row.fresh w t (0, 0) #[.int .i64 1, .int .i64 2]
set_option maxRecDepth 100000 in
set_option maxHeartbeats 4000000 in
theorem one_any (id : Nat) (w : World) (hid : id < 4294967296) : Calls Tryz.prog 20 #[.int .u32 (id : Int)] w fun e w' => ∃ x : Tv, e = .returned (.agg x.vals) ∧ Hid (x.te = oneTe id ∧ x.te.Ok ∧ x.In w' w'.heap.size) ∧ Hid (Below w.heap.size w w') := by
  obtain ⟨w0, hw0⟩ : ∃ w0, w0 = w.alloc (.cells #[.int .u32 0, .int .u64 0, .int .i64 0, .int .u64 0, .int .i64 0, .slice none 0 0] 35) := ⟨_, rfl⟩
  have HB0 : Hid (Below w.heap.size w w0) := by rw [hw0]; exact below_alloc w _
  have Z0 : Hid (TenAt w0 w.heap.size zeroTv) := by rw [hw0]; exact ten_zero w
  obtain ⟨gb, hgb⟩ : ∃ gb, gb = w.heap.size := ⟨_, rfl⟩
  rw [← hgb] at Z0
  have HGB := Lib.hid hgb
  have HA := Lib.hid (below_alloc w0 (.cells #[.int .i64 1, .int .i64 2] 2))
  have Z1 := Lib.hid (blk_below Z0.out HA.out Z0.out.lt)
  have R1 := Lib.hid (manTwo_cells w0 2)
  have hne : ¬ gb = w0.heap.size := by have := Z0.out.lt; omega
  have HNE := Lib.hid hne
  have HID := Lib.hid hid
  clear hgb hne hid
  go_enter Tryz.func20, Tryz.ntmps20
  go_upto_region 1 with fail
  rw [← hw0, ← HGB.out]
  clear hw0
  go_wp2_with (first
    | (refine build_oneTe rfl (.tmp 3) (.tmp 4) rfl (some 5) rfl id (some ⟨w0.heap.size, 0, none⟩) rfl rfl ?_)
    | (refine store_ten Z1.out rfl rfl (.tmp 2) (.tmp 5) rfl rfl ⟨oneTe id, some ⟨w0.heap.size, 0, none⟩, 2⟩ rfl rfl ?_; intro w2 X2 G2))
  refine bodyPost_ret (result_ten X2.out rfl _ rfl) rfl ?_
  have hge : w.heap.size ≤ gb := Nat.le_of_eq HGB.out.symm
  have hb1 := HB0.out.trans (HA.out.mono HB0.out.size)
  refine ⟨⟨oneTe id, some ⟨w0.heap.size, 0, none⟩, 2⟩, rfl, Lib.hid ⟨rfl, one_ok HID.out, ?_⟩, Lib.hid (below_only hb1 G2.out hge hb1.size)⟩
  refine ⟨?_, Nat.le_refl _, by dsimp only; decide⟩
  obtain ⟨b, o, e, hlt, hc⟩ := R1.out.2 (by decide)
  injection e with e
  injection e with e1 e2
  subst e1 e2
  have hs : (w0.alloc (.cells #[.int .i64 1, .int .i64 2] 2)).heap.size = w0.heap.size + 1 := by simp
  refine ⟨rfl, fun _ => ⟨_, 0, rfl, Nat.lt_of_lt_of_le (Nat.lt_succ_self _) (Nat.le_trans (Nat.le_of_eq hs.symm) G2.out.size), fun i u hu => ?_⟩⟩
  rw [← hc i u hu]
  exact World.cell?_of_block (a := ⟨w0.heap.size, 0 + i, none⟩) (G2.out.block _ (by rw [hs]; exact Nat.lt_succ_self _) (by have := HNE.out; simp; omega))
end Go.Proofs.YtcmlchicpmnhdaaGreatDoor.Man
/-
  Proved: law 10's 'begun' returns true.
-/
namespace Go.Proofs.YtcmlchicpmnhdaaGreatDoor.Man
open Go.RowKit Go.Proofs.YtcmlchicpmnhdaaGreatDoor.Rec Go.Proofs.YtcmlchicpmnhdaaGreatDoor.Ten Go.Proofs.YtcmlchicpmnhdaaGreatDoor.Disk
open Go.Proofs.YtcmlchicpmnhdaaGreatDoor.Crc (Turned)
open Go.Proofs.YtcmlchicpmnhdaaGreatDoor.Slot (Sf Up SG Stp laidB)
open Go.Proofs.YtcmlchicpmnhdaaGreatDoor.Seg (Fr ptr mark_old mark_top free_fr)
set_option linter.unusedVariables false
set_option linter.unusedSimpArgs false

theorem slice_two (x y : Tv) : Tryz.prog.builtSlice 35 2 [(0, .agg x.vals), (1, .agg y.vals)] = some (x.vals ++ y.vals) := by kernel_rfl
theorem build_twoTen {w : World} {ops : Array Oper} {rest : List Oper} {o : Oper} {a : Act} {Q : Exit → Act → World → Prop} (hw : Region.wanted o (yielded ops a.tmps) = true) (y z : Operand) (ho : o.op = .buildSlice 22 2 #[(0, y), (1, z)]) (d : Option Tmp) (hd : o.dst = d) (x1 x2 : Tv) (h1 : a.eval y = .agg x1.vals) (h2 : a.eval z = .agg x2.vals)
    (k : wpList Tryz.prog ops Q rest (a.put d (.slice (some ⟨w.heap.size, 0, none⟩) 2 2)) (w.alloc (.cells (x1.vals ++ x2.vals) 35))) : wpList Tryz.prog ops Q (o :: rest) a w := by
  obtain ⟨i, hii, hzz⟩ := Option.map_eq_some_iff.1 ten_zeros
  simp only [Prod.mk.injEq] at hzz
  obtain ⟨hz0, hs1, _⟩ := hzz
  subst hd
  refine wpList_want hw fun K hK => ?_
  refine wp_buildSlice 22 35 2 _ ho (x1.vals ++ x2.vals) i _ Tryz.underlying22 hii hz0 (by rw [hs1]; decide) (by rw [hs1]; decide) ?_ (hK _ _ k)
  have hb := slice_two x1 x2
  unfold Program.builtSlice at hb
  simp only [hii, hz0] at hb
  rw [if_neg (by rw [hs1]; decide)] at hb
  rw [Array.toList_map]
  simp only [List.map_cons, List.map_nil, h1, h2]
  exact hb
theorem tens_two (w : World) (x y : Tv) (hx : x.te.Ok) (hy : y.te.Ok) (ix : x.In w w.heap.size) (iy : y.In w w.heap.size) (w' : World) (hw : w' = w.alloc (.cells (x.vals ++ y.vals) 35)) : Tens w' w'.heap.size (some ⟨w.heap.size, 0, none⟩) 2 [x, y] := by
  subst hw
  have hb := below_alloc w (.cells (x.vals ++ y.vals) 35)
  have hR := Row.fresh w 35 (0, 0) (x.vals ++ y.vals)
  have hl : (x.vals ++ y.vals).toList = tflat [x, y] := by rw [Array.toList_append]; simp [tflat]
  have hs : (x.vals ++ y.vals).size = 12 := rfl
  rw [hl, hs] at hR
  refine ⟨rfl, hR.more (by simp), fun v hv => ?_, fun v hv => ?_⟩
  · rcases List.mem_cons.1 hv with rfl | hv
    · exact hx
    · rw [List.mem_singleton.1 hv]; exact hy
  · rcases List.mem_cons.1 hv with rfl | hv
    · exact (ix.below hb).more hb.size
    · rw [List.mem_singleton.1 hv]; exact (iy.below hb).more hb.size
theorem not_may_two {x y : Te} (h : y.id ≤ x.id) : ¬ May [x, y] := by
  intro hm
  have := (hm.2 1 (by show 1 < 2; decide)).1 (by decide)
  have e1 : ([x, y].getD (1 - 1) zeroTe).id = x.id := rfl
  have e2 : ([x, y].getD 1 zeroTe).id = y.id := rfl
  omega
theorem may_one {x : Te} (h : x.May) : May [x] := ⟨by show 1 ≤ 6; decide, fun i hi => by
  have hi' : i < 1 := hi
  obtain rfl : i = 0 := by omega
  exact ⟨fun h0 => by omega, h⟩⟩
set_option maxRecDepth 100000 in
set_option maxHeartbeats 8000000 in
theorem manbegun_any (w : World) (hT : Turned w) : Calls Tryz.prog 5 #[] w fun e w' => e = .returned (.bool true) ∧ Below w.heap.size w w' := by
  have CN := Lib.hid (new_held 100000 w)
  rw [show room 100000 = 100000 by decide] at CN
  have HT := Lib.hid hT
  clear hT
  go_enter Tryz.func5, Tryz.ntmps5
  go_upto_region 2 with (go_at_call 6; refine CN.out.mono ?_; rintro e w1 ⟨own1, f, rfl, hd1⟩)
  have CC : Hid (Calls Tryz.prog 7 #[.pointer (some ⟨f, 0, none⟩)] w1 fun e w' => ∃ m sf own' x, e = .returned (.tuple #[.pointer (some ⟨m, 0, none⟩), .int .i64 0]) ∧ MUp own' w w' m ⟨f, sf, sMAN, 0, 1, encAll [], 1, true⟩ x 5 [] ∧ Stp own1 own' f w1 w') :=
    mancreate_up HT.out hd1 (Slot.new_bare _) (Slot.new_arm _) (by decide) (by decide)
  clear hd1 CN
  go_upto_region 5 with (go_at_call 7; (with_reducible refine CC.out.mono ?_); rintro e w2 ⟨m, sf, own2, x2, rfl, hu2, _⟩)
  have HU2 := Lib.hid hu2
  have CO : Hid (Calls Tryz.prog 20 #[.int .u32 5] w2 fun e w' => ∃ x : Tv, e = .returned (.agg x.vals) ∧ Hid (x.te = oneTe 5 ∧ x.te.Ok ∧ x.In w' w'.heap.size) ∧ Hid (Below w2.heap.size w2 w')) := one_any 5 w2 (by decide)
  have CP : Hid (∀ W (t : Tv), Hid (t.te = oneTe 5 ∧ t.te.Ok ∧ t.In W W.heap.size) → Hid (Below w2.heap.size w2 W) → Calls Tryz.prog 11 #[.pointer (some ⟨m, 0, none⟩), .agg t.vals] W fun e w' => e = .returned (.int .i64 0) ∧ ∃ own' v' x' K', MUp own' w w' m v' x' K' [oneTe 5] ∧ v'.f = f ∧ K' ≤ 7) := Lib.hid fun W t ht hb => by
    obtain ⟨h1, h2, h3⟩ := ht.out
    refine (manput_up HT.out (HU2.out.all hb.out) (by show (1 : Nat) < 1099511627776; decide) (by decide) h2 h3 [oneTe 5] (by rw [h1]; rfl)).mono ?_
    rintro e w' ⟨er, rfl, own', v', x', K', L', k1, k2, k3, k4, k5, k6, ⟨k7, _⟩ | ⟨_, k7, _⟩ | ⟨_, rfl, rfl⟩⟩
    · exact absurd k7 (by show ¬ 6 < 1; decide)
    · exact absurd (may_one (one_may 5)) k7
    · exact ⟨rfl, own', v', x', K', k1, k3, k6⟩
  clear hu2 CC
  go_upto_region 6 with (first
    | (go_at_call 20; (with_reducible refine CO.out.mono ?_); rintro e w3 ⟨t3, rfl, HX3, HB3⟩)
    | (go_at_call 11; (with_reducible refine (CP.out w3 t3 HX3 HB3).mono ?_); rintro e w4 ⟨rfl, own4, v4, x4, K4, hu4, hf4, hk4⟩))
  subst hf4
  have CQ := Lib.hid (manopen_up HT.out hu4 (by omega))
  clear hu4 CO CP HX3 HB3 HU2
  go_upto_region 7 with (go_at_call 14; (with_reducible refine CQ.out.mono ?_); rintro e w5 ⟨m2, own5, v5, rfl, hu5, hu6, _, _, _⟩)
  have HU5 := Lib.hid hu5
  have HU6 := Lib.hid hu6
  have CG : Hid (Calls Tryz.prog 15 #[.pointer (some ⟨m2, 0, none⟩), .int .u32 5] w5 (Got [oneTe 5] 5 w5)) := manget_any 5 hu6.up.lies hu6.man hu6.txt
  clear hu5 hu6 CQ
  go_upto_region 8 with (first
    | (go_at_call 15; (with_reducible refine CG.out.mono ?_); rintro e w6 (⟨x6, rfl, h6a, _, _, _, h6b⟩ | ⟨_, h6, _⟩)
       rotate_left
       · exact absurd (show (oneTe 5).id = 5 from rfl) (h6 (oneTe 5) (by simp))
       have H6A : Hid (x6.te = oneTe 5) := Lib.hid (List.mem_singleton.1 h6a)
       have H6B := Lib.hid h6b
       clear h6a h6b)
    | (refine store_ten (ten_zero w6) rfl rfl (.tmp 7) (.tmp 32) rfl rfl x6 rfl rfl ?_; intro w7 X7 G7))
  have HB7 := Lib.hid (H6B.out.trans ((below_only (below_alloc w6 (.cells #[.int .u32 0, .int .u64 0, .int .i64 0, .int .u64 0, .int .i64 0, .slice none 0 0] 35)) G7.out (Nat.le_refl _) (by simp)).mono H6B.out.size))
  have HU7 := Lib.hid (HU5.out.all HB7.out)
  obtain ⟨tb, htb⟩ : ∃ tb, tb = w6.heap.size := ⟨_, rfl⟩
  rw [← htb] at X7 ⊢
  obtain ⟨_, _, y2, _, _, y5⟩ := X7.out.cells
  rw [H6A.out] at y2 y5
  have y2' : w7.cell? ⟨tb, 2, none⟩ = some (.int .i64 5000) := y2
  have y5' : w7.cell? ⟨tb, 5, none⟩ = some (.slice x6.A 2 x6.c) := y5
  have CA := Lib.hid (manall_any HU7.out.up.lies HU7.out.man HU7.out.txt)
  have CM : Hid (∀ W, Calls Tryz.prog 21 #[.slice none 0 0] W fun e w' => e = .returned (.bool true) ∧ Below W.heap.size W w') := Lib.hid fun W => by
    have := mayAll_any none 0 0 [] W (Tens.nil W _) (Nat.le_refl _) (by decide)
    rw [show mayAllB (([] : List Tv).map Tv.te) = true from mayAllB_true may_nil] at this
    exact this
  have C1 : Hid (∀ W, Calls Tryz.prog 20 #[.int .u32 1] W fun e w' => ∃ x : Tv, e = .returned (.agg x.vals) ∧ Hid (x.te = oneTe 1 ∧ x.te.Ok ∧ x.In w' w'.heap.size) ∧ Hid (Below W.heap.size W w')) := Lib.hid fun W => one_any 1 W (by decide)
  have CE : Hid (∀ W (x y : Tv), Hid (x.te = oneTe 1 ∧ x.te.Ok ∧ x.In W W.heap.size) → Hid (y.te = oneTe 1 ∧ y.te.Ok ∧ y.In W W.heap.size) → Calls Tryz.prog 22 #[.slice (some ⟨W.heap.size, 0, none⟩) 2 2] (W.alloc (.cells (x.vals ++ y.vals) 35)) fun e w' => e = .returned (.slice none 0 0) ∧ Below (W.alloc (.cells (x.vals ++ y.vals) 35)).heap.size (W.alloc (.cells (x.vals ++ y.vals) 35)) w') := Lib.hid fun W x y hx hy => by
    obtain ⟨x1, x2, x3⟩ := hx.out
    obtain ⟨y1, y2, y3⟩ := hy.out
    refine encode_bad _ 2 2 [x, y] _ (tens_two W x y x2 y2 x3 y3 _ rfl) (Nat.le_refl _) (by decide) ?_
    show ¬ May [x.te, y.te]
    rw [x1, y1]
    exact not_may_two (Nat.le_refl _)
  clear htb y2 y5 G7 CG
  go_wp2_with (first
    | (go_at_call 17; (with_reducible refine CA.out.mono ?_); rintro e w8 ⟨v8, l8, rfl, k1, k2⟩
       have hl8 : l8.length = 1 := by have := congrArg List.length k1; rwa [List.length_map] at this
       obtain ⟨A8, c8, rfl, _, _, _⟩ := k2.form
       have B8 := Lib.hid k2.below
       rw [hl8]
       clear k1 k2 hl8)
    | (go_at_call 21; (with_reducible refine (CM.out w8).mono ?_); rintro e w9 ⟨rfl, hb9⟩; have B9 := Lib.hid hb9; clear hb9)
    | (go_at_call 20; (with_reducible refine (C1.out w10).mono ?_); rintro e w11 ⟨xb, rfl, XB, B11⟩; have XA' : Hid (xa.te = oneTe 1 ∧ xa.te.Ok ∧ xa.In w11 w11.heap.size) := Lib.hid ⟨XA.out.1, XA.out.2.1, (XA.out.2.2.below B11.out).more B11.out.size⟩)
    | (go_at_call 20; (with_reducible refine (C1.out w9).mono ?_); rintro e w10 ⟨xa, rfl, XA, B10⟩)
    | (refine build_twoTen rfl (.tmp 64) (.tmp 65) rfl (some 66) rfl xa xb rfl rfl ?_)
    | (go_at_call 22; (with_reducible refine (CE.out w11 xa xb XA' XB).mono ?_); rintro e w12 ⟨rfl, hb12⟩; have B12 := Lib.hid hb12; clear hb12))
  go_ret
  have b8 := HU7.out.below.trans (B8.out.mono HU7.out.below.size)
  have b9 := b8.trans (B9.out.mono b8.size)
  have b10 := b9.trans (B10.out.mono b9.size)
  have b11 := b10.trans (B11.out.mono b10.size)
  have b12 := b11.alloc b11.size (.cells (xa.vals ++ xb.vals) 35)
  exact ⟨rfl, b12.trans (B12.out.mono b12.size)⟩
end Go.Proofs.YtcmlchicpmnhdaaGreatDoor.Man
