/-
  Texts one behind the other: SegOpen, SegDone, SegFaceC.
-/
import Derived.Test.YtkdnfikaodkhnaaGreatDoorG25
import Derived.Test.YtkdnfikaodkhnaaGreatDoorG35
/-
  Proved: what Create and Open of package segment do; Append's refusals.
-/
namespace Go.Proofs.YtkdnfikaodkhnaaGreatDoor.Seg
open Go.RowKit Go.Proofs.YtkdnfikaodkhnaaGreatDoor.Disk Go.Proofs.YtkdnfikaodkhnaaGreatDoor.Rec
set_option linter.unusedVariables false
set_option linter.unusedSimpArgs false

def mark (own : Own) (g : Nat) : Own := fun b => if b = g then some (g, g) else own b
theorem mark_old {own : Own} {g b : Nat} (h : b < g) : mark own g b = own b := if_neg (by omega)
theorem mark_top {own : Own} {w : World} (ht : ∀ b q, own b = some q → b < w.heap.size) (o : Obj) : ∀ b q, mark own w.heap.size b = some q → b < (w.alloc o).heap.size := by
  intro b q h
  unfold mark at h
  split at h
  · simp; omega
  · have := ht b q h; simp; omega
/-- A segment's block is laid. -/
theorem lies_new {own : Own} {w0 w : World} {f K id num g : Nat} {d : Dk} {rm : Int} {N S : Dir} {wt : List Chg} {x : Fl} (h : Held own w0 w f d K) (hS : St d rm N S wt [(g, x)]) (hN : N = [(segName id num, g)]) (hid : id < 4294967296) (hnum : num ≤ 1099511627776) :
    Lies (mark own w.heap.size) w0 (w.alloc (.cells #[ptr f, .int .u32 (id : Int), .string (str (segName id num))] 67)) ⟨f, w.heap.size, id, num, rm, N, S, wt, g, x, K⟩ d ∧ d.failing = false where
  right := hS.calm
  left := {
    disk := h.beside (below_alloc w _) (fun b hb => mark_old hb) (mark_top h.top _)
    room := hS.room
    N := hS.N
    one := hN
    S := hS.S
    wait := hS.wait
    fl := hS.head
    blk := Blk.new _ _ _
    own := if_pos rfl
    ne := by have := h.disk.lt; show w.heap.size ≠ f; omega
    id := hid
    num := hnum }
theorem Lies.made {own : Own} {w2 w : World} {v : Sv} {d : Dk} (h : Lies own w2 w v d) (o : Obj) : Lies (mark own w.heap.size) w2 (w.alloc o) v d :=
  { h with
    disk := h.disk.beside (below_alloc w _) (fun b hb => mark_old hb) (mark_top h.top _)
    blk := ((below_alloc w o).block _ (blk_lt' h.blk)).trans h.blk
    own := (mark_old (blk_lt' h.blk)).trans h.own }
theorem frs_made {own : Own} {w : World} {f : Nat} (o : Obj) : FrS SG f w.heap.size own (mark own w.heap.size) w (w.alloc o) :=
  ⟨⟨rfl, rfl, rfl, by simp, fun b hb => mark_old hb, fun b hb _ => (below_alloc w o).block b hb⟩, fun w2 v2 _ _ _ _ ⟨d, h, hf⟩ => ⟨d, h.made o, hf⟩⟩
theorem frs_step' {own own' : Own} {w w' : World} {f sg : Nat} (hs : Step own own' f w w') (ht : ∀ b p, own' b = some p → b < w'.heap.size) : FrS SG f sg own own' w w' := frs_step hs ht
theorem FrS.trans {f sg : Nat} {o1 o2 o3 : Own} {w1 w2 w3 : World} (h : FrS SG f sg o1 o2 w1 w2) (k : FrS SG f sg o2 o3 w2 w3) : FrS SG f sg o1 o3 w1 w3 :=
  ⟨h.fr.trans k.fr, fun w v a b c e hS => k.other w v a b c e (h.other w v a b c e hS)⟩
theorem seg_ne {id num : Nat} : (str (segName id num)).toList.isEmpty = false := by
  cases h : (str (segName id num)).toList.isEmpty with
  | false => rfl
  | true =>
    have e : (str (segName id num)).toList = [] := List.isEmpty_iff.1 h
    have t := text_eq (str (segName id num)) ⟨#[]⟩
    rw [e] at t
    have h0 : (([] : List UInt8) == (⟨#[]⟩ : ByteArray).toList) = true := by decide +kernel
    rw [h0] at t
    have h1 := congrArg ByteArray.size (of_decide_eq_true t.symm)
    rw [str_size] at h1
    have h2 : (⟨#[]⟩ : ByteArray).size = 0 := rfl
    rw [h2] at h1
    simp [segName] at h1
set_option maxRecDepth 100000 in
set_option maxHeartbeats 8000000 in
theorem create_ok' {own : Own} {w0 w : World} {f K id num : Nat} {d : Dk} {rm : Int} (hT : Tabs w0) (h : Held own w0 w f d K) (hS : St d rm [] [] [] []) (hid : id < 4294967296) (hnum : num ≤ 1099511627776) (hK : K + 8 ≤ 1073741824) :
    Calls Tryz.prog 7 #[ptr f, .int .u32 (id : Int), .int .i64 (num : Int)] w fun e w' => ∃ own' sg g, e = .returned (.tuple #[ptr sg, .int .i64 0]) ∧ SG own' w0 w' ⟨f, sg, id, num, rm, [(segName id num, g)], [(segName id num, g)], [], g, emptyFl, K + 2⟩ ∧ FrS SG f sg own own' w w' := by
  obtain ⟨nm, hnm⟩ : ∃ nm, nm = str (segName id num) := ⟨_, rfl⟩
  have hnl : nm.size ≤ maxLen := by rw [hnm]; exact name_small hid hnum
  have hng : goodName nm.data.toList = true := by rw [hnm]; exact segName_good hid hnum
  have hne := seg_ne (id := id) (num := num)
  have CN := name_any id num w (hT.below h.below rfl).tens hid hnum
  rw [← hnm] at CN hne
  have CNN := Lib.hid CN
  have CZ : Hid (∀ w1, Below w.heap.size w w1 → Calls Tryz.prog 22 #[.pointer (some ⟨f, 0, none⟩), .string nm] w1 fun e w' => e = .returned (.int .i64 (-1)) ∧ w' = w1) := fun w1 hb => size_lost nm (h.all hb) hnl (by rw [Dk.look, hS.N]; rfl)
  have CC : Hid (∀ w1, Below w.heap.size w w1 → Calls Tryz.prog 23 #[.pointer (some ⟨f, 0, none⟩), .string nm] w1 fun e w' => ∃ own' g d', e = .returned (.int .i64 0) ∧ Held own' w0 w' f d' (K + 1) ∧ St d' rm [(segName id num, g)] [] [⟨noName, nm, some g⟩] [(g, emptyFl)] ∧ Step own own' f w w') := fun w1 hb => by
    refine (create_go nm (h.all hb) hS hnl (by omega) hng (by decide) (fun p hp => by simp at hp)).mono ?_
    rintro e w' ⟨own', g, d', he, h1, h2, _, h4⟩
    have en : dput nm.data.toList g (ddel [] []) = [(segName id num, g)] := by rw [hnm]; rfl
    rw [en] at h2
    exact ⟨own', g, d', he, h1, h2, (Step.of_below h.top hb).trans h4⟩
  have e : ptr f = .pointer (some ⟨f, 0, none⟩) := rfl
  rw [e]
  have HNM := Lib.hid hnm
  have HHID := Lib.hid hid
  have hid' : (id : Int) ≤ 4294967295 := by omega
  clear e CN h hS hT hnl hng hnm
  go_enter Tryz.func7, Tryz.ntmps7
  go_upto_region 9 with (first
    | (go_at_call 20; refine CNN.out.mono ?_; rintro e w1 ⟨rfl, hb1⟩; have HB1 := Lib.hid hb1; clear hb1)
    | (go_at_call 22; refine (CZ.out _ HB1.out).mono ?_; rintro e w2 ⟨rfl, rfl⟩)
    | (go_at_call 23; refine (CC.out _ HB1.out).mono ?_; rintro e w3 ⟨own3, g3, d3, rfl, hd3, hs3, hst3⟩; have HD3 := Lib.hid hd3; have HS3 := Lib.hid hs3; have HST3 := Lib.hid hst3; clear hd3 hs3 hst3))
  have CY := Lib.hid (syncDir_go HD3.out HS3.out (by omega))
  go_wp2_with (go_at_call 24; refine CY.out.mono ?_; rintro e w4 ⟨own4, d4, rfl, hd4, hs4, hst4⟩; have HD4 := Lib.hid hd4; have HS4 := Lib.hid hs4; have HST4 := Lib.hid hst4; clear hd4 hs4 hst4)
  go_ret2
  have hfold : foldDir [] [⟨noName, nm, some g3⟩] ([⟨noName, nm, some g3⟩] : List Chg).length = [(segName id num, g3)] := by rw [HNM.out]; rfl
  have hs4 := HS4.out
  rw [hfold] at hs4
  obtain ⟨k1, k2⟩ := lies_new HD4.out hs4 rfl HHID.out hnum
  refine ⟨_, w4.heap.size, g3, rfl, ⟨d4, ?_, k2⟩, (frs_step (HST3.out.trans HST4.out) HD4.out.top).trans (frs_made _)⟩
  rw [HNM.out]
  exact k1
set_option maxRecDepth 100000 in
set_option maxHeartbeats 8000000 in
theorem open_ok' {own : Own} {w0 w : World} {f K id num g : Nat} {d : Dk} {rm : Int} {N S : Dir} {wt : List Chg} {x : Fl} (hT : Tabs w0) (h : Held own w0 w f d K) (hS : St d rm N S wt [(g, x)]) (hN : N = [(segName id num, g)]) (hid : id < 4294967296) (hnum : num ≤ 1099511627776) :
    Calls Tryz.prog 15 #[ptr f, .int .u32 (id : Int), .int .i64 (num : Int)] w fun e w' => ∃ own' sg, e = .returned (.tuple #[ptr sg, .int .i64 0]) ∧ w.heap.size ≤ sg ∧ SG own' w0 w' ⟨f, sg, id, num, rm, N, S, wt, g, x, K⟩ ∧ FrS SG f sg own own' w w' := by
  obtain ⟨nm, hnm⟩ : ∃ nm, nm = str (segName id num) := ⟨_, rfl⟩
  have hnl : nm.size ≤ maxLen := by rw [hnm]; exact name_small hid hnum
  have hlook : d.look nm.data.toList = some x := hS.look (by rw [hnm, hN]; simp [Disk.dget, str])
  have CN := name_any id num w (hT.below h.below rfl).tens hid hnum
  rw [← hnm] at CN
  have CNN := Lib.hid CN
  have hxm := (h.ok hlook).max
  obtain ⟨L, hL⟩ : ∃ L, L = x.now.length := ⟨_, rfl⟩
  have CZ : Hid (∀ w1, Below w.heap.size w w1 → Calls Tryz.prog 22 #[.pointer (some ⟨f, 0, none⟩), .string nm] w1 fun e w' => e = .returned (.int .i64 (L : Int)) ∧ w' = w1) := fun w1 hb => by
    rw [hL]
    exact size_look nm (h.all hb) hnl hlook
  have e : ptr f = .pointer (some ⟨f, 0, none⟩) := rfl
  rw [e]
  have HNM := Lib.hid hnm
  have HHID := Lib.hid hid
  have HH := Lib.hid h
  have HS := Lib.hid hS
  have HN := Lib.hid hN
  have hid' : (id : Int) ≤ 4294967295 := by omega
  clear e CN h hS hT hnl hnm hN hlook hL hxm
  go_enter Tryz.func15, Tryz.ntmps15
  go_wp2_with (first
    | (go_at_call 20; refine CNN.out.mono ?_; rintro e w1 ⟨rfl, hb1⟩; have HB1 := Lib.hid hb1; clear hb1)
    | (go_at_call 22; refine (CZ.out _ HB1.out).mono ?_; rintro e w2 ⟨rfl, rfl⟩))
  go_ret2
  obtain ⟨k1, k2⟩ := lies_new (HH.out.all HB1.out) HS.out HN.out HHID.out hnum
  refine ⟨_, _, rfl, HB1.out.size, ⟨d, ?_, k2⟩, (frs_step (Step.of_below HH.out.top HB1.out) (HH.out.all HB1.out).top).trans (frs_made _)⟩
  rw [HNM.out]
  exact k1
set_option maxRecDepth 100000 in
set_option maxHeartbeats 8000000 in
theorem createRange_any {id f : Nat} {num : Int} (w : World) (hn : num < 0 ∨ 1099511627776 < num) (hb : -9223372036854775808 ≤ num ∧ num ≤ 9223372036854775807) :
    Calls Tryz.prog 7 #[ptr f, .int .u32 (id : Int), .int .i64 num] w fun e w' => ∃ u, e = .returned (.tuple #[u, .int .i64 6]) ∧ w' = w := by
  have CN := Lib.hid (nameNone_any id num w hn hb)
  clear hn hb
  unfold ptr
  go_enter Tryz.func7, Tryz.ntmps7
  go_wp2_with (go_at_call 20; refine CN.out.mono ?_; rintro e w1 ⟨rfl, rfl⟩)
  go_ret2
  exact ⟨_, rfl, rfl⟩
set_option maxRecDepth 100000 in
set_option maxHeartbeats 8000000 in
theorem openNone_any {own : Own} {w0 w : World} {f K id num : Nat} {d : Dk} (hT : Tabs w0) (h : Held own w0 w f d K) (hx : d.look (segName id num) = none) (hid : id < 4294967296) (hnum : num ≤ 1099511627776) :
    Calls Tryz.prog 15 #[ptr f, .int .u32 (id : Int), .int .i64 (num : Int)] w fun e w' => ∃ u, e = .returned (.tuple #[u, .int .i64 1]) ∧ Below w.heap.size w w' := by
  obtain ⟨nm, hnm⟩ : ∃ nm, nm = str (segName id num) := ⟨_, rfl⟩
  have hnl : nm.size ≤ maxLen := by rw [hnm]; exact name_small hid hnum
  have CN := name_any id num w (hT.below h.below rfl).tens hid hnum
  rw [← hnm] at CN
  have CNN := Lib.hid CN
  have CZ : Hid (∀ w1, Below w.heap.size w w1 → Calls Tryz.prog 22 #[.pointer (some ⟨f, 0, none⟩), .string nm] w1 fun e w' => e = .returned (.int .i64 (-1)) ∧ w' = w1) := fun w1 hb => size_lost nm (h.all hb) hnl (by rw [hnm]; exact hx)
  have hid' : (id : Int) ≤ 4294967295 := by omega
  clear CN h hT hnl hnm hx
  unfold ptr
  go_enter Tryz.func15, Tryz.ntmps15
  go_wp2_with (first
    | (go_at_call 20; refine CNN.out.mono ?_; rintro e w1 ⟨rfl, hb1⟩; have HB1 := Lib.hid hb1; clear hb1)
    | (go_at_call 22; refine (CZ.out _ HB1.out).mono ?_; rintro e w2 ⟨rfl, rfl⟩))
  go_ret2
  exact ⟨_, rfl, HB1.out⟩
set_option maxRecDepth 100000 in
set_option maxHeartbeats 8000000 in
theorem createExists_any {own : Own} {w0 w : World} {f K id num : Nat} {d : Dk} {x : Fl} (hT : Tabs w0) (h : Held own w0 w f d K) (hx : d.look (segName id num) = some x) (hid : id < 4294967296) (hnum : num ≤ 1099511627776) :
    Calls Tryz.prog 7 #[ptr f, .int .u32 (id : Int), .int .i64 (num : Int)] w fun e w' => ∃ u, e = .returned (.tuple #[u, .int .i64 7]) ∧ Below w.heap.size w w' := by
  obtain ⟨nm, hnm⟩ : ∃ nm, nm = str (segName id num) := ⟨_, rfl⟩
  have hnl : nm.size ≤ maxLen := by rw [hnm]; exact name_small hid hnum
  have hne := seg_ne (id := id) (num := num)
  have CN := name_any id num w (hT.below h.below rfl).tens hid hnum
  rw [← hnm] at CN hne
  have CNN := Lib.hid CN
  have hxm := (h.ok hx).max
  obtain ⟨L, hL⟩ : ∃ L, L = x.now.length := ⟨_, rfl⟩
  have CZ : Hid (∀ w1, Below w.heap.size w w1 → Calls Tryz.prog 22 #[.pointer (some ⟨f, 0, none⟩), .string nm] w1 fun e w' => e = .returned (.int .i64 (L : Int)) ∧ w' = w1) := fun w1 hb => by
    rw [hL]
    exact size_look nm (h.all hb) hnl (by rw [hnm]; exact hx)
  have hid' : (id : Int) ≤ 4294967295 := by omega
  clear CN h hT hnl hnm hx hL hxm
  unfold ptr
  go_enter Tryz.func7, Tryz.ntmps7
  go_wp2_with (first
    | (go_at_call 20; refine CNN.out.mono ?_; rintro e w1 ⟨rfl, hb1⟩; have HB1 := Lib.hid hb1; clear hb1)
    | (go_at_call 22; refine (CZ.out _ HB1.out).mono ?_; rintro e w2 ⟨rfl, rfl⟩))
  go_ret2
  exact ⟨_, rfl, HB1.out⟩
set_option maxRecDepth 100000 in
set_option maxHeartbeats 8000000 in
theorem appendForm_lies {own : Own} {w0 w : World} {v : Sv} {d : Dk} {A : Option Addr} {n c : Nat} {l : List Rc} (h : Lies own w0 w v d) (hm : mayAll v.id l = false) (hok : ∀ x ∈ l, x.body.length ≤ maxLen) (hl : l.length = n) (hnc : n ≤ c) (hc : c ≤ maxLen) (hr : Free own w A (n * 6) (rflat l)) :
    Calls Tryz.prog 9 #[ptr v.sg, .slice A n c] w fun e w' => ∃ P cp, e = .returned (.tuple #[.slice P 0 cp, .int .i64 5]) ∧ Below w.heap.size w w' := by
  have CM := mayAppend_lies h hr.row hl hok hnc hc
  rw [hm] at CM
  have CMM := Lib.hid CM
  clear CM h hr hm hok hl
  unfold ptr at *
  go_enter Tryz.func9, Tryz.ntmps9
  go_wp2_with (go_at_call 26; refine CMM.out.mono ?_; rintro e w1 ⟨rfl, hb1⟩)
  go_ret2
  exact ⟨_, _, rfl, hb1⟩
set_option maxRecDepth 100000 in
set_option maxHeartbeats 8000000 in
theorem appendCorrupt_lies {own : Own} {w0 w : World} {v : Sv} {d : Dk} {A : Option Addr} {n c : Nat} {l : List Rc} (hT : Tabs w0) (h : Lies own w0 w v d) (hfit : Fit v.id l) (hl : l.length = n) (hn0 : 0 < n) (hnc : n ≤ c) (hc : c ≤ maxLen) (hr : Free own w A (n * 6) (rflat l)) (hK : v.K + 1 ≤ 1073741824)
    (hend : frontEnd v.id (frontFrom 0 v.x.now) < v.x.now.length) :
    Calls Tryz.prog 9 #[ptr v.sg, .slice A n c] w fun e w' => ∃ P cp, e = .returned (.tuple #[.slice P 0 cp, .int .i64 4]) ∧ Lies own w0 w' { v with K := v.K + 1 } (d.read v.x.now.length) ∧ Step own own v.f w w' := by
  have hNm := h.xok.max
  have CM := mayAppend_lies h hr.row hl (fun x hx => by have := (hfit x hx).1.2.2.2.2.2; unfold maxLen; omega) hnc hc
  rw [mayAll_of (by intro e; rw [e] at hl; simp at hl; omega) (fun x hx => ⟨(hfit x hx).1, (hfit x hx).2.2⟩)] at CM
  obtain ⟨N, hN⟩ : ∃ N, N = v.x.now.length := ⟨_, rfl⟩
  obtain ⟨E, hE⟩ : ∃ E, E = frontEnd v.id (frontFrom 0 v.x.now) := ⟨_, rfl⟩
  have CF : Hid (∀ w1, Below w.heap.size w w1 → Calls Tryz.prog 27 #[.pointer (some ⟨v.sg, 0, none⟩)] w1 fun e w' => ∃ A K c, e = .returned (.tuple #[.slice A K c, .int .i64 (E : Int)]) ∧ Lies own w0 w' { v with K := v.K + 1 } (d.read N) ∧ Step own own v.f w w') := fun w1 hb => by
    refine (front_lies hT (h.all hb) hK).mono ?_
    rintro e w' ⟨A, c, d', he, _, _, _, hd', h4, h5⟩
    rw [← hE] at he
    rw [← hN] at hd'
    subst hd'
    exact ⟨A, _, c, he, h4, (h.stepAll hb).trans h5⟩
  have CZ : Hid (∀ w1, Lies own w0 w1 { v with K := v.K + 1 } (d.read N) → Calls Tryz.prog 11 #[.pointer (some ⟨v.sg, 0, none⟩)] w1 fun e w' => e = .returned (.int .i64 (N : Int)) ∧ Below w1.heap.size w1 w') := fun w1 hL => by
    have hz := size_lies hL
    rw [hN]
    exact hz
  rw [← hN] at hNm hend ⊢
  rw [← hE] at hend
  have hlt : (E : Int) < (N : Int) := by omega
  have e : ptr v.sg = .pointer (some ⟨v.sg, 0, none⟩) := rfl
  rw [e] at CM ⊢
  have CMM := Lib.hid CM
  clear e CM h hr hK hend hT hN hfit hl hc hE
  go_enter Tryz.func9, Tryz.ntmps9
  go_wp2_with (first
    | (go_at_call 26; refine CMM.out.mono ?_; rintro e w1 ⟨rfl, hb1⟩; have HB1 := Lib.hid hb1; clear hb1)
    | (go_at_call 27; refine (CF.out _ HB1.out).mono ?_; rintro e w2 ⟨A2, K2, c2, rfl, hl2, hs2⟩; have HL2 := Lib.hid hl2; have HS2 := Lib.hid hs2; clear hl2 hs2)
    | (go_at_call 11; refine (CZ.out _ HL2.out).mono ?_; rintro e w3 ⟨rfl, hb3⟩; have HL3 := Lib.hid (HL2.out.all hb3); have HS3 := Lib.hid (HS2.out.trans (HL2.out.stepAll hb3)); clear hb3))
  go_ret2
  exact ⟨_, _, rfl, HL3.out, HS3.out⟩
end Go.Proofs.YtkdnfikaodkhnaaGreatDoor.Seg
/-
  Proved: the landed package keeps the face of a segment.
-/
namespace Go.Proofs.YtkdnfikaodkhnaaGreatDoor.Seg
open Go.RowKit Go.Proofs.YtkdnfikaodkhnaaGreatDoor.Disk Go.Proofs.YtkdnfikaodkhnaaGreatDoor.Rec
set_option linter.unusedVariables false
set_option linter.unusedSimpArgs false

theorem end_le (bs : List UInt8) : ∀ (f p : Nat), bs.length ≤ p + f → p ≤ bs.length → endOf p (frontFrom p bs) ≤ bs.length := by
  intro f
  induction f with
  | zero =>
    intro p h1 h2
    rcases out_ok (dec (bs.drop p)) with ⟨x, m, hd⟩ | ⟨e, _, _, hno⟩
    · have k1 := (dec_ok hd).1
      have k2 := (dec_ok hd).2.1
      rw [List.length_drop] at k2
      omega
    · rw [frontFrom_no hno]; exact h2
  | succ f ih =>
    intro p h1 h2
    rcases out_ok (dec (bs.drop p)) with ⟨x, m, hd⟩ | ⟨e, _, _, hno⟩
    · have k1 := (dec_ok hd).1
      have k2 := (dec_ok hd).2.1
      rw [List.length_drop] at k2
      rw [frontFrom_ok hd]
      show endOf (p + (39 + x.body.length)) _ ≤ _
      rw [← k1]
      exact ih (p + m) (by omega) (by omega)
    · rw [frontFrom_no hno]; exact h2
theorem frontEnd_lt {id : Nat} {bs : List UInt8} (h : endOf 0 (frontFrom 0 bs) ≠ bs.length ∨ ownOf id (frontFrom 0 bs) ≠ frontFrom 0 bs) : frontEnd id (frontFrom 0 bs) < bs.length := by
  by_cases ho : ownOf id (frontFrom 0 bs) = frontFrom 0 bs
  · rw [frontEnd_all ho]
    have := end_le bs bs.length 0 (by omega) (Nat.zero_le _)
    rcases h with h | h
    · omega
    · exact absurd ho h
  · have hlt : (ownOf id (frontFrom 0 bs)).length < (frontFrom 0 bs).length := by
      have h1 := ownOf_le id (frontFrom 0 bs)
      rcases Nat.lt_or_ge (ownOf id (frontFrom 0 bs)).length (frontFrom 0 bs).length with h2 | h2
      · exact h2
      · exact absurd ((List.takeWhile_prefix _).eq_of_length (by unfold ownOf at h1 h2; omega)) ho
    unfold frontEnd
    rw [List.getElem?_eq_getElem hlt]
    exact (front_all bs bs.length 0 (by omega) _ (List.getElem_mem hlt)).1
theorem frontEnd_whole {id : Nat} {g : List Rc} (h : Fit id g) : frontEnd id (frontFrom 0 (cat g)) = (cat g).length := by
  have hg : AllGood g := fun x hx => ⟨(h x hx).1, (h x hx).2.1⟩
  obtain ⟨h1, h2⟩ := front_whole hg
  rw [frontEnd_all (by rw [h1]; exact ownOf_all (places_tenant (fun x hx => (h x hx).2.2) 0)), h2]
theorem putAt_last (W bs : List UInt8) : putAt W W.length bs = W ++ bs := by
  unfold putAt
  rw [List.take_length, List.drop_eq_nil_of_le (by omega), List.append_nil]
theorem Lies.st {own : Own} {w0 w : World} {v : Sv} {d : Dk} (h : Lies own w0 w v d) (hf : d.failing = false) : St d v.rm v.N v.S v.wt [(v.g, v.x)] :=
  ⟨h.room, hf, h.N, h.S, h.wait, fun p hp => by obtain rfl := List.mem_singleton.1 hp; exact h.fl⟩
theorem Lies.total {own : Own} {w0 w : World} {v : Sv} {d : Dk} (h : Lies own w0 w v d) : total (fun g => (d.fl g).now.length) d.N = v.x.now.length := by
  rw [h.N, h.one]
  show (d.fl v.g).now.length + 0 = _
  rw [h.fl, Nat.add_zero]
theorem looked_sg {own : Own} {w0 w w' : World} {v : Sv} {d : Dk} (hf : d.failing = false) (h : Looked own w0 w v d w') : ∃ K', K' ≤ v.K + 8 ∧ SG own w0 w' { v with K := K' } ∧ FrS SG v.f v.sg own own w w' := by
  obtain ⟨⟨k, K', h1, h2⟩, h3⟩ := h
  exact ⟨K', by omega, ⟨_, h2, hf⟩, frs_step h3 h2.top⟩
theorem append_landed {own : Own} {w0 w : World} {v : Sv} {A : Option Addr} {n c : Nat} {g0 l : List Rc} (hT : Tabs w0) (hSG : SG own w0 w v) (hx : v.x.now = cat g0) (hf0 : Fit v.id g0) (hfl : Fit v.id l) (hl : l.length = n) (hn0 : 0 < n) (hn : n ≤ 1000) (hnc : n ≤ c) (hc : c ≤ maxLen) (hr : Free own w A (n * 6) (rflat l))
    (hrm : ((cat (g0 ++ l)).length : Int) ≤ v.rm) (hK : v.K + 8 ≤ 1073741824) :
    Calls Tryz.prog 9 #[ptr v.sg, .slice A n c] w fun e w' => ∃ own' P cp L K', e = .returned (.tuple #[.slice P n cp, .int .i64 0]) ∧ n ≤ cp ∧ cp ≤ maxLen ∧ (∀ ad, P = some ad → w.heap.size ≤ ad.block) ∧ Free own' w' P n (ivs ((List.range n).map fun j => (((cat g0).length + (cat (l.take j)).length : Nat) : Int))) ∧ K' ≤ v.K + 8 ∧
      SG own' w0 w' { v with x := ⟨cat (g0 ++ l), v.x.was, L⟩, K := K' } ∧ FrS SG v.f v.sg own own' w w' := by
  obtain ⟨d, h, hf⟩ := hSG
  have hlen : v.x.now.length = (cat g0).length := by rw [hx]
  refine (append_core (R := fun er own' w' => er = 0 ∧ ∃ L d', Lies own' w0 w' { v with x := ⟨cat (g0 ++ l), v.x.was, L⟩, K := v.K + 2 } d' ∧ d'.failing = false) hT h hfl hl hn0 hn hnc hc hr (by omega) (by rw [hx]; exact frontEnd_whole hf0) ?_).mono ?_
  · intro w4 B m c4 hL hF hm hmc hc4
    have hroom := hrm
    rw [cat_append, List.length_append] at hroom
    refine (write_held (str (segName v.id v.num)) v.x.now.length hL.disk hL.nm (show v.K + 1 + 1 ≤ 1073741824 by omega) hf hL.dget (by rw [hL.fl]; exact Nat.le_refl _) hF.row (Nat.le_refl _) hF.none_at hmc hc4 (by
      have := cat_most (l := l) (fun x hx => (hfl x hx).1)
      omega) (by
      rw [hL.total, hL.fl, hL.room]
      show ((v.x.now.length : Nat) : Int) + (v.x.now.length + (cat l).length - (v.x.now.length : Int)) ≤ v.rm
      rw [hlen]
      omega)).mono ?_
    rintro e w' ⟨own', L, he, _, hd, hst⟩
    rw [hL.fl] at hd
    have e1 : putAt v.x.now v.x.now.length (cat l) = cat (g0 ++ l) := by rw [putAt_last, hx, cat_append]
    have hd2 : Held own' w0 w' v.f ((d.read v.x.now.length).put v.g ⟨cat (g0 ++ l), v.x.was, L⟩) (v.K + 2) := by
      rw [← e1]
      exact hd
    exact ⟨own', 0, he, hst, rfl, L, _, hL.step hst hd2 rfl rfl hL.S hL.wait (if_pos rfl), hf⟩
  · rintro e w' ⟨own', er, hst, ⟨rfl, L, d', hL, hf'⟩, hans⟩
    obtain ⟨P, cp, he, h1, h2, h4, h3⟩ := hans.ok rfl
    rw [hlen] at h3
    exact ⟨own', P, cp, L, v.K + 2, he, h1, h2, h4, h3, by omega, ⟨d', hL, hf'⟩, frs_step hst hL.top⟩
theorem landed_face : Face SG where
  all := fun ⟨d, h, hf⟩ hb => ⟨d, h.all hb, hf⟩
  top := fun ⟨d, h, hf⟩ => h.top
  below := fun ⟨d, h, hf⟩ => h.disk.below
  held := fun ⟨d, h, hf⟩ => ⟨d, h.disk, h.st hf, by rw [h.one]; simp [Disk.dget]⟩
  create := fun hT h hS hid hnum hK => (create_ok' hT h hS hid hnum hK).mono fun e w' ⟨own', sg, g, he, h1, h2⟩ => ⟨own', sg, g, _, he, by omega, h1, h2⟩
  append_ok := fun hT hSG hx hf0 hfl hl hn0 hn hnc hc hr hrm hK => (append_landed hT hSG hx hf0 hfl hl hn0 hn hnc hc hr hrm hK).mono fun e w' ⟨own', P, cp, L, K', he, h1, h2, _, h3, h4⟩ => ⟨own', P, cp, L, K', he, h1, h2, h3, h4⟩
  append_form := by
    intro own w0 w v A n c g0 l hT hSG hx hf0 hno hok hl hn hnc hc hr hK
    obtain ⟨d, h, hf⟩ := hSG
    refine (appendForm_lies h (by
      cases hm : mayAll v.id l with
      | false => rfl
      | true =>
        obtain ⟨k1, k2⟩ := mayAll_true hm
        exact absurd ⟨by rw [← hl]; exact List.length_pos_iff.2 k1, fun x hx => ⟨(k2 x hx).1, (hok x hx).fits, (k2 x hx).2⟩⟩ hno) (fun x hx => (hok x hx).body) hl hnc hc hr).mono ?_
    rintro e w' ⟨P, cp, he, hb⟩
    exact ⟨own, P, cp, v.K, he, by omega, ⟨d, h.all hb, hf⟩, frs_step (h.stepAll hb) (h.all hb).top⟩
  append_corrupt := by
    intro own w0 w v A n c l hT hSG hend hfl hl hn0 hn hnc hc hr hK
    obtain ⟨d, h, hf⟩ := hSG
    refine (appendCorrupt_lies hT h hfl hl hn0 hnc hc hr (by omega) (frontEnd_lt hend)).mono ?_
    rintro e w' ⟨P, cp, he, hL, hst⟩
    exact ⟨own, P, cp, v.K + 1, he, by omega, ⟨_, hL, hf⟩, frs_step hst hL.top⟩
  records := by
    intro own w0 w v hT hSG hK
    obtain ⟨d, h, hf⟩ := hSG
    refine (records_lies hT h (by omega)).mono ?_
    rintro e w' ⟨A, c, d', he, h1, h2, h3, rfl, hL, hst⟩
    exact ⟨own, A, c, v.K + 1, he, h1, h2, h3, by omega, ⟨_, hL, hf⟩, frs_step hst hL.top⟩
  name := fun id num w hT hb hid hnum => name_any id num w (hT.below hb rfl).tens hid hnum
  name_none := fun id num w hid hn hb => (nameNone_any id num w hn hb).mono fun e w' ⟨he, hw⟩ => ⟨he, by rw [hw]; exact Below.refl _ _⟩
  create_range := by
    intro own w0 w f K id num d rm hT h hS hid hn hb hK
    refine (createRange_any w hn hb).mono ?_
    rintro e w' ⟨u, he, rfl⟩
    exact ⟨own, d, K, u, he, Nat.le_add_right _ _, h, hS, Fr.refl _ _⟩
  open_none := fun hT h hS hid hnum hK => (openNone_any hT h (by rw [Dk.look, hS.N]; rfl) hid hnum).mono fun e w' ⟨u, he, hb⟩ => ⟨_, _, _, u, he, Nat.le_add_right _ _, h.all hb, hS, Fr.of_below hb⟩
  create_exists := fun hT ⟨d, h, hf⟩ hid hnum hK => (createExists_any hT h.disk h.look hid hnum).mono fun e w' ⟨u, he, hb⟩ => ⟨u, he, (h.all hb).disk.below⟩
  nil_append := nilAppend_any
  nil_read := nilRead_any
  nil_records := nilRecords_any
  nil_sync := nilSync_any
  nil_size := nilSize_any
  open_ := fun hT h hS hN hid hnum hK => (open_ok' hT h hS hN hid hnum).mono fun e w' ⟨own', sg, he, _, h1, h2⟩ => ⟨own', sg, _, he, Nat.le_add_right _ _, h1, h2⟩
  read_ok := fun hT ⟨d, h, hf⟩ ha hd ht hK => (readOk_lies hT h ha hd ht (by omega)).mono fun e w' ⟨he, hL⟩ => by
    obtain ⟨K', h1, h2, h3⟩ := looked_sg hf hL
    exact ⟨_, K', he, h1, h2, h3⟩
  read_range := fun hT ⟨d, h, hf⟩ ha hb hK => (readRange_lies _ h ha hb).mono fun e w' ⟨z, he, hL⟩ => by
    obtain ⟨K', h1, h2, h3⟩ := looked_sg hf hL
    exact ⟨_, K', z, he, h1, h2, h3⟩
  read_bad := fun hT ⟨d, h, hf⟩ ha hno hK => (readBad_lies hT h ha hno (by omega)).mono fun e w' ⟨z, he, hL⟩ => by
    obtain ⟨K', h1, h2, h3⟩ := looked_sg hf hL
    exact ⟨_, K', z, he, h1, h2, h3⟩
  sync := fun hT ⟨d, h, hf⟩ hK => (sync_lies h hf (by omega)).mono fun e w' ⟨own', d', he, hL, hf', hst⟩ => ⟨own', _, he, by omega, ⟨d', hL, hf'⟩, frs_step hst hL.top⟩
  size := fun ⟨d, h, hf⟩ => size_lies h
end Go.Proofs.YtkdnfikaodkhnaaGreatDoor.Seg
/-
  What a crash of a segment's disk leaves: the face's part that only seats with crashes want.
-/
namespace Go.Proofs.YtkdnfikaodkhnaaGreatDoor.Seg
open Go.RowKit Go.Proofs.YtkdnfikaodkhnaaGreatDoor.Disk Go.Proofs.YtkdnfikaodkhnaaGreatDoor.Rec
set_option linter.unusedVariables false
set_option linter.unusedSimpArgs false

structure Crashes (SG : Own → World → World → Sv → Prop) : Prop where
  crash : ∀ {own : Own} {w0 w : World} {v : Sv} {B m c : Nat} {A : Option Addr} {keep : List Bool} (n torn : Int), SG own w0 w v → Row w B A m (lvs keep) → B ≤ w.heap.size → m ≤ 1099511627776 →
    Calls Tryz.prog 13 #[ptr v.f, .int .i64 n, .slice A m c, .int .i64 torn] w fun e w' => ∃ own' f' d d', e = .returned (ptr f') ∧ SG own' w0 w' v ∧ St d v.rm v.N v.S v.wt [(v.g, v.x)] ∧ Held own' w0 w' v.f d v.K ∧ Held own' w0 w' f' d' v.K ∧ d.Crashed d' n keep torn ∧ w.heap.size ≤ f' ∧ Fr own own' w w' ∧ (∀ w2 v2, SG own w2 w v2 → SG own' w2 w' v2)
  lt : ∀ {own : Own} {w0 w : World} {v : Sv}, SG own w0 w v → v.sg < w.heap.size ∧ v.f < w.heap.size
  opens : ∀ {own : Own} {w0 w : World} {f K id num g : Nat} {d : Dk} {rm : Int} {N S : Dir} {wt : List Chg} {x : Fl}, Tabs w0 → Held own w0 w f d K → St d rm N S wt [(g, x)] → N = [(segName id num, g)] → id < 4294967296 → num ≤ 1099511627776 →
    Calls Tryz.prog 15 #[ptr f, .int .u32 (id : Int), .int .i64 (num : Int)] w fun e w' => ∃ own' sg, e = .returned (.tuple #[ptr sg, .int .i64 0]) ∧ w.heap.size ≤ sg ∧ SG own' w0 w' ⟨f, sg, id, num, rm, N, S, wt, g, x, K⟩ ∧ FrS SG f sg own own' w w'
  grow : ∀ {own : Own} {w0 w w' : World} {v : Sv} {row : Option Nat}, SG own w0 w v → w.grownBy w' row → (∀ g, row = some g → own g = none ∧ w0.heap.size ≤ g) → SG own w0 w' v
end Go.Proofs.YtkdnfikaodkhnaaGreatDoor.Seg
