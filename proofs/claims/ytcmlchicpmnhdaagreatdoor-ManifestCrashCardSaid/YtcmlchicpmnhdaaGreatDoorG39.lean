/-
  Texts one behind the other: ManPut, DiskArm.
-/
import Derived.Lib.SliceRun
import Derived.Test.YtcmlchicpmnhdaaGreatDoorG33
import Derived.Test.YtcmlchicpmnhdaaGreatDoorG37
import Derived.Test.YtcmlchicpmnhdaaGreatDoorG38
/-
  Proved: what Put of package manifest returns, whatever Save does: too many, what may not be, or Save's own answer.
-/
namespace Go.Proofs.YtcmlchicpmnhdaaGreatDoor.Man
open Go.RowKit Go.Proofs.YtcmlchicpmnhdaaGreatDoor.Rec Go.Proofs.YtcmlchicpmnhdaaGreatDoor.Ten Go.Proofs.YtcmlchicpmnhdaaGreatDoor.Disk
open Go.Proofs.YtcmlchicpmnhdaaGreatDoor.Slot (Sf)
open Go.Proofs.YtcmlchicpmnhdaaGreatDoor.Seg (ptr)
set_option linter.unusedVariables false
set_option linter.unusedSimpArgs false

theorem insert_any {w0 w : World} {A : Option Addr} {n c nb i : Nat} {l : List Tv} {x : Tv} (h : TenOwn w0 w (.slice A n c) l) (hln : l.length = n) (hi : i ≤ n) (hx : TenAt w nb x) (hnb : some nb ≠ (Value.slice A n c).ownBlock) (hn : n ≤ 1000) :
    Calls Tryz.prog 26 #[.slice A n c, .int .i64 (i : Int), .slice (some ⟨nb, 0, none⟩) 1 1] w (Inserted w0 w (.slice A n c) n i l x) := by
  by_cases hin : i = n
  · subst hin
    exact insert_end h hln hx hn
  · rcases h.row.2 with ⟨_, h0⟩ | ⟨g, cap, cur, hv, hb, hg, hnc, hm, hcs, hxs⟩
    · omega
    · injection hv with e1 e2 e3
      subst e1 e3
      rw [hln] at hxs hnc
      have hng : nb ≠ g := fun e => hnb (by rw [e]; rfl)
      by_cases hroom : n + 1 ≤ c
      · exact insert_room hg hb hcs hxs hm hln (by omega) hx hng hn hroom
      · exact insert_grow hg h.below.size hcs hxs hm hln (by omega) hx hn hnc (by omega)
theorem tflat_set {l : List Tv} {i : Nat} {x : Tv} (h : i < l.length) : tflat (l.set i x) = tflat (l.take i) ++ x.vals.toList ++ tflat (l.drop (i + 1)) := by
  rw [List.set_eq_take_append_cons_drop, if_pos h]
  unfold tflat
  rw [List.flatMap_append, List.flatMap_cons, List.append_assoc]
/-- A row of which one tenant was stored anew. -/
theorem own_set {w' : World} {base g n c i : Nat} {cur : Array Value} {l : List Tv} {x : Tv} (hln : l.length = n) (hb : base ≤ g) (hnc : n ≤ c) (hm : c ≤ maxLen) (hcs : cur.size = c * 6) (hxs : cur.toList.take (n * 6) = tflat l) (hi : i < n)
    (hg : Blk w' g 35 (splice cur.toList (i * 6) x.vals.toList).toArray) : w'.ownsRow base 35 6 (.slice (some ⟨g, 0, none⟩) n c) n (tflat (l.set i x)) := by
  have hxl := tcells_length x
  have hcl : cur.toList.length = c * 6 := by rw [Array.length_toList]; exact hcs
  refine ⟨by rw [tflat_length, List.length_set, hln], .inr ⟨g, c, _, rfl, hb, hg, hnc, hm, ?_, ?_⟩⟩
  · unfold splice
    rw [List.size_toArray, List.length_append, List.length_append, List.length_take, List.length_drop, hcl, hxl]
    omega
  · rw [List.toList_toArray, tflat_set (by omega), ← tflat_take l i (by omega), ← tflat_drop l (i + 1) (by omega), ← hxs, List.take_take, Nat.min_eq_left (by omega)]
    unfold splice
    rw [hxl, List.append_assoc]
    have e1 : (cur.toList.take (i * 6)).length = i * 6 := by rw [List.length_take, hcl]; omega
    rw [List.take_append, e1, List.take_of_length_le (by rw [e1]; omega)]
    congr 1
    rw [List.take_append, hxl, List.take_of_length_le (by rw [hxl]; omega)]
    congr 1
    rw [List.drop_take, show (i + 1) * 6 = i * 6 + 6 by omega]
    all_goals (congr 1 <;> omega)
theorem map_set {l : List Tv} {i : Nat} {x : Tv} : (l.set i x).map Tv.te = (l.map Tv.te).set i x.te := by rw [List.map_set]
theorem parts_take {l : List Tv} {id i : Nat} (h : Parts l id i i) : ∀ y ∈ (l.map Tv.te).take i, y.id < id := by
  intro y hy
  obtain ⟨k, hk, rfl⟩ := List.getElem_of_mem hy
  rw [List.length_take] at hk
  have hk2 : k < l.length := by have : (l.map Tv.te).length = l.length := List.length_map ..; omega
  have := h.low k (by omega)
  rw [idAt_of (List.getElem?_eq_getElem hk2)] at this
  rw [List.getElem_take, List.getElem_map]
  exact this
theorem parts_drop {l : List Tv} (hr : Rises (l.map Tv.te)) {id i : Nat} (h : Parts l id i i) (hn : ¬ (i < l.length ∧ idAt l i = id)) : ∀ y ∈ (l.map Tv.te).drop i, id < y.id := by
  intro y hy
  have hne := parts_none hr h hn y (List.mem_of_mem_drop hy)
  obtain ⟨k, hk, rfl⟩ := List.getElem_of_mem hy
  rw [List.length_drop, List.length_map] at hk
  have := h.high (i + k) (by omega) (by omega)
  rw [idAt_of (List.getElem?_eq_getElem (by omega : i + k < l.length))] at this
  rw [List.getElem_drop, List.getElem_map] at hne ⊢
  omega
theorem put_there {l : List Tv} {x : Tv} {i : Nat} (hr : Rises (l.map Tv.te)) (h : Parts l x.te.id i i) (hi : i < l.length) (he : idAt l i = x.te.id) : (l.set i x).map Tv.te = put x.te false (l.map Tv.te) := by
  rw [map_set]
  refine (put_set hr (parts_take h) (by rw [List.length_map]; exact hi) ?_).symm
  rw [List.getElem_map, ← he, idAt_of (List.getElem?_eq_getElem hi)]
theorem put_here {l : List Tv} {x : Tv} {i : Nat} (hr : Rises (l.map Tv.te)) (h : Parts l x.te.id i i) (hn : ¬ (i < l.length ∧ idAt l i = x.te.id)) : (l.take i ++ x :: l.drop i).map Tv.te = put x.te false (l.map Tv.te) := by
  rw [put_ins (parts_take h) (parts_drop hr h hn), List.map_append, List.map_cons, List.map_take, List.map_drop]
/-- The tenants are ready to be written. -/
structure Ready (w w3 : World) (A : Option Addr) (n c : Nat) (l : List Tv) (next : List Te) : Prop where
  tens : Tens w3 w3.heap.size A n l
  te : l.map Tv.te = next
  cap : n ≤ c
  most : c ≤ maxLen
  below : Below w.heap.size w w3
theorem ready_of {w w0 w3 : World} {v : Value} {n : Nat} {l l' : List Tv} {x : Tv} {next : List Te} (hrow : w3.ownsRow w0.heap.size 35 6 v n (tflat l')) (hn : l'.length = n) (hte : l'.map Tv.te = next) (hb : Below w.heap.size w w3) (hmem : ∀ y ∈ l', y = x ∨ y ∈ l)
    (hl : ∀ y ∈ l, SegOwn w0.heap.size w3 y ∧ y.te.Ok) (hok : x.te.Ok) (hin : x.In w w.heap.size) : ∃ A c, v = .slice A n c ∧ Ready w w3 A n c l' next := by
  obtain ⟨A, c, rfl, h1, h2, h3⟩ := own_row hrow
  refine ⟨A, c, rfl, ⟨⟨hn, h3, fun y hy => ?_, fun y hy => ?_⟩, hte, h1, h2, hb⟩⟩
  · rcases hmem y hy with rfl | h
    · exact hok
    · exact (hl y h).2
  · rcases hmem y hy with rfl | h
    · exact (hin.below hb).more hb.size
    · exact (hl y h).1.in
/-- Segments stay where a row of tenants turns. -/
theorem segs_stay {w w' : World} {base base2 n : Nat} {v : Value} {xs : List Value} {y : Tv} (h : SegOwn base w y) (hr : w.ownsRow base2 35 6 v n xs) (hg : w.grownBy w' v.ownBlock) : SegOwn base w' y :=
  own_kept h hg (fun k hk e => by
    rcases hr.2 with ⟨h0, _⟩ | ⟨g2, c2, u2, hv2, _, hg2, _⟩
    · rw [h0] at e; simp [Value.ownBlock] at e
    · have : v.ownBlock = some g2 := by rw [hv2]; rfl
      rw [this] at e
      injection e with e
      subst e
      exact own_not h (show Blk w k 35 u2 from hg2) seg_kinds hk.symm)
/-- A tenant is stored into a row. -/
theorem store_ten_at {w : World} {ops : Array Oper} {rest : List Oper} {o : Oper} {a : Act} {Q : Exit → Act → World → Prop} (y z : Operand) (ho : o.op = .store 35 y z) (hgd : o.guard = none) (hd : o.dst = none)
    (g off : Nat) (x : Tv) (hx : a.eval y = .pointer (some ⟨g, off, none⟩)) (hy : a.eval z = .agg x.vals) (cur : List Value) (hg : Blk w g 35 cur.toArray) (hfit : off + x.vals.size ≤ cur.length)
    (k : ∀ w', Hid (Blk w' g 35 (splice cur off x.vals.toList).toArray) → Hid (w.grownBy w' (some g)) → wpList Tryz.prog ops Q rest a w') : wpList Tryz.prog ops Q (o :: rest) a w :=
  wpList_store_at hgd 35 y z ho g off x.vals hx hy 35 cur hg ten_size hfit x.vals_one fun w' h1 h2 => by rw [hd]; exact k w' h1 h2
/-- What Put says. -/
def PutSaid (next : List Te) (Q : Int → World → Prop) (w : World) (e : Ending) (w' : World) : Prop :=
  ∃ er : Int, e = .returned (.int .i64 er) ∧ ((6 < next.length ∧ er = 2 ∧ Below w.heap.size w w') ∨ (next.length ≤ 6 ∧ ¬ May next ∧ er = 5 ∧ Below w.heap.size w w') ∨ (May next ∧ Q er w'))
set_option maxRecDepth 100000 in
set_option maxHeartbeats 8000000 in
theorem manput_any {own : Own} {w : World} {v : Sf} {m : Nat} {L : List Te} {x : Tv} {Q : Int → World → Prop} (next : List Te) (hnx : next = put x.te false L) (h : Slot.Lies own w v) (hm : ManAt w m v.sf) (ht : Txt v.txt L) (hok : x.te.Ok) (hin : x.In w w.heap.size)
    (HS : Hid (May next → ∀ W A c, Below w.heap.size w W → W.ownsRow w.heap.size 5 1 (.slice A (encAll next).length c) (encAll next).length (bvs (encAll next)) → (encAll next).length ≤ c → c ≤ maxLen →
      Calls Tryz.prog 27 #[.pointer (some ⟨v.sf, 0, none⟩), .slice A (encAll next).length c] W fun e w' => ∃ er : Int, e = .returned (.int .i64 er) ∧ Q er w')) :
    Calls Tryz.prog 11 #[.pointer (some ⟨m, 0, none⟩), .agg x.vals] w (PutSaid next Q w) := by
  have hsn : ∀ (W : World) (ad : Addr) (n c : Nat), (binOp .eql 51 (.slice (some ad) n c) (.slice none 0 0)).run Tryz.prog W = .ok (.bool false) W := fun W ad n c => Lib.run_eql_slice_nil W 51 5 (some ad) n c 0 0 Tryz.underlying51
  have hsm : ∀ (W : World), (binOp .eql 51 (.slice none 0 0) (.slice none 0 0)).run Tryz.prog W = .ok (.bool true) W := fun W => Lib.run_eql_slice_nil W 51 5 none 0 0 0 0 Tryz.underlying51
  obtain ⟨w0, hw0⟩ : ∃ w0, w0 = w.alloc (.cells x.vals 35) := ⟨_, rfl⟩
  have HB0 : Hid (Below w.heap.size w w0) := by rw [hw0]; exact below_alloc w _
  have X0 : Hid (TenAt w0 w.heap.size x) := by rw [hw0]; exact ten_new w x
  obtain ⟨tb, htb⟩ : ∃ tb, tb = w.heap.size := ⟨_, rfl⟩
  rw [← htb] at X0
  have HTB := Lib.hid htb
  have CA := Lib.hid (manall_any (h.all HB0.out) (hm.below HB0.out hm.lt) ht)
  have HRI := Lib.hid (may_rises ht.may)
  have HL6 := Lib.hid ht.may.1
  have HNX := Lib.hid hnx
  have HM := Lib.hid hm
  have HOK := Lib.hid hok
  have HIN := Lib.hid hin
  obtain ⟨sf, hsf⟩ : ∃ sf, sf = v.sf := ⟨_, rfl⟩
  rw [← hsf] at HS HM
  have HI32 := Lib.hid hok.id
  clear h hm ht hnx hok hin htb hsf
  go_enter Tryz.func11, Tryz.ntmps11
  go_upto_region 1 with fail
  rw [← hw0, ← HTB.out]
  clear hw0
  go_upto_region 4 with (go_at_call 17; (with_reducible refine CA.out.mono ?_); rintro e w1 ⟨va, l, rfl, hl, hto⟩; have HL := Lib.hid hl; have HT := Lib.hid hto; clear hl hto)
  obtain ⟨A, c, rfl, q1, q2, htens⟩ := HT.out.form
  have HRL : Hid (Rises (l.map Tv.te)) := Lib.hid (by rw [HL.out]; exact HRI.out)
  have hlen : l.length ≤ 6 := by have := HL6.out; rw [← HL.out, List.length_map] at this; exact this
  obtain ⟨id, hid⟩ : ∃ id, id = x.te.id := ⟨_, rfl⟩
  have CP := Lib.hid (placeOf_any A l.length c l id w1 htens q1 q2 (by omega) HRL.out)
  have HB1 := Lib.hid (HB0.out.trans (HT.out.below.mono HB0.out.size))
  have X1 := Lib.hid (X0.out.below HT.out.below X0.out.lt)
  have y0 := X1.out.cells.1
  rw [← hid] at y0
  have HID := Lib.hid hid
  obtain ⟨n, hn⟩ : ∃ n, n = l.length := ⟨_, rfl⟩
  rw [← hn] at CP q1 hlen ⊢
  have HN := Lib.hid hn
  have HQ2 := Lib.hid q2
  have hcm : c ≤ 9223372036854775807 := by unfold maxLen at q2; exact q2
  clear htens hn q2 CA hid
  go_upto_region 6 with (go_at_call 25; (with_reducible refine CP.out.mono ?_); rintro e w2 ⟨i, t, rfl, h1, h2, h3, h4⟩; have H1 := Lib.hid h1; have H2 := Lib.hid h2; have H3 := Lib.hid h3; have H4 := Lib.hid h4; clear h1 h2 h3 h4)
  have HB2 := Lib.hid (HB1.out.trans (H4.out.mono HB1.out.size))
  have HT2 := Lib.hid (HT.out.all H4.out)
  rw [← HN.out] at HT2
  have X2 := Lib.hid (X1.out.below H4.out X1.out.lt)
  have HLE : Hid (i ≤ n) := Lib.hid (by rw [HN.out]; exact H1.out)
  clear CP y0 X1
  cases t with
  | true =>
    obtain ⟨hin, hidd⟩ := H3.out.1 rfl
    have hin' : i < n := by rw [HN.out]; exact hin
    have hinI : (i : Int) < (n : Int) := by omega
    have HNE : Hid ((l.set i x).map Tv.te = next) := Lib.hid (by rw [put_there HRL.out (by rw [← HID.out]; exact H2.out) hin (by rw [← HID.out]; exact hidd), HL.out, HNX.out])
    have HLEN : Hid (next.length ≤ 6) := Lib.hid (by rw [← HNE.out, List.length_map, List.length_set, ← HN.out]; exact hlen)
    rcases HT2.out.row.2 with ⟨_, h0⟩ | ⟨g, cap, cur, hv, hb, hg, hnc, hmx, hcs, hxs⟩
    · have := HN.out; omega
    · injection hv with e1 e2 e3
      subst e1 e3
      rw [← HN.out] at hxs hnc
      have HG : Hid (Blk w2 g 35 cur.toList.toArray) := Lib.hid (by rw [Array.toArray_toList]; exact hg)
      have HFIT : Hid (i * 6 + x.vals.size ≤ cur.toList.length) := Lib.hid (by rw [Array.length_toList, hcs]; show i * 6 + 6 ≤ _; omega)
      have HNC := Lib.hid hnc
      have HRW : Hid (∀ w3 : World, Blk w3 g 35 (splice cur.toList (i * 6) x.vals.toList).toArray → w2.grownBy w3 (some g) → ∃ A3 c3, (Value.slice (some ⟨g, 0, none⟩) n c) = .slice A3 n c3 ∧ Ready w w3 A3 n c3 (l.set i x) next) := Lib.hid fun w3 hb3 hg3 => by
        have hbw : w.heap.size ≤ g := Nat.le_trans HB0.out.size hb
        refine ready_of (w0 := w0) (l := l) (x := x) (own_set HN.out.symm hb hnc hmx hcs hxs hin' hb3) (by rw [List.length_set]; exact HN.out.symm) HNE.out (below_only HB2.out hg3 hbw HB2.out.size) (fun y hy => ?_) (fun y hy => ⟨segs_stay (HT2.out.each y hy) HT2.out.row hg3, HT2.out.ok y hy⟩) HOK.out HIN.out
        rcases List.mem_or_eq_of_mem_set hy with h | h
        · exact .inr h
        · exact .inl h
      have hgi : ∀ j, w2.frozen? ⟨g, j, none⟩ = false := fun j => Blk.free hg j
      clear hin hidd hcs hxs hg e2 hb hnc hmx
      go_upto_region 10 with (first
        | (refine load_ten X2.out rfl (.tmp 3) rfl rfl ?_)
        | (refine store_ten_at (.tmp 30) (.tmp 29) rfl rfl rfl g (i * 6) x rfl rfl cur.toList HG.out HFIT.out ?_; intro w3 B3 G3))
      obtain ⟨A3, c3, e3, hrd⟩ := HRW.out w3 B3.out G3.out
      injection e3 with f1 f2 f3
      subst f1 f3
      have HRD := Lib.hid hrd
      have hcm3 : c ≤ 9223372036854775807 := hcm
      have hnc3 : n ≤ c := HNC.out
      clear hrd G3 B3 hgi HG HFIT HRW
      by_cases hmay : May next
      · have CE := encode_ok (some ⟨g, 0, none⟩) n c (l.set i x) w3 HRD.out.tens HRD.out.cap HRD.out.most (by rw [HRD.out.te]; exact hmay)
        rw [HRD.out.te] at CE
        have CE' := Lib.hid CE
        have HMY := Lib.hid hmay
        have hN1 : 0 < (encAll next).length := by unfold encAll; rw [List.length_append, be_length]; omega
        obtain ⟨N, hN⟩ : ∃ N, N = (encAll next).length := ⟨_, rfl⟩
        have HSS := Lib.hid (HS.out hmay)
        rw [← hN] at CE' HSS hN1
        have HN0 := Lib.hid hN1
        clear CE hmay hN
        go_upto_region 11 with (go_at_call 22; (with_reducible refine CE'.out.mono ?_); rintro e w4 ⟨A4, c4, rfl, R4, p1, p2, hb4⟩; have P1 := Lib.hid p1; have P2 := Lib.hid p2; have B4 := Lib.hid hb4; clear p1 p2 hb4)
        obtain ⟨b4, o4, rfl, _, _⟩ := (Row.own R4.out).2 HN0.out
        have HBW := Lib.hid (HRD.out.below.trans (B4.out.mono HRD.out.below.size))
        have CSV := Lib.hid (HSS.out w4 _ c4 HBW.out (own_base R4.out HRD.out.below.size) P1.out P2.out)
        have yf : w4.cell? ⟨m, 0, none⟩ = some (.pointer (some ⟨sf, 0, none⟩)) := Blk.cell (HM.out.below HBW.out HM.out.lt) 0
        clear CE' HSS P1 P2 R4
        go_wp2_with (go_at_call 27; (with_reducible refine CSV.out.mono ?_); rintro e w5 ⟨er, rfl, hq⟩; have HQ := Lib.hid hq; clear hq)
        go_ret
        exact ⟨er, rfl, .inr (.inr ⟨HMY.out, HQ.out⟩)⟩
      · have CE := Lib.hid (encode_bad (some ⟨g, 0, none⟩) n c (l.set i x) w3 HRD.out.tens HRD.out.cap HRD.out.most (by rw [HRD.out.te]; exact hmay))
        have HMY := Lib.hid hmay
        clear hmay
        go_wp2_with (go_at_call 22; (with_reducible refine CE.out.mono ?_); rintro e w4 ⟨rfl, hb4⟩; have B4 := Lib.hid hb4; clear hb4)
        go_ret
        exact ⟨5, rfl, .inr (.inl ⟨HLEN.out, HMY.out, rfl, HRD.out.below.trans (B4.out.mono HRD.out.below.size)⟩)⟩
  | false =>
    have HNI : Hid (¬ (i < l.length ∧ idAt l i = x.te.id)) := Lib.hid (fun hh => by have := H3.out.2 (by rw [HID.out]; exact hh); cases this)
    have HNE : Hid ((l.take i ++ x :: l.drop i).map Tv.te = next) := Lib.hid (by rw [put_here HRL.out (by rw [← HID.out]; exact H2.out) HNI.out, HL.out, HNX.out])
    have HNL : Hid ((l.take i ++ x :: l.drop i).length = n + 1) := Lib.hid (by rw [List.length_append, List.length_cons, List.length_take, List.length_drop, ← HN.out]; have := HLE.out; omega)
    have HNLEN : Hid (next.length = n + 1) := Lib.hid (by rw [← HNE.out, List.length_map]; exact HNL.out)
    by_cases h6 : 6 ≤ n
    · have h6' : (6 : Int) ≤ (n : Int) := by omega
      go_wp2_with fail
      go_ret
      exact ⟨2, rfl, .inl ⟨by rw [HNLEN.out]; omega, rfl, HB2.out⟩⟩
    · have h6' : ¬ (6 : Int) ≤ (n : Int) := by omega
      have HLEN : Hid (next.length ≤ 6) := Lib.hid (by rw [HNLEN.out]; omega)
      have HA := Lib.hid (below_alloc w2 (.cells x.vals 35))
      have HTA := Lib.hid (HT2.out.all HA.out)
      have HXA := Lib.hid (ten_new w2 x)
      have CI := Lib.hid (insert_any (i := i) HTA.out HN.out.symm HLE.out HXA.out (fun e => by
        have := (HT2.out.row.lt w2.heap.size e.symm).2
        omega) (by omega))
      have HRW : Hid (∀ v3 w3, w3.ownsRow w0.heap.size 35 6 v3 (n + 1) (tflat (l.take i ++ x :: l.drop i)) → (w2.alloc (.cells x.vals 35)).grownBy w3 (Value.slice A n c).ownBlock → ∃ A3 c3, v3 = .slice A3 (n + 1) c3 ∧ Ready w w3 A3 (n + 1) c3 (l.take i ++ x :: l.drop i) next) := Lib.hid fun v3 w3 hr3 hg3 => by
        have hba := HB2.out.trans (HA.out.mono HB2.out.size)
        have hb3 : Below w.heap.size w w3 := hba.grown hg3 hba.size (fun k hk => Nat.le_trans HB0.out.size (HT2.out.row.lt k hk).1)
        refine ready_of (w0 := w0) (l := l) (x := x) hr3 HNL.out HNE.out hb3 (fun y hy => ?_) (fun y hy => ⟨segs_stay (HTA.out.each y hy) HTA.out.row hg3, HT2.out.ok y hy⟩) HOK.out HIN.out
        rcases List.mem_append.1 hy with h | h
        · exact .inr (List.mem_of_mem_take h)
        · rcases List.mem_cons.1 h with h | h
          · exact .inl h
          · exact .inr (List.mem_of_mem_drop h)
      clear h6
      go_upto_region 10 with (first
        | (refine load_ten X2.out rfl (.tmp 3) rfl rfl ?_)
        | (refine build_oneTen rfl (.tmp 22) rfl (some 23) rfl x rfl ?_)
        | (go_at_call 26; (with_reducible refine CI.out.mono ?_); rintro e w3 ⟨v3, rfl, h3a, h3b⟩; have H3A := Lib.hid h3a; have H3B := Lib.hid h3b; clear h3a h3b))
      obtain ⟨A3, c3, rfl, hrd⟩ := HRW.out v3 w3 H3A.out H3B.out
      have HRD := Lib.hid hrd
      have hcm3 : c3 ≤ 9223372036854775807 := by have := hrd.most; unfold maxLen at this; exact this
      have hnc3 : n + 1 ≤ c3 := hrd.cap
      obtain ⟨n1, hn1⟩ : ∃ n1, n1 = n + 1 := ⟨_, rfl⟩
      rw [← hn1] at HRD hnc3 ⊢
      clear hrd H3A H3B HRW CI hn1
      by_cases hmay : May next
      · have CE := encode_ok A3 n1 c3 (l.take i ++ x :: l.drop i) w3 HRD.out.tens HRD.out.cap HRD.out.most (by rw [HRD.out.te]; exact hmay)
        rw [HRD.out.te] at CE
        have CE' := Lib.hid CE
        have HMY := Lib.hid hmay
        have hN1 : 0 < (encAll next).length := by unfold encAll; rw [List.length_append, be_length]; omega
        obtain ⟨N, hN⟩ : ∃ N, N = (encAll next).length := ⟨_, rfl⟩
        have HSS := Lib.hid (HS.out hmay)
        rw [← hN] at CE' HSS hN1
        have HN0 := Lib.hid hN1
        clear CE hmay hN
        go_upto_region 11 with (go_at_call 22; (with_reducible refine CE'.out.mono ?_); rintro e w4 ⟨A4, c4, rfl, R4, p1, p2, hb4⟩; have P1 := Lib.hid p1; have P2 := Lib.hid p2; have B4 := Lib.hid hb4; clear p1 p2 hb4)
        obtain ⟨b4, o4, rfl, _, _⟩ := (Row.own R4.out).2 HN0.out
        have HBW := Lib.hid (HRD.out.below.trans (B4.out.mono HRD.out.below.size))
        have CSV := Lib.hid (HSS.out w4 _ c4 HBW.out (own_base R4.out HRD.out.below.size) P1.out P2.out)
        have yf : w4.cell? ⟨m, 0, none⟩ = some (.pointer (some ⟨sf, 0, none⟩)) := Blk.cell (HM.out.below HBW.out HM.out.lt) 0
        clear CE' HSS P1 P2 R4
        go_wp2_with (go_at_call 27; (with_reducible refine CSV.out.mono ?_); rintro e w5 ⟨er, rfl, hq⟩; have HQ := Lib.hid hq; clear hq)
        go_ret
        exact ⟨er, rfl, .inr (.inr ⟨HMY.out, HQ.out⟩)⟩
      · have CE := Lib.hid (encode_bad A3 n1 c3 (l.take i ++ x :: l.drop i) w3 HRD.out.tens HRD.out.cap HRD.out.most (by rw [HRD.out.te]; exact hmay))
        have HMY := Lib.hid hmay
        clear hmay
        go_wp2_with (go_at_call 22; (with_reducible refine CE.out.mono ?_); rintro e w4 ⟨rfl, hb4⟩; have B4 := Lib.hid hb4; clear hb4)
        go_ret
        exact ⟨5, rfl, .inr (.inl ⟨HLEN.out, HMY.out, rfl, HRD.out.below.trans (B4.out.mono HRD.out.below.size)⟩)⟩
theorem mannil_put (x : Tv) (w : World) : Calls Tryz.prog 11 #[.pointer none, .agg x.vals] w fun e w' => e = .returned (.int .i64 10) ∧ Below w.heap.size w w' := by
  obtain ⟨w0, hw0⟩ : ∃ w0, w0 = w.alloc (.cells x.vals 35) := ⟨_, rfl⟩
  have HB0 : Hid (Below w.heap.size w w0) := by rw [hw0]; exact below_alloc w _
  go_enter Tryz.func11, Tryz.ntmps11
  go_upto_region 1 with fail
  rw [← hw0]
  clear hw0
  go_wp2_with fail
  go_ret
  exact ⟨rfl, HB0.out⟩
end Go.Proofs.YtcmlchicpmnhdaaGreatDoor.Man
/-
  A disk of which a call is to fail, as a number; what a crash leaves of a disk of one file.
-/
namespace Go.Proofs.YtcmlchicpmnhdaaGreatDoor.Seg
open Go.RowKit Go.Proofs.YtcmlchicpmnhdaaGreatDoor.Disk
set_option linter.unusedVariables false
set_option linter.unusedSimpArgs false

theorem failRaw_held {own : Own} {w0 w : World} {f K : Nat} {d : Dk} (n : Int) (h : Held own w0 w f d K) (hn : n ≤ 9223372036854775807) :
    Calls Tryz.prog 18 #[.pointer (some ⟨f, 0, none⟩), .int .i64 n] w fun e w' => e = .returned undef ∧ Held own w0 w' f { d with failing := decide (0 ≤ n), others := max n 0 } K ∧ Step own own f w w' := by
  obtain ⟨nb, sb, wv, hd⟩ := h.disk
  refine (fail_raw f nb sb wv d n w hd.blk).mono ?_
  rintro e w' ⟨he, hb, hg⟩
  obtain ⟨h1, h2, h3, h4, h5, h6, h7, h8⟩ := hd.ok
  have hd' : DiskIn own w' f { d with failing := decide (0 ≤ n), others := max n 0 } K nb sb wv := hd.put hg hb rfl rfl rfl rfl ⟨h1, h2, h3, h4, h5, h6, h7, by show 0 ≤ max n 0 ∧ max n 0 ≤ _; omega⟩
  have hst : Step own own f w w' := Step.of_grown hd.top hd.of hg
  exact ⟨he, h.next hst ⟨nb, sb, wv, hd'⟩, hst⟩
theorem crashed_one {d d' : Dk} {n : Int} {keep : List Bool} {torn : Int} {nm : Nm} {g : Nat} (h : d.Crashed d' n keep torn) (hw : d.wait = []) (hS : d.S = [(nm, g)]) :
    ∃ g', St d' d.room [(nm, g')] [(nm, g')] [] [(g', ⟨(d.fl g).crash (partsFor 0 (d.fl g).soiled.length keep torn), (d.fl g).crash (partsFor 0 (d.fl g).soiled.length keep torn), []⟩)] := by
  have hdir : d.crashDir n = [(nm, g)] := by rw [Dk.crashDir, hw, hS, List.take_nil]; rfl
  have hfl := h.files
  rw [hdir] at hfl
  have e : (crashFiles d.fl keep torn 0 [(nm, g)]).map (fun p => (p.1, (⟨p.2, p.2, []⟩ : Fl))) = [(nm, ⟨(d.fl g).crash (partsFor 0 (d.fl g).soiled.length keep torn), (d.fl g).crash (partsFor 0 (d.fl g).soiled.length keep torn), []⟩)] := rfl
  rw [e] at hfl
  unfold Dk.files at hfl
  match hN : d'.N with
  | [] => rw [hN] at hfl; have := congrArg List.length hfl; simp at this
  | [(n1, g1)] =>
    rw [hN] at hfl
    have hfl : [(n1, d'.fl g1)] = [(nm, (⟨(d.fl g).crash (partsFor 0 (d.fl g).soiled.length keep torn), (d.fl g).crash (partsFor 0 (d.fl g).soiled.length keep torn), []⟩ : Fl))] := hfl
    injection hfl with h1
    injection h1 with h1 h2
    subst h1
    exact ⟨g1, h.room, h.failing, hN, by rw [h.synced, hN], h.wait, fun p hp => by obtain rfl := List.mem_singleton.1 hp; exact h2⟩
  | p :: q :: r => rw [hN] at hfl; have := congrArg List.length hfl; simp at this
end Go.Proofs.YtcmlchicpmnhdaaGreatDoor.Seg
namespace Go.Proofs.YtcmlchicpmnhdaaGreatDoor.Disk
/-- How many changing calls there are ahead of the one that fails; none: no call fails. -/
def Dk.arm (d : Dk) : Option Nat := if d.failing = true then some d.others.toNat else none
theorem Dk.arm_none {d : Dk} (h : d.arm = none) : d.failing = false := by
  unfold Dk.arm at h
  split at h
  · cases h
  · rename_i hf
    simpa using hf
theorem Dk.arm_some {d : Dk} {k : Nat} (h : d.arm = some k) : d.failing = true ∧ d.others.toNat = k := by
  unfold Dk.arm at h
  split at h
  · rename_i hf
    injection h with h
    exact ⟨hf, h⟩
  · cases h
/-- .. behind a changing call. -/
def armed : Option Nat → Option Nat
  | none => none
  | some 0 => none
  | some (k + 1) => some k
theorem Dk.begin_arm (d : Dk) : d.begin.arm = armed d.arm := by
  by_cases hf : d.failing = true
  · by_cases h0 : 0 < d.others
    · have e : d.begin = { d with calls := d.calls + 1, others := d.others - 1 } := by
        unfold Dk.begin
        rw [if_neg (by rw [hf]; simp), if_pos h0]
      have e1 : d.arm = some ((d.others - 1).toNat + 1) := by
        unfold Dk.arm
        rw [if_pos hf]
        congr 1
        omega
      rw [e, e1]
      unfold Dk.arm
      rw [if_pos hf]
      rfl
    · have e : d.begin = { d with calls := d.calls + 1, failing := false } := by
        unfold Dk.begin
        rw [if_neg (by rw [hf]; simp), if_neg h0]
      have e1 : d.arm = some 0 := by
        unfold Dk.arm
        rw [if_pos hf]
        congr 1
        omega
      rw [e, e1]
      rfl
  · have hf' : d.failing = false := by simpa using hf
    have e : d.begin = { d with calls := d.calls + 1 } := by
      unfold Dk.begin
      rw [if_pos hf']
    have e1 : d.arm = none := by
      unfold Dk.arm
      rw [if_neg hf]
    rw [e, e1]
    unfold Dk.arm
    rw [if_neg hf]
    rfl
theorem Dk.err_arm {d : Dk} (h : d.arm ≠ some 0) : d.err = 0 := by
  unfold Dk.err
  split
  · rename_i hh
    refine absurd ?_ h
    unfold Dk.arm
    rw [if_pos hh.1]
    congr 1
    omega
  · rfl
theorem Dk.err_zero {d : Dk} (h : d.arm = some 0) : d.err = 3 := by
  obtain ⟨h1, h2⟩ := Dk.arm_some h
  unfold Dk.err
  rw [if_pos ⟨h1, by omega⟩]
theorem Dk.begin_room (d : Dk) : d.begin.room = d.room := by
  unfold Dk.begin
  split
  · rfl
  · split <;> rfl
theorem Dk.begin_S (d : Dk) : d.begin.S = d.S := by
  unfold Dk.begin
  split
  · rfl
  · split <;> rfl
theorem Dk.begin_dir (d : Dk) : d.begin.N = d.N := by
  unfold Dk.begin
  split
  · rfl
  · split <;> rfl
theorem Dk.begin_wait (d : Dk) : d.begin.wait = d.wait := by
  unfold Dk.begin
  split
  · rfl
  · split <;> rfl
theorem Dk.begin_fl (d : Dk) : d.begin.fl = d.fl := by
  unfold Dk.begin
  split
  · rfl
  · split <;> rfl
/-- A disk of one file, whose name lasts. -/
structure OneFile (d : Dk) (nm : Nm) (g : Nat) (x : Fl) : Prop where
  N : d.N = [(nm, g)]
  S : d.S = [(nm, g)]
  wait : d.wait = []
  fl : d.fl g = x
theorem OneFile.dget {d : Dk} {nm : Nm} {g : Nat} {x : Fl} (h : OneFile d nm g x) : dget nm d.N = some g := by
  rw [h.N]
  simp [Disk.dget]
theorem OneFile.look {d : Dk} {nm : Nm} {g : Nat} {x : Fl} (h : OneFile d nm g x) : d.look nm = some x := by
  unfold Dk.look
  rw [h.dget]
  exact congrArg some h.fl
theorem OneFile.begin {d : Dk} {nm : Nm} {g : Nat} {x : Fl} (h : OneFile d nm g x) : OneFile d.begin nm g x :=
  ⟨d.begin_dir.trans h.N, d.begin_S.trans h.S, d.begin_wait.trans h.wait, by rw [d.begin_fl]; exact h.fl⟩
theorem OneFile.put {d : Dk} {nm : Nm} {g : Nat} {x : Fl} (h : OneFile d nm g x) (y : Fl) : OneFile (d.withFile g y) nm g y := ⟨h.N, h.S, h.wait, if_pos rfl⟩
theorem OneFile.read {d : Dk} {nm : Nm} {g : Nat} {x : Fl} (h : OneFile d nm g x) (n : Nat) : OneFile (d.read n) nm g x := ⟨h.N, h.S, h.wait, h.fl⟩
/-- What a crash leaves of such a disk. -/
theorem OneFile.crashed {d d' : Dk} {nm : Nm} {g : Nat} {x : Fl} {n : Int} {keep : List Bool} {torn : Int} (o : OneFile d nm g x) (h : d.Crashed d' n keep torn) :
    ∃ g', OneFile d' nm g' ⟨x.crash (partsFor 0 x.soiled.length keep torn), x.crash (partsFor 0 x.soiled.length keep torn), []⟩ ∧ d'.arm = none := by
  obtain ⟨g', hs⟩ := Seg.crashed_one h o.wait o.S
  rw [o.fl] at hs
  exact ⟨g', ⟨hs.N, hs.S, hs.wait, hs.head⟩, by unfold Dk.arm; rw [hs.calm]; rfl⟩
end Go.Proofs.YtcmlchicpmnhdaaGreatDoor.Disk
