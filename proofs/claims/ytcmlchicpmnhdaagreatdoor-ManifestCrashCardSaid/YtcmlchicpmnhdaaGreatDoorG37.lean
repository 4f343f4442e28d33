/-
  Texts one behind the other: ManFind, ManMan, ManGet.
-/
import Derived.Shelf.Abstract
import Derived.Test.YtcmlchicpmnhdaaGreatDoorG08
import Derived.Test.YtcmlchicpmnhdaaGreatDoorG10
import Derived.Test.YtcmlchicpmnhdaaGreatDoorG34
import Derived.Test.YtcmlchicpmnhdaaGreatDoorG36
/-
  Proved: what placeOf of package manifest says of tenants by Id rising: where the first stands whose Id is no less, and whether it is that one.
-/
namespace Go.Proofs.YtcmlchicpmnhdaaGreatDoor.Man
open Go.RowKit Go.Proofs.YtcmlchicpmnhdaaGreatDoor.Rec Go.Proofs.YtcmlchicpmnhdaaGreatDoor.Ten
set_option linter.unusedVariables false
set_option linter.unusedSimpArgs false

def cmpI (a b : Nat) : Int := if a < b then -1 else if b < a then 1 else 0
set_option maxRecDepth 100000 in
set_option maxHeartbeats 4000000 in
theorem isnan_any (a : Nat) (w : World) : Calls Tryz.prog 80 #[.int .u32 (a : Int)] w fun e w' => e = .returned (.bool false) ∧ w = w' := by
  go_enter Tryz.func80, Tryz.ntmps80
  go_wp2_with fail
  go_ret
  exact ⟨rfl, rfl⟩
set_option maxRecDepth 100000 in
set_option maxHeartbeats 4000000 in
theorem cmp_any (a b : Nat) (w : World) : Calls Tryz.prog 52 #[.int .u32 (a : Int), .int .u32 (b : Int)] w fun e w' => e = .returned (.int .i64 (cmpI a b)) ∧ w = w' := by
  have CA := Lib.hid (isnan_any a w)
  have CB := Lib.hid (isnan_any b w)
  by_cases h1 : a < b
  · have h1' : (a : Int) < (b : Int) := by omega
    have e : Hid (cmpI a b = -1) := Lib.hid (if_pos h1)
    clear h1
    go_enter Tryz.func52, Tryz.ntmps52
    go_wp2_with (first
      | (go_at_call 80; (with_reducible refine CA.out.mono ?_); rintro e w' ⟨rfl, rfl⟩)
      | (go_at_call 80; (with_reducible refine CB.out.mono ?_); rintro e w' ⟨rfl, rfl⟩))
    go_ret
    exact ⟨by rw [e.out]; first | done | rfl, rfl⟩
  · have h1' : ¬ (a : Int) < (b : Int) := by omega
    by_cases h2 : b < a
    · have h2' : (b : Int) < (a : Int) := by omega
      have e : Hid (cmpI a b = 1) := Lib.hid (by unfold cmpI; rw [if_neg h1, if_pos h2])
      clear h1 h2
      go_enter Tryz.func52, Tryz.ntmps52
      go_wp2_with (first
        | (go_at_call 80; (with_reducible refine CA.out.mono ?_); rintro e w' ⟨rfl, rfl⟩)
        | (go_at_call 80; (with_reducible refine CB.out.mono ?_); rintro e w' ⟨rfl, rfl⟩))
      go_ret
      exact ⟨by rw [e.out]; first | done | rfl, rfl⟩
    · have h2' : ¬ (b : Int) < (a : Int) := by omega
      have e : Hid (cmpI a b = 0) := Lib.hid (by unfold cmpI; rw [if_neg h1, if_neg h2])
      clear h1 h2
      go_enter Tryz.func52, Tryz.ntmps52
      go_wp2_with (first
        | (go_at_call 80; (with_reducible refine CA.out.mono ?_); rintro e w' ⟨rfl, rfl⟩)
        | (go_at_call 80; (with_reducible refine CB.out.mono ?_); rintro e w' ⟨rfl, rfl⟩))
      go_ret
      exact ⟨by rw [e.out]; first | done | rfl, rfl⟩
set_option maxRecDepth 100000 in
set_option maxHeartbeats 4000000 in
theorem place_cmp (x : Tv) (id : Nat) (w : World) : Calls Tryz.prog 51 #[.agg x.vals, .int .u32 (id : Int)] w fun e w' => e = .returned (.int .i64 (cmpI x.te.id id)) ∧ Below w.heap.size w w' := by
  obtain ⟨w0, hw0⟩ : ∃ w0, w0 = w.alloc (.cells x.vals 35) := ⟨_, rfl⟩
  have HB0 : Hid (Below w.heap.size w w0) := by rw [hw0]; exact below_alloc w _
  have X0 : TenAt w0 w.heap.size x := by rw [hw0]; exact ten_new w x
  have y0 := X0.cells.1
  have CC := Lib.hid (cmp_any x.te.id id w0)
  obtain ⟨z, hz⟩ : ∃ z, z = x.te.id := ⟨_, rfl⟩
  rw [← hz] at y0 CC ⊢
  clear X0 hz
  go_enter Tryz.func51, Tryz.ntmps51
  go_upto_region 1 with fail
  rw [← hw0]
  clear hw0
  go_wp2_with (go_at_call 52; (with_reducible refine CC.out.mono ?_); rintro e w' ⟨rfl, rfl⟩)
  go_ret
  exact ⟨rfl, HB0.out⟩
theorem cmp_lt {a b : Nat} : cmpI a b < 0 ↔ a < b := by
  unfold cmpI
  split
  · omega
  · split <;> omega
theorem cmp_eq {a b : Nat} : cmpI a b = 0 ↔ a = b := by
  unfold cmpI
  split
  · omega
  · split <;> omega
/-- A tenant, out of the middle of a row, where a guard says yes. -/
theorem load_tenW {w : World} {ops : Array Oper} {rest : List Oper} {o : Oper} {a : Act} {Q : Exit → Act → World → Prop} {b p : Nat} {x : Tv} (h : w.rangeAt b p x.vals.toList) (hw : Region.wanted o (yielded ops a.tmps) = true) (y : Operand) (ho : o.op = .load 35 y) (hx : a.eval y = .pointer (some ⟨b, p, none⟩))
    (k : wpList Tryz.prog ops Q rest (a.put o.dst (.agg x.vals)) w) : wpList Tryz.prog ops Q (o :: rest) a w :=
  wpList_want hw fun _ hK => wp_load_mid 35 y ho b p hx x.vals.toList _ h Tryz.underlying35 rfl ten_size (hK _ _ k)
/-- The Id at a place. -/
def idAt (l : List Tv) (k : Nat) : Nat := ((l.map Tv.te).getD k zeroTe).id
theorem idAt_of {l : List Tv} {k : Nat} {x : Tv} (h : l[k]? = some x) : idAt l k = x.te.id := by
  unfold idAt
  rw [List.getD_eq_getElem?_getD, List.getElem?_map, h]
  rfl
theorem idAt_lt {l : List Tv} (hr : Rises (l.map Tv.te)) {a b : Nat} (hab : a < b) (hb : b < l.length) : idAt l a < idAt l b := by
  unfold Rises at hr
  rw [List.pairwise_iff_getElem] at hr
  have := hr a b (by rw [List.length_map]; omega) (by rw [List.length_map]; omega) hab
  unfold idAt
  rw [List.getD_eq_getElem?_getD, List.getD_eq_getElem?_getD, List.getElem?_eq_getElem (by rw [List.length_map]; omega), List.getElem?_eq_getElem (by rw [List.length_map]; omega)]
  exact this
/-- The first i Ids are less, those from j on are not. -/
structure Parts (l : List Tv) (id i j : Nat) : Prop where
  low : ∀ k, k < i → idAt l k < id
  high : ∀ k, j ≤ k → k < l.length → id ≤ idAt l k
theorem parts_low {l : List Tv} (hr : Rises (l.map Tv.te)) {id i j m : Nat} (h : Parts l id i j) (hm : m < l.length) (hlt : idAt l m < id) : Parts l id (m + 1) j :=
  ⟨fun k hk => by
    by_cases e : k = m
    · rw [e]; exact hlt
    · have := idAt_lt hr (show k < m by omega) hm
      omega, h.high⟩
theorem parts_high {l : List Tv} (hr : Rises (l.map Tv.te)) {id i j m : Nat} (h : Parts l id i j) (hm : m < l.length) (hge : id ≤ idAt l m) : Parts l id i m :=
  ⟨h.low, fun k hk hkl => by
    by_cases e : k = m
    · rw [e]; exact hge
    · have := idAt_lt hr (show m < k by omega) hkl
      omega⟩
/-- What placeOf says. -/
def Placed (l : List Tv) (id : Nat) (w : World) (e : Ending) (w' : World) : Prop := ∃ (i : Nat) (t : Bool), e = .returned (.tuple #[.int .i64 (i : Int), .bool t]) ∧ i ≤ l.length ∧ Parts l id i i ∧ (t = true ↔ i < l.length ∧ idAt l i = id) ∧ Below w.heap.size w w'
set_option maxRecDepth 100000 in
set_option maxHeartbeats 8000000 in
theorem mansearch_any (A : Option Addr) (n c : Nat) (l : List Tv) (id : Nat) (w : World) (hR : Tens w w.heap.size A n l) (hnc : n ≤ c) (hc : c ≤ maxLen) (hn : n ≤ 1000000) (hr : Rises (l.map Tv.te)) :
    Calls Tryz.prog 50 #[.slice A n c, .int .u32 (id : Int), .func (.func 51) #[] #[]] w (Placed l id w) := by
  have eg : ∀ args w, (callFunc 51 args).run Tryz.prog w = .ok (.enter 51 args) w := enters_of Tryz.func51 (by kernel_rfl) rfl
  have hcm : c ≤ 9223372036854775807 := by unfold maxLen at hc; exact hc
  have HR := Lib.hid hR
  have HRI := Lib.hid hr
  have HLN : Hid (l.length = n) := Lib.hid hR.len
  clear hR hc hr
  go_enter Tryz.func50, Tryz.ntmps50
  go_wp2_with fail
  go_loopw [9, 10] (fun iv jv wr => ∃ (lo hi : Nat), iv = .int .i64 (lo : Int) ∧ jv = .int .i64 (hi : Int) ∧ lo ≤ hi ∧ hi ≤ n ∧ Hid (Below w.heap.size w wr) ∧ Hid (Parts l id lo hi)) (fun iv jv _ => (RowKit.intOf jv).toNat - (RowKit.intOf iv).toNat)
  case atStart => exact ⟨0, n, rfl, rfl, Nat.zero_le _, Nat.le_refl _, Below.refl _ _, Lib.hid ⟨fun k hk => absurd hk (by omega), fun k h1 h2 => by have := HLN.out; omega⟩⟩
  case round =>
    obtain ⟨lo, hi, rfl, rfl, hlh, hhn, HB, HP⟩ := hrel
    by_cases hlt : lo < hi
    · have hlt' : (lo : Int) < (hi : Int) := by omega
      obtain ⟨m, hm⟩ : ∃ m, m = (lo + hi) / 2 := ⟨_, rfl⟩
      have hmI : ((lo : Int) + (hi : Int)) / 2 = (m : Int) := by omega
      have hm1 : lo ≤ m := by omega
      have hm2 : m < hi := by omega
      have hmn : m < n := by omega
      obtain ⟨b, o, rfl, hb, _⟩ := HR.out.row.2 (by omega)
      obtain ⟨x, hx, hmem, _⟩ := HR.out.at hmn
      have HIT : Hid (wr.rangeAt b (o + m * 6) x.vals.toList) := ten_item (HR.out.row.below HB.out) m x hx
      have hid := idAt_of hx
      have CC := place_cmp x id wr
      obtain ⟨z, hz⟩ : ∃ z, z = cmpI x.te.id id := ⟨_, rfl⟩
      rw [← hz] at CC
      have CC' := Lib.hid CC
      have HM := Lib.hid hm
      by_cases hlt2 : x.te.id < id
      · have hz0 : z < 0 := by rw [hz]; exact cmp_lt.2 hlt2
        have HP2 : Hid (Parts l id (m + 1) hi) := Lib.hid (parts_low HRI.out HP.out (by rw [HLN.out]; exact hmn) (by rw [hid]; exact hlt2))
        clear hx hmem hid CC hz hm hlt2
        go_wp2_with (first
          | (refine load_tenM HIT.out rfl (.tmp 27) rfl rfl ?_)
          | (go_at_call 51; (with_reducible refine CC'.out.mono ?_); rintro e w2 ⟨rfl, hb2⟩; have HB2 := Lib.hid (HB.out.trans (hb2.mono HB.out.size)); clear hb2))
        go_roundw
        case rel => exact ⟨m + 1, hi, by go_num, rfl, by omega, hhn, HB2, HP2⟩
        case measure => (simp [RowKit.intOf]; omega)
      · have hz0 : ¬ z < 0 := by rw [hz]; exact fun h => hlt2 (cmp_lt.1 h)
        have HP2 : Hid (Parts l id lo m) := Lib.hid (parts_high HRI.out HP.out (by rw [HLN.out]; exact hmn) (by rw [hid]; omega))
        clear hx hmem hid CC hz hm hlt2
        go_wp2_with (first
          | (refine load_tenM HIT.out rfl (.tmp 27) rfl rfl ?_)
          | (go_at_call 51; (with_reducible refine CC'.out.mono ?_); rintro e w2 ⟨rfl, hb2⟩; have HB2 := Lib.hid (HB.out.trans (hb2.mono HB.out.size)); clear hb2))
        go_roundw
        case rel => exact ⟨lo, m, rfl, by first | rfl | go_num, by omega, by omega, HB2, HP2⟩
        case measure => (simp [RowKit.intOf]; omega)
    · obtain rfl : lo = hi := by omega
      by_cases hln : lo < n
      · have hln' : (lo : Int) < (n : Int) := by omega
        obtain ⟨b, o, rfl, hb, _⟩ := HR.out.row.2 (by omega)
        obtain ⟨x, hx, hmem, _⟩ := HR.out.at hln
        have HIT : Hid (wr.rangeAt b (o + lo * 6) x.vals.toList) := ten_item (HR.out.row.below HB.out) lo x hx
        have HID := Lib.hid (idAt_of hx)
        have CC := place_cmp x id wr
        obtain ⟨z, hz⟩ : ∃ z, z = cmpI x.te.id id := ⟨_, rfl⟩
        rw [← hz] at CC
        have CC' := Lib.hid CC
        by_cases heq : x.te.id = id
        · have hz0 : (z == 0) = true := by rw [hz, cmp_eq.2 heq]; rfl
          have HEQ := Lib.hid heq
          clear hx hmem CC hz heq
          go_wp2_with (first
            | (refine load_tenW HIT.out rfl (.tmp 43) rfl rfl ?_)
            | (go_at_call 51; (with_reducible refine CC'.out.mono ?_); rintro e w2 ⟨rfl, hb2⟩; have HB2 := Lib.hid (HB.out.trans (hb2.mono HB.out.size)); clear hb2))
          go_ret2
          exact ⟨lo, true, rfl, by rw [HLN.out]; exact hhn, HP.out, ⟨fun _ => ⟨by rw [HLN.out]; exact hln, by rw [HID.out]; exact HEQ.out⟩, fun _ => rfl⟩, HB2.out⟩
        · have hz0 : (z == 0) = false := by rw [hz]; exact beq_eq_false_iff_ne.2 (fun h => heq (cmp_eq.1 h))
          have HEQ := Lib.hid heq
          clear hx hmem CC hz heq
          go_wp2_with (first
            | (refine load_tenW HIT.out rfl (.tmp 43) rfl rfl ?_)
            | (go_at_call 51; (with_reducible refine CC'.out.mono ?_); rintro e w2 ⟨rfl, hb2⟩; have HB2 := Lib.hid (HB.out.trans (hb2.mono HB.out.size)); clear hb2))
          go_ret2
          exact ⟨lo, false, rfl, by rw [HLN.out]; exact hhn, HP.out, ⟨(fun h => by cases h), fun h => absurd (by rw [← HID.out]; exact h.2) HEQ.out⟩, HB2.out⟩
      · have hln' : ¬ (lo : Int) < (n : Int) := by omega
        have HNL := Lib.hid hln
        clear hln
        go_wp2_with fail
        go_ret2
        exact ⟨lo, false, rfl, by rw [HLN.out]; exact hhn, HP.out, ⟨(fun h => by cases h), fun h => absurd (by rw [← HLN.out]; exact h.1) HNL.out⟩, HB.out⟩
set_option maxRecDepth 100000 in
set_option maxHeartbeats 4000000 in
theorem placeOf_any (A : Option Addr) (n c : Nat) (l : List Tv) (id : Nat) (w : World) (hR : Tens w w.heap.size A n l) (hnc : n ≤ c) (hc : c ≤ maxLen) (hn : n ≤ 1000000) (hr : Rises (l.map Tv.te)) :
    Calls Tryz.prog 25 #[.slice A n c, .int .u32 (id : Int)] w (Placed l id w) := by
  have CS := Lib.hid (mansearch_any A n c l id w hR hnc hc hn hr)
  clear hR hc hr
  go_enter Tryz.func25, Tryz.ntmps25
  go_wp2_with (go_at_call 50; (with_reducible refine CS.out.mono ?_); rintro e w1 ⟨i, t, rfl, h1, h2, h3, h4⟩; have H1 := Lib.hid h1; have H2 := Lib.hid h2; have H3 := Lib.hid h3; have H4 := Lib.hid h4; clear h1 h2 h3 h4)
  go_ret2
  exact ⟨i, t, rfl, H1.out, H2.out, H3.out, H4.out⟩
end Go.Proofs.YtcmlchicpmnhdaaGreatDoor.Man
/-
  A manifest in memory: what All and Get of package manifest return.
-/
namespace Go.Proofs.YtcmlchicpmnhdaaGreatDoor.Man
open Go.RowKit Go.Proofs.YtcmlchicpmnhdaaGreatDoor.Rec Go.Proofs.YtcmlchicpmnhdaaGreatDoor.Ten Go.Proofs.YtcmlchicpmnhdaaGreatDoor.Disk
open Go.Proofs.YtcmlchicpmnhdaaGreatDoor.Slot (Sf)
open Go.Proofs.YtcmlchicpmnhdaaGreatDoor.Seg (ptr)
set_option linter.unusedVariables false
set_option linter.unusedSimpArgs false

/-- A text that is some tenants'. -/
structure Txt (b : List UInt8) (L : List Te) : Prop where
  enc : b = encAll L
  may : May L
  ids : ∀ t ∈ L, t.id < 4294967296
theorem Txt.dec {b : List UInt8} {L : List Te} (h : Txt b L) : decAll b = some L := by rw [h.enc]; exact decAll_be h.may h.ids
theorem Txt.small {b : List UInt8} {L : List Te} (h : Txt b L) : b.length ≤ 2317 := by rw [h.enc]; exact encAll_length h.may
/-- A manifest's block. -/
def ManAt (w : World) (m sf : Nat) : Prop := Blk w m 63 #[.pointer (some ⟨sf, 0, none⟩)]
theorem ManAt.below {w w' : World} {B m sf : Nat} (h : ManAt w m sf) (hb : Below B w w') (hg : m < B) : ManAt w' m sf := blk_below h hb hg
theorem ManAt.lt {w : World} {m sf : Nat} (h : ManAt w m sf) : m < w.heap.size := blk_lt h
/-- '[]byte(s)', and its capacity. -/
theorem conv_cap (w : World) (l : List UInt8) (hl : l.length ≤ maxLen) : ∃ c w', (convert 9 51 (.string (str l))).run Tryz.prog w = .ok (.slice (some ⟨w.heap.size, 0, none⟩) l.length c) w' ∧ Hid (Below w.heap.size w w') ∧ Hid (Row w' w'.heap.size (some ⟨w.heap.size, 0, none⟩) l.length (bvs l)) ∧ l.length ≤ c ∧ c ≤ maxLen := by
  obtain ⟨c, w', h, hb, hr⟩ := conv_bytes w l
  have h0 := run_bytes_of_string (P := Tryz.prog) w 9 51 5 (str l) Tryz.underlying9 Tryz.underlying51 Tryz.underlying5
  rw [h] at h0
  injection h0 with h1 h2
  injection h1 with h3 h4 h5
  rw [str_size] at h5
  have h6 := grownCap_ge w l.length 0 5
  have h7 := grownCap_le_maxLen w l.length 0 5 hl
  exact ⟨c, w', h, hb, hr, by omega, by omega⟩
set_option maxRecDepth 100000 in
set_option maxHeartbeats 1000000 in
theorem mantext_any {own : Own} {w : World} {v : Sf} (h : Slot.Lies own w v) (hl : v.txt.length ≤ 100000) : Calls Tryz.prog 35 #[.pointer (some ⟨v.sf, 0, none⟩)] w fun e w' => ∃ A c, e = .returned (.slice A v.txt.length c) ∧ Hid (Row w' w'.heap.size A v.txt.length (bvs v.txt)) ∧ Hid (Below w.heap.size w w') ∧ v.txt.length ≤ c ∧ c ≤ maxLen := by
  have c4 : w.cell? ⟨v.sf, 4, none⟩ = some (.string (str v.txt)) := Blk.cell h.blk 4
  obtain ⟨c, w', hc, hb, hr, h1, h2⟩ := conv_cap w v.txt (by unfold maxLen; omega)
  have H1 := Lib.hid h1
  have H2 := Lib.hid h2
  clear h h1 h2 hl
  go_enter Tryz.func35, Tryz.ntmps35
  go_wp2_with fail
  go_ret
  exact ⟨_, _, rfl, hr, hb, H1.out, H2.out⟩
/-- What All says. -/
def Told (L : List Te) (w : World) (e : Ending) (w' : World) : Prop := ∃ v l, e = .returned v ∧ l.map Tv.te = L ∧ TenOwn w w' v l
set_option maxRecDepth 100000 in
set_option maxHeartbeats 4000000 in
theorem manall_any {own : Own} {w : World} {v : Sf} {m : Nat} {L : List Te} (h : Slot.Lies own w v) (hm : ManAt w m v.sf) (ht : Txt v.txt L) : Calls Tryz.prog 17 #[.pointer (some ⟨m, 0, none⟩)] w (Told L w) := by
  have c0 : w.cell? ⟨m, 0, none⟩ = some (.pointer (some ⟨v.sf, 0, none⟩)) := Blk.cell hm 0
  have CT := Lib.hid (mantext_any h (by have := ht.small; omega))
  have HD := Lib.hid ht.dec
  obtain ⟨b, hb⟩ : ∃ b, b = v.txt := ⟨_, rfl⟩
  rw [← hb] at CT HD
  clear h hm ht hb
  go_enter Tryz.func17, Tryz.ntmps17
  go_wp2_with (first
    | (go_at_call 35; (with_reducible refine CT.out.mono ?_); rintro e w1 ⟨A1, c1, rfl, R1, B1, q1, q2⟩
       have CD := Lib.hid (mandec_any A1 b.length c1 b w1 R1.out q1 q2))
    | (go_at_call 34; (with_reducible refine CD.out.mono ?_); rintro e w2 (⟨k1, _⟩ | ⟨v2, l, k1, rfl, k2⟩)
       · have := HD.out; rw [k1] at this; cases this
       have K1 := Lib.hid k1
       have K2 := Lib.hid k2
       clear k1 k2))
  go_ret
  have e1 := HD.out
  rw [K1.out] at e1
  injection e1 with e1
  exact ⟨v2, l, rfl, e1, K2.out.base B1.out⟩
theorem mannil_all (w : World) : Calls Tryz.prog 17 #[.pointer none] w fun e w' => e = .returned (.slice none 0 0) ∧ w = w' := by
  go_enter Tryz.func17, Tryz.ntmps17
  go_wp2_with fail
  go_ret
  exact ⟨rfl, rfl⟩
end Go.Proofs.YtcmlchicpmnhdaaGreatDoor.Man
/-
  Proved: what Get of package manifest returns: the tenant that has this Id, or that none has.
-/
namespace Go.Proofs.YtcmlchicpmnhdaaGreatDoor.Man
open Go.RowKit Go.Proofs.YtcmlchicpmnhdaaGreatDoor.Rec Go.Proofs.YtcmlchicpmnhdaaGreatDoor.Ten Go.Proofs.YtcmlchicpmnhdaaGreatDoor.Disk
open Go.Proofs.YtcmlchicpmnhdaaGreatDoor.Slot (Sf)
open Go.Proofs.YtcmlchicpmnhdaaGreatDoor.Seg (ptr)
set_option linter.unusedVariables false
set_option linter.unusedSimpArgs false

theorem result_ten2 {w : World} {fn : Func} {p q : Tmp} {g : Nat} {x : Tv} (h : TenAt w g x) (hr : fn.results = #[.cell p 35, .tmp q]) (tmps : Array Value) (hp : tmps.getD p undef = .pointer (some ⟨g, 0, none⟩)) :
    (results fn tmps).run Tryz.prog w = .ok (.tuple #[.agg x.vals, tmps.getD q undef]) w := by
  have hp' : tmps[p]?.getD undef = .pointer (some ⟨g, 0, none⟩) := by simpa using hp
  simp [results, hr, hp', asAddr, run_loadVar_row w g 35 35 x.vals (0, 0) _ h Tryz.underlying35 rfl ten_size]
theorem parts_none {l : List Tv} (hr : Rises (l.map Tv.te)) {id i : Nat} (h : Parts l id i i) (hn : ¬ (i < l.length ∧ idAt l i = id)) : ∀ t ∈ l.map Tv.te, t.id ≠ id := by
  intro t ht
  obtain ⟨x, hx, rfl⟩ := List.mem_map.1 ht
  obtain ⟨k, hk, rfl⟩ := List.getElem_of_mem hx
  have e := idAt_of (List.getElem?_eq_getElem hk)
  intro hid
  rw [← e] at hid
  by_cases h1 : k < i
  · have := h.low k h1; omega
  · by_cases h2 : k = i
    · exact hn ⟨by omega, by rw [← h2]; exact hid⟩
    · have h3 := idAt_lt hr (show i < k by omega) hk
      have h4 := h.high i (Nat.le_refl _) (by omega)
      omega
/-- What Get says. -/
def Got (L : List Te) (id : Nat) (w : World) (e : Ending) (w' : World) : Prop :=
  (∃ x : Tv, e = .returned (.tuple #[.agg x.vals, .bool true]) ∧ x.te ∈ L ∧ x.te.id = id ∧ SegOwn w.heap.size w' x ∧ x.te.Ok ∧ Below w.heap.size w w') ∨ (e = .returned (.tuple #[.agg zeroTv.vals, .bool false]) ∧ (∀ t ∈ L, t.id ≠ id) ∧ Below w.heap.size w w')
set_option maxRecDepth 100000 in
set_option maxHeartbeats 8000000 in
theorem manget_any {own : Own} {w : World} {v : Sf} {m : Nat} {L : List Te} (id : Nat) (h : Slot.Lies own w v) (hm : ManAt w m v.sf) (ht : Txt v.txt L) : Calls Tryz.prog 15 #[.pointer (some ⟨m, 0, none⟩), .int .u32 (id : Int)] w (Got L id w) := by
  obtain ⟨w0, hw0⟩ : ∃ w0, w0 = w.alloc (.cells #[.int .u32 0, .int .u64 0, .int .i64 0, .int .u64 0, .int .i64 0, .slice none 0 0] 35) := ⟨_, rfl⟩
  have HB0 : Hid (Below w.heap.size w w0) := by rw [hw0]; exact below_alloc w _
  have Z0 : Hid (TenAt w0 w.heap.size zeroTv) := by rw [hw0]; exact ten_zero w
  obtain ⟨gb, hgb⟩ : ∃ gb, gb = w.heap.size := ⟨_, rfl⟩
  rw [← hgb] at Z0
  have HGB := Lib.hid hgb
  have CA := Lib.hid (manall_any (h.all HB0.out) (hm.below HB0.out hm.lt) ht)
  have HRI := Lib.hid (may_rises ht.may)
  have HL6 := Lib.hid ht.may.1
  clear h hm ht hgb
  go_enter Tryz.func15, Tryz.ntmps15
  go_upto_region 1 with fail
  rw [← hw0, ← HGB.out]
  clear hw0
  go_upto_region 2 with (go_at_call 17; (with_reducible refine CA.out.mono ?_); rintro e w1 ⟨va, l, rfl, hl, hto⟩; have HL := Lib.hid hl; have HT := Lib.hid hto; clear hl hto)
  obtain ⟨A, c, rfl, q1, q2, htens⟩ := HT.out.form
  have HTE := Lib.hid htens
  have HRL : Hid (Rises (l.map Tv.te)) := Lib.hid (by rw [HL.out]; exact HRI.out)
  have hlen : l.length ≤ 6 := by have := HL6.out; rw [← HL.out, List.length_map] at this; exact this
  have CP := Lib.hid (placeOf_any A l.length c l id w1 htens q1 q2 (by omega) HRL.out)
  have HB1 := Lib.hid (HB0.out.trans (HT.out.below.mono HB0.out.size))
  obtain ⟨n, hn⟩ : ∃ n, n = l.length := ⟨_, rfl⟩
  rw [← hn] at CP q1 hlen ⊢
  have HN := Lib.hid hn
  have HQ2 := Lib.hid q2
  have hcm : c ≤ 9223372036854775807 := by unfold maxLen at q2; exact q2
  clear htens hn q2 CA
  go_upto_region 3 with (go_at_call 25; (with_reducible refine CP.out.mono ?_); rintro e w2 ⟨i, t, rfl, h1, h2, h3, h4⟩; have H1 := Lib.hid h1; have H2 := Lib.hid h2; have H3 := Lib.hid h3; have H4 := Lib.hid h4; clear h1 h2 h3 h4)
  have HB2 := Lib.hid (HB1.out.trans (H4.out.mono HB1.out.size))
  have HT2 := Lib.hid (HT.out.all H4.out)
  have Z2 : Hid (TenAt w2 gb zeroTv) := Lib.hid (Z0.out.below HT2.out.below Z0.out.lt)
  clear CP
  cases t with
  | true =>
    obtain ⟨hin, hid⟩ := H3.out.1 rfl
    have hin' : i < n := by rw [HN.out]; exact hin
    have hinI : (i : Int) < (n : Int) := by omega
    obtain ⟨A', c', e, _, _, hT2⟩ := HT2.out.form
    injection e with e1 e2 e3
    subst e1 e3
    obtain ⟨b, o, rfl, _, _⟩ := hT2.row.2 (by omega)
    obtain ⟨x, hx, hmem, hrange⟩ := hT2.at hin
    have HIT := Lib.hid hrange
    have HXI : Hid (x.te.id = id) := Lib.hid (by rw [← hid]; exact (idAt_of hx).symm)
    have HXM : Hid (x.te ∈ l.map Tv.te) := Lib.hid (List.mem_map_of_mem hmem)
    have HXO := Lib.hid (HT2.out.each x hmem)
    have HXK := Lib.hid (HT2.out.ok x hmem)
    clear hx hmem hrange hid hT2
    go_wp2_with (first
      | (refine load_tenM HIT.out rfl (.tmp 22) rfl rfl ?_)
      | (refine store_ten Z2.out rfl rfl (.tmp 4) (.tmp 23) rfl rfl x rfl rfl ?_; intro w3 X3 G3))
    refine bodyPost_ret (result_ten2 X3.out rfl _ rfl) rfl ?_
    have hge : w.heap.size ≤ gb := Nat.le_of_eq HGB.out.symm
    refine .inl ⟨x, rfl, by rw [← HL.out]; exact HXM.out, HXI.out, ?_, HXK.out, below_only HB2.out G3.out hge HB2.out.size⟩
    exact own_base (own_kept HXO.out G3.out (fun k hk e => own_not HXO.out Z2.out seg_kinds (by rw [hk]; exact e.symm))) HB0.out.size
  | false =>
    have HNO : Hid (∀ t ∈ L, t.id ≠ id) := Lib.hid (by rw [← HL.out]; exact parts_none HRL.out H2.out (fun hh => by have := H3.out.2 hh; cases this))
    go_wp2_with (refine store_ten Z2.out rfl rfl (.tmp 4) (.tmp 19) rfl rfl zeroTv rfl rfl ?_; intro w3 X3 G3)
    refine bodyPost_ret (result_ten2 X3.out rfl _ rfl) rfl ?_
    have hge : w.heap.size ≤ gb := Nat.le_of_eq HGB.out.symm
    exact .inr ⟨rfl, HNO.out, below_only HB2.out G3.out hge HB2.out.size⟩
set_option maxRecDepth 100000 in
set_option maxHeartbeats 8000000 in
theorem mannil_get (id : Nat) (w : World) : Calls Tryz.prog 15 #[.pointer none, .int .u32 (id : Int)] w fun e w' => e = .returned (.tuple #[.agg zeroTv.vals, .bool false]) ∧ Below w.heap.size w w' := by
  obtain ⟨w0, hw0⟩ : ∃ w0, w0 = w.alloc (.cells #[.int .u32 0, .int .u64 0, .int .i64 0, .int .u64 0, .int .i64 0, .slice none 0 0] 35) := ⟨_, rfl⟩
  have HB0 : Hid (Below w.heap.size w w0) := by rw [hw0]; exact below_alloc w _
  have Z0 : Hid (TenAt w0 w.heap.size zeroTv) := by rw [hw0]; exact ten_zero w
  obtain ⟨gb, hgb⟩ : ∃ gb, gb = w.heap.size := ⟨_, rfl⟩
  rw [← hgb] at Z0
  have HGB := Lib.hid hgb
  have CA := Lib.hid (mannil_all w0)
  have CP := Lib.hid (placeOf_any none 0 0 [] id w0 (Tens.nil w0 _) (Nat.le_refl _) (by decide) (by decide) List.Pairwise.nil)
  clear hgb
  go_enter Tryz.func15, Tryz.ntmps15
  go_upto_region 1 with fail
  rw [← hw0, ← HGB.out]
  clear hw0
  go_upto_region 3 with (first
    | (go_at_call 17; (with_reducible refine CA.out.mono ?_); rintro e w' ⟨rfl, rfl⟩)
    | (go_at_call 25; (with_reducible refine CP.out.mono ?_); rintro e w2 ⟨i, t, rfl, h1, h2, h3, h4⟩; have H1 := Lib.hid h1; have H3 := Lib.hid h3; have H4 := Lib.hid h4; clear h1 h2 h3 h4))
  cases t with
  | true =>
    have := (H3.out.1 rfl).1
    simp at this
  | false =>
    have HB2 := Lib.hid (HB0.out.trans (H4.out.mono HB0.out.size))
    have Z2 : Hid (TenAt w2 gb zeroTv) := Lib.hid (Z0.out.below H4.out Z0.out.lt)
    go_wp2_with (refine store_ten Z2.out rfl rfl (.tmp 4) (.tmp 19) rfl rfl zeroTv rfl rfl ?_; intro w3 X3 G3)
    refine bodyPost_ret (result_ten2 X3.out rfl _ rfl) rfl ?_
    have hge : w.heap.size ≤ gb := Nat.le_of_eq HGB.out.symm
    exact ⟨rfl, below_only HB2.out G3.out hge HB2.out.size⟩
end Go.Proofs.YtcmlchicpmnhdaaGreatDoor.Man
