/-
  Texts one behind the other: TenPut, ManTake.
-/
import Derived.BigQuiet
import Derived.Test.YtcmlchicpmnhdaaGreatDoorG04
import Derived.Test.YtcmlchicpmnhdaaGreatDoorG06
import Derived.Test.YtcmlchicpmnhdaaGreatDoorG08
import Derived.Test.YtcmlchicpmnhdaaGreatDoorG09
/-
  Proved: what PutTenant of the reference returns: a new row with the tenant in its place.
-/
namespace Go.Proofs.YtcmlchicpmnhdaaGreatDoor.Ten
open Go.RowKit Go.Proofs.YtcmlchicpmnhdaaGreatDoor.Rec
set_option linter.unusedVariables false
set_option linter.unusedSimpArgs false

/-- Tenants so far: a row of the call's own. -/
structure Ts (w0 w : World) (v : Value) (l : List Tv) : Prop where
  row : w.ownsRow w0.heap.size 35 6 v l.length (tflat l)
  below : Below w0.heap.size w0 w
theorem Ts.nil (w : World) : Ts w w (.slice none 0 0) [] := ⟨World.ownsRow_nil _ _ _ _, Below.refl _ _⟩
theorem Ts.all {w0 w w' : World} {v : Value} {l : List Tv} (h : Ts w0 w v l) (hb : Below w.heap.size w w') : Ts w0 w' v l :=
  ⟨h.row.kept (row := none) ⟨hb.os, hb.tape, hb.output, hb.size, fun i hi _ => hb.block i hi⟩ (Classical.em _), h.below.trans (hb.mono h.below.size)⟩
theorem Ts.base {w w0 w' : World} {v : Value} {l : List Tv} (h : Ts w0 w' v l) (hb : Below w.heap.size w w0) : Ts w w' v l := by
  refine ⟨?_, hb.trans (h.below.mono hb.size)⟩
  rcases h.row.2 with ⟨h0, h1⟩ | ⟨g, cap, cur, hv, hg0, hr⟩
  · exact ⟨h.row.1, .inl ⟨h0, h1⟩⟩
  · exact ⟨h.row.1, .inr ⟨g, cap, cur, hv, Nat.le_trans hb.size hg0, hr⟩⟩
theorem ten_zeros : (Tryz.prog.info? 35).map (fun i => (i.zero, i.size, i.bytes)) = some (some (.agg #[.int .u32 0, .int .u64 0, .int .i64 0, .int .u64 0, .int .i64 0, .slice none 0 0]), 6, 64) := by kernel_rfl
theorem slice_ten (x : Tv) : Tryz.prog.builtSlice 35 1 [(0, .agg x.vals)] = some x.vals := by kernel_rfl
theorem ten_cells1 (w : World) (t : TypeId) (fr : Nat × Nat) (x : Tv) : ∀ j u, x.vals.toList[j]? = some u → (w.alloc (.cells x.vals t fr)).cell? ⟨w.heap.size, j, none⟩ = some u := by
  intro j u hu
  rw [cell_of_row _ w.heap.size j x.vals t fr (heap_alloc_new w _), ← Array.getElem?_toList]
  exact hu
section
variable {t x : Tv} {l : List Tv}
theorem step_tr_eq (h : True) (e : x.te.id = t.te.id) : putTv t true (x :: l) = putTv t true l := by simp [putTv, e]
theorem step_tr_ne (h : True) (e : ¬ x.te.id = t.te.id) : putTv t true (x :: l) = x :: putTv t true l := by simp [putTv, e]
theorem step_le_eq (h : t.te.id ≤ x.te.id) (e : x.te.id = t.te.id) : putTv t false (x :: l) = t :: putTv t true l := by simp [putTv, e]
theorem step_le_ne (h : t.te.id ≤ x.te.id) (e : ¬ x.te.id = t.te.id) : putTv t false (x :: l) = t :: x :: putTv t true l := by simp [putTv, e, h]
theorem step_no_eq (h : ¬ t.te.id ≤ x.te.id) (e : x.te.id = t.te.id) : putTv t false (x :: l) = putTv t false l := absurd (Nat.le_of_eq e.symm) h
theorem step_no_ne (h : ¬ t.te.id ≤ x.te.id) (e : ¬ x.te.id = t.te.id) : putTv t false (x :: l) = x :: putTv t false l := by simp [putTv, e, h]
end
section
variable {w0 w : World} {v : Value} {l : List Tv} {ops : Array Oper} {rest : List Oper} {o : Oper} {a : Act} {Q : Exit → Act → World → Prop}
theorem ts_append (h : Ts w0 w v l) (hgd : o.guard = none) (s y : Operand) (ho : o.op = .call { callee := .builtin .append, args := #[s, y], argTypes := #[22, 22] }) (hs : a.eval s = v)
    (g c : Nat) (x : Tv) (hy : a.eval y = .slice (some ⟨g, 0, none⟩) 1 c) (hq : ∀ j u, x.vals.toList[j]? = some u → w.cell? ⟨g, j, none⟩ = some u) (hl : l.length ≤ 1000000)
    (k : ∀ v' w', Hid (Ts w0 w' v' (l ++ [x])) → wpList Tryz.prog ops Q rest (a.put o.dst v') w') : wpList Tryz.prog ops Q (o :: rest) a w := by
  obtain ⟨i, hii, hzz⟩ := Option.map_eq_some_iff.1 ten_zeros
  simp only [Prod.mk.injEq] at hzz
  obtain ⟨hz0, hs1, hb1⟩ := hzz
  refine wpList_append_own (w := w) hgd s y 22 ho w0.heap.size 35 i _ 6 64 Tryz.underlying22 hii hz0 hs1 hb1 rfl (by decide) v l.length (tflat l) hs h.row ⟨g, 0, none⟩ 1 c x.vals.toList hy (tcells_length x) ?_ (tcells_one x) (by unfold maxLen; omega) ?_ h.below.size ?_
  · intro j u hu
    have := hq j u hu
    rw [Addr.add_lit, Nat.zero_add]
    exact this
  · omega
  · intro v' w' h1 h2 _
    refine k v' w' ⟨?_, own_below h.row h.below (Nat.le_refl _) h.below.size h2⟩
    rw [tflat_snoc] at h1
    rw [List.length_append]
    exact h1
theorem build_oneTen (hg : o.guard = none) (y : Operand) (ho : o.op = .buildSlice 22 1 #[(0, y)]) (d : Option Tmp) (hd : o.dst = d) (x : Tv) (hy : a.eval y = .agg x.vals)
    (k : wpList Tryz.prog ops Q rest (a.put d (.slice (some ⟨w.heap.size, 0, none⟩) 1 1)) (w.alloc (.cells x.vals 35))) : wpList Tryz.prog ops Q (o :: rest) a w :=
  build_one hg 22 35 y ho d hd Tryz.underlying22 (.agg x.vals) hy x.vals (slice_ten x) k
end
set_option maxRecDepth 100000 in
set_option maxHeartbeats 8000000 in
theorem putten_any (A : Option Addr) (n c : Nat) (l : List Tv) (t : Tv) (w : World) (hR : Tens w w.heap.size A n l) (hnc : n ≤ c) (hc : c ≤ maxLen) (hn : n ≤ 100000) :
    Calls Tryz.prog 9 #[.slice A n c, .agg t.vals] w fun e w' => ∃ v, e = .returned v ∧ Ts w w' v (putTv t false l) := by
  have hcm : c ≤ 9223372036854775807 := by unfold maxLen at hc; exact hc
  have HR := Lib.hid hR
  obtain ⟨w0, hw0⟩ : ∃ w0, w0 = w.alloc (.cells t.vals 35) := ⟨_, rfl⟩
  have HB0 : Hid (Below w.heap.size w w0) := by rw [hw0]; exact below_alloc w _
  have X0 : Hid (TenAt w0 w.heap.size t) := by rw [hw0]; exact ten_new w t
  have HLT : Hid (w.heap.size < w0.heap.size) := X0.out.lt
  clear hR hc
  go_enter Tryz.func9, Tryz.ntmps9
  go_upto_region 1 with fail
  rw [← hw0]
  clear hw0
  go_wp2_with fail
  go_loopw [5, 6, 7] (fun v bv iv wr => ∃ (i : Nat) (acc : List Tv) (b : Bool), bv = .bool b ∧ iv = .int .i64 (i : Int) ∧ i ≤ n ∧ acc.length ≤ 2 * i ∧ Hid (Ts w0 wr v acc) ∧ Hid (acc ++ putTv t b (l.drop i) = putTv t false l)) (fun _ _ iv _ => n - (RowKit.intOf iv).toNat)
  case atStart => exact ⟨0, [], false, rfl, rfl, Nat.zero_le _, Nat.zero_le _, Ts.nil w0, by rw [List.drop_zero, List.nil_append]; trivial⟩
  case round =>
    obtain ⟨i, acc, b, rfl, rfl, hi, hal, HS, HE⟩ := hrel
    obtain ⟨A2, c2, rfl, hgc, hc2, _⟩ := own_row HS.out.row
    by_cases hlt : i < n
    · have hlt' : (i : Int) < (n : Int) := by omega
      obtain ⟨bl, o, rfl, hbl, _⟩ := HR.out.row.2 (by omega)
      obtain ⟨x, hx, _, hrange⟩ := HR.out.at hlt
      have HBW : Hid (Below w.heap.size w wr) := HB0.out.trans (HS.out.below.mono HB0.out.size)
      have HIT : Hid (∀ W, Below w.heap.size w W → W.rangeAt bl (o + i * 6) x.vals.toList) := fun W hW => ten_item (HR.out.row.below hW) i x hx
      have yx : wr.cell? ⟨bl, o + i * 6, none⟩ = some (.int .u32 (x.te.id : Int)) := (range_ten (HIT.out wr HBW.out)).1
      have XR : Hid (TenAt wr w.heap.size t) := X0.out.below HS.out.below HLT.out
      have yt : wr.cell? ⟨w.heap.size, 0, none⟩ = some (.int .u32 (t.te.id : Int)) := XR.out.cells.1
      have hd0 : l.drop i = x :: l.drop (i + 1) := by
        obtain ⟨h1, h2⟩ := List.getElem?_eq_some_iff.1 hx
        rw [List.drop_eq_getElem_cons h1, h2]
      have HD := Lib.hid hd0
      clear hx hrange hd0
      cases b with
      | true =>
        have HLE : Hid (True) := trivial
        go_wp2_with fail
        go_quiet (fail)
        obtain ⟨wq, hwq⟩ : ∃ wq, wq = wr.drewN nq := ⟨_, rfl⟩
        rw [← hwq]
        have HSQ : Hid (Ts w0 wq (.slice A2 acc.length c2) acc) := by rw [hwq]; exact HS.out.all (below_drewN (Below.refl _ _) nq)
        clear hwq
        by_cases hid : x.te.id = t.te.id
        · have hb9 : ((x.te.id : Int) == (t.te.id : Int)) = true := by rw [hid]; exact beq_self_eq_true _
          have HID := Lib.hid hid
          clear hid
          have HBW9 : Hid (Below w.heap.size w wq) := HB0.out.trans (HSQ.out.below.mono HB0.out.size)
          have yx9 : wq.cell? ⟨bl, o + i * 6, none⟩ = some (.int .u32 (x.te.id : Int)) := (range_ten (HIT.out wq HBW9.out)).1
          have XR9 : Hid (TenAt wq w.heap.size t) := X0.out.below HSQ.out.below HLT.out
          have yt9 : wq.cell? ⟨w.heap.size, 0, none⟩ = some (.int .u32 (t.te.id : Int)) := XR9.out.cells.1
          go_wp2_with fail
          go_quiet (fail)
          obtain ⟨wk, hwk⟩ : ∃ wk, wk = wq.drewN nq := ⟨_, rfl⟩
          rw [← hwk]
          have HSK : Hid (Ts w0 wk (.slice A2 acc.length c2) (acc)) := by rw [hwk]; exact HSQ.out.all (below_drewN (Below.refl _ _) nq)
          have HBK : Hid (Below w.heap.size w wk) := HB0.out.trans (HSK.out.below.mono HB0.out.size)
          clear hwk yx9 yt9
          go_wp2_with fail
          go_roundw
          case rel => exact ⟨i + 1, acc, true, rfl, by go_num, by omega, by first | omega | (simp only [List.length_append, List.length_singleton]; omega), HSK, Lib.hid (by rw [← HE.out, HD.out, step_tr_eq HLE.out HID.out]; try simp)⟩
          case measure => (simp [RowKit.intOf]; omega)
        · have hb9 : ((x.te.id : Int) == (t.te.id : Int)) = false := beq_eq_false_iff_ne.2 (by omega)
          have HID := Lib.hid hid
          clear hid
          have HBW9 : Hid (Below w.heap.size w wq) := HB0.out.trans (HSQ.out.below.mono HB0.out.size)
          have yx9 : wq.cell? ⟨bl, o + i * 6, none⟩ = some (.int .u32 (x.te.id : Int)) := (range_ten (HIT.out wq HBW9.out)).1
          have XR9 : Hid (TenAt wq w.heap.size t) := X0.out.below HSQ.out.below HLT.out
          have yt9 : wq.cell? ⟨w.heap.size, 0, none⟩ = some (.int .u32 (t.te.id : Int)) := XR9.out.cells.1
          go_wp2_with fail
          go_quiet (fail)
          obtain ⟨wk, hwk⟩ : ∃ wk, wk = wq.drewN nq := ⟨_, rfl⟩
          rw [← hwk]
          have HSK : Hid (Ts w0 wk (.slice A2 acc.length c2) (acc)) := by rw [hwk]; exact HSQ.out.all (below_drewN (Below.refl _ _) nq)
          have HBK : Hid (Below w.heap.size w wk) := HB0.out.trans (HSK.out.below.mono HB0.out.size)
          clear hwk yx9 yt9
          have HITK : Hid (wk.rangeAt bl (o + i * 6) x.vals.toList) := HIT.out wk HBK.out
          have HSL := Lib.hid (HSK.out.all (below_alloc wk (.cells x.vals 35)))
          have HONE9 := Lib.hid (ten_cells1 wk 35 (0, 0) x)
          have hl9 : (acc).length ≤ 1000000 := by first | omega | (simp only [List.length_append, List.length_singleton]; omega)
          go_wp2_with (first
            | (refine load_tenM HITK.out rfl (.tmp 41) rfl rfl ?_)
            | (refine build_oneTen rfl (.tmp 42) rfl (some 43) rfl x rfl ?_)
            | (at_builtin; refine ts_append HSL.out rfl (.tmp 38) (.tmp 43) rfl rfl wk.heap.size 1 x rfl HONE9.out hl9 ?_; intro v9 w9 HS9))
          go_roundw
          case rel => exact ⟨i + 1, (acc) ++ [x], true, rfl, by go_num, by omega, by first | omega | (simp only [List.length_append, List.length_singleton]; omega), HS9, Lib.hid (by rw [← HE.out, HD.out, step_tr_ne HLE.out HID.out]; try simp)⟩
          case measure => (simp [RowKit.intOf]; omega)
      | false =>
        by_cases hle : t.te.id ≤ x.te.id
        · have hle' : (t.te.id : Int) ≤ (x.te.id : Int) := by omega
          have HLE : Hid (t.te.id ≤ x.te.id) := hle
          clear hle
          go_wp2_with fail
          go_quiet (fail)
          obtain ⟨wq, hwq⟩ : ∃ wq, wq = wr.drewN nq := ⟨_, rfl⟩
          rw [← hwq]
          have HSQ : Hid (Ts w0 wq (.slice A2 acc.length c2) acc) := by rw [hwq]; exact HS.out.all (below_drewN (Below.refl _ _) nq)
          clear hwq
          have XRQ : Hid (TenAt wq w.heap.size t) := X0.out.below HSQ.out.below HLT.out
          have HSA := Lib.hid (HSQ.out.all (below_alloc wq (.cells t.vals 35)))
          have HONE := Lib.hid (ten_cells1 wq 35 (0, 0) t)
          have hl6 : acc.length ≤ 1000000 := by omega
          clear yx yt
          go_upto_region 9 with (first
            | (refine load_ten XRQ.out rfl (.tmp 3) rfl rfl ?_)
            | (refine build_oneTen rfl (.tmp 27) rfl (some 28) rfl t rfl ?_)
            | (at_builtin; refine ts_append HSA.out rfl (.tmp 26) (.tmp 28) rfl rfl wq.heap.size 1 t rfl HONE.out hl6 ?_; intro v8 w8 HS8))
          by_cases hid : x.te.id = t.te.id
          · have hb9 : ((x.te.id : Int) == (t.te.id : Int)) = true := by rw [hid]; exact beq_self_eq_true _
            have HID := Lib.hid hid
            clear hid
            have HBW9 : Hid (Below w.heap.size w w8) := HB0.out.trans (HS8.out.below.mono HB0.out.size)
            have yx9 : w8.cell? ⟨bl, o + i * 6, none⟩ = some (.int .u32 (x.te.id : Int)) := (range_ten (HIT.out w8 HBW9.out)).1
            have XR9 : Hid (TenAt w8 w.heap.size t) := X0.out.below HS8.out.below HLT.out
            have yt9 : w8.cell? ⟨w.heap.size, 0, none⟩ = some (.int .u32 (t.te.id : Int)) := XR9.out.cells.1
            go_wp2_with fail
            go_quiet (fail)
            obtain ⟨wk, hwk⟩ : ∃ wk, wk = w8.drewN nq := ⟨_, rfl⟩
            rw [← hwk]
            have HSK : Hid (Ts w0 wk v8 (acc ++ [t])) := by rw [hwk]; exact HS8.out.all (below_drewN (Below.refl _ _) nq)
            have HBK : Hid (Below w.heap.size w wk) := HB0.out.trans (HSK.out.below.mono HB0.out.size)
            clear hwk yx9 yt9
            go_wp2_with fail
            go_roundw
            case rel => exact ⟨i + 1, acc ++ [t], true, rfl, by go_num, by omega, by first | omega | (simp only [List.length_append, List.length_singleton]; omega), HSK, Lib.hid (by rw [← HE.out, HD.out, step_le_eq HLE.out HID.out]; try simp)⟩
            case measure => (simp [RowKit.intOf]; omega)
          · have hb9 : ((x.te.id : Int) == (t.te.id : Int)) = false := beq_eq_false_iff_ne.2 (by omega)
            have HID := Lib.hid hid
            clear hid
            have HBW9 : Hid (Below w.heap.size w w8) := HB0.out.trans (HS8.out.below.mono HB0.out.size)
            have yx9 : w8.cell? ⟨bl, o + i * 6, none⟩ = some (.int .u32 (x.te.id : Int)) := (range_ten (HIT.out w8 HBW9.out)).1
            have XR9 : Hid (TenAt w8 w.heap.size t) := X0.out.below HS8.out.below HLT.out
            have yt9 : w8.cell? ⟨w.heap.size, 0, none⟩ = some (.int .u32 (t.te.id : Int)) := XR9.out.cells.1
            go_wp2_with fail
            go_quiet (fail)
            obtain ⟨wk, hwk⟩ : ∃ wk, wk = w8.drewN nq := ⟨_, rfl⟩
            rw [← hwk]
            have HSK : Hid (Ts w0 wk v8 (acc ++ [t])) := by rw [hwk]; exact HS8.out.all (below_drewN (Below.refl _ _) nq)
            have HBK : Hid (Below w.heap.size w wk) := HB0.out.trans (HSK.out.below.mono HB0.out.size)
            clear hwk yx9 yt9
            have HITK : Hid (wk.rangeAt bl (o + i * 6) x.vals.toList) := HIT.out wk HBK.out
            have HSL := Lib.hid (HSK.out.all (below_alloc wk (.cells x.vals 35)))
            have HONE9 := Lib.hid (ten_cells1 wk 35 (0, 0) x)
            have hl9 : (acc ++ [t]).length ≤ 1000000 := by first | omega | (simp only [List.length_append, List.length_singleton]; omega)
            go_wp2_with (first
              | (refine load_tenM HITK.out rfl (.tmp 41) rfl rfl ?_)
              | (refine build_oneTen rfl (.tmp 42) rfl (some 43) rfl x rfl ?_)
              | (at_builtin; refine ts_append HSL.out rfl (.tmp 38) (.tmp 43) rfl rfl wk.heap.size 1 x rfl HONE9.out hl9 ?_; intro v9 w9 HS9))
            go_roundw
            case rel => exact ⟨i + 1, (acc ++ [t]) ++ [x], true, rfl, by go_num, by omega, by first | omega | (simp only [List.length_append, List.length_singleton]; omega), HS9, Lib.hid (by rw [← HE.out, HD.out, step_le_ne HLE.out HID.out]; try simp)⟩
            case measure => (simp [RowKit.intOf]; omega)
        · have hle' : ¬ (t.te.id : Int) ≤ (x.te.id : Int) := by omega
          have HLE : Hid (¬ t.te.id ≤ x.te.id) := hle
          clear hle
          go_wp2_with fail
          go_quiet (fail)
          obtain ⟨wq, hwq⟩ : ∃ wq, wq = wr.drewN nq := ⟨_, rfl⟩
          rw [← hwq]
          have HSQ : Hid (Ts w0 wq (.slice A2 acc.length c2) acc) := by rw [hwq]; exact HS.out.all (below_drewN (Below.refl _ _) nq)
          clear hwq
          by_cases hid : x.te.id = t.te.id
          · have hb9 : ((x.te.id : Int) == (t.te.id : Int)) = true := by rw [hid]; exact beq_self_eq_true _
            have HID := Lib.hid hid
            clear hid
            exact absurd (Nat.le_of_eq HID.out.symm) HLE.out
          · have hb9 : ((x.te.id : Int) == (t.te.id : Int)) = false := beq_eq_false_iff_ne.2 (by omega)
            have HID := Lib.hid hid
            clear hid
            have HBW9 : Hid (Below w.heap.size w wq) := HB0.out.trans (HSQ.out.below.mono HB0.out.size)
            have yx9 : wq.cell? ⟨bl, o + i * 6, none⟩ = some (.int .u32 (x.te.id : Int)) := (range_ten (HIT.out wq HBW9.out)).1
            have XR9 : Hid (TenAt wq w.heap.size t) := X0.out.below HSQ.out.below HLT.out
            have yt9 : wq.cell? ⟨w.heap.size, 0, none⟩ = some (.int .u32 (t.te.id : Int)) := XR9.out.cells.1
            go_wp2_with fail
            go_quiet (fail)
            obtain ⟨wk, hwk⟩ : ∃ wk, wk = wq.drewN nq := ⟨_, rfl⟩
            rw [← hwk]
            have HSK : Hid (Ts w0 wk (.slice A2 acc.length c2) (acc)) := by rw [hwk]; exact HSQ.out.all (below_drewN (Below.refl _ _) nq)
            have HBK : Hid (Below w.heap.size w wk) := HB0.out.trans (HSK.out.below.mono HB0.out.size)
            clear hwk yx9 yt9
            have HITK : Hid (wk.rangeAt bl (o + i * 6) x.vals.toList) := HIT.out wk HBK.out
            have HSL := Lib.hid (HSK.out.all (below_alloc wk (.cells x.vals 35)))
            have HONE9 := Lib.hid (ten_cells1 wk 35 (0, 0) x)
            have hl9 : (acc).length ≤ 1000000 := by first | omega | (simp only [List.length_append, List.length_singleton]; omega)
            go_wp2_with (first
              | (refine load_tenM HITK.out rfl (.tmp 41) rfl rfl ?_)
              | (refine build_oneTen rfl (.tmp 42) rfl (some 43) rfl x rfl ?_)
              | (at_builtin; refine ts_append HSL.out rfl (.tmp 38) (.tmp 43) rfl rfl wk.heap.size 1 x rfl HONE9.out hl9 ?_; intro v9 w9 HS9))
            go_roundw
            case rel => exact ⟨i + 1, (acc) ++ [x], false, rfl, by go_num, by omega, by first | omega | (simp only [List.length_append, List.length_singleton]; omega), HS9, Lib.hid (by rw [← HE.out, HD.out, step_no_ne HLE.out HID.out]; try simp)⟩
            case measure => (simp [RowKit.intOf]; omega)
    · obtain rfl : i = n := by omega
      have hlt' : ¬ (i : Int) < (i : Int) := by omega
      have HDN : Hid (l.drop i = []) := List.drop_eq_nil_of_le (by rw [HR.out.len]; exact Nat.le_refl _)
      cases b with
      | true =>
        go_wp2_with fail
        go_ret
        exact ⟨_, rfl, by have := HE.out; rw [HDN.out] at this; simp [putTv] at this; rw [← this]; exact HS.out.base HB0.out⟩
      | false =>
        have XR : Hid (TenAt wr w.heap.size t) := X0.out.below HS.out.below HLT.out
        have HSA := Lib.hid (HS.out.all (below_alloc wr (.cells t.vals 35)))
        have HONE := Lib.hid (ten_cells1 wr 35 (0, 0) t)
        have hl6 : acc.length ≤ 1000000 := by omega
        go_wp2_with (first
          | (refine load_ten XR.out rfl (.tmp 3) rfl rfl ?_)
          | (refine build_oneTen rfl (.tmp 48) rfl (some 49) rfl t rfl ?_)
          | (at_builtin; refine ts_append HSA.out rfl (.tmp 47) (.tmp 49) rfl rfl wr.heap.size 1 t rfl HONE.out hl6 ?_; intro v8 w8 HS8))
        go_ret
        exact ⟨_, rfl, by have := HE.out; rw [HDN.out] at this; simp [putTv] at this; rw [← this]; exact HS8.out.base HB0.out⟩
end Go.Proofs.YtcmlchicpmnhdaaGreatDoor.Ten
/-
  Proved: what take of package manifest's reader returns, and how the reader stands behind it.
-/
namespace Go.Proofs.YtcmlchicpmnhdaaGreatDoor.Man
open Go.RowKit Go.Proofs.YtcmlchicpmnhdaaGreatDoor.Rec Go.Proofs.YtcmlchicpmnhdaaGreatDoor.Ten
set_option linter.unusedVariables false
set_option linter.unusedSimpArgs false

/-- A reader in its block; what it has to read lies below B. -/
structure RdAt (w : World) (B g : Nat) (r : Rd) : Prop where
  ex : ∃ A n c, Blk w g 125 #[.slice A n c, .bool r.short] ∧ Row w B A n (bvs r.rest) ∧ n ≤ c ∧ c ≤ maxLen
  ge : B ≤ g
theorem RdAt.lt {w : World} {B g : Nat} {r : Rd} (h : RdAt w B g r) : g < w.heap.size := by
  obtain ⟨A, n, c, hb, _⟩ := h.ex
  exact blk_lt hb
theorem RdAt.kept {w w' : World} {B g : Nat} {r : Rd} {row : Option Nat} (h : RdAt w B g r) (hg : w.grownBy w' row) (hne : some g ≠ row) (hB : ∀ k, row = some k → B ≤ k) : RdAt w' B g r := by
  have hlt := h.lt
  have hge := h.ge
  obtain ⟨A, n, c, hb, hr, h1, h2⟩ := h.ex
  refine ⟨⟨A, n, c, blk_kept hb hg hne, hr.keep fun b o hlb => ?_, h1, h2⟩, h.ge⟩
  refine World.cell?_of_block (a := ⟨b, o, none⟩) (hg.block b (by omega) ?_)
  intro e
  have := hB b e.symm
  omega
theorem RdAt.all {w w' : World} {B g : Nat} {r : Rd} (h : RdAt w B g r) (hb : Below w.heap.size w w') : RdAt w' B g r :=
  h.kept (row := none) ⟨hb.os, hb.tape, hb.output, hb.size, fun i hi _ => hb.block i hi⟩ (by simp) (fun k e => by cases e)
theorem nat_int {a b : Nat} (h : a = b) : Value.int .u64 (a : Int) = .int .u64 (b : Int) := by rw [h]
set_option maxRecDepth 100000 in
set_option maxHeartbeats 4000000 in
theorem take_any {w : World} {B g : Nat} {r : Rd} (h : RdAt w B g r) (k : Nat) (K : Int) (hK : K = (k : Int)) (hk : 1 ≤ k ∧ k ≤ 8) :
    Calls Tryz.prog 66 #[.pointer (some ⟨g, 0, none⟩), .int .i64 K] w fun e w' => e = .returned (.int .u64 (r.val k : Int)) ∧ Hid (RdAt w' B g (r.next k)) ∧ Hid (w.grownBy w' (some g)) := by
  subst hK
  obtain ⟨A, n, c, hb, hr, hnc, hc⟩ := h.ex
  have hge := h.ge
  have hn : r.rest.length = n := hr.size
  have HBLK := Lib.hid hb
  have c0 : w.cell? ⟨g, 0, none⟩ = some (.slice A n c) := Blk.cell hb 0
  have f0 := Blk.free hb 0
  have f1 := Blk.free hb 1
  have c1 : w.cell? ⟨g, 1, none⟩ = some (.bool r.short) := Blk.cell hb 1
  have hcm : c ≤ 9223372036854775807 := by unfold maxLen at hc; exact hc
  have HR := Lib.hid hr
  have HC := Lib.hid hc
  have HN := Lib.hid hn
  have HGE := Lib.hid hge
  by_cases hlt : n < k
  · have hlt' : (n : Int) < (k : Int) := by omega
    have HV : Hid (r.val k = 0) := by
      have : r.val k = 0 := by unfold Rd.val; rw [if_pos (by omega)]
      exact this
    have HX : Hid (r.next k = ⟨r.rest, true⟩) := by
      have : r.next k = ⟨r.rest, true⟩ := by unfold Rd.next; rw [if_pos (by omega)]
      exact this
    obtain ⟨w1, hw1⟩ : ∃ w1, w1 = w.setCell ⟨g, 1, none⟩ (.bool true) := ⟨_, rfl⟩
    have HW1 := Lib.hid hw1
    clear h hb hr hn hc hge hw1
    go_enter Tryz.func66, Tryz.ntmps66
    go_wp2_with fail
    go_ret
    refine ⟨by rw [HV.out]; rfl, ?_, only_setCell w ⟨g, 1, none⟩ _⟩
    rw [HX.out]
    refine Lib.hid ⟨⟨A, n, c, Blk.put HBLK.out 1 _, HR.out.keep fun b o hlb => ?_, hnc, HC.out⟩, HGE.out⟩
    exact World.cell?_of_block (a := ⟨b, o, none⟩) ((only_setCell w ⟨g, 1, none⟩ (.bool true)).block b (by have := blk_lt HBLK.out; have := HGE.out; omega) (fun e => by injection e with e; dsimp only at e; have := HGE.out; omega))
  · have hlt' : ¬ (n : Int) < (k : Int) := by omega
    obtain ⟨b, o, rfl, hbB, _⟩ := hr.2 (by omega)
    obtain ⟨P, hP⟩ : ∃ P, (if c = k then some (⟨b, o, none⟩ : Addr) else some ⟨b, o + k, none⟩) = P := ⟨_, rfl⟩
    have hrow := row_upto hr (p := k) (by omega) hnc hP
    have HROW := Lib.hid hrow
    have hcut : Row w B (some ⟨b, o, none⟩) k (bvs (r.rest.take k)) := by have := hr.take (k := k) (by omega); rwa [bvs_take] at this
    have CG := Lib.hid (get_any (some ⟨b, o, none⟩) k c B (r.rest.take k) w hcut hk.2 (by omega) hc)
    obtain ⟨V, hV⟩ : ∃ V, V = beN (r.rest.take k) := ⟨_, rfl⟩
    rw [← hV] at CG
    have HV : Hid (r.val k = V) := by
      have : r.val k = V := by unfold Rd.val; rw [if_neg (by omega), hV]
      exact this
    have HX : Hid (r.next k = ⟨r.rest.drop k, r.short⟩) := by
      have : r.next k = ⟨r.rest.drop k, r.short⟩ := by unfold Rd.next; rw [if_neg (by omega)]
      exact this
    have hkn : k ≤ n := by omega
    have hkc : k ≤ c := by omega
    have hkI : (k : Int) ≤ (n : Int) := by omega
    clear h hb hr hn hc hge hrow hcut hV hlt
    go_enter Tryz.func66, Tryz.ntmps66
    go_wp2_with (go_at_call 91; (with_reducible refine CG.out.mono ?_); rintro e w' ⟨rfl, rfl⟩)
    go_ret
    refine ⟨by rw [HV.out]; rfl, ?_, only_setCell w ⟨g, 0, none⟩ _⟩
    rw [HX.out]
    refine Lib.hid ⟨⟨P, n - k, c - k, Blk.put HBLK.out 0 _, HROW.out.keep fun b o hlb => ?_, by omega, by have := HC.out; omega⟩, HGE.out⟩
    exact World.cell?_of_block (a := ⟨b, o, none⟩) ((only_setCell w ⟨g, 0, none⟩ (.slice P (n - k) (c - k))).block b (by have := blk_lt HBLK.out; have := HGE.out; omega) (fun e => by injection e with e; dsimp only at e; have := HGE.out; omega))
end Go.Proofs.YtcmlchicpmnhdaaGreatDoor.Man
