/-
  Texts one behind the other: ManTenant, ManTenWalk.
-/
import Derived.Deep.RegionLaw
import Derived.Test.YtcmlchicpmnhdaaGreatDoorG10
/-
  Proved: what takeTenant of package manifest's reader returns: a tenant whose segments lie in a row of its own.
-/
namespace Go.Proofs.YtcmlchicpmnhdaaGreatDoor.Man
open Go.RowKit Go.Proofs.YtcmlchicpmnhdaaGreatDoor.Rec Go.Proofs.YtcmlchicpmnhdaaGreatDoor.Ten
set_option linter.unusedVariables false
set_option linter.unusedSimpArgs false

theorem i64s_info : (Tryz.prog.info? 2).map (fun i => (i.zero, i.size, i.bytes)) = some (some (.int .i64 0), 1, 8) := by kernel_rfl
theorem result_ten {w : World} {fn : Func} {p : Tmp} {g : Nat} {x : Tv} (h : TenAt w g x) (hr : fn.results = #[.cell p 35]) (tmps : Array Value) (hp : tmps.getD p undef = .pointer (some ⟨g, 0, none⟩)) :
    (results fn tmps).run Tryz.prog w = .ok (.agg x.vals) w := by
  have hp' : tmps[p]?.getD undef = .pointer (some ⟨g, 0, none⟩) := by simpa using hp
  simp [results, hr, hp', asAddr, run_loadVar_row w g 35 35 x.vals (0, 0) _ h Tryz.underlying35 rfl ten_size]
/-- A tenant's numbers, its segments yet to come. -/
theorem built_ten (a b : Nat) (c : Int) (d : Nat) (e : Int) : Tryz.prog.built 35 [(0, .int .u32 (a : Int)), (1, .int .u64 (b : Int)), (2, .int .i64 c), (3, .int .u64 (d : Int)), (4, .int .i64 e)] = some (Tv.vals ⟨⟨a, b, c, d, e, []⟩, none, 0⟩) := by kernel_rfl
section
variable {w : World} {ops : Array Oper} {rest : List Oper} {o : Oper} {a : Act} {Q : Exit → Act → World → Prop}
theorem build_ten (hg : o.guard = none) (y0 y1 y2 y3 y4 : Operand) (ho : o.op = .build 35 #[(0, y0), (1, y1), (2, y2), (3, y3), (4, y4)]) (d : Option Tmp) (hd : o.dst = d) (i0 i1 : Nat) (i2 : Int) (i3 : Nat) (i4 : Int)
    (h0 : a.eval y0 = .int .u32 (i0 : Int)) (h1 : a.eval y1 = .int .u64 (i1 : Int)) (h2 : a.eval y2 = .int .i64 i2) (h3 : a.eval y3 = .int .u64 (i3 : Int)) (h4 : a.eval y4 = .int .i64 i4)
    (k : wpList Tryz.prog ops Q rest (a.put d (.agg (Tv.vals ⟨⟨i0, i1, i2, i3, i4, []⟩, none, 0⟩))) w) : wpList Tryz.prog ops Q (o :: rest) a w := by
  refine wpList_buildTo hg 35 _ ho d hd (Tv.vals ⟨⟨i0, i1, i2, i3, i4, []⟩, none, 0⟩) ?_ k
  rw [Array.toList_map]
  simp only [List.map_cons, List.map_nil, h0, h1, h2, h3, h4]
  exact built_ten i0 i1 i2 i3 i4
end
/-- A row of the call's own, in a region that draws. -/
theorem step_own {P : Program} {ops : Array Oper} {o : Oper} {a : Act} {w : World} {K : Act → World → Prop} {Q : Exit → Act → World → Prop} {E : Prop} {d : Option Tmp} (hgd : o.guard = none) (s x : Operand) (t : TypeId)
    (hd : o.dst = d) (ho : o.op = Op.call { callee := Callee.builtin Builtin.append, args := #[s, x], argTypes := #[t, t] })
    (base : Nat) (e : TypeId) (z : Value) (bytes : Nat) (ht : P.underlying t = some (.slice e)) (hinfo : (P.info? e).map (fun i => (i.zero, i.size, i.bytes)) = some (some z, 1, bytes)) (hz1 : z.cells = #[z])
    (v : Value) (n : Nat) (xs : List Value) (hs : a.eval s = v) (hown : w.ownsRow base e 1 v n xs)
    (ad : Addr) (m c : Nat) (news : List Value) (hx : a.eval x = .slice (some ad) m c) (hl : news.length = m) (hnews : ∀ j u, news[j]? = some u → w.cell? (ad.add j) = some u) (h1 : ∀ u ∈ news, u.oneCell' = true)
    (h63 : n + m ≤ maxLen) (hbytes : (n + m) * bytes ≤ 140737488355328) (hbase : base ≤ w.heap.size)
    (hK : ∀ v' w', Hid (w'.ownsRow base e 1 v' (n + m) (xs ++ news)) → Hid (w.grownBy w' v.ownBlock) → K (a.put d v') w') :
    if Region.wanted o (yielded ops a.tmps) = true then Oper.wp P o a w K Q else E :=
  want_append_own (by simp [Region.wanted, hgd]) s x t hd ho base e z bytes ht hinfo hz1 v n xs hs hown ad m c news hx hl hnews h1 h63 hbytes hbase hK
/-- A tenant under way: its segments lie in a row of the call's own. -/
structure Tk (w wr : World) (B g tb rb : Nat) (hd : Te) (r6 : Rd) (i : Nat) : Prop where
  ex : ∃ A c, TenAt wr tb ⟨{ hd with segs := (takeSegs i r6).1 }, A, c⟩ ∧ wr.ownsRow w.heap.size 2 1 (.slice A i c) i (ivs (takeSegs i r6).1) ∧ i ≤ c ∧ c ≤ maxLen
  rd : RdAt wr B g (takeSegs i r6).2
  grow : w.grownBy wr (some g)
  res : TenAt wr rb zeroTv
  lt : g < w.heap.size ∧ w.heap.size ≤ tb ∧ w.heap.size ≤ rb ∧ tb ≠ rb
theorem takeSegs_two (n : Nat) (r : Rd) : takeSegs (n + 1) r = ((takeSegs n r).1 ++ [((takeSegs n r).2.val 6 : Int)], (takeSegs n r).2.next 6) := by simp only [takeSegs]
theorem own_not {w : World} {base k n g : Nat} {e t : TypeId} {v : Value} {xs : List Value} {cs : Array Value} (h : w.ownsRow base e k v n xs) (hb : Blk w g t cs) (he : e ≠ t) : some g ≠ v.ownBlock := by
  intro hg
  rcases h.2 with ⟨h0, _⟩ | ⟨g2, c2, u2, hv2, _, hg2, _⟩
  · rw [h0] at hg; simp [Value.ownBlock] at hg
  · rw [hv2] at hg
    have e1 : g = g2 := by simpa [Value.ownBlock] using hg
    subst e1
    unfold Blk at hb
    rw [hg2] at hb
    injection hb with hb
    injection hb with _ hh _
    exact he hh
theorem own_kept {w w' : World} {base k n : Nat} {e : TypeId} {v : Value} {xs : List Value} {row : Option Nat} (h : w.ownsRow base e k v n xs) (hg : w.grownBy w' row) (hne : ∀ g, v.ownBlock = some g → some g ≠ row) : w'.ownsRow base e k v n xs := by
  refine ⟨h.1, ?_⟩
  rcases h.2 with h0 | ⟨g, cap, cur, hv, h1, h2, h3⟩
  · exact .inl h0
  · have hw : v.ownBlock = some g := by rw [hv]; rfl
    exact .inr ⟨g, cap, cur, hv, h1, (hg.block g (h.lt g hw).2 (hne g hw)).trans h2, h3⟩
theorem own_all {w w' : World} {base k n : Nat} {e : TypeId} {v : Value} {xs : List Value} (h : w.ownsRow base e k v n xs) (hb : Below w.heap.size w w') : w'.ownsRow base e k v n xs :=
  own_kept h (row := none) ⟨hb.os, hb.tape, hb.output, hb.size, fun i hi _ => hb.block i hi⟩ (fun g _ => by simp)
theorem seg_kinds : (2 : TypeId) ≠ 35 := by decide
theorem ten_put {w : World} {tb : Nat} {t : Te} {A A' : Option Addr} {c c' n : Nat} {l : List Int} (h : TenAt w tb ⟨t, A, c⟩) (hl : l.length = n) : TenAt (w.setCell ⟨tb, 5, none⟩ (.slice A' n c')) tb ⟨{ t with segs := l }, A', c'⟩ := by
  have := Blk.put h 5 (.slice A' n c')
  subst hl
  exact this
theorem tk_next {w wr w4 w8 : World} {B g tb rb i : Nat} {hd : Te} {r6 : Rd} {A : Option Addr} {c : Nat} {o : Obj} {v8 : Value} (HK : Tk w wr B g tb rb hd r6 i) (hx : TenAt wr tb ⟨{ hd with segs := (takeSegs i r6).1 }, A, c⟩) (ho : wr.ownsRow w.heap.size 2 1 (.slice A i c) i (ivs (takeSegs i r6).1))
    (R4 : RdAt w4 B g ((takeSegs i r6).2.next 6)) (G4 : wr.drew.grownBy w4 (some g)) (G8 : w8.ownsRow w.heap.size 2 1 v8 (i + 1) (ivs (takeSegs i r6).1 ++ [.int .i64 ((takeSegs i r6).2.val 6 : Int)])) (G9 : (w4.alloc o).grownBy w8 (Value.slice A i c).ownBlock) :
    Tk w (w8.setCell ⟨tb, 5, none⟩ v8) B g tb rb hd r6 (i + 1) := by
  obtain ⟨A', c', rfl, hc1, hc2⟩ := own_form G8
  obtain ⟨l1, l2, l3, l4⟩ := HK.lt
  have hgb := HK.rd.ge
  have n1 : some tb ≠ (some g : Option Nat) := by simp; omega
  have n2 : some rb ≠ (some g : Option Nat) := by simp; omega
  have x0 : TenAt wr.drew tb ⟨{ hd with segs := (takeSegs i r6).1 }, A, c⟩ := hx
  have z0 : TenAt wr.drew rb zeroTv := HK.res
  have x4 := x0.kept G4 n1
  have z4 := z0.kept G4 n2
  have x5 := blk_below x4 (below_alloc w4 o) x4.lt
  have z5 := blk_below z4 (below_alloc w4 o) z4.lt
  have o0 : wr.drew.ownsRow w.heap.size 2 1 (.slice A i c) i (ivs (takeSegs i r6).1) := ho
  have nx := own_not ho hx seg_kinds
  have nz := own_not ho HK.res seg_kinds
  have x8 : TenAt w8 tb ⟨{ hd with segs := (takeSegs i r6).1 }, A, c⟩ := blk_kept x5 G9 nx
  have z8 : TenAt w8 rb zeroTv := blk_kept z5 G9 nz
  have hsz : ∀ k, (Value.slice A i c).ownBlock = some k → w.heap.size ≤ k := fun k hk => (ho.lt k hk).1
  have R5 := R4.all (below_alloc w4 o)
  have R8 : RdAt w8 B g ((takeSegs i r6).2.next 6) := R5.kept G9 (fun e => by have := hsz g e.symm; omega) (fun k hk => by have := hsz k hk; omega)
  have hw4 : w.grownBy w4 (some g) := only_trans (only_drewN HK.grow 1) G4
  have hw5 : w.grownBy (w4.alloc o) (some g) := only_below hw4 ((below_alloc w4 o).mono hw4.size)
  have hw8 : w.grownBy w8 (some g) := by
    cases hk : (Value.slice A i c).ownBlock with
    | none => rw [hk] at G9; exact only_trans hw5 ⟨G9.os, G9.tape, G9.output, G9.size, fun j hj _ => G9.block j hj (by simp)⟩
    | some k => rw [hk] at G9; exact only_new hw5 (hsz k hk) G9
  have e1 := takeSegs_two i r6
  refine ⟨⟨A', c', ?_, ?_, hc1, hc2⟩, ?_, only_new hw8 l2 (only_setCell w8 ⟨tb, 5, none⟩ _), blk_kept z8 (only_setCell w8 ⟨tb, 5, none⟩ _) (by simp; omega), HK.lt⟩
  · have := ten_put (A' := A') (c' := c') x8 (takeSegs_length (i + 1) r6)
    exact this
  · refine own_kept (row := some tb) ?_ (only_setCell w8 ⟨tb, 5, none⟩ _) (fun k hk e => own_not G8 x8 seg_kinds (by rw [hk]; exact e.symm))
    rw [e1]
    have e2 : ivs ((takeSegs i r6).1 ++ [((takeSegs i r6).2.val 6 : Int)]) = ivs (takeSegs i r6).1 ++ [.int .i64 ((takeSegs i r6).2.val 6 : Int)] := by simp [ivs]
    rw [e2]
    exact G8
  · rw [e1]
    exact R8.kept (only_setCell w8 ⟨tb, 5, none⟩ _) (by simp; omega) (fun k hk => by injection hk with hk; dsimp only at hk; omega)
theorem one_cell (w : World) (u : Value) (t : TypeId) : ∀ j v, [u][j]? = some v → (w.alloc (.cells #[u] t)).cell? ((⟨w.heap.size, 0, none⟩ : Addr).add j) = some v := by
  intro j v hv
  rw [Addr.add_lit, Nat.zero_add, cell_of_row _ w.heap.size j #[u] t (0, 0) (heap_alloc_new w _), ← Array.getElem?_toList]
  exact hv
end Go.Proofs.YtcmlchicpmnhdaaGreatDoor.Man
/-
  Proved: what takeTenant of package manifest's reader returns: a tenant whose segments lie in a row of its own.
-/
namespace Go.Proofs.YtcmlchicpmnhdaaGreatDoor.Man
open Go.RowKit Go.Proofs.YtcmlchicpmnhdaaGreatDoor.Rec Go.Proofs.YtcmlchicpmnhdaaGreatDoor.Ten
set_option linter.unusedVariables false
set_option linter.unusedSimpArgs false

/-- A tenant that was read: its segments lie in a row of the call's own. -/
structure Tenant (w w' : World) (B g : Nat) (r : Rd) (x : Tv) : Prop where
  te : x.te = (takeTe r).1
  row : w'.ownsRow w.heap.size 2 1 (.slice x.A x.te.segs.length x.c) x.te.segs.length (ivs x.te.segs)
  rd : RdAt w' B g (takeTe r).2
  grow : w.grownBy w' (some g)
set_option maxRecDepth 100000 in
set_option maxHeartbeats 8000000 in
theorem takeTenant_any {w : World} {B g : Nat} {r : Rd} (h : RdAt w B g r) :
    Calls Tryz.prog 67 #[.pointer (some ⟨g, 0, none⟩)] w fun e w' => ∃ x : Tv, e = .returned (.agg x.vals) ∧ Hid (Tenant w w' B g r x) := by
  have hgl := h.lt
  obtain ⟨w0, hw0⟩ : ∃ w0, w0 = w.alloc (.cells #[.int .u32 0, .int .u64 0, .int .i64 0, .int .u64 0, .int .i64 0, .slice none 0 0] 35) := ⟨_, rfl⟩
  have HB0 : Hid (Below w.heap.size w w0) := by rw [hw0]; exact below_alloc w _
  have Z0 : Hid (TenAt w0 w.heap.size zeroTv) := by rw [hw0]; exact ten_zero w
  have HR0 : Hid (RdAt w0 B g r) := h.all HB0.out
  obtain ⟨r1, hr1⟩ : ∃ r1, r1 = r.next 4 := ⟨_, rfl⟩
  obtain ⟨r2, hr2⟩ : ∃ r2, r2 = r1.next 6 := ⟨_, rfl⟩
  obtain ⟨r3, hr3⟩ : ∃ r3, r3 = r2.next 3 := ⟨_, rfl⟩
  obtain ⟨r4, hr4⟩ : ∃ r4, r4 = r3.next 6 := ⟨_, rfl⟩
  obtain ⟨r5, hr5⟩ : ∃ r5, r5 = r4.next 6 := ⟨_, rfl⟩
  obtain ⟨r6, hr6⟩ : ∃ r6, r6 = r5.next 1 := ⟨_, rfl⟩
  obtain ⟨v1, hv1⟩ : ∃ v, v = r.val 4 := ⟨_, rfl⟩
  obtain ⟨v2, hv2⟩ : ∃ v, v = r1.val 6 := ⟨_, rfl⟩
  obtain ⟨v3, hv3⟩ : ∃ v, v = r2.val 3 := ⟨_, rfl⟩
  obtain ⟨v4, hv4⟩ : ∃ v, v = r3.val 6 := ⟨_, rfl⟩
  obtain ⟨v5, hv5⟩ : ∃ v, v = r4.val 6 := ⟨_, rfl⟩
  obtain ⟨N, hN⟩ : ∃ v, v = r5.val 1 := ⟨_, rfl⟩
  have b1 : v1 < 4294967296 := by rw [hv1]; exact r.val_lt 4
  have b3 : v3 < 16777216 := by rw [hv3]; exact r2.val_lt 3
  have b5 : v5 < 281474976710656 := by rw [hv5]; exact r4.val_lt 6
  have bN : N < 256 := by rw [hN]; exact r5.val_lt 1
  have C1 : Hid (∀ W, Hid (RdAt W B g r) → Calls Tryz.prog 66 #[.pointer (some ⟨g, 0, none⟩), .int .i64 4] W fun e w' => e = .returned (.int .u64 (v1 : Int)) ∧ Hid (RdAt w' B g r1) ∧ Hid (W.grownBy w' (some g))) := fun W hW => by rw [hv1, hr1]; exact take_any hW.out 4 4 rfl ⟨by decide, by decide⟩
  have C2 : Hid (∀ W, Hid (RdAt W B g r1) → Calls Tryz.prog 66 #[.pointer (some ⟨g, 0, none⟩), .int .i64 6] W fun e w' => e = .returned (.int .u64 (v2 : Int)) ∧ Hid (RdAt w' B g r2) ∧ Hid (W.grownBy w' (some g))) := fun W hW => by rw [hv2, hr2]; exact take_any hW.out 6 6 rfl ⟨by decide, by decide⟩
  have C3 : Hid (∀ W, Hid (RdAt W B g r2) → Calls Tryz.prog 66 #[.pointer (some ⟨g, 0, none⟩), .int .i64 3] W fun e w' => e = .returned (.int .u64 (v3 : Int)) ∧ Hid (RdAt w' B g r3) ∧ Hid (W.grownBy w' (some g))) := fun W hW => by rw [hv3, hr3]; exact take_any hW.out 3 3 rfl ⟨by decide, by decide⟩
  have C4 : Hid (∀ W, Hid (RdAt W B g r3) → Calls Tryz.prog 66 #[.pointer (some ⟨g, 0, none⟩), .int .i64 6] W fun e w' => e = .returned (.int .u64 (v4 : Int)) ∧ Hid (RdAt w' B g r4) ∧ Hid (W.grownBy w' (some g))) := fun W hW => by rw [hv4, hr4]; exact take_any hW.out 6 6 rfl ⟨by decide, by decide⟩
  have C5 : Hid (∀ W, Hid (RdAt W B g r4) → Calls Tryz.prog 66 #[.pointer (some ⟨g, 0, none⟩), .int .i64 6] W fun e w' => e = .returned (.int .u64 (v5 : Int)) ∧ Hid (RdAt w' B g r5) ∧ Hid (W.grownBy w' (some g))) := fun W hW => by rw [hv5, hr5]; exact take_any hW.out 6 6 rfl ⟨by decide, by decide⟩
  have C6 : Hid (∀ W, Hid (RdAt W B g r5) → Calls Tryz.prog 66 #[.pointer (some ⟨g, 0, none⟩), .int .i64 1] W fun e w' => e = .returned (.int .u64 (N : Int)) ∧ Hid (RdAt w' B g r6) ∧ Hid (W.grownBy w' (some g))) := fun W hW => by rw [hN, hr6]; exact take_any hW.out 1 1 rfl ⟨by decide, by decide⟩
  have HTE : Hid (headTe r = ⟨v1, v2, (v3 : Int), v4, (v5 : Int), []⟩ ∧ (headRd r).val 1 = N ∧ (headRd r).next 1 = r6) := by
    have e : headTe r = ⟨v1, v2, (v3 : Int), v4, (v5 : Int), []⟩ ∧ (headRd r).val 1 = N ∧ (headRd r).next 1 = r6 := by
      refine ⟨?_, ?_, ?_⟩
      · unfold headTe; rw [hv1, hv2, hv3, hv4, hv5, hr4, hr3, hr2, hr1]
      · rw [headRd_eq, hN, hr5, hr4, hr3, hr2, hr1]
      · rw [headRd_eq, hr6, hr5, hr4, hr3, hr2, hr1]
    exact Lib.hid e
  obtain ⟨hd, hhd⟩ : ∃ hd : Te, hd = ⟨v1, v2, (v3 : Int), v4, (v5 : Int), []⟩ := ⟨_, rfl⟩
  have HHD := Lib.hid hhd
  have HGL := Lib.hid hgl
  clear h hr1 hr2 hr3 hr4 hr5 hr6 hv1 hv2 hv3 hv4 hv5 hN hhd hgl
  go_enter Tryz.func67, Tryz.ntmps67
  go_upto_region 1 with fail
  rw [← hw0]
  clear hw0
  go_upto_region 2 with (first
    | (go_at_call 66; (with_reducible refine (C5.out _ HR4).mono ?_); rintro e w5 ⟨rfl, HR5, HG5⟩)
    | (go_at_call 66; (with_reducible refine (C4.out _ HR3).mono ?_); rintro e w4 ⟨rfl, HR4, HG4⟩)
    | (go_at_call 66; (with_reducible refine (C3.out _ HR2).mono ?_); rintro e w3 ⟨rfl, HR3, HG3⟩)
    | (go_at_call 66; (with_reducible refine (C2.out _ HR1).mono ?_); rintro e w2 ⟨rfl, HR2, HG2⟩)
    | (go_at_call 66; (with_reducible refine (C1.out _ HR0).mono ?_); rintro e w1 ⟨rfl, HR1, HG1⟩)
    | (refine build_ten rfl (.tmp 6) (.tmp 8) (.tmp 11) (.tmp 13) (.tmp 16) rfl (some 17) rfl v1 v2 v3 v4 v5 rfl rfl rfl rfl rfl ?_)
    | (refine store_ten (ten_zero w5) rfl rfl (.tmp 3) (.tmp 17) rfl rfl ⟨⟨v1, v2, (v3 : Int), v4, (v5 : Int), []⟩, none, 0⟩ rfl rfl ?_; intro w6 G5 G6))
  obtain ⟨tb, htb⟩ : ∃ tb, tb = w5.heap.size := ⟨_, rfl⟩
  rw [← htb] at G5 G6 ⊢
  have HST : Hid (g < w.heap.size ∧ w.heap.size < tb ∧ RdAt w6 B g r5 ∧ TenAt w6 tb ⟨⟨v1, v2, (v3 : Int), v4, (v5 : Int), []⟩, none, 0⟩ ∧ TenAt w6 w.heap.size zeroTv ∧ w.grownBy w6 (some g)) := by
    have g5 := HG5.out
    have hgl := HGL.out
    have n2 : some w.heap.size ≠ (some g : Option Nat) := by simp; omega
    have z1 := Z0.out.kept HG1.out n2
    have z2 := z1.kept HG2.out n2
    have z3 := z2.kept HG3.out n2
    have z4 := z3.kept HG4.out n2
    have z5 := z4.kept HG5.out n2
    have g0 : w.grownBy w0 (some g) := only_below (only_refl w _) HB0.out
    have k5 := only_trans (only_trans (only_trans (only_trans (only_trans g0 HG1.out) HG2.out) HG3.out) HG4.out) HG5.out
    have k6 := only_below k5 ((below_alloc w5 (.cells #[.int .u32 0, .int .u64 0, .int .i64 0, .int .u64 0, .int .i64 0, .slice none 0 0] 35)).mono k5.size)
    have hlt : w.heap.size < tb := by rw [htb]; exact z5.lt
    have r6' := HR5.out.all (below_alloc w5 (.cells #[.int .u32 0, .int .u64 0, .int .i64 0, .int .u64 0, .int .i64 0, .slice none 0 0] 35))
    have z6 := blk_below z5 (below_alloc w5 (.cells #[.int .u32 0, .int .u64 0, .int .i64 0, .int .u64 0, .int .i64 0, .slice none 0 0] 35)) z5.lt
    have hge := HR5.out.ge
    refine ⟨hgl, hlt, r6'.kept (only_hid G6) (by simp; omega) (fun k hk => by injection hk with hk; omega), G5.out, blk_kept z6 (only_hid G6) (by simp; omega), only_new k6 (Nat.le_of_lt hlt) (only_hid G6)⟩
  have HR6 : Hid (RdAt w6 B g r5) := HST.out.2.2.1
  clear G5 G6 HG1 HG2 HG3 HG4 HG5 HR0 HR1 HR2 HR3 HR4 HR5 HB0 Z0 C1 C2 C3 C4 C5 htb
  go_upto_region 3 with (go_at_call 66; (with_reducible refine (C6.out _ HR6).mono ?_); rintro e w7 ⟨rfl, HR7, HG7⟩)
  have HK0 : Hid (Tk w w7 B g tb w.heap.size hd r6 0) := by
    obtain ⟨l1, l2, q1, q2, q3, q4⟩ := HST.out
    refine Lib.hid ⟨⟨none, 0, ?_, World.ownsRow_nil _ _ _ _, Nat.le_refl _, by decide⟩, HR7.out, only_trans q4 HG7.out, q3.kept HG7.out (by simp; omega), l1, Nat.le_of_lt l2, Nat.le_refl _, by omega⟩
    rw [HHD.out]
    exact q2.kept HG7.out (by simp; omega)
  clear HST HR6 HR7 HG7 C6
  go_wp2_with fail
  go_loopw [20] (fun cv wr => ∃ i : Nat, cv = .int .u64 (i : Int) ∧ i ≤ N ∧ Hid (Tk w wr B g tb w.heap.size hd r6 i)) (fun cv _ => N - (RowKit.intOf cv).toNat)
  case atStart => exact ⟨0, rfl, Nat.zero_le _, HK0⟩
  case round =>
    obtain ⟨i, rfl, hi, HK⟩ := hrel
    by_cases hlt : i < N
    · have hlt' : (i : Int) < (N : Int) := by omega
      obtain ⟨A, c, hx, ho, hic, hcm⟩ := HK.out.ex
      have hsl := takeSegs_length i r6
      have c5 : wr.cell? ⟨tb, 5, none⟩ = some (.slice A i c) := by have := hx.cells.2.2.2.2.2; rw [show (Te.segs { hd with segs := (takeSegs i r6).1 }).length = i from hsl] at this; exact this
      obtain ⟨V, hV⟩ : ∃ V, V = (takeSegs i r6).2.val 6 := ⟨_, rfl⟩
      have bV : V < 281474976710656 := by rw [hV]; exact ((takeSegs i r6).2).val_lt 6
      have CT : Hid (Calls Tryz.prog 66 #[.pointer (some ⟨g, 0, none⟩), .int .i64 6] wr.drew fun e w' => e = .returned (.int .u64 (V : Int)) ∧ Hid (RdAt w' B g ((takeSegs i r6).2.next 6)) ∧ Hid (wr.drew.grownBy w' (some g))) := by
        rw [hV]
        exact take_any (HK.out.rd.all (below_drewN (Below.refl _ _) 1)) 6 6 rfl ⟨by decide, by decide⟩
      have hwV : IntKind.i64.wrap (V : Int) = (V : Int) := by rw [IntKind.wrap_i64]; omega
      have HX := Lib.hid hx
      have HO := Lib.hid ho
      have HV := Lib.hid hV
      have HL := Lib.hid HK.out.lt
      have HF : Hid (∀ w4 : World, wr.drew.grownBy w4 (some g) → w4.cell? ⟨tb, 5, none⟩ = some (.slice A i c) ∧ (∀ o, (w4.alloc o).cell? ⟨tb, 5, none⟩ = some (.slice A i c)) ∧ (∀ o, (w4.alloc o).ownsRow w.heap.size 2 1 (.slice A i c) i (ivs (takeSegs i r6).1)) ∧ w.heap.size ≤ w4.heap.size) := by
        refine Lib.hid fun w4 G4 => ?_
        obtain ⟨l1, l2, l3, l4⟩ := HL.out
        have x4 : TenAt w4 tb _ := TenAt.kept (show TenAt wr.drew tb _ from HX.out) G4 (by simp; omega)
        have e4 := x4.cells.2.2.2.2.2
        have o4 : w4.ownsRow w.heap.size 2 1 (.slice A i c) i (ivs (takeSegs i r6).1) := own_kept (show wr.drew.ownsRow w.heap.size 2 1 (.slice A i c) i (ivs (takeSegs i r6).1) from HO.out) G4 (fun k hk e => by injection e with e; have := (HO.out.lt k hk).1; omega)
        rw [show (Te.segs { hd with segs := (takeSegs i r6).1 }).length = i from takeSegs_length i r6] at e4
        exact ⟨e4, fun o => ((below_alloc w4 o).cell (p := ⟨tb, 5, none⟩) x4.lt).trans e4, fun o => own_all o4 (below_alloc w4 o), Nat.le_trans HK.out.grow.size G4.size⟩
      have HF8 : Hid (∀ (w4 w8 : World) (o : Obj), wr.drew.grownBy w4 (some g) → (w4.alloc o).grownBy w8 (Value.slice A i c).ownBlock → w8.cell? ⟨tb, 5, none⟩ = some (.slice A i c) ∧ w8.frozen? ⟨tb, 5, none⟩ = false) := by
        refine Lib.hid fun w4 w8 o G4 G9 => ?_
        obtain ⟨l1, l2, l3, l4⟩ := HL.out
        have x4 : TenAt w4 tb _ := TenAt.kept (show TenAt wr.drew tb _ from HX.out) G4 (by simp; omega)
        have x5 := blk_below x4 (below_alloc w4 o) x4.lt
        have x8 : TenAt w8 tb ⟨{ hd with segs := (takeSegs i r6).1 }, A, c⟩ := blk_kept x5 G9 (own_not HO.out HX.out seg_kinds)
        have e8 := x8.cells.2.2.2.2.2
        rw [show (Te.segs { hd with segs := (takeSegs i r6).1 }).length = i from takeSegs_length i r6] at e8
        exact ⟨e8, Blk.free x8 5⟩
      have E2 : Hid (∀ u ∈ [Value.int .i64 (V : Int)], u.oneCell' = true) := Lib.hid fun u hu => by rw [List.mem_singleton.1 hu]; rfl
      have E3 : Hid (i + 1 ≤ maxLen) := by show i + 1 ≤ maxLen; unfold maxLen; omega
      have E4 : Hid ((i + 1) * 8 ≤ 140737488355328) := by show (i + 1) * 8 ≤ 140737488355328; omega
      clear hx ho hV hsl
      go_wp2_with fail
      go_region_law (first
        | (go_simp; go_at_call 66; (with_reducible refine CT.out.mono ?_); rintro e w4 ⟨rfl, R4, G4⟩
           have c54 := (HF.out w4 G4.out).1
           have c5a := (HF.out w4 G4.out).2.1)
        | (refine step_own rfl (.tmp 23) (.tmp 27) 33 (d := some 28) rfl rfl w.heap.size 2 (.int .i64 0) 8 Tryz.underlying33 i64s_info rfl (.slice A i c) i (ivs (takeSegs i r6).1) rfl ((HF.out w4 G4.out).2.2.1 _) ⟨w4.heap.size, 0, none⟩ 1 1 [.int .i64 (V : Int)] rfl rfl (one_cell w4 _ _) E2.out E3.out E4.out (Nat.le_trans (HF.out w4 G4.out).2.2.2 (by simp)) ?_
           intro v8 w8 G8 G9
           obtain ⟨A8, c8, rfl, _, _⟩ := own_form G8.out
           have c58 := (HF8.out w4 w8 _ G4.out G9.out).1
           have f58 := (HF8.out w4 w8 _ G4.out G9.out).2))
      all_goals
        have HN : Hid (Tk w (w8.setCell ⟨tb, 5, none⟩ (.slice A8 (i + 1) c8)) B g tb w.heap.size hd r6 (i + 1)) := by
          have e8 := G8.out
          rw [HV.out] at e8
          exact Lib.hid (tk_next HK.out HX.out HO.out R4.out G4.out e8 G9.out)
        clear G8 G9 G4 R4
        go_wp2_with fail
        go_roundw
        case rel => exact ⟨i + 1, by go_num, by omega, HN⟩
        case measure => (simp [RowKit.intOf]; omega)
    · obtain rfl : i = N := by omega
      obtain ⟨A, c, hx, ho, hic, hcm⟩ := HK.out.ex
      have HX := Lib.hid hx
      have HO := Lib.hid ho
      have HZ := Lib.hid HK.out.res
      clear hx ho
      go_wp2_with (first
        | (refine load_ten HX.out rfl (.tmp 3) rfl rfl ?_)
        | (refine store_ten HZ.out rfl rfl (.tmp 2) (.tmp 31) rfl rfl _ rfl rfl ?_; intro w9 G9 G10))
      refine bodyPost_ret (result_ten G9.out rfl _ rfl) rfl ?_
      obtain ⟨e1, e2, e3⟩ := HTE.out
      obtain ⟨l1, l2, l3, l4⟩ := HK.out.lt
      have hr : (takeTe r) = ({ hd with segs := (takeSegs i r6).1 }, (takeSegs i r6).2) := by unfold takeTe; rw [e1, e2, e3, HHD.out]
      have hsl := takeSegs_length i r6
      refine ⟨⟨{ hd with segs := (takeSegs i r6).1 }, A, c⟩, rfl, Lib.hid ⟨by rw [hr], ?_, by rw [hr]; exact HK.out.rd.kept (only_hid G10) (by simp; omega) (fun k hk => by injection hk with hk; have := HK.out.rd.ge; omega), only_new HK.out.grow (Nat.le_refl _) (only_hid G10)⟩⟩
      show w9.ownsRow w.heap.size 2 1 (.slice A (takeSegs i r6).1.length c) (takeSegs i r6).1.length (ivs (takeSegs i r6).1)
      rw [hsl]
      exact own_kept HO.out (only_hid G10) (fun k hk e => own_not HO.out HZ.out seg_kinds (by rw [hk]; exact e.symm))
end Go.Proofs.YtcmlchicpmnhdaaGreatDoor.Man
