/-
  Texts one behind the other: SegLies, ScanDraw, ScanFound.
-/
import Derived.Lib.MinMax
import Derived.StillTailTactics
import Derived.Deep.RegionLaw
import Derived.Test.YtkdnfikaodkhnaaDoorG09
import Derived.Test.YtkdnfikaodkhnaaDoorG16
import Derived.Test.YtkdnfikaodkhnaaDoorG25
/-
  How a segment lies in memory beside its disk; proved: what its calls Size and bytes do.
-/

namespace Go.Proofs.YtkdnfikaodkhnaaDoor.Seg
open Go.RowKit Go.Proofs.YtkdnfikaodkhnaaDoor.Disk Go.Proofs.YtkdnfikaodkhnaaDoor.Rec
set_option linter.unusedVariables false
set_option linter.unusedSimpArgs false

/-- A segment and its disk, as they lie in memory. -/
structure Lies (own : Own) (w0 w : World) (v : Sv) (d : Dk) : Prop where
  disk : Held own w0 w v.f d v.K
  room : d.room = v.rm
  N : d.N = v.N
  one : v.N = [(segName v.id v.num, v.g)]
  S : d.S = v.S
  wait : d.wait = v.wt
  fl : d.fl v.g = v.x
  blk : Blk w v.sg 70 #[ptr v.f, .int .u32 (v.id : Int), .string (str (segName v.id v.num))]
  own : own v.sg = some (v.sg, v.sg)
  ne : v.sg ≠ v.f
  id : v.id < 4294967296
  num : v.num ≤ 1099511627776
section
variable {own own' : Own} {w0 w w' : World} {v : Sv} {d : Dk}
theorem Lies.look (h : Lies own w0 w v d) : d.look (segName v.id v.num) = some v.x := by
  rw [Dk.look, h.N, h.one]
  simp [Disk.dget, h.fl]
theorem Lies.look' (h : Lies own w0 w v d) : d.look (str (segName v.id v.num)).data.toList = some v.x := h.look
theorem Lies.dget (h : Lies own w0 w v d) : dget (segName v.id v.num) d.N = some v.g := by
  rw [h.N, h.one]
  simp [Disk.dget]
theorem name_small {id num : Nat} (h1 : id < 4294967296) (h2 : num ≤ 1099511627776) : (str (segName id num)).size ≤ maxLen := by
  rw [str_size]
  have := segName_length h1 h2
  unfold maxLen
  omega
theorem Lies.nm (h : Lies own w0 w v d) : (str (segName v.id v.num)).size ≤ maxLen := name_small h.id h.num
theorem Lies.xok (h : Lies own w0 w v d) : v.x.Ok := h.disk.ok h.look
theorem Lies.all (h : Lies own w0 w v d) (hb : Below w.heap.size w w') : Lies own w0 w' v d :=
  { h with disk := h.disk.all hb, blk := (hb.block _ (blk_lt' h.blk)).trans h.blk }
theorem Lies.step {d' : Dk} {x' : Fl} {K' : Nat} {S' : Dir} {wt' : List Chg} (h : Lies own w0 w v d) (hs : Step own own' v.f w w') (hd : Held own' w0 w' v.f d' K') (h1 : d'.room = d.room) (h2 : d'.N = d.N) (h3 : d'.S = S') (h4 : d'.wait = wt') (h5 : d'.fl v.g = x') :
    Lies own' w0 w' { v with x := x', K := K', S := S', wt := wt' } d' where
  disk := hd
  room := h1.trans h.room
  N := h2.trans h.N
  one := h.one
  S := h3
  wait := h4
  fl := h5
  blk := (hs.block _ (blk_lt' h.blk) (fun g e => h.ne (by rw [h.own] at e; injection e with e; injection e))).trans h.blk
  own := (hs.same _ (blk_lt' h.blk)).trans h.own
  ne := h.ne
  id := h.id
  num := h.num
theorem Lies.reads (h : Lies own w0 w v d) {n K' : Nat} (hs : Step own own v.f w w') (hd : Held own w0 w' v.f (d.read n) K') : Lies own w0 w' { v with K := K' } (d.read n) := by
  have := h.step (S' := v.S) (wt' := v.wt) (x' := v.x) hs hd rfl rfl h.S h.wait h.fl
  exact this
/-- A segment on another disk stays. -/
theorem Lies.other {w2 : World} {f : Nat} (h : Lies own w2 w v d) (hs : Step own own' f w w') (ht : ∀ b p, own' b = some p → b < w'.heap.size) (n1 : v.f ≠ f) (n2 : v.sg ≠ f) : Lies own' w2 w' v d :=
  { h with
    disk := h.disk.other hs n1 ht
    blk := (hs.block _ (blk_lt' h.blk) (fun g e => n2 (by rw [h.own] at e; injection e with e; injection e))).trans h.blk
    own := (hs.same _ (blk_lt' h.blk)).trans h.own }
theorem Lies.top (h : Lies own w0 w v d) : ∀ b p, own b = some p → b < w.heap.size := h.disk.top
theorem Lies.stepAll (h : Lies own w0 w v d) (hb : Below w.heap.size w w') : Step own own v.f w w' := Step.of_below h.top hb
end
/-- On a disk that fails no call; on one whose call behind k others is to fail. -/
def SG (own : Own) (w0 w : World) (v : Sv) : Prop := ∃ d, Lies own w0 w v d ∧ d.failing = false
def SF (own : Own) (w0 w : World) (v : Sv) (k : Nat) : Prop := ∃ d, Lies own w0 w v d ∧ d.failing = true ∧ d.others = (k : Int)
theorem frs_step {own own' : Own} {w w' : World} {f sg : Nat} (hs : Step own own' f w w') (ht : ∀ b p, own' b = some p → b < w'.heap.size) : FrS SG f sg own own' w w' :=
  ⟨Fr.of_step hs, fun w2 v2 n1 _ _ n2 ⟨d, h, hf⟩ => ⟨d, h.other hs ht n1 n2, hf⟩⟩
set_option maxRecDepth 100000 in
set_option maxHeartbeats 2000000 in
theorem size_lies {own : Own} {w0 w : World} {v : Sv} {d : Dk} (h : Lies own w0 w v d) :
    Calls Tryd.prog 13 #[ptr v.sg] w fun e w' => e = .returned (.int .i64 (v.x.now.length : Int)) ∧ Below w.heap.size w w' := by
  have c0 : w.cell? ⟨v.sg, 0, none⟩ = some (ptr v.f) := Blk.cell h.blk 0
  have c2 : w.cell? ⟨v.sg, 2, none⟩ = some (.string (str (segName v.id v.num))) := Blk.cell h.blk 2
  have hd := h.all (Below.refl w.heap.size w).drew
  have CS := Lib.hid (size_look _ hd.disk hd.nm hd.look')
  have hmax : max (v.x.now.length : Int) 0 = (v.x.now.length : Int) := by omega
  have hl := h.xok.max
  obtain ⟨sg, hsg⟩ : ∃ sg, sg = v.sg := ⟨_, rfl⟩
  obtain ⟨f, hf⟩ : ∃ f, f = v.f := ⟨_, rfl⟩
  obtain ⟨nm, hnm⟩ : ∃ nm, nm = str (segName v.id v.num) := ⟨_, rfl⟩
  obtain ⟨n, hn⟩ : ∃ n, n = v.x.now.length := ⟨_, rfl⟩
  rw [← hsg, ← hf] at c0
  rw [← hsg, ← hnm] at c2
  rw [← hf, ← hnm, ← hn] at CS
  rw [← hn] at hmax hl ⊢
  rw [← hsg]
  clear h hsg hf hnm hn hd
  unfold ptr at *
  go_enter Tryd.func13, Tryd.ntmps13
  go_wp2_with fail
  go_still_tail 9, (by kernel_rfl)
  still_call (CS.out)
  repeat still_step
  refine wpStill_nil ?_
  change wpList _ _ _ _ _ w.drew
  go_wp2
  go_ret
  exact ⟨rfl, (Below.refl _ _).drew⟩
set_option maxRecDepth 100000 in
set_option maxHeartbeats 2000000 in
theorem bytes_lies {own : Own} {w0 w : World} {v : Sv} {d : Dk} (a n : Nat) (h : Lies own w0 w v d) (hn : a + n ≤ v.x.now.length) (hK : v.K + 1 ≤ 1073741824) :
    Calls Tryd.prog 50 #[ptr v.sg, .int .i64 (a : Int), .int .i64 (n : Int)] w fun e w' => ∃ A c, e = .returned (.slice A n c) ∧ n ≤ c ∧ c ≤ maxLen ∧ Free own w' A n (bvs ((v.x.now.drop a).take n)) ∧ Lies own w0 w' { v with K := v.K + 1 } (d.read n) ∧ Step own own v.f w w' := by
  have c0 : w.cell? ⟨v.sg, 0, none⟩ = some (ptr v.f) := Blk.cell h.blk 0
  have c2 : w.cell? ⟨v.sg, 2, none⟩ = some (.string (str (segName v.id v.num))) := Blk.cell h.blk 2
  have hb := (Below.refl w.heap.size w).drew
  have hd := h.all hb
  have CR := Lib.hid (read_look _ a n hd.disk hd.nm hd.look' hn hK)
  have HH := Lib.hid hd
  have HS := Lib.hid (h.stepAll hb)
  obtain ⟨sg, hsg⟩ : ∃ sg, sg = v.sg := ⟨_, rfl⟩
  obtain ⟨f, hf⟩ : ∃ f, f = v.f := ⟨_, rfl⟩
  obtain ⟨nm, hnm⟩ : ∃ nm, nm = str (segName v.id v.num) := ⟨_, rfl⟩
  rw [← hsg, ← hf] at c0
  rw [← hsg, ← hnm] at c2
  rw [← hf, ← hnm] at CR
  have HF := Lib.hid hf
  have HSG := Lib.hid hsg
  rw [← hsg]
  clear h hsg hf hnm hd hb hn hK
  have ep : ptr f = .pointer (some ⟨f, 0, none⟩) := rfl
  unfold ptr
  rw [ep] at c0
  clear ep
  go_enter Tryd.func50, Tryd.ntmps50
  go_wp2_with fail
  go_region_law (go_simp; go_at_call 67; refine CR.out.mono ?_; rintro e w1 ⟨u, rfl, hr, hd1, hst⟩)
  all_goals
    obtain ⟨A, c, rfl, h1, h2⟩ := own_form hr
    rw [HF.out] at hd1 hst
    have HL := Lib.hid (HH.out.reads hst hd1)
    have HA := Lib.hid (HH.out.disk.answer hr)
    have HT := Lib.hid (HS.out.trans hst)
    have H1 := Lib.hid h1
    have H2 := Lib.hid h2
    clear hr hd1 hst h1 h2
    go_wp2
    go_ret
    exact ⟨A, c, rfl, H1.out, H2.out, HA.out, by rw [HSG.out]; exact HL.out, HT.out⟩
end Go.Proofs.YtkdnfikaodkhnaaDoor.Seg
/-
  Laws for regions that draw: a struct is built, a slice of one is made, one more is appended to the records found.
-/
namespace Go.Proofs.YtkdnfikaodkhnaaDoor.Rec
open Go.RowKit
set_option linter.unusedVariables false
set_option linter.unusedSimpArgs false

section
variable {w : World} {ops : Array Oper} {o : Oper} {a : Act} {K : Act → World → Prop} {Q : Exit → Act → World → Prop}
theorem run_build_found (T : TypeId) (y1 y2 : Operand) (ho : o.op = .build T #[(0, y1), (1, y2)]) (v1 v2 : Value) (h1 : a.eval y1 = v1) (h2 : a.eval y2 = v2) (fc : Array Value) (hb : Tryd.prog.built T [(0, v1), (1, v2)] = some fc) :
    (execOp a.eval o).run Tryd.prog w = .ok (.value (.agg fc)) w := by
  unfold execOp
  have hb' : Tryd.prog.built T (#[(0, v1), (1, v2)] : Array (Nat × Value)).toList = some fc := hb
  have := run_build (P := Tryd.prog) w T #[(0, v1), (1, v2)] fc hb'
  simp only [ho, Sem.run_bind, List.map_toArray, List.map_cons, List.map_nil, h1, h2, this, Result.andThen_ok]
  rfl
theorem wp_build_one (T e : TypeId) (y : Operand) (ho : o.op = .buildSlice T 1 #[(0, y)]) (d : Option Tmp) (hd : o.dst = d) (hu : Tryd.prog.underlying T = some (.slice e)) {z : Value} {by' k : Nat} (hk : 0 < k ∧ k ≤ 1000) (hi : (Tryd.prog.info? e).map (fun i => (i.zero, i.size, i.bytes)) = some (some z, k, by'))
    (v : Value) (hy : a.eval y = v) (fc : Array Value) (hb : Tryd.prog.builtSlice e 1 [(0, v)] = some fc) (h : K (a.put d (.slice (some ⟨w.heap.size, 0, none⟩) 1 1)) (w.alloc (.cells fc e))) : Oper.wp Tryd.prog o a w K Q := by
  obtain ⟨i, hii, hzz⟩ := Option.map_eq_some_iff.1 hi
  simp only [Prod.mk.injEq] at hzz
  obtain ⟨hz0, hs1, _⟩ := hzz
  obtain ⟨hk1, hk2⟩ := hk
  subst hd
  refine wp_buildSlice T e 1 _ ho fc i z hu hii hz0 (by rw [hs1, Nat.one_mul]; omega) (by rw [hs1]; omega) ?_ h
  unfold Program.builtSlice at hb
  simp only [hii, hz0] at hb
  rw [if_neg (by rw [hs1]; omega)] at hb
  rw [Array.toList_map]
  simp only [List.map_cons, List.map_nil, hy]
  exact hb
variable {w0 : World} {e : TypeId} {v : Value} {l : List (Nat × Rc)}
theorem wp_fd_append (h : Fd w0 e w v l) (T : TypeId) (z : Value) (by' : Nat) (hT : Tryd.prog.underlying T = some (.slice e)) (hi : (Tryd.prog.info? e).map (fun i => (i.zero, i.size, i.bytes)) = some (some z, 7, by')) (hz : z.cells.size = 7) (hby : by' ≤ 64)
    (d : Option Tmp) (hd : o.dst = d) (s y : Operand) (ho : o.op = .call { callee := .builtin .append, args := #[s, y], argTypes := #[T, T] }) (hs : a.eval s = v)
    (g c : Nat) (q : Nat × Rc) (hy : a.eval y = .slice (some ⟨g, 0, none⟩) 1 c) (hq : ∀ j u, (fcells q)[j]? = some u → w.cell? ⟨g, j, none⟩ = some u) (hl : l.length ≤ 100000000)
    (k : ∀ v' w', Hid (Fd w0 e w' v' (l ++ [q])) → K (a.put d v') w') : Oper.wp Tryd.prog o a w K Q := by
  obtain ⟨i, hii, hzz⟩ := Option.map_eq_some_iff.1 hi
  simp only [Prod.mk.injEq] at hzz
  obtain ⟨hz0, hs1, hb1⟩ := hzz
  subst hd
  refine wp_append_own w s y T ho w0.heap.size e i z 7 by' hT hii hz0 hs1 hb1 hz (by decide) v l.length (flat l) hs h.row ⟨g, 0, none⟩ 1 c (fcells q) hy (fcells_length q) ?_ (fcells_one q) (by unfold maxLen; omega) ?_ h.below.size ?_
  · intro j u hu
    have := hq j u hu
    rw [Addr.add_lit, Nat.zero_add]
    exact this
  · have : (l.length + 1) * by' ≤ (l.length + 1) * 64 := Nat.mul_le_mul_left _ hby
    omega
  · intro v' w' h1 h2 _
    refine k v' w' ⟨?_, own_below h.row h.below (Nat.le_refl _) h.below.size h2⟩
    rw [flat_snoc] at h1
    rw [List.length_append]
    exact h1
end
end Go.Proofs.YtkdnfikaodkhnaaDoor.Rec
/-
  Proved: what Found of law 7 returns: the records found of package scan, as the reference's.
  Conditions: the slice reads as records found, not too many.
-/
namespace Go.Proofs.YtkdnfikaodkhnaaDoor.Rec
open Go.RowKit
set_option linter.unusedVariables false
set_option linter.unusedSimpArgs false

theorem take_next {α : Type} {l : List α} {p : Nat} {q : α} (h : l[p]? = some q) : l.take p ++ [q] = l.take (p + 1) := by
  obtain ⟨hp, e⟩ := List.getElem?_eq_some_iff.1 h
  rw [List.take_add_one, h]
  rfl
set_option maxRecDepth 100000 in
set_option maxHeartbeats 8000000 in
theorem found_any (A : Option Addr) (n c : Nat) (l : List (Nat × Rc)) (w : World) (hR : Row w w.heap.size A (n * 7) (flat l)) (hl : l.length = n) (hnc : n ≤ c) (hc : c ≤ maxLen) (hn : n ≤ 8388608) :
    Calls Tryd.prog 47 #[.slice A n c] w fun e w' => ∃ v, e = .returned v ∧ Fd w 54 w' v l := by
  have hcm : c ≤ 9223372036854775807 := by unfold maxLen at hc; exact hc
  have HR := Lib.hid hR
  have HL := Lib.hid hl
  clear hR hc hl
  go_enter Tryd.func47, Tryd.ntmps47
  go_wp2_with fail
  go_loopw [3, 4] (fun v i wr => ∃ (p : Nat), i = .int .i64 (p : Int) ∧ p ≤ n ∧ Hid (Fd w 54 wr v (l.take p))) (fun _ i _ => n - (RowKit.intOf i).toNat)
  case atStart => exact ⟨0, rfl, Nat.zero_le _, Fd.nil w _⟩
  case round =>
    obtain ⟨p, rfl, hp, HF0⟩ := hrel
    by_cases hlt : p < n
    · obtain ⟨b, o, rfl, hb, _⟩ := HR.out.2 (by omega)
      obtain ⟨q, hq⟩ : ∃ q, l[p]? = some q := ⟨l[p]'(by rw [HL.out]; exact hlt), List.getElem?_eq_getElem _⟩
      have HIT : Hid (∀ W, Below w.heap.size w W → W.cell? ⟨b, o + p * 7, none⟩ = some (.int .i64 (q.1 : Int)) ∧ W.rangeAt b (o + p * 7 + 1) q.2.vals.toList) := fun W hW => found_rec (found_item (HR.out.below hW) p q hq)
      have HTN := Lib.hid (take_next hq)
      have hl6 : (l.take p).length ≤ 100000000 := by rw [List.length_take]; omega
      obtain ⟨m, hm⟩ : ∃ m, m = l.take p := ⟨_, rfl⟩
      rw [← hm] at HF0 HTN hl6
      clear hm hq
      have HF : Hid (Fd w 54 wr.drew u3 m) := HF0.out.all (Below.refl _ _).drew
      have HBR : Hid (Below w.heap.size w wr.drew) := HF.out.below
      have HONE := Lib.hid (one_cells wr.drew 54 (0, 0) q (fcells q).toArray rfl)
      have HBF := Lib.hid (built_ref q.1 q.2)
      have HBS := Lib.hid (slice_ref q.1 q.2)
      obtain ⟨fc, hfc⟩ : ∃ fc, fc = (fcells q).toArray := ⟨_, rfl⟩
      have hfc' : fc = (fcells (q.1, q.2)).toArray := hfc
      rw [← hfc] at HONE
      rw [← hfc'] at HBF HBS
      clear hfc hfc'
      go_upto_region 5 with fail
      refine wp_region_noPanic ?_
      refine wp_region_held_drew (S := fun W => Hid (Below w.heap.size w W)) (by kernel_rfl) HBR (fun h0 => ?_)
      refine held_take 0 (v := ?_) (d := (some 11)) rfl rfl (by kernel_rfl) (by kernel_rfl) (by kernel_rfl) (fun _ _ _ h => h) (Or.inl ⟨by rfl, ?_⟩) h0 ?_
      rotate_left
      · intro _ _; go_simp; (try with_reducible rfl)
      try simp only [Act.put, List.setIfInBounds_toArray, List.set_cons_zero, List.set_cons_succ]
      refine held_take 1 (v := ?_) (d := (some 12)) rfl rfl (by kernel_rfl) (by kernel_rfl) (by kernel_rfl) (fun _ _ _ h => h) (Or.inl ⟨by rfl, ?_⟩) h0 ?_
      rotate_left
      · intro _ _; go_simp; (try with_reducible rfl)
      try simp only [Act.put, List.setIfInBounds_toArray, List.set_cons_zero, List.set_cons_succ]
      refine held_take 2 (v := ?_) (d := (some 13)) rfl rfl (by kernel_rfl) (by kernel_rfl) (by kernel_rfl) (fun _ _ _ h => h) (Or.inl ⟨by rfl, ?_⟩) h0 ?_
      rotate_left
      · intro _ _; go_simp; (try with_reducible rfl)
      try simp only [Act.put, List.setIfInBounds_toArray, List.set_cons_zero, List.set_cons_succ]
      refine held_take 3 (v := ?_) (d := (some 14)) rfl rfl (by kernel_rfl) (by kernel_rfl) (by kernel_rfl) (fun _ _ _ h => h) (Or.inl ⟨by rfl, ?_⟩) h0 ?_
      rotate_left
      · intro _ _; go_simp; (try with_reducible rfl)
      try simp only [Act.put, List.setIfInBounds_toArray, List.set_cons_zero, List.set_cons_succ]
      refine held_take 4 (v := ?_) (d := (some 15)) rfl rfl (by kernel_rfl) (by kernel_rfl) (by kernel_rfl) (fun _ _ _ h => h) (Or.inl ⟨by rfl, ?_⟩) h0 ?_
      rotate_left
      · intro _ _; go_simp; (try with_reducible rfl)
      try simp only [Act.put, List.setIfInBounds_toArray, List.set_cons_zero, List.set_cons_succ]
      refine held_take 5 (v := .int .i64 (q.1 : Int)) (d := some 16) rfl rfl (by kernel_rfl) (by kernel_rfl) (by kernel_rfl) (fun _ _ _ h => h) (Or.inl ⟨by rfl, ?_⟩) h0 ?_
      · intro W hW; have hc := (HIT.out W hW.out).1; go_simp
      try simp only [Act.put, List.setIfInBounds_toArray, List.set_cons_zero, List.set_cons_succ]
      refine held_take 6 (v := ?_) (d := (some 17)) rfl rfl (by kernel_rfl) (by kernel_rfl) (by kernel_rfl) (fun _ _ _ h => h) (Or.inl ⟨by rfl, ?_⟩) h0 ?_
      rotate_left
      · intro _ _; go_simp; (try with_reducible rfl)
      try simp only [Act.put, List.setIfInBounds_toArray, List.set_cons_zero, List.set_cons_succ]
      refine held_take 7 (v := ?_) (d := (some 18)) rfl rfl (by kernel_rfl) (by kernel_rfl) (by kernel_rfl) (fun _ _ _ h => h) (Or.inl ⟨by rfl, ?_⟩) h0 ?_
      rotate_left
      · intro _ _; go_simp; (try with_reducible rfl)
      try simp only [Act.put, List.setIfInBounds_toArray, List.set_cons_zero, List.set_cons_succ]
      refine held_take 8 (v := ?_) (d := (some 19)) rfl rfl (by kernel_rfl) (by kernel_rfl) (by kernel_rfl) (fun _ _ _ h => h) (Or.inl ⟨by rfl, ?_⟩) h0 ?_
      rotate_left
      · intro _ _; go_simp; (try with_reducible rfl)
      try simp only [Act.put, List.setIfInBounds_toArray, List.set_cons_zero, List.set_cons_succ]
      refine held_take 9 (v := ?_) (d := (some 20)) rfl rfl (by kernel_rfl) (by kernel_rfl) (by kernel_rfl) (fun _ _ _ h => h) (Or.inl ⟨by rfl, ?_⟩) h0 ?_
      rotate_left
      · intro _ _; go_simp; (try with_reducible rfl)
      try simp only [Act.put, List.setIfInBounds_toArray, List.set_cons_zero, List.set_cons_succ]
      refine held_take 10 (v := .agg q.2.vals) (d := some 21) rfl rfl (by kernel_rfl) (by kernel_rfl) (by kernel_rfl) (fun _ _ _ h => h) (yieldsIf_load_mid (by rfl) 33 (.tmp 20) rfl b (o + p * 7 + 1) rfl q.2.vals.toList _ (fun W h => (HIT.out W h.out).2) Tryd.underlying33 rfl rec_info) h0 ?_
      try simp only [Act.put, List.setIfInBounds_toArray, List.set_cons_zero, List.set_cons_succ]
      refine held_take 11 (v := .agg fc) (d := some 22) rfl rfl (by kernel_rfl) (by kernel_rfl) (by kernel_rfl) (fun _ _ _ h => h) (Or.inl ⟨by rfl, fun W _ => run_build_found 54 (.tmp 16) (.tmp 21) rfl _ _ rfl rfl fc HBF.out⟩) h0 ?_
      try simp only [Act.put, List.setIfInBounds_toArray, List.set_cons_zero, List.set_cons_succ]
      refine wpAnyH_ready (rs := [12]) (by kernel_rfl) (by simp) (AllReadyH.cons rfl (fun K hK => ?_) AllReadyH.nil)
      rw [if_pos (by rfl)]
      refine wp_build_one 50 54 (.tmp 22) rfl (some 23) rfl Tryd.underlying50 (by decide) found_info (.agg fc) rfl fc HBS.out ?_
      have HF4 := Lib.hid (HF.out.all (below_alloc wr.drew (.cells fc 54)))
      have HB4 := Lib.hid (HBR.out.trans ((below_alloc wr.drew (.cells fc 54)).mono HBR.out.size))
      refine hK.out _ _ (HB4) (fun h1 => ?_)
      clear hK K
      try simp only [Act.put, List.setIfInBounds_toArray, List.set_cons_zero, List.set_cons_succ]
      refine wpAnyH_ready (rs := [13]) (by kernel_rfl) (by simp) (AllReadyH.cons rfl (fun K hK => ?_) AllReadyH.nil)
      rw [if_pos (by rfl)]
      refine wp_fd_append HF4.out 50 _ 64 Tryd.underlying50 found_info rfl (by omega) (some 24) rfl (.tmp 11) (.tmp 23) rfl rfl wr.drew.heap.size 1 q rfl HONE.out hl6 ?_
      intro v4 w4 HF5
      have HB5 := Lib.hid HF5.out.below
      refine hK.out _ _ (HB5) (fun h2 => ?_)
      clear hK K
      try simp only [Act.put, List.setIfInBounds_toArray, List.set_cons_zero, List.set_cons_succ]
      refine held_take 14 (v := ?_) (d := (some 3)) rfl rfl (by kernel_rfl) (by kernel_rfl) (by kernel_rfl) (fun _ _ _ h => h) (Or.inl ⟨by rfl, ?_⟩) h2 ?_
      rotate_left
      · intro _ _; go_simp; (try with_reducible rfl)
      try simp only [Act.put, List.setIfInBounds_toArray, List.set_cons_zero, List.set_cons_succ]
      refine wpAnyH_done (by kernel_rfl) ?_ _
      refine NoPanic.normal ?_
      go_wp2_with fail
      go_roundw
      case rel => exact ⟨p + 1, by go_num, by omega, by rw [← HTN.out]; exact HF5⟩
      case measure => (simp [RowKit.intOf]; omega)
    · obtain rfl : p = n := by omega
      have HE : Hid (l.take p = l) := List.take_of_length_le (by rw [HL.out]; exact Nat.le_refl _)
      go_wp2_with fail
      go_ret
      refine ⟨_, rfl, ?_⟩
      have h := HF0.out
      rw [HE.out] at h
      exact h
end Go.Proofs.YtkdnfikaodkhnaaDoor.Rec
