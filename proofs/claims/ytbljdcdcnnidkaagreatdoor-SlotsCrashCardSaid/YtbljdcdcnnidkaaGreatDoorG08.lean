/-
  Texts one behind the other: RecRefDec2, Draw.
-/
import Derived.RegionTactic
import Derived.Deep.RegionHeld3
import Derived.ArgAppend
import Derived.Test.YtbljdcdcnnidkaaGreatDoorG03
import Derived.Test.YtbljdcdcnnidkaaGreatDoorG05
import Derived.Test.YtbljdcdcnnidkaaGreatDoorG07
/-
  Proved: what the reference's Decode returns where the mark is right.
  Conditions: the slice reads as bytes.
-/
namespace Go.Proofs.YtbljdcdcnnidkaaGreatDoor.Rec
open Go.RowKit
open Go.Proofs.YtbljdcdcnnidkaaGreatDoor.Crc (Turned)
set_option linter.unusedVariables false
set_option linter.unusedSimpArgs false

set_option maxRecDepth 100000 in
set_option maxHeartbeats 4000000 in
/-- The mark is right; the kind is not, or there are fewer bytes than a head. -/
theorem refdecode_e (b o n c : Nat) (bs : List UInt8) (w : World) (hR : Row w w.heap.size (some ⟨b, o, none⟩) n (bvs bs)) (hnc : n ≤ c) (hc : c ≤ maxLen) (h1 : 2 ≤ n) (h0 : bs.getD 0 0 = 83) (hg : bs.getD 1 0 = 82) (hx : ¬ (mayKind ((bs.getD 2 0).toNat : Int) ∧ 39 ≤ n)) :
    Calls Tryz.prog 54 #[.slice (some ⟨b, o, none⟩) n c] w fun e w' => e = .returned (.tuple (dec bs).vals) ∧ Below w.heap.size w w' := by
  have hFr : Front bs ↔ (2 < n → mayKind ((bs.getD 2 0).toNat : Int)) := by
    unfold Front
    rw [hR.size]
    exact ⟨fun h => h.2.2, fun h => ⟨fun _ => h0, fun _ => hg, h⟩⟩
  have hdec : dec bs = if 2 < n → mayKind ((bs.getD 2 0).toNat : Int) then .more else .bad := by
    unfold dec
    rw [hR.size]
    by_cases hf : Front bs
    · rw [if_neg (not_not_intro hf), if_pos (hFr.1 hf)]
      by_cases h39 : n < 39
      · rw [if_pos h39]
      · exact absurd ⟨hFr.1 hf (by omega), by omega⟩ hx
    · rw [if_pos hf, if_neg (fun h => hf (hFr.2 h))]
  have HDEC := Lib.hid hdec
  clear hdec hFr
  have hm : c ≤ 9223372036854775807 := by unfold maxLen at hc; exact hc
  have hz := zeroRec
  obtain ⟨w1, hw1⟩ : ∃ w1, w1 = w.alloc (.cells #[.int .i64 0, .int .u32 0, .int .u64 0, .int .u64 0, .int .u64 0, .string ⟨#[]⟩] 78) := ⟨_, rfl⟩
  have hB1 : Below w.heap.size w w1 := by rw [hw1]; exact below_alloc w _
  have HR1 : Hid (Row w1 w.heap.size (some ⟨b, o, none⟩) n (bvs bs)) := hR.below hB1
  have HZ : Hid (RecAt w1 w.heap.size zeroRc) := by rw [hw1]; exact zero_new w
  have HB1 := Lib.hid hB1
  have hl := hR.size
  have hnc' : n ≤ 9223372036854775807 := by omega
  obtain ⟨b', o', e', _, hcs⟩ := HR1.out.byte (by omega)
  injection e' with e'
  injection e' with e1 e2
  subst e1 e2
  have hcell : w1.cell? ⟨b, o, none⟩ = some (.int .u8 ((bs.getD 0 0).toNat : Int)) := hcs 0 (by omega)
  rw [h0] at hcell
  have hs0 : ((((⟨#[83, 82]⟩ : ByteArray)[0]'(by decide)).toNat : Nat) : Int) = 83 := rfl
  have hd : ((83 : Int) != ((((⟨#[83, 82]⟩ : ByteArray)[0]'(by decide)).toNat : Nat) : Int)) = false := rfl
  have hcell' : w1.cell? ⟨b, o, none⟩ = some (.int .u8 83) := hcell
  have hs1 : ((((⟨#[83, 82]⟩ : ByteArray)[1]'(by decide)).toNat : Nat) : Int) = 82 := rfl
  have hc1 : w1.cell? ⟨b, o + 1, none⟩ = some (.int .u8 ((bs.getD 1 0).toNat : Int)) := hcs 1 (by omega)
  rw [hg] at hc1
  have hc1' : w1.cell? ⟨b, o + 1, none⟩ = some (.int .u8 82) := hc1
  have hd2 : ((82 : Int) != ((((⟨#[83, 82]⟩ : ByteArray)[1]'(by decide)).toNat : Nat) : Int)) = false := rfl
  have hn1 : (1 : Int) < (n : Int) := by omega
  have hn0 : (0 : Int) < (n : Int) := by omega
  have HC1 := Lib.hid hc1'
  have HL := Lib.hid hl
  have HR := Lib.hid hR
  clear hcs hl hR hB1 hcell h0 hg hc1
  go_enter Tryz.func54, Tryz.ntmps54
  go_upto_region 1 with fail
  rw [← hw1]
  clear hw1
  go_wp2_with fail
  refine wp_loop_rounds 3 ?_
  rw [rounds_succ]
  go_wp2_with fail
  go_quiet (fail)
  obtain ⟨w2, hw2⟩ : ∃ w2, w2 = w1.drewN nq := ⟨_, rfl⟩
  have HZ2 : Hid (RecAt w2 w.heap.size zeroRc) := by rw [hw2]; exact HZ.out
  have HB2 : Hid (Below w.heap.size w w2) := by rw [hw2]; exact below_drewN HB1.out nq
  have hc2 : w2.cell? ⟨b, o + 1, none⟩ = some (.int .u8 82) := by rw [hw2]; exact HC1.out
  rw [← hw2]
  clear hw2 HZ HB1 hc1' hcell'
  go_wp2_with fail
  rw [rounds_succ]
  go_wp2_with fail
  go_quiet (fail)
  obtain ⟨w3, hw3⟩ : ∃ w3, w3 = w2.drewN nq := ⟨_, rfl⟩
  have HZ3 : Hid (RecAt w3 w.heap.size zeroRc) := by rw [hw3]; exact HZ2.out
  have HB3 : Hid (Below w.heap.size w w3) := by rw [hw3]; exact below_drewN HB2.out nq
  rw [← hw3]
  clear hw3 HZ2 HB2 hc2 hd hd2 hs0 hs1
  have HR3 := Lib.hid (HR.out.below HB3.out)
  obtain ⟨b3, o3, e3, _, hcs3⟩ := HR3.out.byte (by omega)
  injection e3 with e3
  injection e3 with f1 f2
  subst f1 f2
  by_cases hn2 : n = 2
  · subst hn2
    have e : dec bs = .more := by rw [HDEC.out, if_pos (fun h => absurd h (by omega))]
    have HE := Lib.hid e
    clear hcs3 e
    go_wp2_with fail
    rw [rounds_succ]
    go_wp2_with (refine store_recN HZ3.out rfl rfl (.tmp 2) (.tmp 47) rfl rfl zeroRc rfl rfl ?_; intro w4 G5 G6)
    refine bodyPost_ret (result_rec3 G5.out rfl _ rfl) rfl ?_
    exact ⟨by rw [HE.out]; rfl, below_only HB3.out (only_hid G6) (Nat.le_refl _) HB3.out.size⟩
  have hn2' : (2 : Int) < (n : Int) := by omega
  have hk : w3.cell? ⟨b, o + 2, none⟩ = some (.int .u8 ((bs.getD 2 0).toNat : Int)) := hcs3 2 (by omega)
  obtain ⟨q, hq⟩ : ∃ q, q = bs.getD 2 0 := ⟨_, rfl⟩
  rw [← hq] at hk HDEC hx
  have hq8 := q.toNat_lt
  clear hcs3 hq
  by_cases ha : q.toNat < 1
  · have ha' : (q.toNat : Int) < 1 := by omega
    have e : dec bs = .bad := by rw [HDEC.out, if_neg (fun h => by have := (h (by omega)).1; omega)]
    have HE := Lib.hid e
    clear e
    go_wp2_with fail
    rw [rounds_succ]
    go_wp2_with (refine store_recN HZ3.out rfl rfl (.tmp 2) (.tmp 43) rfl rfl zeroRc rfl rfl ?_; intro w4 G5 G6)
    refine bodyPost_ret (result_rec3 G5.out rfl _ rfl) rfl ?_
    exact ⟨by rw [HE.out]; rfl, below_only HB3.out (only_hid G6) (Nat.le_refl _) HB3.out.size⟩
  have ha' : ¬ (q.toNat : Int) < 1 := by omega
  by_cases hb4 : 4 < q.toNat
  · have hb4' : (4 : Int) < (q.toNat : Int) := by omega
    have e : dec bs = .bad := by rw [HDEC.out, if_neg (fun h => by have := (h (by omega)).2; omega)]
    have HE := Lib.hid e
    clear e
    go_wp2_with fail
    rw [rounds_succ]
    go_wp2_with (refine store_recN HZ3.out rfl rfl (.tmp 2) (.tmp 43) rfl rfl zeroRc rfl rfl ?_; intro w4 G5 G6)
    refine bodyPost_ret (result_rec3 G5.out rfl _ rfl) rfl ?_
    exact ⟨by rw [HE.out]; rfl, below_only HB3.out (only_hid G6) (Nat.le_refl _) HB3.out.size⟩
  have hb4' : ¬ (4 : Int) < (q.toNat : Int) := by omega
  have hmk : mayKind (q.toNat : Int) := ⟨by omega, by omega⟩
  have h39' : n < 39 := Nat.lt_of_not_le fun h => hx ⟨hmk, h⟩
  have h39 : (n : Int) < 39 := by omega
  have e : dec bs = .more := by rw [HDEC.out, if_pos (fun _ => hmk)]
  have HE := Lib.hid e
  clear e hmk
  go_wp2_with fail
  rw [rounds_succ]
  go_wp2_with (refine store_recN HZ3.out rfl rfl (.tmp 2) (.tmp 47) rfl rfl zeroRc rfl rfl ?_; intro w4 G5 G6)
  refine bodyPost_ret (result_rec3 G5.out rfl _ rfl) rfl ?_
  exact ⟨by rw [HE.out]; rfl, below_only HB3.out (only_hid G6) (Nat.le_refl _) HB3.out.size⟩
end Go.Proofs.YtbljdcdcnnidkaaGreatDoor.Rec
/-
  A region that draws its order, walked by hand: the one operation that may come next; loads of whole arrays taken first under a condition on the world; appends onto a row of the call's own.
-/
namespace Go.Proofs.YtbljdcdcnnidkaaGreatDoor
open Go.RowKit
set_option linter.unusedVariables false
set_option linter.unusedSimpArgs false
variable {P : Program} {ops : Array Oper} {Q : Exit → Act → World → Prop} {md : Region.Mode}

/-- The one operation that may come next, without a guard. -/
theorem any_one (i : Nat) {o : Oper} {fuel : Nat} {listed : Array Bool} {a : Act} {w : World} (ho : ops[i]? = some o) (hr : Region.ready md ops listed = [i]) (hg : o.guard = none)
    (h : ∀ K : Act → World → Prop, (∀ a w, wpAny P md ops Q fuel (listed.setIfInBounds i true) a w → K a w) → Oper.wp P o a w K Q) : wpAny P md ops Q (fuel + 1) listed a w := by
  refine wpAny_ready hr (by simp) (AllReady.cons ho (fun K hK => ?_) AllReady.nil)
  have hw : Region.wanted o (yielded ops a.tmps) = true := by simp [Region.wanted, hg]
  rw [if_pos hw]
  exact h K hK
/-- A load of a value of several parts. -/
theorem any_load (i : Nat) {o : Oper} {fuel : Nat} {listed : Array Bool} {a : Act} {w : World} (ho : ops[i]? = some o) (hr : Region.ready md ops listed = [i]) (hg : o.guard = none) (ty : TypeId) (x : Operand) (hop : o.op = .load ty x)
    (g : Nat) (hx : a.eval x = .pointer (some ⟨g, 0, none⟩)) (t : TypeId) (cs : Array Value) (hb : Blk w g t cs) {n : Nat} {e : TypeId} (hu : P.underlying ty = some (.array n e)) (hi : (P.info? ty).map (·.size) = some cs.size)
    (h : wpAny P md ops Q fuel (listed.setIfInBounds i true) (a.put o.dst (.agg cs)) w) : wpAny P md ops Q (fuel + 1) listed a w :=
  any_one i ho hr hg fun _ hK => wp_load_row ty x hop g hx t cs (0, 0) _ hb hu rfl hi (hK _ _ h)
/-- A store of a value of several parts. -/
theorem any_store (i : Nat) {o : Oper} {fuel : Nat} {listed : Array Bool} {a : Act} {w : World} (ho : ops[i]? = some o) (hr : Region.ready md ops listed = [i]) (hg : o.guard = none) (ty : TypeId) (x y : Operand) (hop : o.op = .store ty x y)
    (g : Nat) (cells : Array Value) (hx : a.eval x = .pointer (some ⟨g, 0, none⟩)) (hy : a.eval y = .agg cells) (t : TypeId) (old : Array Value) (hb : Blk w g t old) (hi : (P.info? ty).map (·.size) = some cells.size)
    (hold : old.size = cells.size) (h1 : cells.all (·.oneCell') = true)
    (h : ∀ w', Hid (Blk w' g t cells) → Hid (w.grownBy w' (some g)) → wpAny P md ops Q fuel (listed.setIfInBounds i true) (a.put o.dst undef) w') : wpAny P md ops Q (fuel + 1) listed a w :=
  any_one i ho hr hg fun _ hK => wp_store_row ty x y hop g cells hx hy t old hb hi hold h1 (hK _ _ (h _ (setRow_heap w g old cells t (0, 0) hb) (only_setRow w g cells)))
/-- An operation is taken first, its slot named. -/
theorem held_take (i : Nat) {oi : Oper} {v : Value} {d : Option Tmp} {S : World → Prop} {fuel : Nat} {listed : Array Bool} {a : Act} {w : World} (hi : ops[i]? = some oi) (hd : oi.dst = d)
    (hs : Region.noSelect ops = true) (hf : Region.free md ops listed i = true) (hr : (Region.ready md ops listed).contains i = true)
    (hQ : ∀ c a w, Q (.panic c) (a.put d v) w → Q (.panic c) a w) (hy : YieldsIf P ops S oi v a) (hS : S w)
    (h : wpAnyH P md ops Q S fuel (listed.setIfInBounds i true) (a.put d v) w) : wpAnyH P md ops Q S (fuel + 1) listed a w := by
  subst hd
  exact wpAnyH_take hi hs hf hr hQ hy hS h
/-- Append onto a row of the call's own, in a region that draws, where the operation is wanted. -/
theorem want_append_own {P : Program} {ops : Array Oper} {o : Oper} {a : Act} {w : World} {K : Act → World → Prop} {Q : Exit → Act → World → Prop} {E : Prop} {d : Option Tmp} (hw : Region.wanted o (yielded ops a.tmps) = true) (s x : Operand) (t : TypeId)
    (hd : o.dst = d) (ho : o.op = Op.call { callee := Callee.builtin Builtin.append, args := #[s, x], argTypes := #[t, t] })
    (base : Nat) (e : TypeId) (z : Value) (bytes : Nat) (ht : P.underlying t = some (.slice e)) (hinfo : (P.info? e).map (fun i => (i.zero, i.size, i.bytes)) = some (some z, 1, bytes)) (hz1 : z.cells = #[z])
    (v : Value) (n : Nat) (xs : List Value) (hs : a.eval s = v) (hown : w.ownsRow base e 1 v n xs)
    (ad : Addr) (m c : Nat) (news : List Value) (hx : a.eval x = .slice (some ad) m c) (hl : news.length = m) (hnews : ∀ j u, news[j]? = some u → w.cell? (ad.add j) = some u) (h1 : ∀ u ∈ news, u.oneCell' = true)
    (h63 : n + m ≤ maxLen) (hbytes : (n + m) * bytes ≤ 140737488355328) (hbase : base ≤ w.heap.size)
    (hK : ∀ v' w', Hid (w'.ownsRow base e 1 v' (n + m) (xs ++ news)) → Hid (w.grownBy w' v.ownBlock) → K (a.put d v') w') :
    if Region.wanted o (yielded ops a.tmps) = true then Oper.wp P o a w K Q else E := by
  subst hd
  rw [if_pos hw]
  obtain ⟨i, hi, hzz⟩ := Option.map_eq_some_iff.1 hinfo
  simp only [Prod.mk.injEq] at hzz
  obtain ⟨hz0, hs1, hb1⟩ := hzz
  exact wp_append_own w s x t ho base e i z 1 bytes ht hi hz0 hs1 hb1 (by rw [hz1]; rfl) (by decide) v n xs hs hown ad m c news hx (by rw [hl, Nat.mul_one]) hnews h1 h63 hbytes hbase fun v' w' h2 h3 _ => hK v' w' h2 h3
/-- Append onto a full slice, in a region that draws, where the operation is wanted: a new row. -/
theorem want_append_grows {P : Program} {ops : Array Oper} {o : Oper} {a : Act} {w : World} {K : Act → World → Prop} {Q : Exit → Act → World → Prop} {E : Prop} {d : Option Tmp} (hw : Region.wanted o (yielded ops a.tmps) = true) (s x : Operand) (t : TypeId)
    (hd : o.dst = d) (ho : o.op = Op.call { callee := Callee.builtin Builtin.append, args := #[s, x], argTypes := #[t, t] })
    (e : TypeId) (z : Value) (bytes : Nat) (ht : P.underlying t = some (.slice e)) (hinfo : (P.info? e).map (fun i => (i.zero, i.size, i.bytes)) = some (some z, 1, bytes)) (hz1 : z.cells = #[z])
    (b : Addr) (n cap : Nat) (olds : List Value) (hs : a.eval s = .slice (some b) n cap) (hlo : olds.length = n) (holds : ∀ j u, olds[j]? = some u → w.cell? (b.add j) = some u)
    (ad : Addr) (m c : Nat) (news : List Value) (hx : a.eval x = .slice (some ad) m c) (hl : news.length = m) (hnews : ∀ j u, news[j]? = some u → w.cell? (ad.add j) = some u)
    (hfull : cap < n + m) (h63 : n + m ≤ maxLen) (hbytes : (n + m) * bytes ≤ 140737488355328)
    (hK : ∀ v' w', Hid (w'.ownsRow w.heap.size e 1 v' (n + m) (olds ++ news)) → Hid (w.grownBy w' none) → K (a.put d v') w') :
    if Region.wanted o (yielded ops a.tmps) = true then Oper.wp P o a w K Q else E := by
  subst hd
  rw [if_pos hw]
  obtain ⟨i, hi, hzz⟩ := Option.map_eq_some_iff.1 hinfo
  simp only [Prod.mk.injEq] at hzz
  obtain ⟨hz0, hs1, hb1⟩ := hzz
  obtain ⟨v', w', hrun, r1, r2⟩ := run_append_arg_grows (P := P) w t o.type e i z 1 bytes ht hi hz0 hs1 hb1 (by rw [hz1]; rfl) (by decide) b n cap olds (by rw [hlo, Nat.mul_one]) holds ad m c news (by rw [hl, Nat.mul_one]) hnews hfull h63 hbytes
  unfold Oper.wp
  simp [execOp, ho, resolve, invoke, builtin, hs, hx, hrun, Result.andThen]
  exact hK v' w' r1 r2
theorem row_news {w : World} {B n : Nat} {ad : Addr} {vs : List Value} (h : Row w B (some ad) n vs) : ∀ j u, vs[j]? = some u → w.cell? (ad.add j) = some u := by
  intro j u hu
  have hj : j < vs.length := (List.getElem?_eq_some_iff.1 hu).1
  obtain ⟨b, o, e, _, hc⟩ := h.2 (by rw [← h.1]; omega)
  obtain rfl := Option.some.inj e
  have := hc j u hu
  unfold Addr.add
  split
  · rename_i h0; subst h0; exact this
  · exact this

end Go.Proofs.YtbljdcdcnnidkaaGreatDoor
