/-
  Texts one behind the other: SegMath, ScanGood, SegFace.
-/
import Derived.Test.YtkdnfikaodkhnaaGreatDoorG08
import Derived.Test.YtkdnfikaodkhnaaGreatDoorG10
import Derived.Test.YtkdnfikaodkhnaaGreatDoorG23
import Derived.Test.YtkdnfikaodkhnaaGreatDoorG24
/-
  Plain facts: the names of segments' files; which of a text's records are one tenant's.
-/
namespace Go.Proofs.YtkdnfikaodkhnaaGreatDoor.Seg
open Go.RowKit Go.Proofs.YtkdnfikaodkhnaaGreatDoor.Rec Go.Proofs.YtkdnfikaodkhnaaGreatDoor.Disk
set_option linter.unusedVariables false
set_option linter.unusedSimpArgs false

/-- A number's digits. -/
def digitsF : Nat → Nat → List UInt8
  | 0, _ => []
  | f + 1, n => if n < 10 then [UInt8.ofNat (48 + n)] else digitsF f (n / 10) ++ [UInt8.ofNat (48 + n % 10)]
theorem digitsF_enough : ∀ (f g n : Nat), n < f → n < g → digitsF f n = digitsF g n := by
  intro f
  induction f with
  | zero => intro g n h; omega
  | succ f ih =>
    intro g n h1 h2
    cases g with
    | zero => omega
    | succ g =>
      rw [digitsF, digitsF]
      by_cases h : n < 10
      · rw [if_pos h, if_pos h]
      · rw [if_neg h, if_neg h, ih g (n / 10) (by omega) (by omega)]
def digits (n : Nat) : List UInt8 := digitsF (n + 1) n
theorem digits_low {n : Nat} (h : n < 10) : digits n = [UInt8.ofNat (48 + n)] := by unfold digits; rw [digitsF, if_pos h]
theorem digits_high {n : Nat} (h : ¬ n < 10) : digits n = digits (n / 10) ++ [UInt8.ofNat (48 + n % 10)] := by
  unfold digits
  rw [digitsF, if_neg h, digitsF_enough n (n / 10 + 1) (n / 10) (by omega) (by omega)]
theorem digits_all (n : Nat) : ∀ c ∈ digits n, 48 ≤ c.toNat ∧ c.toNat ≤ 57 := by
  induction n using Nat.strongRecOn with
  | _ n ih =>
    intro c hc
    by_cases h : n < 10
    · rw [digits_low h] at hc
      obtain rfl := List.mem_singleton.1 hc
      rw [UInt8.toNat_ofNat']
      omega
    · rw [digits_high h] at hc
      rcases List.mem_append.1 hc with hc | hc
      · exact ih (n / 10) (by omega) c hc
      · obtain rfl := List.mem_singleton.1 hc
        rw [UInt8.toNat_ofNat']
        omega
theorem digits_length (k : Nat) : ∀ n, n < 10 ^ (k + 1) → (digits n).length ≤ k + 1 := by
  induction k with
  | zero => intro n h; rw [digits_low (by simpa using h)]; exact Nat.le_refl _
  | succ k ih =>
    intro n h
    by_cases h1 : n < 10
    · rw [digits_low h1]; simp
    · rw [digits_high h1, List.length_append]
      have := ih (n / 10) (by rw [Nat.pow_succ] at h; omega)
      simp
      exact this
theorem digits_pos (n : Nat) : 0 < (digits n).length := by
  by_cases h : n < 10
  · rw [digits_low h]; simp
  · rw [digits_high h]; simp
/-- The name of a segment's file, as bytes. -/
def segName (id num : Nat) : List UInt8 := [116] ++ digits id ++ [46] ++ digits num
theorem segName_length {id num : Nat} (h1 : id < 4294967296) (h2 : num ≤ 1099511627776) : (segName id num).length ≤ 25 := by
  have a := digits_length 9 id (by omega)
  have b := digits_length 12 num (by omega)
  unfold segName
  simp only [List.length_append, List.length_cons, List.length_nil]
  omega
theorem segName_good {id num : Nat} (h1 : id < 4294967296) (h2 : num ≤ 1099511627776) : goodName (segName id num) = true := by
  have hl := segName_length h1 h2
  have hp : 0 < (segName id num).length := by simp [segName]
  have hd : ∀ n, ∀ c ∈ digits n, nameByte c = true := fun n c hc => by
    have := digits_all n c hc
    unfold nameByte
    simp only [Bool.or_eq_true, Bool.and_eq_true, decide_eq_true_eq]
    omega
  unfold goodName
  rw [decide_eq_true hp, decide_eq_true (show (segName id num).length ≤ 32 by omega), Bool.true_and, Bool.true_and, List.all_eq_true]
  intro c hc
  unfold segName at hc
  simp only [List.mem_append, List.mem_singleton] at hc
  rcases hc with ((rfl | hc) | rfl) | hc
  · decide
  · exact hd id c hc
  · decide
  · exact hd num c hc
/-! Which records of a text are one tenant's. -/
/-- The first ones, up to the first of another tenant. -/
def ownOf (id : Nat) (l : List (Nat × Rc)) : List (Nat × Rc) := l.takeWhile fun q => decide (q.2.tenant = id)
theorem ownOf_all {id : Nat} {l : List (Nat × Rc)} (h : ∀ q ∈ l, q.2.tenant = id) : ownOf id l = l := by
  unfold ownOf
  induction l with
  | nil => rfl
  | cons q l ih => rw [List.takeWhile_cons, if_pos (decide_eq_true (h q (by simp))), ih (fun p hp => h p (by simp [hp]))]
theorem ownOf_cons_yes {id : Nat} {q : Nat × Rc} {l : List (Nat × Rc)} (h : q.2.tenant = id) : ownOf id (q :: l) = q :: ownOf id l := by
  unfold ownOf
  rw [List.takeWhile_cons, if_pos (decide_eq_true h)]
theorem ownOf_cons_no {id : Nat} {q : Nat × Rc} {l : List (Nat × Rc)} (h : q.2.tenant ≠ id) : ownOf id (q :: l) = [] := by
  unfold ownOf
  rw [List.takeWhile_cons, if_neg (by simpa using h)]
theorem ownOf_le (id : Nat) (l : List (Nat × Rc)) : (ownOf id l).length ≤ l.length := by
  unfold ownOf
  induction l with
  | nil => exact Nat.le_refl _
  | cons q l ih =>
    rw [List.takeWhile_cons]
    split
    · rw [List.length_cons, List.length_cons]; omega
    · exact Nat.zero_le _
/-- A text of records one behind the other, all of them whole and one tenant's. -/
theorem places_tenant {id : Nat} {g : List Rc} (h : ∀ x ∈ g, x.tenant = id) : ∀ p, ∀ q ∈ places p g, q.2.tenant = id := by
  induction g with
  | nil => intro p q hq; simp [places] at hq
  | cons x g ih =>
    intro p q hq
    rcases List.mem_cons.1 (show q ∈ (p, x) :: places (p + (enc x).length) g from hq) with rfl | hq
    · exact h x (by simp)
    · exact ih (fun y hy => h y (by simp [hy])) _ q hq
theorem front_whole {g : List Rc} (hg : AllGood g) : frontFrom 0 (cat g) = places 0 g ∧ endOf 0 (frontFrom 0 (cat g)) = (cat g).length := by
  have h := front_cat g [] [] hg (fun x n h => by rw [dec_nil] at h; cases h)
  simp only [List.nil_append, List.append_nil, List.length_nil, Nat.zero_add] at h
  exact h
/-- A record stands at its place, and none a byte behind it. -/
theorem dec_place {g : List Rc} (hg : AllGood g) {i : Nat} {x : Rc} (h : g[i]? = some x) : dec ((cat g).drop (cat (g.take i)).length) = .ok x (39 + x.body.length) := by
  obtain ⟨hi, e⟩ := List.getElem?_eq_some_iff.1 h
  have hs : cat g = cat (g.take i) ++ (enc x ++ cat (g.drop (i + 1))) := by
    conv => lhs; rw [← List.take_append_drop i g, List.drop_eq_getElem_cons hi, e, cat_append, cat_cons]
  obtain ⟨hm, hf⟩ := hg x (List.mem_of_getElem? h)
  rw [hs]
  exact dec_behind _ _ x hm hf rfl
theorem dec_beside {g : List Rc} (hg : AllGood g) {i : Nat} {x : Rc} (h : g[i]? = some x) : ∀ y n, dec ((cat g).drop ((cat (g.take i)).length + 1)) ≠ .ok y n := by
  obtain ⟨hi, e⟩ := List.getElem?_eq_some_iff.1 h
  have hs : cat g = cat (g.take i) ++ (enc x ++ cat (g.drop (i + 1))) := by
    conv => lhs; rw [← List.take_append_drop i g, List.drop_eq_getElem_cons hi, e, cat_append, cat_cons]
  obtain ⟨hm, hf⟩ := hg x (List.mem_of_getElem? h)
  have hl := enc_length x hm
  rw [hs, ← List.drop_drop, drop_len]
  have e1 : ∃ r, enc x = 83 :: 82 :: r := by
    rw [enc_may hm]
    exact ⟨_, rfl⟩
  obtain ⟨r, hr⟩ := e1
  rw [hr]
  exact dec_head (by simp) (by simp)
end Go.Proofs.YtkdnfikaodkhnaaGreatDoor.Seg
/-
  Proved: what Good of law 6 returns: records that may be, none too long, not too many.
  Conditions: the slice reads as records.
-/
namespace Go.Proofs.YtkdnfikaodkhnaaGreatDoor.Rec
open Go.RowKit
set_option linter.unusedVariables false
set_option linter.unusedSimpArgs false

/-- Records so far: a row of the call's own. -/
structure Rs (w0 w : World) (v : Value) (l : List Rc) : Prop where
  row : w.ownsRow w0.heap.size 40 6 v l.length (rflat l)
  below : Below w0.heap.size w0 w
theorem Rs.nil (w : World) : Rs w w (.slice none 0 0) [] := ⟨World.ownsRow_nil _ _ _ _, Below.refl _ _⟩
theorem Rs.all {w0 w w' : World} {v : Value} {l : List Rc} (h : Rs w0 w v l) (hb : Below w.heap.size w w') : Rs w0 w' v l :=
  ⟨h.row.kept (row := none) ⟨hb.os, hb.tape, hb.output, hb.size, fun i hi _ => hb.block i hi⟩ (Classical.em _), h.below.trans (hb.mono h.below.size)⟩
theorem rec_zero : (Tryz.prog.info? 40).map (fun i => (i.zero, i.size, i.bytes)) = some (some (.agg #[.int .i64 0, .int .u32 0, .int .u64 0, .int .u64 0, .int .u64 0, .string ⟨#[]⟩]), 6, 56) := by kernel_rfl
theorem slice_rec (x : Rc) : Tryz.prog.builtSlice 40 1 [(0, .agg x.vals)] = some x.vals := by kernel_rfl
theorem rec_cells1 (w : World) (t : TypeId) (fr : Nat × Nat) (x : Rc) : ∀ j u, x.vals.toList[j]? = some u → (w.alloc (.cells x.vals t fr)).cell? ⟨w.heap.size, j, none⟩ = some u := by
  intro j u hu
  rw [cell_of_row _ w.heap.size j x.vals t fr (heap_alloc_new w _), ← Array.getElem?_toList]
  exact hu
section
variable {w0 w : World} {v : Value} {l : List Rc} {ops : Array Oper} {rest : List Oper} {o : Oper} {a : Act} {Q : Exit → Act → World → Prop}
theorem rs_append (h : Rs w0 w v l) (hgd : o.guard = none) (s y : Operand) (ho : o.op = .call { callee := .builtin .append, args := #[s, y], argTypes := #[33, 33] }) (hs : a.eval s = v)
    (g c : Nat) (x : Rc) (hy : a.eval y = .slice (some ⟨g, 0, none⟩) 1 c) (hq : ∀ j u, x.vals.toList[j]? = some u → w.cell? ⟨g, j, none⟩ = some u) (hl : l.length ≤ 1000000)
    (k : ∀ v' w', Hid (Rs w0 w' v' (l ++ [x])) → wpList Tryz.prog ops Q rest (a.put o.dst v') w') : wpList Tryz.prog ops Q (o :: rest) a w := by
  obtain ⟨i, hii, hzz⟩ := Option.map_eq_some_iff.1 rec_zero
  simp only [Prod.mk.injEq] at hzz
  obtain ⟨hz0, hs1, hb1⟩ := hzz
  refine wpList_append_own (w := w) hgd s y 33 ho w0.heap.size 40 i _ 6 56 Tryz.underlying33 hii hz0 hs1 hb1 rfl (by decide) v l.length (rflat l) hs h.row ⟨g, 0, none⟩ 1 c x.vals.toList hy (rcells_length x) ?_ (rcells_one x) (by unfold maxLen; omega) ?_ h.below.size ?_
  · intro j u hu
    have := hq j u hu
    rw [Addr.add_lit, Nat.zero_add]
    exact this
  · omega
  · intro v' w' h1 h2 _
    refine k v' w' ⟨?_, own_below h.row h.below (Nat.le_refl _) h.below.size h2⟩
    rw [rflat_snoc] at h1
    rw [List.length_append]
    exact h1
theorem build_oneRec (hg : o.guard = none) (y : Operand) (ho : o.op = .buildSlice 33 1 #[(0, y)]) (d : Option Tmp) (hd : o.dst = d) (x : Rc) (hy : a.eval y = .agg x.vals)
    (k : wpList Tryz.prog ops Q rest (a.put d (.slice (some ⟨w.heap.size, 0, none⟩) 1 1)) (w.alloc (.cells x.vals 40))) : wpList Tryz.prog ops Q (o :: rest) a w :=
  build_one hg 33 40 y ho d hd Tryz.underlying33 (.agg x.vals) hy x.vals (slice_rec x) k
end
/-- Records that Good hands on. -/
def Rc.Good (x : Rc) : Prop := x.May ∧ x.Fits ∧ x.body.length ≤ 200
theorem rs_store {w0 w w' : World} {t : TypeId} {v : Value} {l : List Rc} {cs : Array Value} (h : Rs w0 w v l) (hg : (w.alloc (.cells cs t)).grownBy w' (some w.heap.size)) : Hid (Rs w0 w' v l) := by
  have hb : Below w.heap.size w w' := below_only (below_alloc w (.cells cs t)) hg (Nat.le_refl _) (by simp)
  exact h.all hb
set_option maxRecDepth 100000 in
set_option maxHeartbeats 8000000 in
theorem good_any (A : Option Addr) (n c m : Nat) (l : List Rc) (w : World) (hR : Row w w.heap.size A (n * 6) (rflat l)) (hl : l.length = n) (hok : ∀ x ∈ l, x.Ok) (hnc : n ≤ c) (hc : c ≤ maxLen) (hm : m ≤ 100) :
    Calls Tryz.prog 25 #[.slice A n c, .int .i64 (m : Int)] w fun e w' => ∃ v, e = .returned v ∧ ∃ g, Rs w w' v g ∧ g.length ≤ m ∧ ∀ x ∈ g, x.Good := by
  have hcm : c ≤ 9223372036854775807 := by unfold maxLen at hc; exact hc
  have HR := Lib.hid hR
  have HL := Lib.hid hl
  have HOK := Lib.hid hok
  have hz := zeroRec
  clear hR hc hl hok
  go_enter Tryz.func25, Tryz.ntmps25
  go_wp2_with fail
  go_loopw [5, 6] (fun v i wr => ∃ (p : Nat) (g : List Rc), i = .int .i64 (p : Int) ∧ p ≤ n ∧ g.length ≤ m ∧ Hid (Rs w wr v g) ∧ Hid (∀ x ∈ g, x.Good)) (fun _ i _ => n - (RowKit.intOf i).toNat)
  case atStart => exact ⟨0, [], rfl, Nat.zero_le _, Nat.zero_le _, Rs.nil w, fun x h => by simp at h⟩
  case round =>
    obtain ⟨p, g, rfl, hp, hgm, HS, HG⟩ := hrel
    obtain ⟨A2, c2, rfl, hgc, hc2, _⟩ := own_row HS.out.row
    by_cases hlt : p < n
    · by_cases hgl : g.length < m
      · obtain ⟨b, o, rfl, hb, _⟩ := HR.out.2 (by omega)
        obtain ⟨x, hx⟩ : ∃ x, l[p]? = some x := ⟨l[p]'(by rw [HL.out]; exact hlt), List.getElem?_eq_getElem _⟩
        have hxok : x.Ok := HOK.out x (List.mem_of_getElem? hx)
        have HIT : Hid (wr.rangeAt b (o + p * 6) x.vals.toList) := rec_item (HR.out.below HS.out.below) p x hx
        have CC := Lib.hid (cut_any x 200 wr hxok.body (by decide))
        obtain ⟨y, hy⟩ : ∃ y, y = x.cut 200 := ⟨_, rfl⟩
        have hyl : y.body.length ≤ 200 := by rw [hy]; exact cut_small x 200
        have hyf : y.Fits := by rw [hy]; exact (hxok.cut 200 (by decide)).fits
        rw [← hy] at CC
        have HYF := Lib.hid hyf
        have CM : Hid (∀ W, Calls Tryz.prog 52 #[.agg y.vals] W fun e w' => e = .returned (.bool y.may) ∧ Below W.heap.size W w') := fun W => refmay_any y W (by unfold maxLen; omega)
        have hgl' : (g.length : Int) < (m : Int) := by omega
        clear hx hxok hy hyf
        go_upto_region 6 with (first
          | (refine load_recM HIT.out rfl (.tmp 22) rfl rfl ?_)
          | (go_at_call 51; refine CC.out.mono ?_; rintro e w2 ⟨rfl, hb2⟩; have HS2 := Lib.hid (HS.out.all hb2); clear hb2)
          | (refine store_recN (zero_new w2) rfl rfl (.tmp 7) (.tmp 24) rfl rfl y rfl rfl ?_; intro w3 X3 G3))
        have HS3 := rs_store HS2.out G3.out
        clear G3
        by_cases hmay : y.May
        · have em := may_true hmay
          have HM := Lib.hid hmay
          clear hmay
          rw [em] at CM
          have h3 := X3.out.lt
          go_upto_region 7 with (first
            | (refine load_rec X3.out rfl (.tmp 7) rfl rfl ?_)
            | (go_at_call 52; refine (CM.out _).mono ?_; rintro e w4 ⟨rfl, hb4⟩; have X4 := Lib.hid (X3.out.below hb4 h3); have HS4 := Lib.hid (HS3.out.all hb4); clear hb4))
          have HS5 := Lib.hid (HS4.out.all (below_alloc w4 (.cells y.vals 40)))
          have HONE := Lib.hid (rec_cells1 w4 40 (0, 0) y)
          have hl6 : g.length ≤ 1000000 := by omega
          go_wp2_with (first
            | (refine load_rec X4.out rfl (.tmp 7) rfl rfl ?_)
            | (refine build_oneRec rfl (.tmp 28) rfl (some 29) rfl y rfl ?_)
            | (at_builtin; refine rs_append HS5.out rfl (.tmp 27) (.tmp 29) rfl rfl w4.heap.size 1 y rfl HONE.out hl6 ?_; intro v6 w6 HS6))
          go_roundw
          case rel =>
            refine ⟨p + 1, g ++ [y], by go_num, by omega, by rw [List.length_append]; show g.length + 1 ≤ m; omega, HS6, fun z hz => ?_⟩
            rcases List.mem_append.1 hz with hz | hz
            · exact HG.out z hz
            · obtain rfl := List.mem_singleton.1 hz
              exact ⟨HM.out, HYF.out, hyl⟩
          case measure => (simp [RowKit.intOf]; omega)
        · have em := may_false hmay
          clear hmay
          rw [em] at CM
          go_wp2_with (first
            | (refine load_rec X3.out rfl (.tmp 7) rfl rfl ?_)
            | (go_at_call 52; refine (CM.out _).mono ?_; rintro e w4 ⟨rfl, hb4⟩; have HS4 := Lib.hid (HS3.out.all hb4); clear hb4))
          go_roundw
          case rel => exact ⟨p + 1, g, by go_num, by omega, hgm, HS4, HG⟩
          case measure => (simp [RowKit.intOf]; omega)
      · have hgl' : ¬ (g.length : Int) < (m : Int) := by omega
        go_wp2_with fail
        go_ret
        exact ⟨_, rfl, g, HS.out, hgm, HG.out⟩
    · obtain rfl : p = n := by omega
      go_wp2_with fail
      go_ret
      exact ⟨_, rfl, g, HS.out, hgm, HG.out⟩
end Go.Proofs.YtkdnfikaodkhnaaGreatDoor.Rec
/-
  What a segment is to those that use it: a predicate, and what each call does to it. The laws of layer 8 are walked against this face alone; the package's own code is held against it elsewhere.
-/
namespace Go.Proofs.YtkdnfikaodkhnaaGreatDoor.Seg
open Go.RowKit Go.Proofs.YtkdnfikaodkhnaaGreatDoor.Disk Go.Proofs.YtkdnfikaodkhnaaGreatDoor.Rec
set_option linter.unusedVariables false
set_option linter.unusedSimpArgs false

/-- Nothing that is no disk's and no segment's was changed. -/
structure Fr (own own' : Own) (w w' : World) : Prop where
  os : w'.os = w.os
  tape : w'.tape = w.tape
  output : w'.output = w.output
  size : w.heap.size ≤ w'.heap.size
  same : ∀ b, b < w.heap.size → own' b = own b
  block : ∀ b, b < w.heap.size → own b = none → w'.heap[b]? = w.heap[b]?
theorem Fr.refl (own : Own) (w : World) : Fr own own w w := ⟨rfl, rfl, rfl, Nat.le_refl _, fun _ _ => rfl, fun _ _ _ => rfl⟩
theorem Fr.trans {o1 o2 o3 : Own} {w1 w2 w3 : World} (h : Fr o1 o2 w1 w2) (k : Fr o2 o3 w2 w3) : Fr o1 o3 w1 w3 :=
  ⟨k.os.trans h.os, k.tape.trans h.tape, k.output.trans h.output, Nat.le_trans h.size k.size, fun b hb => (k.same b (Nat.lt_of_lt_of_le hb h.size)).trans (h.same b hb),
   fun b hb ho => (k.block b (Nat.lt_of_lt_of_le hb h.size) ((h.same b hb).trans ho)).trans (h.block b hb ho)⟩
theorem Fr.of_below {own : Own} {w w' : World} (h : Below w.heap.size w w') : Fr own own w w' := ⟨h.os, h.tape, h.output, h.size, fun _ _ => rfl, fun b hb _ => h.block b hb⟩
theorem Fr.of_step {own own' : Own} {f : Nat} {w w' : World} (h : Step own own' f w w') : Fr own own' w w' := ⟨h.os, h.tape, h.output, h.size, h.same, fun b hb ho => h.block b hb (fun g e => by rw [ho] at e; cases e)⟩
theorem Grow.fr {own own' : Own} {base k n : Nat} {w w' : World} {e : TypeId} {v : Value} {xs : List Value} (h : Grow own w base e k v n xs) (hs : Fr own own' w w') : Grow own' w' base e k v n xs := by
  have hlt : ∀ g, v.ownBlock = some g → g < w.heap.size := fun g hg => (h.row.lt g hg).2
  exact ⟨owns_same h.row fun g hg => hs.block g (hlt g hg) (h.free g hg), fun g hg => (hs.same g (hlt g hg)).trans (h.free g hg)⟩
theorem free_fr {own own' : Own} {w w' : World} {A : Option Addr} {n : Nat} {vs : List Value} (h : Free own w A n vs) (hs : Fr own own' w w') : Free own' w' A n vs := by
  refine ⟨h.1, fun hn => ?_⟩
  obtain ⟨b, o, rfl, ho, hb, hc⟩ := h.2 hn
  exact ⟨b, o, rfl, (hs.same b hb).trans ho, Nat.lt_of_lt_of_le hb hs.size, fun i v hv => (World.cell?_of_block (a := ⟨b, o + i, none⟩) (hs.block b hb ho)).trans (hc i v hv)⟩
theorem free_at {own : Own} {w : World} {b o n : Nat} {vs : List Value} (h : Free own w (some ⟨b, o, none⟩) n vs) (i : Nat) (v : Value) (hv : vs[i]? = some v) : w.cell? ⟨b, o + i, none⟩ = some v := by
  have hi : 0 < n := by
    have := (List.getElem?_eq_some_iff.1 hv).1
    have := h.1
    omega
  obtain ⟨b', o', e, _, _, hc⟩ := h.2 hi
  injection e with e
  injection e with e1 e2
  subst e1 e2
  exact hc i v hv
/-- A segment, as values: its disk, itself, whose it is, its file. -/
structure Sv where
  f : Nat
  sg : Nat
  id : Nat
  num : Nat
  rm : Int
  N : Dir
  S : Dir
  wt : List Chg
  g : Nat
  x : Fl
  K : Nat
/-- Records that may be appended. -/
def Fit (id : Nat) (l : List Rc) : Prop := ∀ x ∈ l, x.May ∧ x.Fits ∧ x.tenant = id
def ptr (a : Nat) : Value := .pointer (some ⟨a, 0, none⟩)
/-- Nothing was changed but this disk and this segment: other segments, on other disks, are as they were. -/
structure FrS (SG : Own → World → World → Sv → Prop) (f sg : Nat) (own own' : Own) (w w' : World) : Prop where
  fr : Fr own own' w w'
  other : ∀ (w2 : World) (v2 : Sv), v2.f ≠ f → v2.sg ≠ sg → v2.f ≠ sg → v2.sg ≠ f → SG own w2 w v2 → SG own' w2 w' v2
/-- The face. -/
structure Face (SG : Own → World → World → Sv → Prop) : Prop where
  all : ∀ {own : Own} {w0 w w' : World} {v : Sv}, SG own w0 w v → Below w.heap.size w w' → SG own w0 w' v
  top : ∀ {own : Own} {w0 w : World} {v : Sv}, SG own w0 w v → ∀ b p, own b = some p → b < w.heap.size
  below : ∀ {own : Own} {w0 w : World} {v : Sv}, SG own w0 w v → Below w0.heap.size w0 w
  held : ∀ {own : Own} {w0 w : World} {v : Sv}, SG own w0 w v → ∃ d, Held own w0 w v.f d v.K ∧ St d v.rm v.N v.S v.wt [(v.g, v.x)] ∧ dget (segName v.id v.num) v.N = some v.g
  create : ∀ {own : Own} {w0 w : World} {f K id num : Nat} {d : Dk} {rm : Int}, Tabs w0 → Held own w0 w f d K → St d rm [] [] [] [] → id < 4294967296 → num ≤ 1099511627776 → K + 8 ≤ 1073741824 →
    Calls Tryz.prog 7 #[ptr f, .int .u32 (id : Int), .int .i64 (num : Int)] w fun e w' => ∃ own' sg g K', e = .returned (.tuple #[ptr sg, .int .i64 0]) ∧ K' ≤ K + 8 ∧
      SG own' w0 w' ⟨f, sg, id, num, rm, [(segName id num, g)], [(segName id num, g)], [], g, emptyFl, K'⟩ ∧ FrS SG f sg own own' w w'
  append_ok : ∀ {own : Own} {w0 w : World} {v : Sv} {A : Option Addr} {n c : Nat} {g0 l : List Rc}, Tabs w0 → SG own w0 w v → v.x.now = cat g0 → Fit v.id g0 → Fit v.id l → l.length = n → 0 < n → n ≤ 1000 → n ≤ c → c ≤ maxLen → Free own w A (n * 6) (rflat l) →
    ((cat (g0 ++ l)).length : Int) ≤ v.rm → v.K + 8 ≤ 1073741824 →
    Calls Tryz.prog 9 #[ptr v.sg, .slice A n c] w fun e w' => ∃ own' P cp L K', e = .returned (.tuple #[.slice P n cp, .int .i64 0]) ∧ n ≤ cp ∧ cp ≤ maxLen ∧ Free own' w' P n (ivs ((List.range n).map fun j => (((cat g0).length + (cat (l.take j)).length : Nat) : Int))) ∧ K' ≤ v.K + 8 ∧
      SG own' w0 w' { v with x := ⟨cat (g0 ++ l), v.x.was, L⟩, K := K' } ∧ FrS SG v.f v.sg own own' w w'
  append_form : ∀ {own : Own} {w0 w : World} {v : Sv} {A : Option Addr} {n c : Nat} {g0 l : List Rc}, Tabs w0 → SG own w0 w v → v.x.now = cat g0 → Fit v.id g0 → ¬ (0 < n ∧ Fit v.id l) → (∀ y ∈ l, y.Ok) → l.length = n → n ≤ 1000 → n ≤ c → c ≤ maxLen → Free own w A (n * 6) (rflat l) → v.K + 8 ≤ 1073741824 →
    Calls Tryz.prog 9 #[ptr v.sg, .slice A n c] w fun e w' => ∃ own' P cp K', e = .returned (.tuple #[.slice P 0 cp, .int .i64 5]) ∧ K' ≤ v.K + 8 ∧ SG own' w0 w' { v with K := K' } ∧ FrS SG v.f v.sg own own' w w'
  append_corrupt : ∀ {own : Own} {w0 w : World} {v : Sv} {A : Option Addr} {n c : Nat} {l : List Rc}, Tabs w0 → SG own w0 w v → endOf 0 (frontFrom 0 v.x.now) ≠ v.x.now.length ∨ ownOf v.id (frontFrom 0 v.x.now) ≠ frontFrom 0 v.x.now → Fit v.id l → l.length = n → 0 < n → n ≤ 1000 → n ≤ c → c ≤ maxLen → Free own w A (n * 6) (rflat l) → v.K + 8 ≤ 1073741824 →
    Calls Tryz.prog 9 #[ptr v.sg, .slice A n c] w fun e w' => ∃ own' P cp K', e = .returned (.tuple #[.slice P 0 cp, .int .i64 4]) ∧ K' ≤ v.K + 8 ∧ SG own' w0 w' { v with K := K' } ∧ FrS SG v.f v.sg own own' w w'
  records : ∀ {own : Own} {w0 w : World} {v : Sv}, Tabs w0 → SG own w0 w v → v.K + 8 ≤ 1073741824 →
    Calls Tryz.prog 17 #[ptr v.sg] w fun e w' => ∃ own' A c K', e = .returned (.slice A (ownOf v.id (frontFrom 0 v.x.now)).length c) ∧ (ownOf v.id (frontFrom 0 v.x.now)).length ≤ c ∧ c ≤ maxLen ∧ Free own' w' A ((ownOf v.id (frontFrom 0 v.x.now)).length * 7) (flat (ownOf v.id (frontFrom 0 v.x.now))) ∧ K' ≤ v.K + 8 ∧
      SG own' w0 w' { v with K := K' } ∧ FrS SG v.f v.sg own own' w w'
  name : ∀ {w0 : World} (id num : Nat) (w : World), Tabs w0 → Below w0.heap.size w0 w → id < 4294967296 → num ≤ 1099511627776 → Calls Tryz.prog 20 #[.int .u32 (id : Int), .int .i64 (num : Int)] w fun e w' => e = .returned (.string (str (segName id num))) ∧ Below w.heap.size w w'
  name_none : ∀ (id : Nat) (num : Int) (w : World), id < 4294967296 → num < 0 ∨ 1099511627776 < num → -9223372036854775808 ≤ num ∧ num ≤ 9223372036854775807 → Calls Tryz.prog 20 #[.int .u32 (id : Int), .int .i64 num] w fun e w' => e = .returned (.string ⟨#[]⟩) ∧ Below w.heap.size w w'
  create_range : ∀ {own : Own} {w0 w : World} {f K id : Nat} {num : Int} {d : Dk} {rm : Int}, Tabs w0 → Held own w0 w f d K → St d rm [] [] [] [] → id < 4294967296 → num < 0 ∨ 1099511627776 < num → -9223372036854775808 ≤ num ∧ num ≤ 9223372036854775807 → K + 8 ≤ 1073741824 →
    Calls Tryz.prog 7 #[ptr f, .int .u32 (id : Int), .int .i64 num] w fun e w' => ∃ own' d' K' u, e = .returned (.tuple #[u, .int .i64 6]) ∧ K' ≤ K + 8 ∧ Held own' w0 w' f d' K' ∧ St d' rm [] [] [] [] ∧ Fr own own' w w'
  open_none : ∀ {own : Own} {w0 w : World} {f K id num : Nat} {d : Dk} {rm : Int}, Tabs w0 → Held own w0 w f d K → St d rm [] [] [] [] → id < 4294967296 → num ≤ 1099511627776 → K + 8 ≤ 1073741824 →
    Calls Tryz.prog 15 #[ptr f, .int .u32 (id : Int), .int .i64 (num : Int)] w fun e w' => ∃ own' d' K' u, e = .returned (.tuple #[u, .int .i64 1]) ∧ K' ≤ K + 8 ∧ Held own' w0 w' f d' K' ∧ St d' rm [] [] [] [] ∧ Fr own own' w w'
  create_exists : ∀ {own : Own} {w0 w : World} {v : Sv}, Tabs w0 → SG own w0 w v → v.id < 4294967296 → v.num ≤ 1099511627776 → v.K + 8 ≤ 1073741824 →
    Calls Tryz.prog 7 #[ptr v.f, .int .u32 (v.id : Int), .int .i64 (v.num : Int)] w fun e w' => ∃ u, e = .returned (.tuple #[u, .int .i64 7]) ∧ Below w0.heap.size w0 w'
  nil_append : ∀ (A : Option Addr) (n c : Nat) (w : World), Calls Tryz.prog 9 #[.pointer none, .slice A n c] w fun e w' => ∃ u, e = .returned (.tuple #[u, .int .i64 10]) ∧ Below w.heap.size w w'
  nil_read : ∀ (a : Int) (w : World), Calls Tryz.prog 19 #[.pointer none, .int .i64 a] w fun e w' => ∃ z, e = .returned (.tuple #[.agg (Rc.vals z), .int .i64 10]) ∧ Below w.heap.size w w'
  nil_records : ∀ (w : World), Calls Tryz.prog 17 #[.pointer none] w fun e w' => ∃ A c, e = .returned (.slice A 0 c) ∧ Below w.heap.size w w'
  nil_sync : ∀ (w : World), Calls Tryz.prog 10 #[.pointer none] w fun e w' => e = .returned (.int .i64 10) ∧ Below w.heap.size w w'
  nil_size : ∀ (w : World), Calls Tryz.prog 11 #[.pointer none] w fun e w' => e = .returned (.int .i64 0) ∧ Below w.heap.size w w'
  open_ : ∀ {own : Own} {w0 w : World} {f K id num g : Nat} {d : Dk} {rm : Int} {N S : Dir} {wt : List Chg} {x : Fl}, Tabs w0 → Held own w0 w f d K → St d rm N S wt [(g, x)] → N = [(segName id num, g)] → id < 4294967296 → num ≤ 1099511627776 → K + 8 ≤ 1073741824 →
    Calls Tryz.prog 15 #[ptr f, .int .u32 (id : Int), .int .i64 (num : Int)] w fun e w' => ∃ own' sg K', e = .returned (.tuple #[ptr sg, .int .i64 0]) ∧ K' ≤ K + 8 ∧ SG own' w0 w' ⟨f, sg, id, num, rm, N, S, wt, g, x, K'⟩ ∧ FrS SG f sg own own' w w'
  read_ok : ∀ {own : Own} {w0 w : World} {v : Sv} {a n : Nat} {x : Rc}, Tabs w0 → SG own w0 w v → a < v.x.now.length → dec (v.x.now.drop a) = .ok x n → x.tenant = v.id → v.K + 8 ≤ 1073741824 →
    Calls Tryz.prog 19 #[ptr v.sg, .int .i64 (a : Int)] w fun e w' => ∃ own' K', e = .returned (.tuple #[.agg x.vals, .int .i64 0]) ∧ K' ≤ v.K + 8 ∧ SG own' w0 w' { v with K := K' } ∧ FrS SG v.f v.sg own own' w w'
  read_range : ∀ {own : Own} {w0 w : World} {v : Sv} {a : Int}, Tabs w0 → SG own w0 w v → a < 0 ∨ (v.x.now.length : Int) ≤ a → -9223372036854775808 ≤ a ∧ a ≤ 9223372036854775807 → v.K + 8 ≤ 1073741824 →
    Calls Tryz.prog 19 #[ptr v.sg, .int .i64 a] w fun e w' => ∃ own' K' z, e = .returned (.tuple #[.agg (Rc.vals z), .int .i64 6]) ∧ K' ≤ v.K + 8 ∧ SG own' w0 w' { v with K := K' } ∧ FrS SG v.f v.sg own own' w w'
  read_bad : ∀ {own : Own} {w0 w : World} {v : Sv} {a : Nat}, Tabs w0 → SG own w0 w v → a < v.x.now.length → (∀ x n, dec (v.x.now.drop a) = .ok x n → x.tenant ≠ v.id) → v.K + 8 ≤ 1073741824 →
    Calls Tryz.prog 19 #[ptr v.sg, .int .i64 (a : Int)] w fun e w' => ∃ own' K' z, e = .returned (.tuple #[.agg (Rc.vals z), .int .i64 4]) ∧ K' ≤ v.K + 8 ∧ SG own' w0 w' { v with K := K' } ∧ FrS SG v.f v.sg own own' w w'
  sync : ∀ {own : Own} {w0 w : World} {v : Sv}, Tabs w0 → SG own w0 w v → v.K + 8 ≤ 1073741824 →
    Calls Tryz.prog 10 #[ptr v.sg] w fun e w' => ∃ own' K', e = .returned (.int .i64 0) ∧ K' ≤ v.K + 8 ∧ SG own' w0 w' { v with x := ⟨v.x.now, v.x.now, []⟩, K := K' } ∧ FrS SG v.f v.sg own own' w w'
  size : ∀ {own : Own} {w0 w : World} {v : Sv}, SG own w0 w v → Calls Tryz.prog 11 #[ptr v.sg] w fun e w' => e = .returned (.int .i64 (v.x.now.length : Int)) ∧ Below w.heap.size w w'
theorem Face.append_other {SG : Own → World → World → Sv → Prop} (F : Face SG) {own : Own} {w0 w : World} {v : Sv} {A : Option Addr} {n c : Nat} {l : List Rc} (hT : Tabs w0) (h : SG own w0 w v) (hne : ownOf v.id (frontFrom 0 v.x.now) ≠ frontFrom 0 v.x.now) (hf : Fit v.id l) (hl : l.length = n) (hn : 0 < n) (hn2 : n ≤ 1000) (hc : n ≤ c) (hc2 : c ≤ maxLen) (hr : Free own w A (n * 6) (rflat l)) (hK : v.K + 8 ≤ 1073741824) :
    Calls Tryz.prog 9 #[ptr v.sg, .slice A n c] w fun e w' => ∃ u k, e = .returned (.tuple #[u, .int .i64 k]) ∧ Below w0.heap.size w0 w' :=
  (F.append_corrupt hT h (.inr hne) hf hl hn hn2 hc hc2 hr hK).mono fun e w' ⟨own', P, cp, K', he, _, hs, _⟩ => ⟨_, 4, he, F.below hs⟩
end Go.Proofs.YtkdnfikaodkhnaaGreatDoor.Seg
