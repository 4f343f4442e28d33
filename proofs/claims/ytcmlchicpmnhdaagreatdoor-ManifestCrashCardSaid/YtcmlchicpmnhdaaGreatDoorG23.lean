/-
  Texts one behind the other: Agg2, DiskWrite.
-/
import Derived.Test.YtcmlchicpmnhdaaGreatDoorG05
import Derived.Test.YtcmlchicpmnhdaaGreatDoorG22
/-
  Slices of arrays by address.
-/
namespace Go.Proofs.YtcmlchicpmnhdaaGreatDoor
open Go.RowKit
variable {P : Program}

/-- A slice of an array of one-cell elements, from a place to its end. -/
theorem run_sliceAt_arr {T e : TypeId} {n : Nat} (ht : P.underlying T = some (.array n e)) (hs : (P.info? e).map (·.size) = some 1) (g o l : Nat) (hl : l < n) (v : Int) (hv : v = (l : Int)) (w : World) :
    (Instr.sliceAt T (.pointer (some ⟨g, o, none⟩)) (some (.int .i64 v)) none none).run P w = .ok (.slice (some ⟨g, o + l, none⟩) (n - l) (n - l)) w := by
  obtain ⟨info, hinfo, hsize⟩ := Option.map_eq_some_iff.1 hs
  subst hv
  have hL : P.arrayLen T = n := by simp [Program.arrayLen, ht]
  have hE : P.elem T = e := by simp [Program.elem, ht]
  have h := run_sliceAt_array_l (P := P) w T ⟨g, o, none⟩ (by rw [hL, hE]; exact ht) .i64 (l : Int) (by omega) (by rw [hL]; omega)
  rw [h, hE, hL]
  have hne : ¬ n = l := by omega
  simp [sizeOf, typeInfo, hinfo, hsize, slicedAt, Addr.add, hne]
end Go.Proofs.YtcmlchicpmnhdaaGreatDoor
/-
  Proved: what write of package disk does to a file.
-/
namespace Go.Proofs.YtcmlchicpmnhdaaGreatDoor.Disk
open Go.RowKit Go.Maps
set_option linter.unusedVariables false
set_option linter.unusedSimpArgs false

def putAt (now : List UInt8) (a : Nat) (bs : List UInt8) : List UInt8 := now.take a ++ bs ++ now.drop (a + bs.length)
theorem putAt_length (now : List UInt8) (a : Nat) (bs : List UInt8) (h : a ≤ now.length) : (putAt now a bs).length = max now.length (a + bs.length) := by
  simp [putAt]
  omega
theorem putAt_get (now : List UInt8) (a : Nat) (bs : List UInt8) (h : a ≤ now.length) (i : Nat) : (putAt now a bs)[i]? = if a ≤ i ∧ i < a + bs.length then bs[i - a]? else now[i]? := by
  unfold putAt
  have ht : (now.take a).length = a := by rw [List.length_take]; omega
  by_cases h1 : i < a
  · rw [if_neg (by omega), List.append_assoc, List.getElem?_append_left (by omega), List.getElem?_take, if_pos h1]
  · by_cases h2 : i < a + bs.length
    · rw [if_pos ⟨by omega, h2⟩, List.getElem?_append_left (by rw [List.length_append, ht]; omega), List.getElem?_append_right (by omega), ht]
    · rw [if_neg (by omega), List.getElem?_append_right (by rw [List.length_append, ht]; omega), List.getElem?_drop, List.length_append, ht]
      congr 1
      omega
/-- The sectors that n bytes from a on lie in. -/
def touches (a n s : Nat) : Bool := decide (a / 64 ≤ s) && decide (s < a / 64 + sectors a n)
theorem touches_of {a n i : Nat} (h : a ≤ i ∧ i < a + n) : touches a n (i / 64) = true := by
  have e : sectors a n = (a + n - 1) / 64 - a / 64 + 1 := if_neg (by omega)
  unfold touches
  rw [e, Bool.and_eq_true, decide_eq_true_eq, decide_eq_true_eq]
  omega
theorem Fl.put_ok {x : Fl} (h : x.Ok) {a : Nat} {bs : List UInt8} (ha : a ≤ x.now.length) (hm : a + bs.length ≤ 4194304) {L : Secs} (hL : L.Pairwise fun p q => p.1 < q.1) (hw : ∀ p ∈ L, 64 * p.1 < 4194304)
    (hs : ∀ t, shas t L = (shas t x.soiled || touches a bs.length t)) : (Fl.mk (putAt x.now a bs) x.was L).Ok := by
  have hle := h.le
  have hmx := h.max
  refine ⟨?_, ?_, hL, hw, ?_⟩
  · show x.was.length ≤ _
    rw [putAt_length _ _ _ ha]; omega
  · show (putAt x.now a bs).length ≤ _
    rw [putAt_length _ _ _ ha]; omega
  · intro i hi hc
    have hi' : i < x.was.length := hi
    have hc' : (shas (i / 64) x.soiled || touches a bs.length (i / 64)) = false := by rw [← hs]; exact hc
    rw [Bool.or_eq_false_iff] at hc'
    show (putAt x.now a bs)[i]? = x.was[i]?
    rw [putAt_get _ _ _ ha, if_neg]
    · exact h.clean i hi' hc'.1
    · intro hh
      rw [touches_of hh] at hc'
      cases hc'.2
theorem put_parts (now bs : List UInt8) (a o : Nat) (ha : a ≤ now.length) (ho : o = min (now.length - a) bs.length) : (now.take a ++ bs.take o ++ now.drop (a + o)) ++ bs.drop o = putAt now a bs := by
  unfold putAt
  rcases Nat.le_total bs.length (now.length - a) with h | h
  · have e : o = bs.length := by omega
    rw [e, List.take_of_length_le (Nat.le_refl _), List.drop_eq_nil_of_le (Nat.le_refl _), List.append_nil]
  · have e : o = now.length - a := by omega
    have e1 : now.drop (a + o) = [] := List.drop_eq_nil_of_le (by omega)
    have e2 : now.drop (a + bs.length) = [] := List.drop_eq_nil_of_le (by omega)
    rw [e1, e2, List.append_nil, List.append_nil, List.append_assoc, List.take_append_drop]

theorem splice_take {α : Type} (X R cs : List α) (a n : Nat) (hX : X.length = n) (h : a + cs.length ≤ n) : ((X ++ R).take a ++ cs ++ (X ++ R).drop (a + cs.length)).take n = X.take a ++ cs ++ X.drop (a + cs.length) := by
  have e1 : (X ++ R).take a = X.take a := List.take_append_of_le_length (by omega)
  have e2 : (X ++ R).drop (a + cs.length) = X.drop (a + cs.length) ++ R := List.drop_append_of_le_length (by omega)
  have e3 : (X.take a ++ cs ++ X.drop (a + cs.length)).length = n := by
    rw [List.length_append, List.length_append, List.length_take, List.length_drop]
    omega
  rw [e1, e2, ← List.append_assoc, List.take_append_of_le_length (by omega), List.take_of_length_le (by omega)]
/-- copy into a file's own bytes, from its place a on. -/
theorem copy_onto {w : World} {An : Option Addr} {n cn : Nat} {now : List UInt8} (hrow : w.ownsRow 0 5 1 (.slice An n cn) n (bvs now)) (a : Nat) (ha : a ≤ n) {B : Nat} {A : Option Addr} {m c : Nat} {bs : List UInt8} (hR : Row w B A m (bvs bs))
    (D : Value) (hD : (cn = a ∧ D = .slice An (n - a) 0) ∨ (cn ≠ a ∧ D = .slice (Option.map (fun x => x.add a) An) (n - a) (cn - a))) :
    ∃ w', (Builtin.copy_ #[51, 51] 3 #[D, .slice A m c]).run Tryz.prog w = .ok (.int .i64 ((min (n - a) m : Nat) : Int)) w' ∧
      w'.ownsRow 0 5 1 (.slice An n cn) n (bvs (now.take a ++ bs.take (min (n - a) m) ++ now.drop (a + min (n - a) m))) ∧ w.grownBy w' (Value.slice An n cn).ownBlock := by
  have hsz : (Tryz.prog.info? 5).map (·.size) = some 1 := by kernel_rfl
  have hln : now.length = n := by have := hrow.1; rwa [bvs_length, Nat.mul_one] at this
  have hlb := hR.size
  obtain ⟨o, ho⟩ : ∃ o, o = min (n - a) m := ⟨_, rfl⟩
  rw [← ho]
  by_cases h0 : o = 0
  · subst h0
    refine ⟨w, ?_, ?_, World.grownBy.refl w _⟩
    · have hm0 : Nat.min m (n - a) = 0 := by rw [Nat.min_comm] at ho; exact ho.symm
      rcases hD with ⟨_, rfl⟩ | ⟨_, rfl⟩
      · exact run_copy_none w _ _ _ _ _ _ _ _ _ _ Tryz.underlying51 hsz hm0
      · exact run_copy_none w _ _ _ _ _ _ _ _ _ _ Tryz.underlying51 hsz hm0
    · rw [List.take_zero, List.append_nil, Nat.add_zero, List.take_append_drop]
      exact hrow
  · have hn : 0 < n := by omega
    obtain ⟨gb, cap, cur, e, _, hb, h1, h2, h3, h4⟩ := own_block hrow hn
    injection e with e1 e2 e3
    subst e1 e3
    rcases hD with ⟨e, _⟩ | ⟨_, rfl⟩
    · omega
    · obtain ⟨b, ob, rfl, _, hcell⟩ := hR.2 (by omega)
      have hcs : (bvs (bs.take o)).length = o := by rw [bvs_length, List.length_take]; omega
      have hadd : ∀ (q : Nat) (j : Nat), (⟨b, q, none⟩ : Addr).add j = ⟨b, q + j, none⟩ := fun q j => by
        unfold Addr.add
        split
        · rename_i hj; subst hj; rfl
        · rfl
      have hadd0 : (⟨gb, 0, none⟩ : Addr).add a = ⟨gb, a, none⟩ := by
        unfold Addr.add
        split
        · rename_i hj; subst hj; rfl
        · simp
      have hr := run_copy_row (P := Tryz.prog) w 51 51 3 5 gb a (n - a) (cn - a) ⟨b, ob, none⟩ m c cur 5 (bvs (bs.take o)) Tryz.underlying51 hsz hb (by rw [hcs, ho, Nat.min_comm])
        (fun j u hu => by
          rw [hadd]
          refine hcell j u ?_
          rw [← bvs_take, List.getElem?_take] at hu
          split at hu
          · exact hu
          · cases hu) (by rw [hcs]; omega) (bvs_one _)
      refine ⟨w.setRow gb (cur.toList.take a ++ bvs (bs.take o) ++ cur.toList.drop (a + (bvs (bs.take o)).length)).toArray, ?_, ⟨?_, .inr ⟨gb, cn, (cur.toList.take a ++ bvs (bs.take o) ++ cur.toList.drop (a + (bvs (bs.take o)).length)).toArray, rfl, Nat.zero_le _, setRow_heap w gb cur _ _ _ hb, h1, h2, ?_, ?_⟩⟩, ?_⟩
      · show (Builtin.copy_ _ _ #[.slice (some ((⟨gb, 0, none⟩ : Addr).add a)) _ _, _]).run _ _ = _
        rw [hadd0, hr, hcs]
        rfl
      · rw [bvs_length]
        simp
        omega
      · rw [List.size_toArray, List.length_append, List.length_append, hcs, List.length_take, List.length_drop, Array.length_toList]
        omega
      · have hrest : cur.toList = bvs now ++ cur.toList.drop n := by rw [← h4, List.take_append_drop]
        have hbl : (bvs now).length = n := by rw [bvs_length, hln]
        rw [hrest, Nat.mul_one, splice_take (bvs now) _ (bvs (bs.take o)) a n hbl (by omega), hcs, bvs_take, bvs_drop, bvs_append, bvs_append]
      · exact only_setRow w gb _
/-- A file whose bytes alone have turned. -/
theorem file_put {own : Own} {w w' : World} {f g : Nat} {now now' was : List UInt8} {L : Secs} {v v' : Value} {ob : Nat} (h : FileIn own w f g ⟨now, was, L⟩ v ob) (ht : ∀ b p, own b = some p → b < w.heap.size)
    (hT : Turns w w' (fun b => b = g ∨ v.ownBlock = some b)) (hb : Blk w' g 78 #[v', .int .i64 (was.length : Int), .map (some ob)]) (hr : w'.ownsRow 0 5 1 v' now'.length (bvs now')) (hl : Lies w v v') (hok : (Fl.mk now' was L).Ok) :
    ∃ own', FileIn own' w' f g ⟨now', was, L⟩ v' ob ∧ StepP own own' (f, g) w w' := by
  have hown : ∀ b, b < w.heap.size → tag own (f, g) v'.ownBlock.toList b = own b := by
    intro b hb
    by_cases hx : b ∈ v'.ownBlock.toList
    · rw [tag_new hx]
      have hx' : v'.ownBlock = some b := by simpa using hx
      rcases hl with hl | hl
      · exact (h.orow b (hl ▸ hx')).symm
      · have := hl b hx'
        omega
    · exact tag_old hx
  have hst : StepP own (tag own (f, g) v'.ownBlock.toList) (f, g) w w' := by
    refine ⟨hT.1, hT.2.1, hT.2.2.1, hT.2.2.2.1, hown, fun b hb hne => hT.keep hb ?_, ?_, ?_⟩
    · rintro (rfl | hx)
      · exact hne h.og
      · exact hne (h.orow b hx)
    · intro b hb q hq
      by_cases hx : b ∈ v'.ownBlock.toList
      · rw [tag_new hx] at hq
        exact (Option.some.inj hq).symm
      · rw [tag_old hx] at hq
        have := ht b q hq
        omega
    · intro b q hq
      by_cases hx : b ∈ v'.ownBlock.toList
      · exact row_lt hr b (by simpa using hx)
      · rw [tag_old hx] at hq
        exact Nat.lt_of_lt_of_le (ht b q hq) hT.2.2.2.1
  have hmapcell : ∀ t cs fr, w.heap[ob]? ≠ some (.cells cs t fr) := by
    intro t cs fr e
    obtain ⟨es, clock, hm, _⟩ := h.map
    rw [hm] at e
    injection e with e
    cases e
  have hobg : ob ≠ g := by
    rintro rfl
    exact hmapcell _ _ _ h.blk
  have hrowb : ∀ b, v.ownBlock = some b → ∃ cur, w.heap[b]? = some (.cells cur 5 (0, 0)) := by
    intro b hb
    rcases h.row.2 with ⟨e, _⟩ | ⟨g', cap, cur, e, _, hgg, _⟩
    · rw [e] at hb; cases hb
    · rw [e] at hb
      have e2 : g' = b := by injection hb
      subst e2
      exact ⟨cur, hgg⟩
  have hobv : v.ownBlock ≠ some ob := by
    intro e
    obtain ⟨cur, hc⟩ := hrowb ob e
    exact hmapcell _ _ _ hc
  refine ⟨_, ⟨hok, hb, (hown g (blk_lt' h.blk)).trans h.og, (hown ob h.map.lt).trans h.oo, hr, fun b hb => tag_new (by simp [hb]), map_keep h.map (hT.keep h.map.lt ?_), ?_⟩, hst⟩
  · rintro (e | e)
    · exact hobg e
    · exact hobv e
  · intro p hp
    obtain ⟨A, n, c, e, h1, h2, h3, h4⟩ := h.olds p hp
    refine ⟨A, n, c, e, h1, h2, ⟨h3.1, fun hn0 => ?_⟩, fun hn0 a ha => ⟨fun hv => ?_, (h4 hn0 a ha).2⟩⟩
    · obtain ⟨b, o, e, hp', hb, hc⟩ := h3.2 hn0
      have hh := h4 hn0 _ e
      refine ⟨b, o, e, (hown b hb).trans hp', Nat.lt_of_lt_of_le hb hT.2.2.2.1, fun i u hu => (World.cell?_of_block (hT.keep hb ?_)).trans (hc i u hu)⟩
      rintro (e | e)
      · exact hh.2 e
      · exact hh.1 e
    · obtain ⟨b, o, e, hp', hb, hc⟩ := h3.2 hn0
      rcases hl with hl | hl
      · exact (h4 hn0 a ha).1 (hl ▸ hv)
      · have := hl _ hv
        rw [ha] at e
        injection e with e
        rw [e] at this
        have : w.heap.size ≤ b := this
        omega
theorem soil_at {own : Own} {w : World} {f g : Nat} {x : Fl} {v : Value} {ob : Nat} (h : FileIn own w f g x v ob) (ht : ∀ b p, own b = some p → b < w.heap.size) (z : Int) (s : Nat) (hz : z = (s : Int)) (hs : 64 * s < 4194304) :
    Calls Tryz.prog 98 #[.pointer (some ⟨g, 0, none⟩), .int .i64 z] w fun e w' => ∃ own' u, e = .returned undef ∧ FileIn own' w' f g (x.soil s u) v ob ∧ StepP own own' (f, g) w w' := by
  subst hz
  exact soil_any h ht s hs
/-- What holds at the head of the loop of write. -/
structure Soiling (own own1 : Own) (w wr : World) (f g : Nat) (x : Fl) (v : Value) (ob a k : Nat) (L : Secs) : Prop where
  file : FileIn own1 wr f g ⟨x.now, x.was, L⟩ v ob
  step : StepP own own1 (f, g) w wr
  has : ∀ t, shas t L = (shas t x.soiled || (decide (a / 64 ≤ t) && decide (t < a / 64 + k)))
theorem Soiling.next {own own1 own2 : Own} {w wr w2 : World} {f g : Nat} {x : Fl} {v u : Value} {ob a k : Nat} {L : Secs} (h : Soiling own own1 w wr f g x v ob a k L)
    (h2 : FileIn own2 w2 f g ((Fl.mk x.now x.was L).soil (a / 64 + k) u) v ob) (h3 : StepP own1 own2 (f, g) wr w2) : ∃ L', Soiling own own2 w w2 f g x v ob a (k + 1) L' := by
  have hh := fun t => (Fl.mk x.now x.was L).soil_has (a / 64 + k) t u
  have e : (Fl.mk x.now x.was L).soil (a / 64 + k) u = ⟨x.now, x.was, ((Fl.mk x.now x.was L).soil (a / 64 + k) u).soiled⟩ := by
    unfold Fl.soil
    split <;> rfl
  rw [e] at h2
  refine ⟨_, h2, h.step.trans h3, fun t => ?_⟩
  rw [hh t]
  show (shas t L || _) = _
  rw [h.has t]
  cases shas t x.soiled
  · rw [Bool.eq_iff_iff]
    simp only [Bool.or_eq_true, Bool.and_eq_true, decide_eq_true_eq, Bool.false_eq_true, false_or]
    omega
  · simp
theorem FileIn.ne_row {own : Own} {w : World} {f g : Nat} {x : Fl} {v : Value} {ob : Nat} (h : FileIn own w f g x v ob) : some g ≠ v.ownBlock := by
  intro e
  rcases h.row.2 with ⟨e1, _⟩ | ⟨g', cap, cur, e1, _, hgg, _⟩
  · rw [e1] at e; cases e
  · rw [e1] at e
    have e2 : g = g' := by injection e
    subst e2
    have hx' := h.blk.symm.trans hgg
    injection hx' with hx'
    injection hx' with h1 h2 h3
    exact absurd h2 (by decide)
theorem Soiling.src {own own1 : Own} {w wr : World} {f g : Nat} {x : Fl} {v : Value} {ob a k : Nat} {L : Secs} (h : Soiling own own1 w wr f g x v ob a k L) {B : Nat} {A : Option Addr} {m : Nat} {vs : List Value} (hR : Row w B A m vs) (hB : B ≤ w.heap.size)
    (hA : 0 < m → ∀ ad, A = some ad → own ad.block ≠ some (f, g)) : Row wr wr.heap.size A m vs := by
  refine ⟨hR.1, fun hn => ?_⟩
  obtain ⟨b, o, e, hb, hc⟩ := hR.2 hn
  have hs := h.step.size
  exact ⟨b, o, e, by omega, fun i u hu => (World.cell?_of_block (h.step.block b (by omega) (hA hn _ e))).trans (hc i u hu)⟩
theorem src_kept {own own1 : Own} {w wr w1 : World} {f g : Nat} {x : Fl} {v : Value} {ob a k : Nat} {L : Secs} (h : Soiling own own1 w wr f g x v ob a k L) {B : Nat} {A : Option Addr} {m : Nat} {vs : List Value} (hR : Row w B A m vs) (hB : B ≤ w.heap.size)
    (hA : 0 < m → ∀ ad, A = some ad → own ad.block ≠ some (f, g)) (hg : wr.grownBy w1 v.ownBlock) : Row w1 w1.heap.size A m vs := by
  have hR' := h.src hR hB hA
  refine ⟨hR.1, fun hn => ?_⟩
  obtain ⟨b, o, e, hb, hc⟩ := hR'.2 hn
  obtain ⟨b', o', e', hb', _⟩ := hR.2 hn
  rw [e] at e'
  injection e' with e'
  injection e' with e1 e2
  subst e1
  refine ⟨b, o, e, Nat.lt_of_lt_of_le hb hg.size, fun i u hu => (World.cell?_of_block (hg.block b hb ?_)).trans (hc i u hu)⟩
  intro hv
  have h1 := h.file.orow b hv.symm
  rw [h.step.same b (by omega)] at h1
  exact hA hn _ e h1
theorem fwrite_end {own own1 : Own} {w wr w1 w3 : World} {f g : Nat} {x : Fl} {v v3 : Value} {ob a N m o : Nat} {L : Secs} {bs : List UInt8} (H : Soiling own own1 w wr f g x v ob a N L) (ha : a ≤ x.now.length) (hm : a + bs.length ≤ 4194304) (hlen : bs.length = m)
    (hN : N = sectors a m) (ho : o = min (x.now.length - a) m) (g1 : wr.grownBy w1 v.ownBlock)
    (G1 : w3.ownsRow 0 5 1 v3 (x.now.length + (m - o)) (bvs (x.now.take a ++ bs.take o ++ x.now.drop (a + o)) ++ bvs (bs.drop o))) (G2 : w1.drew.grownBy w3 v.ownBlock) (G3 : Lies w1.drew v v3)
    (hB3 : Blk w3 g 78 #[v, .int .i64 (x.was.length : Int), .map (some ob)]) :
    ∃ own' v' L', Ending.returned undef = Ending.returned undef ∧ FileIn own' (w3.setCell ⟨g, 0, none⟩ v3) f g ⟨putAt x.now a bs, x.was, L'⟩ v' ob ∧
      (∀ t, shas t L' = (shas t x.soiled || touches a bs.length t)) ∧ StepP own own' (f, g) w (w3.setCell ⟨g, 0, none⟩ v3) := by
  have hne := H.file.ne_row
  have hgl := blk_lt' H.file.blk
  have g2 := undrew G2
  have g3 := only_setCell w3 ⟨g, 0, none⟩ v3
  have hl : Lies wr v v3 := by
    rcases G3 with h | h
    · exact .inl h
    · exact .inr fun b hb => Nat.le_trans g1.size (h b hb)
  have hhas : ∀ t, shas t L = (shas t x.soiled || touches a bs.length t) := fun t => by rw [H.has t, hN, touches, hlen]
  have hT : Turns wr (w3.setCell ⟨g, 0, none⟩ v3) (fun b => b = g ∨ v.ownBlock = some b) :=
    ((Turns.of_opt g1 fun b hb => .inr hb).trans (Turns.of_opt g2 fun b hb => .inr hb)).trans (Turns.of g3 (.inl rfl))
  have hok : (Fl.mk (putAt x.now a bs) x.was L).Ok := Fl.put_ok (x := ⟨x.now, x.was, L⟩) H.file.ok ha hm H.file.ok.rising H.file.ok.within fun t => by
    show shas t L = (shas t L || _)
    rw [hhas t, Bool.or_assoc, Bool.or_self]
  have hr : (w3.setCell ⟨g, 0, none⟩ v3).ownsRow 0 5 1 v3 (putAt x.now a bs).length (bvs (putAt x.now a bs)) := by
    have e1 : (putAt x.now a bs).length = x.now.length + (m - o) := by rw [putAt_length _ _ _ ha]; omega
    rw [e1, ← put_parts x.now bs a o ha (by rw [ho, hlen]), ← bvs_append]
    refine row_keep G1 fun b hb => g3.block b (row_lt G1 b hb) ?_
    intro e
    have e' : b = g := Option.some.inj e
    rcases hl with h | h
    · exact hne (by rw [← e', ← h]; exact hb.symm)
    · have := h b hb
      omega
  obtain ⟨own', h1, h2⟩ := file_put H.file H.step.top hT (hB3.put 0 v3) hr hl hok
  exact ⟨own', v3, L, rfl, h1, hhas, H.step.trans h2⟩
set_option maxRecDepth 100000 in
set_option maxHeartbeats 1000000 in
theorem fwrite_any {own : Own} {w : World} {f g : Nat} {x : Fl} {v : Value} {ob : Nat} (h : FileIn own w f g x v ob) (ht : ∀ b p, own b = some p → b < w.heap.size) (a : Nat) (ha : a ≤ x.now.length)
    {B : Nat} {A : Option Addr} {m c : Nat} {bs : List UInt8} (hR : Row w B A m (bvs bs)) (hB : B ≤ w.heap.size) (hA : 0 < m → ∀ ad, A = some ad → own ad.block ≠ some (f, g)) (hc : m ≤ c) (hcm : c ≤ maxLen) (hm : a + m ≤ 4194304) :
    Calls Tryz.prog 83 #[.pointer (some ⟨g, 0, none⟩), .int .i64 (a : Int), .slice A m c] w fun e w' => ∃ own' v' L, e = .returned undef ∧
      FileIn own' w' f g ⟨putAt x.now a bs, x.was, L⟩ v' ob ∧ (∀ t, shas t L = (shas t x.soiled || touches a bs.length t)) ∧ StepP own own' (f, g) w w' := by
  have hlen := hR.size
  have hmx := h.ok.max
  obtain ⟨An, cn, rfl, hn1, hn2⟩ := own_form h.row
  obtain ⟨N, hN⟩ : ∃ N, N = sectors a m := ⟨_, rfl⟩
  have CS := sectorsOf_any a m
  rw [← hN] at CS
  have hNb : ∀ k, k < N → 64 * (a / 64 + k) < 4194304 := by
    intro k hk
    rw [hN, sectors] at hk
    split at hk
    · omega
    · omega
  obtain ⟨Q, hQ⟩ : ∃ Q, Q = a / 64 := ⟨_, rfl⟩
  have hQ1 : (a : Int) / 64 = (Q : Int) := by omega
  have hQ65 : Q ≤ 65536 := by omega
  have hN65 : N ≤ 65537 := by
    rw [hN, sectors]
    split <;> omega
  have hcb : c ≤ 9223372036854775807 := by unfold maxLen at hcm; omega
  have S0 : Soiling own own w w f g x (.slice An x.now.length cn) ob a 0 x.soiled := ⟨h, StepP.refl _ _ _ ht, fun t => by
    rw [show (decide (a / 64 ≤ t) && decide (t < a / 64 + 0)) = false by rw [Bool.eq_false_iff]; simp, Bool.or_false]⟩
  have HH := Lib.hid h
  have HQ := Lib.hid hQ
  have HN := Lib.hid hN
  have HR := Lib.hid hR
  have HT := Lib.hid ht
  have HA := Lib.hid hA
  have HL := Lib.hid hlen
  have HCM := Lib.hid hcm
  have HNB := Lib.hid hNb
  have HS0 := Lib.hid S0
  clear h hQ hN hR ht hA hcm S0 hNb
  go_enter Tryz.func83, Tryz.ntmps83
  go_wp2_with (go_at_call 97; refine (CS _ (by omega) (by omega)).mono ?_; rintro e w' ⟨rfl, hww⟩; obtain rfl := hww.symm)
  go_loopw [12] (fun y wr => ∃ (k : Nat) (own1 : Own) (L : Secs), y = .int .i64 (k : Int) ∧ k ≤ N ∧ Hid (Soiling own own1 w wr f g x (.slice An x.now.length cn) ob a k L)) (fun y _ => N - (RowKit.intOf y).toNat)
  case atStart => exact ⟨0, own, x.soiled, rfl, Nat.zero_le _, HS0⟩
  case round =>
    obtain ⟨k, own1, L, rfl, hk, HSL⟩ := hrel
    by_cases hlt : k < N
    · have CO := fun z hz => soil_at HSL.out.file HSL.out.step.top z (a / 64 + k) hz (HNB.out k hlt)
      have HQK : Hid ((Q : Int) + (k : Int) = ((a / 64 + k : Nat) : Int)) := by show _ = _; rw [← HQ.out]; omega
      go_wp2_with (go_at_call 98; refine (CO _ HQK.out).mono ?_; rintro e w2 ⟨own2, u, rfl, h2, h3⟩; have H2 := Lib.hid h2; have H3 := Lib.hid h3; clear h2 h3 CO)
      go_roundw
      case rel =>
        obtain ⟨L', hL'⟩ := HSL.out.next H2.out H3.out
        exact ⟨k + 1, own2, L', by go_num, by omega, hL'⟩
      case measure => simp [RowKit.intOf]; omega
    · obtain rfl : k = N := by omega
      have hRr : Row wr wr.heap.size A m (bvs bs) := HSL.out.src HR.out hB HA.out
      obtain ⟨D, hD⟩ : ∃ D : Value, (cn = a ∧ D = .slice An 0 0) ∨ (cn ≠ a ∧ D = .slice (Option.map (fun x => x.add a) An) (x.now.length - a) (cn - a)) := by
        by_cases e : cn = a
        · exact ⟨_, .inl ⟨e, rfl⟩⟩
        · exact ⟨_, .inr ⟨e, rfl⟩⟩
      have hco := copy_onto (c := c) HSL.out.file.row a ha hRr D (by
        rcases hD with ⟨e, e'⟩ | h
        · refine .inl ⟨e, ?_⟩
          rw [e', show ({ now := x.now, was := x.was, soiled := L : Fl }).now.length - a = 0 by show x.now.length - a = 0; omega]
        · exact .inr h)
      obtain ⟨o, ho⟩ : ∃ o, o = min (x.now.length - a) m := ⟨_, rfl⟩
      have hom : o ≤ m := by omega
      dsimp only at hco
      rw [← ho] at hco
      have HO := Lib.hid ho
      clear ho hRr
      obtain ⟨w1, hcp, hr1, hg1⟩ := hco
      have hb1 : Blk w1 g 78 #[.slice An x.now.length cn, .int .i64 (x.was.length : Int), .map (some ob)] := blk_kept HSL.out.file.blk hg1 HSL.out.file.ne_row
      have hR1 : Row w1 w1.heap.size A m (bvs bs) := src_kept HSL.out HR.out hB HA.out hg1
      have c0 : wr.cell? ⟨g, 0, none⟩ = some (.slice An x.now.length cn) := HSL.out.file.blk.cell 0
      have c01 : w1.cell? ⟨g, 0, none⟩ = some (.slice An x.now.length cn) := hb1.cell 0
      have HB1 := Lib.hid hb1
      have HG1 := Lib.hid hg1
      have R1 : Hid (w1.drew.ownsRow 0 5 1 (.slice An x.now.length cn) x.now.length (bvs (x.now.take a ++ bs.take o ++ x.now.drop (a + o)))) := hr1
      have R3 : Hid (x.now.length + (m - o) ≤ maxLen) := by show _ ≤ _; unfold maxLen; omega
      have R4 : Hid ((x.now.length + (m - o)) * 1 ≤ 140737488355328) := by show _ ≤ _; omega
      have hne := HSL.out.file.ne_row
      obtain ⟨A', c', hA', R2⟩ : ∃ A' c', ((c = o ∧ A' = A ∧ c' = 0) ∨ (c ≠ o ∧ A' = Option.map (fun x => x.add o) A ∧ c' = c - o)) ∧ Hid (Row w1.drew w1.heap.size A' (m - o) (bvs (bs.drop o))) := by
        by_cases e : c = o
        · refine ⟨_, _, .inl ⟨e, rfl, rfl⟩, ?_⟩
          have e0 : m - o = 0 := by omega
          show Row _ _ _ _ _
          rw [e0, List.drop_eq_nil_of_le (by omega)]
          exact ⟨rfl, fun h => absurd h (by omega)⟩
        · refine ⟨_, _, .inr ⟨e, rfl, rfl⟩, ?_⟩
          show Row _ _ _ _ _
          rcases Nat.lt_or_ge o m with hlt' | hge
          · have := Row.cut hR1 hlt' (Nat.le_refl _)
            rw [bvs_drop, bvs_take, List.take_of_length_le (by rw [List.length_drop]; omega)] at this
            exact this
          · have e0 : m - o = 0 := by omega
            rw [e0, List.drop_eq_nil_of_le (by omega)]
            exact ⟨rfl, fun h => absurd h (by omega)⟩
      clear hb1 hR1 hr1 hg1
      rcases hD with ⟨hca, rfl⟩ | ⟨hca, rfl⟩
      · subst hca
        go_wp2_with fail
        rcases hA' with ⟨hco, rfl, rfl⟩ | ⟨hco, rfl, rfl⟩
        · subst hco
          have hm0 : m - c = 0 := by omega
          have R2' : Hid (Row w1.drew w1.heap.size A' 0 (bvs (bs.drop c))) := by have := R2.out; rw [hm0] at this; exact this
          have R3' : Hid (x.now.length + 0 ≤ maxLen) := by show _ ≤ _; unfold maxLen; omega
          have R4' : Hid ((x.now.length + 0) * 1 ≤ 140737488355328) := by show _ ≤ _; omega
          go_region_law (refine step_append_from rfl (.tmp 34) (.tmp 37) 51 rfl 0 5 (.int .u8 0) 1 Tryz.underlying51 (by kernel_rfl) rfl (.slice An x.now.length cn) x.now.length _ rfl R1.out w1.heap.size A' 0 0 (bvs (bs.drop c)) rfl R2'.out (bvs_one _) R3'.out R4'.out (Nat.zero_le _) ?_; intro v3 w3 G1 G2 G3; obtain ⟨A3, c3, rfl, _, _⟩ := own_form G1.out; have hb3 := blk_kept HB1.out (undrew G2.out) hne; have t33 : w3.cell? ⟨g, 0, none⟩ = some (.slice An x.now.length cn) := hb3.cell 0; have ft33 := hb3.free 0; have HB3 := Lib.hid hb3; clear hb3)
          all_goals
            go_wp2_with fail
            go_end0
            exact fwrite_end HSL.out ha (by omega) hlen HN.out HO.out HG1.out (by rw [hm0]; exact G1.out) G2.out G3.out HB3.out
        · go_region_law (refine step_append_from rfl (.tmp 34) (.tmp 37) 51 rfl 0 5 (.int .u8 0) 1 Tryz.underlying51 (by kernel_rfl) rfl (.slice An x.now.length cn) x.now.length _ rfl R1.out w1.heap.size (Option.map (fun x => x.add o) A) (m - o) (c - o) (bvs (bs.drop o)) rfl R2.out (bvs_one _) R3.out R4.out (Nat.zero_le _) ?_; intro v3 w3 G1 G2 G3; obtain ⟨A3, c3, rfl, _, _⟩ := own_form G1.out; have hb3 := blk_kept HB1.out (undrew G2.out) hne; have t33 : w3.cell? ⟨g, 0, none⟩ = some (.slice An x.now.length cn) := hb3.cell 0; have ft33 := hb3.free 0; have HB3 := Lib.hid hb3; clear hb3)
          all_goals
            go_wp2_with fail
            go_end0
            exact fwrite_end HSL.out ha (by omega) hlen HN.out HO.out HG1.out G1.out G2.out G3.out HB3.out
      · have hca' : ¬ cn = a := hca
        go_wp2_with fail
        rcases hA' with ⟨hco, rfl, rfl⟩ | ⟨hco, rfl, rfl⟩
        · subst hco
          have hm0 : m - c = 0 := by omega
          have R2' : Hid (Row w1.drew w1.heap.size A' 0 (bvs (bs.drop c))) := by have := R2.out; rw [hm0] at this; exact this
          have R3' : Hid (x.now.length + 0 ≤ maxLen) := by show _ ≤ _; unfold maxLen; omega
          have R4' : Hid ((x.now.length + 0) * 1 ≤ 140737488355328) := by show _ ≤ _; omega
          go_region_law (refine step_append_from rfl (.tmp 34) (.tmp 37) 51 rfl 0 5 (.int .u8 0) 1 Tryz.underlying51 (by kernel_rfl) rfl (.slice An x.now.length cn) x.now.length _ rfl R1.out w1.heap.size A' 0 0 (bvs (bs.drop c)) rfl R2'.out (bvs_one _) R3'.out R4'.out (Nat.zero_le _) ?_; intro v3 w3 G1 G2 G3; obtain ⟨A3, c3, rfl, _, _⟩ := own_form G1.out; have hb3 := blk_kept HB1.out (undrew G2.out) hne; have t33 : w3.cell? ⟨g, 0, none⟩ = some (.slice An x.now.length cn) := hb3.cell 0; have ft33 := hb3.free 0; have HB3 := Lib.hid hb3; clear hb3)
          all_goals
            go_wp2_with fail
            go_end0
            exact fwrite_end HSL.out ha (by omega) hlen HN.out HO.out HG1.out (by rw [hm0]; exact G1.out) G2.out G3.out HB3.out
        · go_region_law (refine step_append_from rfl (.tmp 34) (.tmp 37) 51 rfl 0 5 (.int .u8 0) 1 Tryz.underlying51 (by kernel_rfl) rfl (.slice An x.now.length cn) x.now.length _ rfl R1.out w1.heap.size (Option.map (fun x => x.add o) A) (m - o) (c - o) (bvs (bs.drop o)) rfl R2.out (bvs_one _) R3.out R4.out (Nat.zero_le _) ?_; intro v3 w3 G1 G2 G3; obtain ⟨A3, c3, rfl, _, _⟩ := own_form G1.out; have hb3 := blk_kept HB1.out (undrew G2.out) hne; have t33 : w3.cell? ⟨g, 0, none⟩ = some (.slice An x.now.length cn) := hb3.cell 0; have ft33 := hb3.free 0; have HB3 := Lib.hid hb3; clear hb3)
          all_goals
            go_wp2_with fail
            go_end0
            exact fwrite_end HSL.out ha (by omega) hlen HN.out HO.out HG1.out G1.out G2.out G3.out HB3.out
end Go.Proofs.YtcmlchicpmnhdaaGreatDoor.Disk
