/-
  Texts one behind the other: SlotLies, RecPut, Zeros.
-/
import Derived.Lib.AppendZerosOnto
import Derived.Laws.OwnMore
import Derived.Test.YtcmlchicpmnhdaaGreatDoorG03
import Derived.Test.YtcmlchicpmnhdaaGreatDoorG04
import Derived.Test.YtcmlchicpmnhdaaGreatDoorG32
import Derived.Test.YtcmlchicpmnhdaaGreatDoorG33
/-
  A file of two slots as a value, and how it lies in memory beside its disk; which slot is told of a file's bytes: plain facts.
-/
namespace Go.Proofs.YtcmlchicpmnhdaaGreatDoor.Slot
open Go.RowKit Go.Proofs.YtcmlchicpmnhdaaGreatDoor.Rec Go.Proofs.YtcmlchicpmnhdaaGreatDoor.Disk
open Go.Proofs.YtcmlchicpmnhdaaGreatDoor.Seg (Fr ptr mark_old mark_top)
set_option linter.unusedVariables false
set_option linter.unusedSimpArgs false

/-- The slot that is told, its turn, its text. -/
def best (l : List UInt8) : Option (Nat × Nat × List UInt8) :=
  match slotOf (slotAt l 0), slotOf (slotAt l 1) with
  | none, none => none
  | some p, none => some (0, p)
  | none, some q => some (1, q)
  | some p, some q => if p.1 < q.1 then some (1, q) else some (0, p)
theorem best_of {l : List UInt8} {s t : Nat} {b : List UInt8} (hs : s < 2) (h1 : slotOf (slotAt l s) = some (t, b)) (h2 : ∀ q, slotOf (slotAt l (1 - s)) = some q → q.1 < t) : best l = some (s, t, b) := by
  unfold best
  rcases (by omega : s = 0 ∨ s = 1) with rfl | rfl
  · rw [h1]
    rw [show (1 : Nat) - 0 = 1 from rfl] at h2
    cases h : slotOf (slotAt l 1) with
    | none => rfl
    | some q =>
      have := h2 q h
      show (if (t, b).1 < q.1 then some (1, q) else some (0, (t, b))) = _
      rw [if_neg (by show ¬ t < q.1; omega)]
  · rw [h1]
    rw [show (1 : Nat) - 1 = 0 from rfl] at h2
    cases h : slotOf (slotAt l 0) with
    | none => rfl
    | some q =>
      have := h2 q h
      show (if q.1 < (t, b).1 then some (1, (t, b)) else some (0, q)) = _
      rw [if_pos (by show q.1 < t; omega)]
theorem Sides.best {l : List UInt8} {s t : Nat} {b : List UInt8} (h : Sides l s t b) : best l = some (s, t, b) := best_of h.two h.here h.there
theorem best_tells (l : List UInt8) : tells l = (best l).map (·.2) := by
  unfold tells best
  cases slotOf (slotAt l 0) with
  | none => cases slotOf (slotAt l 1) <;> rfl
  | some p =>
    cases slotOf (slotAt l 1) with
    | none => rfl
    | some q =>
      dsimp only
      split <;> rfl
theorem best_some {l : List UInt8} {t : Nat} {b : List UInt8} (h : tells l = some (t, b)) : ∃ s, s < 2 ∧ best l = some (s, t, b) := by
  rw [best_tells] at h
  cases hb : best l with
  | none => rw [hb] at h; cases h
  | some p =>
    rw [hb] at h
    obtain ⟨s, t', b'⟩ := p
    injection h with h
    injection h with h1 h2
    subst h1 h2
    refine ⟨s, ?_, rfl⟩
    unfold best at hb
    cases h0 : slotOf (slotAt l 0) with
    | none =>
      cases h1 : slotOf (slotAt l 1) with
      | none => rw [h0, h1] at hb; cases hb
      | some q => rw [h0, h1] at hb; injection hb with hb; injection hb with hb; omega
    | some p =>
      cases h1 : slotOf (slotAt l 1) with
      | none => rw [h0, h1] at hb; injection hb with hb; injection hb with hb; omega
      | some q =>
        rw [h0, h1] at hb
        dsimp only at hb
        split at hb <;> (injection hb with hb; injection hb with hb; omega)
/-- A turn takes eight bytes. -/
theorem slotOf_small {l : List UInt8} {t : Nat} {b : List UInt8} (h : slotOf l = some (t, b)) : t < 18446744073709551616 ∧ b.length ≤ 4080 := by
  unfold slotOf at h
  split at h
  · cases h
  · rename_i h0
    injection h with h
    injection h with h1 h2
    rcases slotN_bound l with hb | ⟨h3, h4, h5, h6, _⟩
    · exact absurd hb h0
    · refine ⟨?_, ?_⟩
      · have := beN_lt 8 (Rec.part l 0 8) (by rw [part_length l 0 8 (by omega) (by omega)])
        omega
      · rw [← h2, part_length l 16 (slotN l) h3 h5]
        omega
/-- A file of slots, as values: its disk, itself, its name, the slot that stands, its turn, its text, the last turn that was tried, whether that is surely synced. -/
structure Sf where
  f : Nat
  sf : Nat
  nm : ByteArray
  slot : Nat
  turn : Nat
  txt : List UInt8
  used : Nat
  lasts : Bool
def Sf.cells (v : Sf) : Array Value := #[ptr v.f, .string v.nm, .int .i64 (v.slot : Int), .int .u64 (v.turn : Int), .string (str v.txt), .int .u64 (v.used : Int), .bool v.lasts]
structure Lies (own : Own) (w : World) (v : Sf) : Prop where
  blk : Blk w v.sf 105 v.cells
  own : own v.sf = some (v.sf, v.sf)
  ne : v.sf ≠ v.f
/-- Only blocks of one disk turn; others may be made, and marked. -/
structure Stp (own own' : Own) (f : Nat) (w w' : World) : Prop where
  os : w'.os = w.os
  tape : w'.tape = w.tape
  output : w'.output = w.output
  size : w.heap.size ≤ w'.heap.size
  same : ∀ b, b < w.heap.size → own' b = own b
  block : ∀ b, b < w.heap.size → (∀ g, own b ≠ some (f, g)) → w'.heap[b]? = w.heap[b]?
theorem Stp.of {own own' : Own} {f : Nat} {w w' : World} (h : Step own own' f w w') : Stp own own' f w w' := ⟨h.os, h.tape, h.output, h.size, h.same, h.block⟩
theorem Stp.refl (own : Own) (f : Nat) (w : World) : Stp own own f w w := ⟨rfl, rfl, rfl, Nat.le_refl _, fun _ _ => rfl, fun _ _ _ => rfl⟩
theorem Stp.below {own : Own} {f : Nat} {w w' : World} (h : Below w.heap.size w w') : Stp own own f w w' := ⟨h.os, h.tape, h.output, h.size, fun _ _ => rfl, fun b hb _ => h.block b hb⟩
theorem Stp.trans {o1 o2 o3 : Own} {f : Nat} {w1 w2 w3 : World} (h : Stp o1 o2 f w1 w2) (k : Stp o2 o3 f w2 w3) : Stp o1 o3 f w1 w3 :=
  ⟨k.os.trans h.os, k.tape.trans h.tape, k.output.trans h.output, Nat.le_trans h.size k.size, fun b hb => (k.same b (Nat.lt_of_lt_of_le hb h.size)).trans (h.same b hb),
   fun b hb hne => (k.block b (Nat.lt_of_lt_of_le hb h.size) (by rw [h.same b hb]; exact hne)).trans (h.block b hb hne)⟩
theorem Stp.fr {own own' : Own} {f : Nat} {w w' : World} (h : Stp own own' f w w') : Fr own own' w w' := ⟨h.os, h.tape, h.output, h.size, h.same, fun b hb ho => h.block b hb (fun g e => by rw [ho] at e; cases e)⟩
theorem Stp.made {own : Own} {f : Nat} {w : World} (o : Obj) : Stp own (Seg.mark own w.heap.size) f w (w.alloc o) :=
  ⟨rfl, rfl, rfl, by simp, fun b hb => mark_old hb, fun b hb _ => (below_alloc w o).block b hb⟩
theorem Stp.held {own own' : Own} {w0 w w' : World} {f f' K : Nat} {d : Dk} (hs : Stp own own' f w w') (h : Held own w0 w f' d K) (hne : f' ≠ f) (ht : ∀ b p, own' b = some p → b < w'.heap.size) : Held own' w0 w' f' d K :=
  ⟨h.disk.keep hs.size hs.same ht fun b hb g hg => hs.block b hb fun g' e => hne (by rw [hg] at e; injection e with e; injection e),
   h.below.trans ⟨hs.os, hs.tape, hs.output, hs.size, fun b hb => hs.block b (Nat.lt_of_lt_of_le hb h.below.size) (fun g e => by rw [h.free b hb] at e; cases e)⟩,
   fun b hb => (hs.same b (Nat.lt_of_lt_of_le hb h.below.size)).trans (h.free b hb)⟩
theorem blk_small {w : World} {g : Nat} {t : TypeId} {cs : Array Value} (h : Blk w g t cs) : g < w.heap.size := blk_lt' h
theorem Lies.lt {own : Own} {w : World} {v : Sf} (h : Lies own w v) : v.sf < w.heap.size := blk_lt' h.blk
theorem Lies.all {own : Own} {w w' : World} {v : Sf} (h : Lies own w v) (hb : Below w.heap.size w w') : Lies own w' v :=
  { h with blk := (hb.block _ h.lt).trans h.blk }
theorem Lies.stp {own own' : Own} {f : Nat} {w w' : World} {v : Sf} (h : Lies own w v) (hs : Stp own own' f w w') (hne : v.sf ≠ f) : Lies own' w' v :=
  { h with
    blk := (hs.block _ h.lt (fun g e => hne (by rw [h.own] at e; injection e with e; injection e))).trans h.blk
    own := (hs.same _ h.lt).trans h.own }
theorem Lies.beside {own own' : Own} {w w' : World} {v : Sf} (h : Lies own w v) (hb : Below w.heap.size w w') (hs : ∀ b, b < w.heap.size → own' b = own b) : Lies own' w' v :=
  { h with blk := (hb.block _ h.lt).trans h.blk, own := (hs _ h.lt).trans h.own }
/-- A file's block is laid. -/
theorem lies_new {own : Own} {w : World} (v : Sf) (hf : v.f < w.heap.size) (hv : v.sf = w.heap.size) (o : Obj) (ho : o = .cells v.cells 105) : Lies (Seg.mark own w.heap.size) (w.alloc o) v := by
  subst ho
  refine ⟨?_, ?_, by omega⟩
  · rw [hv]
    exact Blk.new _ _ _
  · rw [hv]
    exact if_pos rfl
theorem held_made {own : Own} {w0 w : World} {f K : Nat} {d : Dk} (h : Held own w0 w f d K) (o : Obj) : Held (Seg.mark own w.heap.size) w0 (w.alloc o) f d K :=
  h.beside (below_alloc w _) (fun b hb => mark_old hb) (mark_top h.top _)
end Go.Proofs.YtcmlchicpmnhdaaGreatDoor.Slot
/-
  Proved: what Put of package num returns: a number's bytes.
  Conditions: sizes of one to eight bytes.
-/
namespace Go.Proofs.YtcmlchicpmnhdaaGreatDoor.Rec
open Go.RowKit
set_option linter.unusedVariables false
set_option linter.unusedSimpArgs false

theorem made_size (k : Nat) : (madeCells (Value.int .u8 0).cells (k * 1)).size = k := by simp [madeCells, Value.cells]
set_option maxHeartbeats 400000 in
set_option maxRecDepth 100000 in
theorem put_any (n size : Nat) (v : Int) (w : World) (hv : v = (size : Int)) (hs : 1 ≤ size ∧ size ≤ 8) (hn : n < 18446744073709551616) :
    Calls Tryz.prog 43 #[.int .u64 (n : Int), .int .i64 v] w fun e w' => ∃ u, e = .returned u ∧ w'.ownsRow w.heap.size 5 1 u size (bvs (be n size)) ∧ Below w.heap.size w w' := by
  subst hv
  obtain ⟨hs1, hs2⟩ := hs
  have HN := Lib.hid hn
  obtain ⟨i0, hi, hz0, hz1, hz2⟩ := u8_info3
  have HI := Lib.hid hi
  have HZ0 := Lib.hid hz0
  have HZ1 := Lib.hid hz1
  have HB : Hid (i0.bytes * size ≤ 281474976710656 ∧ size ≤ maxLen) := ⟨by rw [hz2]; omega, by unfold maxLen; omega⟩
  clear hn hi hz0 hz1 hz2
  go_enter Tryz.func43, Tryz.ntmps43
  go_wp2_with (at_make; refine wpList_make_full _ rfl _ _ 51 rfl w.heap.size 5 i0 (.int .u8 0) 1 Tryz.underlying51 HI.out HZ0.out HZ1.out _ _ _ _ size rfl rfl rfl rfl HB.out.1 HB.out.2 (Nat.le_refl _) ?_; intro w1 ho1 hg1)
  obtain ⟨g, cap, cur, hv, hbg, hblk, hnc, hcm, hsz, _⟩ := own_block ho1 (by omega)
  injection hv with h1 h2 h3
  subst h3
  injection h1 with h1
  injection h1 with h1
  subst h1
  have hb1 : Below w.heap.size w w1 := (Below.refl _ _).grown hg1 (Nat.le_refl _) (fun k hk => by cases hk)
  have H1 := Lib.hid hblk
  have H2 := Lib.hid hsz
  have H3 := Lib.hid hb1
  clear ho1 hg1 hb1 hblk hsz h2
  go_wp2_with fail
  go_loopw [17] (fun i wr => ∃ k : Nat, ∃ cs : Array Value, k ≤ size ∧ i = .int .i64 (k : Int) ∧ Hid (Blk wr w.heap.size 5 cs ∧ cs.size = size ∧ (∀ j, j < k → cs[size - 1 - j]? = some (bv (UInt8.ofNat (n / 2 ^ (8 * j))))) ∧ Below w.heap.size w wr)) (fun i _ => size - (RowKit.intOf i).toNat)
  case atStart => exact ⟨0, cur, Nat.zero_le _, rfl, H1.out, H2.out, fun j hj => absurd hj (by omega), H3.out⟩
  case round =>
    obtain ⟨k, cs, hk, rfl, HC⟩ := hrel
    by_cases hlt : k < size
    · obtain ⟨m, hm⟩ : ∃ m, size = k + 1 + m := ⟨size - 1 - k, by omega⟩
      have hmi : (size : Int) - 1 - (k : Int) = (m : Int) := by omega
      have hc : wr.cell? ⟨w.heap.size, m, none⟩ = some (cs.getD m (.int .u8 0)) := by
        rw [HC.out.1.cell m, Array.getD_eq_getD_getElem?, Array.getElem?_eq_getElem (by rw [HC.out.2.1]; omega)]
        rfl
      have hf : wr.frozen? ⟨w.heap.size, m, none⟩ = false := HC.out.1.free m
      have hM := Lib.hid hm
      clear hm
      go_wp2_with fail
      go_roundw
      case rel =>
        refine ⟨k + 1, cs.setIfInBounds m (bv (UInt8.ofNat (n / 2 ^ (8 * k)))), by omega, by go_num, ?_, ?_, ?_, ?_⟩
        · rw [← byte_pow, Nat.mul_comm 8 k]
          exact HC.out.1.put m _
        · simpa using HC.out.2.1
        · intro j hj
          have hM' := hM.out
          by_cases hjk : j = k
          · subst hjk
            rw [show size - 1 - j = m by omega, Array.getElem?_setIfInBounds_self_of_lt (by rw [HC.out.2.1]; omega)]
          · rw [Array.getElem?_setIfInBounds_ne (by omega)]
            exact HC.out.2.2.1 j (by omega)
        · exact HC.out.2.2.2.setCell (Nat.le_refl _) _
      case measure => simp [RowKit.intOf]; omega
    · obtain rfl : k = size := by omega
      go_wp2_with fail
      go_ret
      refine ⟨_, rfl, ⟨by rw [bvs_length]; simp, .inr ⟨w.heap.size, k, cs, rfl, Nat.le_refl _, HC.out.1, Nat.le_refl _, HB.out.2, by rw [HC.out.2.1]; simp, ?_⟩⟩, HC.out.2.2.2⟩
      apply List.ext_getElem?
      intro p
      by_cases hp : p < k
      · rw [be_at n k p hp, List.getElem?_take, if_pos (by omega), Array.getElem?_toList]
        have := HC.out.2.2.1 (k - 1 - p) (by omega)
        rwa [show k - 1 - (k - 1 - p) = p by omega] at this
      · rw [List.getElem?_eq_none (by rw [List.length_take]; omega), List.getElem?_eq_none (by rw [bvs_length]; simp; omega)]
end Go.Proofs.YtcmlchicpmnhdaaGreatDoor.Rec
/-
  Proved: 'append(s, make([]T, m)...)' onto a row of the call's own, of any one-cell type: with room and without.
  Conditions: m is at least one; the lengths are small.
-/
namespace Go.Proofs.YtcmlchicpmnhdaaGreatDoor
open Go.RowKit
section
variable {P : Program}

theorem zero_cells_one (z : Value) (n : Nat) : Builtin.zeroCells #[z] n = (List.replicate n z).toArray := by
  apply Array.ext'
  apply List.ext_getElem?
  intro j
  by_cases hj : j < n
  · simp [Builtin.zeroCells, hj, Nat.mod_one]
  · simp [Builtin.zeroCells, hj]
theorem run_append_room_zeros (w : World) (t tn ty e : TypeId) (i : TypeInfo) (z : Value) (k kn : IntKind) (ht : P.underlying t = some (.slice e)) (htn : P.underlying tn = some (.int kn)) (hi : P.info? e = some i) (hz : i.zero = some z) (hs : i.size = 1) (hz1 : z.cells = #[z])
    (g sLen sCap : Nat) (cur : Array Value) (hg : w.heap[g]? = some (.cells cur e (0, 0))) (m : Nat) (h0 : 0 < m) (h1 : z.oneCell' = true)
    (hroom : sLen + m ≤ sCap) (hfit : sLen + m ≤ cur.size) (h63 : (m : Int) ≤ 9223372036854775807) (h48 : m * i.bytes ≤ 281474976710656) :
    (Builtin.append_ #[t, tn] ty #[.slice (some ⟨g, 0, none⟩) sLen sCap, .int k (m : Int)]).run P w =
      .ok (.slice (some ⟨g, 0, none⟩) (sLen + m) sCap) (w.setRow g (cur.toList.take sLen ++ List.replicate m z ++ cur.toList.drop (sLen + m)).toArray) := by
  have hst := run_storeCells_at P g sLen e (List.replicate m z) 0 cur w hg (by simpa using hfit) (fun v hv => by rw [(List.mem_replicate.1 hv).2]; exact h1)
  simp only [Nat.add_zero] at hst
  have hn : m ≠ 0 := by omega
  have hw : IntKind.i64.wrap (m : Int) = m := by rw [IntKind.wrap_i64]; omega
  have h48i : ¬ (281474976710656 < (m : Int) * (i.bytes : Int)) := by
    rw [← Int.natCast_mul]
    omega
  have hneg : ¬ ((m : Int) < 0) := by omega
  simp [Builtin.append_, run_underlying ht, run_underlying htn, sizeOf, typeInfo, zeroValue, hi, hz, hs, asInt, asIntOf, hw, hn, hneg, h48i, hroom, Addr.add_lit, zero_cells_one, hz1, hst]

theorem run_append_own_zeros (w : World) (base : Nat) (t tn ty e : TypeId) (z : Value) (bytes : Nat) (k kn : IntKind) (ht : P.underlying t = some (.slice e)) (htn : P.underlying tn = some (.int kn)) (hinfo : (P.info? e).map (fun i => (i.zero, i.size, i.bytes)) = some (some z, 1, bytes)) (hz1 : z.cells = #[z]) (h1 : z.oneCell' = true)
    (v : Value) (n : Nat) (xs : List Value) (hown : w.ownsRow base e 1 v n xs) (m : Nat) (h0 : 0 < m) (h63 : n + m ≤ maxLen) (hbytes : (n + m) * bytes ≤ 140737488355328) (hbase : base ≤ w.heap.size) :
    ∃ v' w', (Builtin.append_ #[t, tn] ty #[v, .int k (m : Int)]).run P w = .ok v' w' ∧ w'.ownsRow base e 1 v' (n + m) (xs ++ List.replicate m z) ∧ w.grownBy w' v.ownBlock := by
  obtain ⟨i, hi, hzz⟩ := Option.map_eq_some_iff.1 hinfo
  simp only [Prod.mk.injEq] at hzz
  obtain ⟨hz, hsz, rfl⟩ := hzz
  have hsmall : n + m ≤ 9223372036854775807 := by simp only [maxLen] at h63; omega
  have hmb : m * i.bytes ≤ 281474976710656 := by
    have : m * i.bytes ≤ (n + m) * i.bytes := Nat.mul_le_mul_right _ (by omega)
    omega
  have hxl : xs.length = n := by have := hown.1; omega
  have hlen : (xs ++ List.replicate m z).length = (n + m) * 1 := by simp [hxl]
  have grown : ∀ (old : Nat), old < n + m → ∀ (row : Option Nat),
      (w.drew.alloc (.cells (xs.toArray ++ Builtin.zeroCells z.cells m ++ Builtin.zeroCells z.cells (grownCap w (n + m) old e - (n + m))) e)).ownsRow base e 1
        (.slice (some ⟨w.heap.size, 0, none⟩) (n + m) (grownCap w (n + m) old e)) (n + m) (xs ++ List.replicate m z) ∧
      w.grownBy (w.drew.alloc (.cells (xs.toArray ++ Builtin.zeroCells z.cells m ++ Builtin.zeroCells z.cells (grownCap w (n + m) old e - (n + m))) e)) row := by
    intro old ho row
    have hge := grownCap_ge w (n + m) old e
    have hcm : grownCap w (n + m) old e ≤ maxLen := grownCap_le_maxLen w (n + m) old e h63
    refine ⟨⟨hlen, .inr ⟨w.heap.size, _, _, rfl, hbase, heap_alloc_new w.drew _, hge, hcm, ?_, ?_⟩⟩, ⟨rfl, rfl, rfl, by simp, fun k hk _ => Below.heap_alloc w.drew _ k hk⟩⟩
    · simp only [Array.size_append, List.size_toArray, size_zeroCells, hz1, hxl]
      simp
      omega
    · rw [hz1, zero_cells_one, zero_cells_one]
      simp only [Array.toList_append]
      rw [← hlen]
      exact List.take_left
  rcases hown.2 with ⟨rfl, rfl⟩ | ⟨g, cap, cur, rfl, hbg, hg, hnc, hcm, hcs, htake⟩
  · have hx : xs = [] := List.eq_nil_of_length_eq_zero hxl
    subst hx
    have hr := Lib.run_append_nil_zeros (P := P) w t tn ty e i z k kn ht htn hi hz m h0 (by omega) (by omega) hmb
    have hgr := grown 0 (by omega) (Value.ownBlock (.slice none 0 0))
    simp only [Nat.zero_add, List.nil_append, Array.empty_append] at hgr ⊢
    exact ⟨_, _, hr, hgr.1, hgr.2⟩
  · by_cases hroom : n + m ≤ cap
    · have hfit : n + m ≤ cur.size := by omega
      have hr := run_append_room_zeros (P := P) w t tn ty e i z k kn ht htn hi hz hsz hz1 g n cap cur hg m h0 h1 hroom hfit (by omega) hmb
      refine ⟨_, _, hr, ⟨hlen, .inr ⟨g, cap, _, rfl, hbg, setRow_heap w g cur _ e _ hg, hroom, hcm, ?_, ?_⟩⟩, ⟨rfl, rfl, rfl, by simp, fun k _ hk => setRow_other w g k _ (fun e => hk (by simp [Value.ownBlock, e]))⟩⟩
      · simp only [List.size_toArray, List.length_append, List.length_take, List.length_drop, Array.length_toList, List.length_replicate]
        omega
      · rw [Nat.mul_one] at htake
        rw [htake, ← hlen]
        exact List.take_left
    · have holds : ∀ j u, xs[j]? = some u → w.cell? ((⟨g, 0, none⟩ : Addr).add j) = some u := hown.cells (g := g) rfl
      have hf : (Builtin.firstCells i.size n (.slice (some ⟨g, 0, none⟩) n cap)).run P w.drew = .ok xs.toArray w.drew := run_firstCells_some (P := P) w.drew i.size n ⟨g, 0, none⟩ n cap xs (by rw [hsz, hxl, Nat.mul_one]) holds
      have hr := Lib.run_append_grow_zeros (P := P) w t tn ty e i z k kn ht htn hi hz (some ⟨g, 0, none⟩) n cap xs hf m h0 (by omega) (by omega) (by omega) hmb (growslice_fits (by omega) hbytes)
      have hgr := grown cap (by omega) (Value.ownBlock (.slice (some ⟨g, 0, none⟩) n cap))
      exact ⟨_, _, hr, hgr.1, hgr.2⟩

/-- The same as the walk's next step. -/
theorem wpList_append_zeros {w : World} {ops : Array Oper} {rest : List Oper} {o : Oper} {a : Act} {Q : Exit → Act → World → Prop} (hgd : o.guard = none) (s x : Operand) (t tn : TypeId)
    (ho : o.op = .call { callee := .builtin .append, args := #[s, x], argTypes := #[t, tn] })
    (base : Nat) (e : TypeId) (z : Value) (bytes : Nat) (k kn : IntKind) (ht : P.underlying t = some (.slice e)) (htn : P.underlying tn = some (.int kn)) (hinfo : (P.info? e).map (fun i => (i.zero, i.size, i.bytes)) = some (some z, 1, bytes)) (hz1 : z.cells = #[z]) (h1 : z.oneCell' = true)
    (v : Value) (n : Nat) (xs : List Value) (hs : a.eval s = v) (hown : w.ownsRow base e 1 v n xs) (m : Nat) (hx : a.eval x = .int k (m : Int)) (h0 : 0 < m)
    (h63 : n + m ≤ maxLen) (hbytes : (n + m) * bytes ≤ 140737488355328) (hbase : base ≤ w.heap.size)
    (h : ∀ v' w', w'.ownsRow base e 1 v' (n + m) (xs ++ List.replicate m z) → w.grownBy w' v.ownBlock → wpList P ops Q rest (a.put o.dst v') w') : wpList P ops Q (o :: rest) a w := by
  obtain ⟨v', w', hr, h2, h3⟩ := run_append_own_zeros (P := P) w base t tn o.type e z bytes k kn ht htn hinfo hz1 h1 v n xs hown m h0 h63 hbytes hbase
  exact Lib.wpList_append_run w hgd s x t tn ho v _ hs hx v' w' hr (h v' w' h2 h3)
end
end Go.Proofs.YtcmlchicpmnhdaaGreatDoor
