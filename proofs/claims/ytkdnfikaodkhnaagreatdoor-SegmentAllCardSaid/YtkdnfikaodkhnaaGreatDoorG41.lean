/-
  Texts one behind the other: SegAllMath, SegManyMath.
-/
import Derived.Test.YtkdnfikaodkhnaaGreatDoorG06
import Derived.Test.YtkdnfikaodkhnaaGreatDoorG08
import Derived.Test.YtkdnfikaodkhnaaGreatDoorG25
import Derived.Test.YtkdnfikaodkhnaaGreatDoorG35
import Derived.Test.YtkdnfikaodkhnaaGreatDoorG37
import Derived.Test.YtkdnfikaodkhnaaGreatDoorG40
/-
  Plain facts for SegmentAll: groups of records among the arguments; what a crash leaves of a segment's records, where Mixed says no. Proved: Open of a segment on any disk that holds its file alone.
-/
namespace Go.Proofs.YtkdnfikaodkhnaaGreatDoor.Seg
open Go.RowKit Go.Proofs.YtkdnfikaodkhnaaGreatDoor.Disk Go.Proofs.YtkdnfikaodkhnaaGreatDoor.Rec Go.Proofs.YtkdnfikaodkhnaaGreatDoor.Mix
set_option linter.unusedVariables false
set_option linter.unusedSimpArgs false

/-- Groups of records, as a walk reads them. -/
def RowsR (w : World) (A : Option Addr) (n : Nat) : Prop := 0 < n → ∃ b o, A = some ⟨b, o, none⟩ ∧ b < w.heap.size ∧ ∀ i, i < n → ∃ A' l c recs, w.cell? ⟨b, o + i, none⟩ = some (.slice A' l c) ∧ Row w w.heap.size A' (l * 6) (rflat recs) ∧ recs.length = l ∧ (∀ y ∈ recs, Rc.Ok y) ∧ l ≤ c ∧ c ≤ maxLen
theorem recrows_of_form {H : Type} {enc : TypeId × Value → H} {W : World} {base : Nat} {held : Bool} {n : Nat} {a : Option Addr} {len cap : Nat} {x : DataW H × List MemPlace} (h : DataW.trod enc Tryz.prog W base (fun _ => true) held n 23 [.slice a len cap] = some x) :
    RowsR W a len ∧ len ≤ cap ∧ cap ≤ maxLen := by
  rcases Deep.open_slice Tryz.underlying23 h with ⟨hcs, _⟩ | ⟨p, l, c, m, k, D, Pl, hcs, _, hl, hm, hmm, _, hx⟩
  · injection hcs with hcs
    injection hcs with h1 h2 h3
    subst h1 h2 h3
    exact ⟨fun h => absurd h (by omega), Nat.le_refl _, by decide⟩
  · injection hcs with hcs
    injection hcs with h1 h2 h3
    subst h1 h2 h3
    have e1 : Tryz.prog.cellsOf 33 = 1 := by kernel_rfl
    simp only [if_true] at hmm
    subst hmm
    rw [e1] at hx
    refine ⟨fun hn => ?_, hl, hm⟩
    have hy : ∀ i, i < len → ∃ A' l' c' recs, W.cell? (p.add (i * 1)) = some (.slice A' l' c') ∧ Row W W.heap.size A' (l' * 6) (rflat recs) ∧ recs.length = l' ∧ (∀ y ∈ recs, Rc.Ok y) ∧ l' ≤ c' ∧ c' ≤ maxLen := by
      intro i hi
      obtain ⟨cs, h1, h2⟩ := hx i (by omega)
      obtain ⟨_, hlen, hcell⟩ := World.cells?_some h1
      have h3 := hcell 0 (by first | omega | (rw [hlen]; omega))
      have h0 : ((p.add (i * 1)).add 0) = p.add (i * 1) := by
        obtain ⟨b, o, s⟩ := p
        simp [Addr.add]
      rw [h0] at h3
      rcases Deep.open_slice Tryz.underlying33 h2 with ⟨hcs, _⟩ | ⟨p', l', c', m', k', D', Pl', hcs, _, _, _, _, _, _⟩
      · rw [hcs] at h2 h3
        obtain ⟨⟨r, r1, r2, r3⟩, r4, r5⟩ := recs_of_form h2
        exact ⟨_, _, _, r, by rw [h3]; rfl, r3, r1, r2, r4, r5⟩
      · rw [hcs] at h2 h3
        obtain ⟨⟨r, r1, r2, r3⟩, r4, r5⟩ := recs_of_form h2
        exact ⟨_, _, _, r, by rw [h3]; rfl, r3, r1, r2, r4, r5⟩
    obtain ⟨b, off, spot⟩ := p
    obtain ⟨A0, l0, c0, r0, hc0, _⟩ := hy 0 hn
    have hspot : spot = none := by
      have := World.cell?_spot hc0
      simpa [Addr.add] using this
    subst hspot
    refine ⟨b, off, rfl, by simpa [Addr.add] using World.block_lt_of_cell? W _ hc0, fun i hi => ?_⟩
    obtain ⟨A', l', c', recs, k1, k2⟩ := hy i hi
    refine ⟨A', l', c', recs, ?_, k2⟩
    have e : (⟨b, off, none⟩ : Addr).add (i * 1) = ⟨b, off + i, none⟩ := by rw [Nat.mul_one]; exact Lib.add_plain b off i
    rwa [e] at k1
/-! What stands in a file. -/
theorem text_st {d : Dk} {rm : Int} {S : Dir} {wt : List Chg} {nm : Nm} {g : Nat} {x : Fl} (h : St d rm [(nm, g)] S wt [(g, x)]) : text d nm = x.now := by
  unfold text
  rw [h.look (by simp [Disk.dget])]
  rfl
/-- What a crash leaves of a segment's records, where each that stands at its front was written. -/
theorem all_crash {d dc d2 : Dk} {rm : Int} {nm : Nm} {g s fa : Nat} {wa : World} {G : List Rc} {L : Secs} {keep : List Bool} {torn : Int} {pf : Ent} {id : Nat} (hS : St d rm [(nm, g)] [(nm, g)] [] [(g, ⟨cat G, cat (G.take s), L⟩)]) (hok : (Fl.mk (cat G) (cat (G.take s)) L).Ok) (hG : Fit id G)
    (hc : d.Crashed dc 0 keep torn) (h2 : d.Crashed d2 0 [] (-1)) (hns : pf.ns = d2.N.map (·.1)) (hT : pf.T = text d2) (hone : One ⟨fa, wa, d.N.map (·.1), text d⟩ pf (text dc nm)) :
    ∃ m, min s G.length ≤ m ∧ m ≤ G.length ∧ frontFrom 0 (text dc nm) = places 0 (G.take m) := by
  obtain ⟨g1, s1⟩ := crashed_one hc hS.wait hS.S
  obtain ⟨g2, s2⟩ := crashed_one h2 hS.wait hS.S
  have e : cat G = cat (G.take s) ++ cat (G.drop s) := by rw [← cat_append, List.take_append_drop]
  have hw : (cat G).take (cat (G.take s)).length = cat (G.take s) := by
    conv => lhs; rw [e]
    rw [List.take_left]
  have t1 := text_st s1
  have t2 := text_st s2
  rw [hS.head] at t1 t2
  have t2' : text d2 nm = cat (G.take s) := by
    rw [t2]
    exact crash_nothing hok hw (parts_none _)
  have t1' : text dc nm = (Fl.mk (cat G) (cat (G.take s)) L).crash (partsFor 0 L.length keep torn) := t1
  rw [t1'] at hone ⊢
  refine seg_crash G (fun x hx => ⟨(hG x hx).1, (hG x hx).2.1⟩) s ⟨cat G, cat (G.take s), L⟩ hok rfl rfl (partsFor_le _ _ _ _) fun q hq => ?_
  rcases hone.recs q hq with ⟨n1, k1, k2, k3⟩ | ⟨n1, k1, k2, k3⟩
  · refine .inl ?_
    have hn1 : n1 = nm := by
      have : n1 ∈ d.N.map (·.1) := k1
      rw [hS.N] at this
      simpa using this
    subst hn1
    have k2 : q.1 + (enc q.2).length ≤ (text d n1).length := k2
    have k3 : ((text d n1).drop q.1).take (enc q.2).length = enc q.2 := k3
    rw [text_st hS] at k2 k3
    exact ⟨k2, k3⟩
  · refine .inr ?_
    have hn1 : n1 = nm := by
      rw [hns, s2.N] at k1
      simpa using k1
    subst hn1
    rw [hT, t2'] at k2 k3
    exact ⟨k2, k3⟩
set_option maxRecDepth 100000 in
set_option maxHeartbeats 8000000 in
theorem open_any {own : Own} {w0 w : World} {f K id num g : Nat} {d : Dk} (hT : Tabs w0) (h : Held own w0 w f d K) (hN : d.N = [(segName id num, g)]) (hid : id < 4294967296) (hnum : num ≤ 1099511627776) :
    Calls Tryz.prog 15 #[ptr f, .int .u32 (id : Int), .int .i64 (num : Int)] w fun e w' => ∃ own' sg, e = .returned (.tuple #[ptr sg, .int .i64 0]) ∧ Lies own' w0 w' ⟨f, sg, id, num, d.room, d.N, d.S, d.wait, g, d.fl g, K⟩ d ∧ Fr own own' w w' := by
  obtain ⟨nm, hnm⟩ : ∃ nm, nm = str (segName id num) := ⟨_, rfl⟩
  have hnl : nm.size ≤ maxLen := by rw [hnm]; exact name_small hid hnum
  have hlook : d.look nm.data.toList = some (d.fl g) := by
    rw [Dk.look, hN, hnm]
    simp [Disk.dget, str]
  have CN := name_any id num w (hT.below h.below rfl).tens hid hnum
  rw [← hnm] at CN
  have CNN := Lib.hid CN
  have hxm := (h.ok hlook).max
  obtain ⟨L, hL⟩ : ∃ L, L = (d.fl g).now.length := ⟨_, rfl⟩
  have CZ : Hid (∀ w1, Below w.heap.size w w1 → Calls Tryz.prog 22 #[.pointer (some ⟨f, 0, none⟩), .string nm] w1 fun e w' => e = .returned (.int .i64 (L : Int)) ∧ w' = w1) := fun w1 hb => by
    rw [hL]
    exact size_look nm (h.all hb) hnl hlook
  have e : ptr f = .pointer (some ⟨f, 0, none⟩) := rfl
  rw [e]
  have HNM := Lib.hid hnm
  have HHID := Lib.hid hid
  have HH := Lib.hid h
  have HN := Lib.hid hN
  have hid' : (id : Int) ≤ 4294967295 := by omega
  clear e CN h hT hnl hnm hN hlook hL hxm
  go_enter Tryz.func15, Tryz.ntmps15
  go_wp2_with (first
    | (go_at_call 20; refine CNN.out.mono ?_; rintro e w1 ⟨rfl, hb1⟩; have HB1 := Lib.hid hb1; clear hb1)
    | (go_at_call 22; refine (CZ.out _ HB1.out).mono ?_; rintro e w2 ⟨rfl, rfl⟩))
  go_ret2
  have hd := HH.out.all HB1.out
  refine ⟨mark own _, _, rfl, ?_, (Fr.of_below HB1.out).trans (frs_made (f := f) _).fr⟩
  rw [HNM.out]
  exact {
    disk := hd.beside (below_alloc _ _) (fun b hb => mark_old hb) (mark_top hd.top _)
    room := rfl
    N := rfl
    one := HN.out
    S := rfl
    wait := rfl
    fl := rfl
    blk := Blk.new _ _ _
    own := if_pos rfl
    ne := Nat.ne_of_gt hd.disk.lt
    id := HHID.out
    num := hnum }
end Go.Proofs.YtkdnfikaodkhnaaGreatDoor.Seg
/-
  Plain facts: the records that SegmentMany appends, their places.
-/
namespace Go.Proofs.YtkdnfikaodkhnaaGreatDoor.Seg
open Go.RowKit Go.Proofs.YtkdnfikaodkhnaaGreatDoor.Disk Go.Proofs.YtkdnfikaodkhnaaGreatDoor.Rec
set_option linter.unusedVariables false
set_option linter.unusedSimpArgs false

def noughts (k : Nat) : List UInt8 := List.replicate k 0
theorem noughts_made (n : Nat) : (madeCells #[Value.int .u8 0] n) = (bvs (noughts n)).toArray := by
  apply Array.ext'
  rw [toList_madeCells_one]
  simp [bvs, bv, noughts]
def mrec (k : Nat) : Rc := ⟨2, 4, 0, 0, k, noughts k⟩
def mrecs (i : Nat) : List Rc := (List.range i).map mrec
def msub (i q : Nat) : List Rc := (List.range' i q).map mrec
theorem mrecs_length (i : Nat) : (mrecs i).length = i := by simp [mrecs]
theorem msub_length (i q : Nat) : (msub i q).length = q := by simp [msub]
theorem mrecs_append (i q : Nat) : mrecs i ++ msub i q = mrecs (i + q) := by
  unfold mrecs msub
  rw [← List.map_append, List.range_eq_range', List.range_eq_range']
  have := List.range'_append (s := 0) (m := i) (n := q) (step := 1)
  simp only [Nat.one_mul, Nat.zero_add] at this
  rw [this]
theorem msub_snoc (i q : Nat) : msub i q ++ [mrec (i + q)] = msub i (q + 1) := by
  unfold msub
  rw [List.range'_concat, List.map_append, Nat.one_mul]
  rfl
theorem msub_take {i q j : Nat} (h : j ≤ q) : (msub i q).take j = msub i j := by
  unfold msub
  have e := List.range'_append (s := i) (m := j) (n := q - j) (step := 1)
  rw [show j + (q - j) = q by omega] at e
  rw [← List.map_take, ← e, List.take_left' (by simp)]
theorem mrecs_take {n i : Nat} (h : i ≤ n) : (mrecs n).take i = mrecs i := by
  unfold mrecs
  rw [← List.map_take, List.take_range, Nat.min_eq_left h]
theorem mrecs_get {n i : Nat} (h : i < n) : (mrecs n)[i]? = some (mrec i) := by
  unfold mrecs
  rw [List.getElem?_map, List.getElem?_range h]
  rfl
theorem mrec_fit {k : Nat} (h : k ≤ 60) : (mrec k).May ∧ (mrec k).Fits ∧ (mrec k).tenant = 4 := by
  refine ⟨⟨by show (1 : Int) ≤ 2; decide, by show (2 : Int) ≤ 4; decide, Nat.zero_le _, Nat.zero_le _, by show k ≤ _; omega, by show (noughts k).length ≤ 1000; unfold noughts; rw [List.length_replicate]; omega⟩, ⟨by show 4 < _; decide, by show 0 < _; decide, by show 0 < _; decide, by show k < _; omega⟩, rfl⟩
theorem mrecs_fit {i : Nat} (h : i ≤ 60) : Fit 4 (mrecs i) := fun x hx => by
  obtain ⟨k, hk, rfl⟩ := List.mem_map.1 hx
  rw [List.mem_range] at hk
  exact mrec_fit (by omega)
theorem msub_fit {i q : Nat} (h : i + q ≤ 60) : Fit 4 (msub i q) := fun x hx => by
  obtain ⟨k, hk, rfl⟩ := List.mem_map.1 hx
  rw [List.mem_range'_1] at hk
  exact mrec_fit (by omega)
theorem mrecs_good {i : Nat} (h : i ≤ 60) : AllGood (mrecs i) := fun x hx => ⟨(mrecs_fit h x hx).1, (mrecs_fit h x hx).2.1⟩
theorem mrecs_size {i : Nat} (h : i ≤ 60) : (cat (mrecs i)).length ≤ 62340 := by
  have := cat_most (l := mrecs i) (fun x hx => (mrecs_fit h x hx).1)
  rw [mrecs_length] at this
  omega
/-- The places so far. -/
def pl (i : Nat) : List Int := (List.range i).map fun j => ((cat (mrecs j)).length : Int)
theorem pl_length (i : Nat) : (pl i).length = i := by simp [pl]
theorem pl_append (i q : Nat) : pl i ++ ((List.range q).map fun j => (((cat (mrecs i)).length + (cat ((msub i q).take j)).length : Nat) : Int)) = pl (i + q) := by
  unfold pl
  rw [List.range_add, List.map_append, List.map_map]
  congr 1
  refine List.map_congr_left fun j hj => ?_
  rw [List.mem_range] at hj
  show _ = ((cat (mrecs (i + j))).length : Int)
  rw [msub_take (by omega), ← mrecs_append i j, cat_append, List.length_append]
theorem ivs_append (a b : List Int) : ivs a ++ ivs b = ivs (a ++ b) := by simp [ivs]
theorem pl_get {n i : Nat} (h : i < n) : (ivs (pl n))[i]? = some (.int .i64 ((cat (mrecs i)).length : Int)) := by
  unfold ivs pl
  rw [List.getElem?_map, List.getElem?_map, List.getElem?_range h]
  rfl
theorem pl_lt {n i : Nat} (h : i < n) (hn : n ≤ 60) : (cat (mrecs i)).length + 39 + i ≤ (cat (mrecs n)).length := by
  have e : mrecs n = mrecs i ++ ([mrec i] ++ msub (i + 1) (n - (i + 1))) := by
    have h1 : mrecs i ++ msub i 1 = mrecs (i + 1) := mrecs_append i 1
    have h2 := mrecs_append (i + 1) (n - (i + 1))
    rw [show i + 1 + (n - (i + 1)) = n by omega] at h2
    rw [← h2, ← h1, List.append_assoc]
    rfl
  rw [e, cat_append, cat_append, List.length_append, List.length_append]
  have hl : (cat [mrec i]).length = 39 + i := by
    show (enc (mrec i) ++ []).length = _
    rw [List.append_nil, enc_length _ (mrec_fit (by omega)).1]
    show 39 + (noughts i).length = _
    unfold noughts
    rw [List.length_replicate]
  rw [hl]
  omega
theorem mrec_at {n i : Nat} (h : i < n) (hn : n ≤ 60) : dec ((cat (mrecs n)).drop (cat (mrecs i)).length) = .ok (mrec i) (39 + (mrec i).body.length) := by
  have := dec_place (mrecs_good hn) (mrecs_get h)
  rwa [mrecs_take (by omega)] at this
theorem mrec_not {n i : Nat} (h : i < n) (hn : n ≤ 60) : ∀ y m, dec ((cat (mrecs n)).drop ((cat (mrecs i)).length + 1)) ≠ .ok y m := by
  have := dec_beside (mrecs_good hn) (mrecs_get h)
  rwa [mrecs_take (by omega)] at this
theorem mrecs_own {n : Nat} (hn : n ≤ 60) : (ownOf 4 (frontFrom 0 (cat (mrecs n)))).length = n := by
  rw [(front_whole (mrecs_good hn)).1, ownOf_all (places_tenant (fun x hx => (mrecs_fit hn x hx).2.2) 0), places_length, mrecs_length]
theorem built_mrec (k : Nat) (s : ByteArray) : Tryz.prog.built 40 [(0, .int .i64 2), (1, .int .u32 4), (4, .int .u64 (k : Int)), (5, .string s)] = some #[.int .i64 2, .int .u32 4, .int .u64 0, .int .u64 0, .int .u64 (k : Int), .string s] := by kernel_rfl
section
variable {w : World} {ops : Array Oper} {rest : List Oper} {o : Oper} {a : Act} {Q : Exit → Act → World → Prop}
theorem build_four (hg : o.guard = none) (T : TypeId) (y1 y2 y3 y4 : Operand) (ho : o.op = .build T #[(0, y1), (1, y2), (4, y3), (5, y4)]) (d : Option Tmp) (hd : o.dst = d) (v1 v2 v3 v4 : Value) (h1 : a.eval y1 = v1) (h2 : a.eval y2 = v2) (h3 : a.eval y3 = v3) (h4 : a.eval y4 = v4) (fc : Array Value)
    (hb : Tryz.prog.built T [(0, v1), (1, v2), (4, v3), (5, v4)] = some fc) (k : wpList Tryz.prog ops Q rest (a.put d (.agg fc)) w) : wpList Tryz.prog ops Q (o :: rest) a w := by
  refine wpList_buildTo hg T _ ho d hd fc ?_ k
  rw [Array.toList_map]
  simp only [List.map_cons, List.map_nil, h1, h2, h3, h4]
  exact hb
end
end Go.Proofs.YtkdnfikaodkhnaaGreatDoor.Seg
