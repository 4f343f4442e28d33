/-
  Texts one behind the other: SegFront, SegRead.
-/
import Derived.Deep.QuietTactic
import Derived.BigQuiet
import Derived.Test.YtkdnfikaodkhnaaGreatDoorG04
import Derived.Test.YtkdnfikaodkhnaaGreatDoorG06
import Derived.Test.YtkdnfikaodkhnaaGreatDoorG30
import Derived.Test.YtkdnfikaodkhnaaGreatDoorG31
/-
  Proved: what mayAppend and front of package segment return.
-/
namespace Go.Proofs.YtkdnfikaodkhnaaGreatDoor.Seg
open Go.RowKit Go.Proofs.YtkdnfikaodkhnaaGreatDoor.Disk Go.Proofs.YtkdnfikaodkhnaaGreatDoor.Rec
set_option linter.unusedVariables false
set_option linter.unusedSimpArgs false

theorem clip_any (A : Option Addr) (n c : Nat) (w : World) (hnc : n ≤ c) (hc : c ≤ maxLen) :
    Calls Tryz.prog 55 #[.slice A n c] w fun e w' => e = .returned (.slice A n n) ∧ w = w' := by
  have hcm : c ≤ 9223372036854775807 := by unfold maxLen at hc; exact hc
  clear hc
  go_enter Tryz.func55, Tryz.ntmps55
  go_wp2
  go_ret
  exact ⟨rfl, rfl⟩
theorem front_len (bs : List UInt8) : ∀ (f p : Nat), bs.length ≤ p + f → p ≤ bs.length → (frontFrom p bs).length + p ≤ bs.length := by
  intro f
  induction f with
  | zero =>
    intro p h1 h2
    rcases out_ok (dec (bs.drop p)) with ⟨x, m, hd⟩ | ⟨e, _, _, hno⟩
    · have k1 := (dec_ok hd).1
      have k2 := (dec_ok hd).2.1
      rw [List.length_drop] at k2
      omega
    · rw [frontFrom_no hno]; simpa using h2
  | succ f ih =>
    intro p h1 h2
    rcases out_ok (dec (bs.drop p)) with ⟨x, m, hd⟩ | ⟨e, _, _, hno⟩
    · have k1 := (dec_ok hd).1
      have k2 := (dec_ok hd).2.1
      rw [List.length_drop] at k2
      rw [frontFrom_ok hd, List.length_cons]
      have := ih (p + m) (by omega) (by omega)
      omega
    · rw [frontFrom_no hno]; simpa using h2
/-- Where the next record comes, or the first of another tenant stands. -/
def frontEnd (id : Nat) (F : List (Nat × Rc)) : Nat := match F[(ownOf id F).length]? with | some q => q.1 | none => endOf 0 F
theorem frontEnd_all {id : Nat} {F : List (Nat × Rc)} (h : ownOf id F = F) : frontEnd id F = endOf 0 F := by
  unfold frontEnd
  rw [h, List.getElem?_eq_none (Nat.le_refl _)]
theorem own_stop {id : Nat} {F : List (Nat × Rc)} {i : Nat} {q : Nat × Rc} (h : ∀ j p, j < i → F[j]? = some p → p.2.tenant = id) (hq : F[i]? = some q) (hne : q.2.tenant ≠ id) : ownOf id F = F.take i ∧ frontEnd id F = q.1 := by
  have hi : i < F.length := (List.getElem?_eq_some_iff.1 hq).1
  have e : ownOf id F = F.take i := by
    induction i generalizing F with
    | zero =>
      cases F with
      | nil => simp at hq
      | cons p F =>
        obtain rfl : p = q := by simpa using hq
        rw [ownOf_cons_no hne]; rfl
    | succ i ih =>
      cases F with
      | nil => simp at hq
      | cons p F =>
        rw [ownOf_cons_yes (h 0 p (by omega) rfl), List.take_succ_cons, ih (fun j r hj hr => h (j + 1) r (by omega) (by simpa using hr)) (by simpa using hq) (by simpa using hi)]
  refine ⟨e, ?_⟩
  unfold frontEnd
  rw [e, List.length_take, Nat.min_eq_left (by omega), hq]
theorem own_none {id : Nat} {F : List (Nat × Rc)} (h : ∀ j p, j < F.length → F[j]? = some p → p.2.tenant = id) : ownOf id F = F :=
  ownOf_all fun q hq => by
    obtain ⟨j, hj, e⟩ := List.getElem_of_mem hq
    exact h j q hj (by rw [List.getElem?_eq_getElem hj, e])
theorem flat_take (F : List (Nat × Rc)) (i : Nat) : flat (F.take i) = (flat F).take (i * 7) := by
  induction F generalizing i with
  | nil => simp [flat]
  | cons q F ih =>
    cases i with
    | zero => simp [flat]
    | succ i =>
      have h := ih i
      unfold flat at h ⊢
      rw [List.take_succ_cons, List.flatMap_cons, List.flatMap_cons, h, Nat.succ_mul, Nat.add_comm (i * 7) 7, ← fcells_length q, List.take_length_add_append]
theorem free_front {own : Own} {w : World} {A : Option Addr} {n k : Nat} {vs : List Value} (h : Free own w A n vs) (hk : k ≤ n) : Free own w A k (vs.take k) := by
  refine ⟨by rw [List.length_take, h.1, Nat.min_eq_left hk], fun hp => ?_⟩
  obtain ⟨b, o, e, hf, hb, hc⟩ := h.2 (by omega)
  refine ⟨b, o, e, hf, hb, fun i v hv => hc i v ?_⟩
  rw [List.getElem?_take] at hv
  split at hv
  · exact hv
  · cases hv
theorem found_free {own : Own} {w0 w : World} {e : TypeId} {u : Value} {l : List (Nat × Rc)} (ht : ∀ b q, own b = some q → b < w0.heap.size) (h : Rec.Fd w0 e w u l) : ∃ A c, u = .slice A l.length c ∧ l.length ≤ c ∧ c ≤ maxLen ∧ Free own w A (l.length * 7) (flat l) :=
  Grow.form (own := own) (base := w0.heap.size) ⟨h.row, fun g hg => by
    cases ho : own g with
    | none => rfl
    | some q => have := ht g q ho; have := (h.row.lt g hg).1; omega⟩
theorem scanFound_size : (Tryz.prog.info? 94).map (·.size) = some 7 := by kernel_rfl
theorem zeroScan (w : World) : (zeroValue 94).run Tryz.prog w = .ok (.agg #[.int .i64 0, .int .i64 0, .int .u32 0, .int .u64 0, .int .u64 0, .int .u64 0, .string ⟨#[]⟩]) w := by kernel_rfl
theorem fcells_one' (q : Nat × Rc) : (fcells q).toArray.all (·.oneCell') = true := by simp [fcells, Rc.vals, Value.oneCell']
/-- A block that holds an item found. -/
def FdAt (w : World) (g : Nat) (q : Nat × Rc) : Prop := Blk w g 94 (fcells q).toArray
section
variable {w : World} {ops : Array Oper} {rest : List Oper} {o : Oper} {a : Act} {Q : Exit → Act → World → Prop}
theorem load_fdM {b p : Nat} {q : Nat × Rc} (h : w.rangeAt b p (fcells q)) (hgd : o.guard = none) (y : Operand) (ho : o.op = .load 94 y) (hx : a.eval y = .pointer (some ⟨b, p, none⟩))
    (k : wpList Tryz.prog ops Q rest (a.put o.dst (.agg (fcells q).toArray)) w) : wpList Tryz.prog ops Q (o :: rest) a w :=
  wpList_load_mid hgd 94 y ho b p hx (fcells q) _ h Tryz.underlying94 rfl scanFound_size k
theorem store_fd {g : Nat} {old : Array Value} (h : Blk w g 94 old) (hs : old.size = 7) (hgd : o.guard = none) (y z : Operand) (ho : o.op = .store 94 y z) (hx : a.eval y = .pointer (some ⟨g, 0, none⟩)) (q : Nat × Rc) (fc : Array Value) (hfc : fc = (fcells q).toArray) (hy : a.eval z = .agg fc) (hd : o.dst = none)
    (k : ∀ w', Hid (FdAt w' g q) → Hid (w.grownBy w' (some g)) → wpList Tryz.prog ops Q rest a w') : wpList Tryz.prog ops Q (o :: rest) a w := by
  subst hfc
  refine wpList_store_blk hgd 94 y z ho g (fcells q).toArray hx hy 94 old h scanFound_size hs (fcells_one' q) ?_
  intro w' h1 h2
  rw [hd]
  exact k w' h1 h2
end
theorem zeroScan_new (w : World) : Blk (w.alloc (.cells #[.int .i64 0, .int .i64 0, .int .u32 0, .int .u64 0, .int .u64 0, .int .u64 0, .string ⟨#[]⟩] 94)) w.heap.size 94 #[.int .i64 0, .int .i64 0, .int .u32 0, .int .u64 0, .int .u64 0, .int .u64 0, .string ⟨#[]⟩] := Blk.new _ _ _
set_option maxRecDepth 100000 in
set_option maxHeartbeats 8000000 in
theorem front_lies {own : Own} {w0 w : World} {v : Sv} {d : Dk} (hT : Tabs w0) (h : Lies own w0 w v d) (hK : v.K + 1 ≤ 1073741824) :
    Calls Tryz.prog 27 #[ptr v.sg] w fun e w' => ∃ A c d', e = .returned (.tuple #[.slice A (ownOf v.id (frontFrom 0 v.x.now)).length c, .int .i64 (frontEnd v.id (frontFrom 0 v.x.now) : Int)]) ∧ (ownOf v.id (frontFrom 0 v.x.now)).length ≤ c ∧ c ≤ maxLen ∧
      Free own w' A ((ownOf v.id (frontFrom 0 v.x.now)).length * 7) (flat (ownOf v.id (frontFrom 0 v.x.now))) ∧ d' = d.read v.x.now.length ∧ Lies own w0 w' { v with K := v.K + 1 } d' ∧ Step own own v.f w w' := by
  obtain ⟨F, hF⟩ : ∃ F, F = frontFrom 0 v.x.now := ⟨_, rfl⟩
  obtain ⟨N, hN⟩ : ∃ N, N = v.x.now.length := ⟨_, rfl⟩
  have hNm : N ≤ 4194304 := by rw [hN]; exact h.xok.max
  have CZ := size_lies h
  rw [← hN] at CZ
  have CB : Hid (∀ w1, Below w.heap.size w w1 → Calls Tryz.prog 44 #[ptr v.sg, .int .i64 0, .int .i64 (N : Int)] w1 fun e w' => ∃ A c, e = .returned (.slice A N c) ∧ N ≤ c ∧ c ≤ maxLen ∧ Free own w' A N (bvs v.x.now) ∧ Lies own w0 w' { v with K := v.K + 1 } (d.read N) ∧ Step own own v.f w w') := fun w1 hb => by
    refine (bytes_lies 0 N (h.all hb) (by omega) hK).mono ?_
    rintro e w' ⟨A, c, he, h1, h2, h3, h4, h5⟩
    rw [List.drop_zero, List.take_of_length_le (by omega)] at h3
    exact ⟨A, c, he, h1, h2, h3, h4, (h.stepAll hb).trans h5⟩
  have CS : Hid (∀ w1 A c, Below w0.heap.size w0 w1 → Row w1 w1.heap.size A N (bvs v.x.now) → N ≤ c → c ≤ maxLen → Calls Tryz.prog 54 #[.slice A N c] w1 fun e w' => ∃ u, e = .returned (.tuple #[u, .int .i64 ((endOf 0 F : Nat) : Int)]) ∧ Rec.Fd w1 94 w' u F) := fun w1 A c hb hr h1 h2 => by
    rw [hF]
    exact scanfront_any A N c v.x.now w1 (hT.below hb rfl).crc hr h1 h2 (by omega)
  have hFl : F.length ≤ 4194304 := by
    have := front_len v.x.now v.x.now.length 0 (by omega) (Nat.zero_le _)
    rw [← hF] at this
    omega
  have c1 : Hid (∀ w1 : World, Blk w1 v.sg 67 #[ptr v.f, .int .u32 (v.id : Int), .string (str (segName v.id v.num))] → w1.cell? ⟨v.sg, 1, none⟩ = some (.int .u32 (v.id : Int))) := fun w1 hb => Blk.cell hb 1
  obtain ⟨sg, hsg⟩ : ∃ sg, sg = v.sg := ⟨_, rfl⟩
  obtain ⟨id, hid⟩ : ∃ id, id = v.id := ⟨_, rfl⟩
  rw [← hsg] at CZ CB c1
  rw [← hid] at c1
  rw [← hF, ← hid, ← hN]
  have HSG := Lib.hid hsg
  have HID := Lib.hid hid
  have HNN := Lib.hid hN
  have HH := Lib.hid h
  have HCZ := Lib.hid CZ
  have e : ptr v.sg = .pointer (some ⟨sg, 0, none⟩) := by rw [hsg]; rfl
  have e2 : ptr sg = .pointer (some ⟨sg, 0, none⟩) := rfl
  rw [e]
  rw [e2] at CB HCZ
  have hz := zeroScan
  clear e e2 CZ h hsg hid hN hF hK hT
  go_enter Tryz.func27, Tryz.ntmps27
  go_upto_region 2 with (first
    | (go_at_call 11; refine HCZ.out.mono ?_; rintro e w1 ⟨rfl, hb1⟩; have HB1 := Lib.hid hb1; clear hb1)
    | (go_at_call 44; refine (CB.out _ HB1.out).mono ?_; rintro e w2 ⟨A2, c2, rfl, h1, h2, hf2, hl2, hs2⟩; have HF2 := Lib.hid hf2; have HL2 := Lib.hid hl2; have HS2 := Lib.hid hs2; have H1 := Lib.hid h1; have H2 := Lib.hid h2; clear hf2 hl2 hs2 h1 h2)
    | (go_at_call 54; refine (CS.out _ _ _ HL2.out.disk.below HF2.out.row H1.out H2.out).mono ?_; rintro e w3 ⟨u3, rfl, hfd⟩; have HFD := Lib.hid hfd; clear hfd))
  obtain ⟨A3, c3, rfl, hn3, hc3, hfr0⟩ := found_free HL2.out.top HFD.out
  have HFR := Lib.hid hfr0
  have hfr := hfr0.row
  have hL3 := HL2.out.all HFD.out.below
  have HL3 := Lib.hid hL3
  have HS3 := Lib.hid (HS2.out.trans (HL2.out.stepAll HFD.out.below))
  have HR3 := Lib.hid hfr
  have HC3 := Lib.hid hc3
  have hcm3 : c3 ≤ 9223372036854775807 := by unfold maxLen at hc3; exact hc3
  clear hfr0 hL3 HFD HF2 HL2 HS2 hfr hc3 CB CS HCZ HB1 H1 H2
  go_wp2_with fail
  go_loopw [18] (fun iv wr => ∃ (i : Nat), iv = .int .i64 (i : Int) ∧ i ≤ F.length ∧ Hid (Below w3.heap.size w3 wr) ∧ Hid (∀ j p, j < i → F[j]? = some p → p.2.tenant = id)) (fun iv _ => F.length - (RowKit.intOf iv).toNat)
  case atStart => exact ⟨0, rfl, Nat.zero_le _, Below.refl _ _, fun j p h => by omega⟩
  case round =>
    obtain ⟨i, rfl, hi, HBR, HT⟩ := hrel
    by_cases hlt : i < F.length
    · obtain ⟨b, o, rfl, _, _⟩ := HR3.out.2 (by omega)
      obtain ⟨q, hq⟩ : ∃ q, F[i]? = some q := ⟨F[i]'hlt, List.getElem?_eq_getElem _⟩
      have HIT := Lib.hid (found_item (HR3.out.below HBR.out) i q hq)
      have HQ := Lib.hid hq
      obtain ⟨fc, hfc⟩ : ∃ fc, fc = (fcells q).toArray := ⟨_, rfl⟩
      have HFC := Lib.hid hfc
      clear hq hfc
      go_upto_region 5 with (first
        | (refine load_fdM HIT.out rfl (.tmp 21) rfl rfl ?_; rw [← HFC.out])
        | (refine store_fd (zeroScan_new wr) rfl rfl (.tmp 7) (.tmp 22) rfl rfl q fc HFC.out rfl rfl ?_; intro w5 X5 G5))
      have hb5 : Below w3.heap.size w3 w5 := HBR.out.trans ((below_only (below_alloc wr _) G5.out (Nat.le_refl _) (by simp)).mono HBR.out.size)
      have HB5 := Lib.hid hb5
      have x0 : w5.cell? ⟨wr.heap.size, 0, none⟩ = some (.int .i64 (q.1 : Int)) := Blk.cell X5.out 0
      have x2 : w5.cell? ⟨wr.heap.size, 2, none⟩ = some (.int .u32 (q.2.tenant : Int)) := Blk.cell X5.out 2
      have y1 : w5.cell? ⟨sg, 1, none⟩ = some (.int .u32 (id : Int)) := c1.out w5 (by rw [HID.out]; exact (HL3.out.all hb5).blk)
      clear hb5 G5 X5
      by_cases hten : q.2.tenant = id
      · have e2 : ((q.2.tenant : Int) != (id : Int)) = false := by rw [hten]; simp
        have HT2 : Hid (∀ j p, j < i + 1 → F[j]? = some p → p.2.tenant = id) := fun j p hj hp => by
          by_cases e : j = i
          · subst e
            have e := HQ.out.symm.trans hp
            obtain rfl := Option.some.inj e
            exact hten
          · exact HT.out j p (by omega) hp
        clear hten
        go_quiet (fail)
        go_wp2_with fail
        go_roundw
        case rel => exact ⟨i + 1, by go_num, by omega, (show Hid _ from HB5.out.trans ⟨rfl, rfl, rfl, Nat.le_refl _, fun _ _ => rfl⟩), HT2⟩
        case measure => (simp [RowKit.intOf]; omega)
      · have e2 : ((q.2.tenant : Int) != (id : Int)) = true := bne_iff_ne.2 (by omega)
        obtain ⟨s1, s2⟩ := own_stop HT.out HQ.out hten
        have HS1 := Lib.hid s1
        have HE1 := Lib.hid s2
        have p1 : (i : Int) ≤ (c3 : Int) := by omega
        clear hten s1 s2
        go_quiet (fail)
        go_wp2_with fail
        generalize hw6 : w5.drewN _ = w6
        have z0 : w6.cell? ⟨wr.heap.size, 0, none⟩ = some (.int .i64 (q.1 : Int)) := by rw [← hw6]; exact x0
        have HB6 : Hid (Below w3.heap.size w3 w6) := by rw [← hw6]; exact HB5.out.trans ⟨rfl, rfl, rfl, Nat.le_refl _, fun _ _ => rfl⟩
        have CC : Hid (∀ (q : Nat), Calls Tryz.prog 55 #[.slice (some ⟨b, o, none⟩) i c3] (w6.drewN q) fun e w' => e = .returned (.slice (some ⟨b, o, none⟩) i i) ∧ ∃ m, w' = w6.drewN m) := fun q => (clip_any (some ⟨b, o, none⟩) i c3 (w6.drewN q) (by omega) HC3.out).mono fun e w' ⟨h1, h2⟩ => ⟨h1, q, h2.symm⟩
        clear hw6 x0 x2 y1
        go_quiet ((go_at_call 55; with_reducible exact CC.out _))
        go_wp2_with fail
        go_ret2
        have hfin : Below w3.heap.size w3 (w6.drewN nq) := HB6.out.trans ⟨rfl, rfl, rfl, Nat.le_refl _, fun _ _ => rfl⟩
        have hle : i ≤ F.length := by omega
        have e1 := HS1.out
        have hl1 : (F.take i).length = i := by rw [List.length_take, Nat.min_eq_left hle]
        rw [e1, hl1, HE1.out, flat_take]
        refine ⟨some ⟨b, o, none⟩, i, d.read N, rfl, Nat.le_refl _, by have := HC3.out; omega, (free_front HFR.out (by omega)).keep (fun _ _ => rfl) (hfin), rfl, ?_, HS3.out.trans (HL3.out.stepAll hfin)⟩
        have k1 := HSG.out
        subst k1
        have k2 := HID.out
        subst k2
        exact HL3.out.all hfin
    · obtain rfl : i = F.length := by omega
      have hall := own_none HT.out
      have HE := Lib.hid (frontEnd_all hall)
      have HA := Lib.hid hall
      clear hall
      go_wp2_with fail
      go_ret2
      rw [HA.out, HE.out]
      refine ⟨A3, c3, d.read N, rfl, hn3, HC3.out, HFR.out.keep (fun _ _ => rfl) HBR.out, rfl, ?_, HS3.out.trans (HL3.out.stepAll HBR.out)⟩
      have k1 := HSG.out
      subst k1
      have k2 := HID.out
      subst k2
      exact HL3.out.all HBR.out
end Go.Proofs.YtkdnfikaodkhnaaGreatDoor.Seg
/-
  Proved: what Records, Read and Sync of package segment return, and mayAppend.
-/
namespace Go.Proofs.YtkdnfikaodkhnaaGreatDoor.Seg
open Go.RowKit Go.Proofs.YtkdnfikaodkhnaaGreatDoor.Disk Go.Proofs.YtkdnfikaodkhnaaGreatDoor.Rec
set_option linter.unusedVariables false
set_option linter.unusedSimpArgs false

theorem result_rec2 {w : World} {fn : Func} {p q : Tmp} {g : Nat} {x : Rc} (h : RecAt w g x) (hr : fn.results = #[.cell p 40, .tmp q]) (tmps : Array Value) (hp : tmps.getD p undef = .pointer (some ⟨g, 0, none⟩)) :
    (results fn tmps).run Tryz.prog w = .ok (.tuple #[.agg x.vals, tmps.getD q undef]) w := by
  have hp' : tmps[p]?.getD undef = .pointer (some ⟨g, 0, none⟩) := by simpa using hp
  simp [results, hr, hp', asAddr, run_loadVar_row w g 40 40 x.vals (0, 0) _ h Tryz.underlying40 rfl rec_info]
/-! A window of a text. -/
theorem dec_window {bs : List UInt8} {m : Nat} (hm : m = min bs.length 1039) {x : Rc} {n : Nat} : dec (bs.take m) = .ok x n ↔ dec bs = .ok x n := by
  constructor
  · intro h
    obtain ⟨h1, h2, h3, h4, h5⟩ := dec_ok h
    rw [List.length_take] at h2
    have e : bs = x.bytes ++ bs.drop n := by
      rw [h5, List.take_take, Nat.min_eq_left (by omega), List.take_append_drop]
    rw [e, h1]
    exact dec_bytes x _ h3 h4
  · intro h
    obtain ⟨h1, h2, h3, h4, h5⟩ := dec_ok h
    have hb := h3.2.2.2.2.2
    have e : bs.take m = x.bytes ++ (bs.take m).drop n := by
      rw [h5]
      conv => lhs; rw [← List.take_append_drop n (bs.take m)]
      rw [List.take_take, Nat.min_eq_left (by omega)]
    rw [e, h1]
    exact dec_bytes x _ h3 h4
set_option maxRecDepth 100000 in
set_option maxHeartbeats 2000000 in
theorem records_lies {own : Own} {w0 w : World} {v : Sv} {d : Dk} (hT : Tabs w0) (h : Lies own w0 w v d) (hK : v.K + 1 ≤ 1073741824) :
    Calls Tryz.prog 17 #[ptr v.sg] w fun e w' => ∃ A c d', e = .returned (.slice A (ownOf v.id (frontFrom 0 v.x.now)).length c) ∧ (ownOf v.id (frontFrom 0 v.x.now)).length ≤ c ∧ c ≤ maxLen ∧
      Free own w' A ((ownOf v.id (frontFrom 0 v.x.now)).length * 7) (flat (ownOf v.id (frontFrom 0 v.x.now))) ∧ d' = d.read v.x.now.length ∧ Lies own w0 w' { v with K := v.K + 1 } d' ∧ Step own own v.f w w' := by
  have CF := Lib.hid (front_lies hT h hK)
  have e : ptr v.sg = .pointer (some ⟨v.sg, 0, none⟩) := rfl
  rw [e] at CF ⊢
  clear e h hT hK
  go_enter Tryz.func17, Tryz.ntmps17
  go_wp2_with (go_at_call 27; refine CF.out.mono ?_; rintro e w1 ⟨A, c, d', rfl, h1, h2, h3, h4, h5, h6⟩; have H1 := Lib.hid h1; have H2 := Lib.hid h2; have H3 := Lib.hid h3; have H4 := Lib.hid h4; have H5 := Lib.hid h5; have H6 := Lib.hid h6; clear h1 h2 h3 h4 h5 h6)
  go_ret
  exact ⟨A, c, d', rfl, H1.out, H2.out, H3.out, H4.out, H5.out, H6.out⟩
set_option maxRecDepth 100000 in
theorem nilRecords_any (w : World) : Calls Tryz.prog 17 #[.pointer none] w fun e w' => ∃ A c, e = .returned (.slice A 0 c) ∧ Below w.heap.size w w' := by
  go_enter Tryz.func17, Tryz.ntmps17
  go_wp2
  go_ret
  exact ⟨_, _, rfl, Below.refl _ _⟩
theorem nilSync_any (w : World) : Calls Tryz.prog 10 #[.pointer none] w fun e w' => e = .returned (.int .i64 10) ∧ Below w.heap.size w w' := by
  go_enter Tryz.func10, Tryz.ntmps10
  go_wp2
  go_ret
  exact ⟨rfl, Below.refl _ _⟩
theorem nilSize_any (w : World) : Calls Tryz.prog 11 #[.pointer none] w fun e w' => e = .returned (.int .i64 0) ∧ Below w.heap.size w w' := by
  go_enter Tryz.func11, Tryz.ntmps11
  go_wp2
  go_ret
  exact ⟨rfl, Below.refl _ _⟩
theorem nilAppend_any (A : Option Addr) (n c : Nat) (w : World) : Calls Tryz.prog 9 #[.pointer none, .slice A n c] w fun e w' => ∃ u, e = .returned (.tuple #[u, .int .i64 10]) ∧ Below w.heap.size w w' := by
  go_enter Tryz.func9, Tryz.ntmps9
  go_wp2
  go_ret2
  exact ⟨_, rfl, Below.refl _ _⟩
/-- What Read of a nil segment, or of a place that is none, hands back. -/
theorem built_zero : Tryz.prog.built 40 [] = some zeroRc.vals := by kernel_rfl
set_option maxRecDepth 100000 in
set_option maxHeartbeats 2000000 in
theorem nilRead_any (a : Int) (w : World) : Calls Tryz.prog 19 #[.pointer none, .int .i64 a] w fun e w' => ∃ z, e = .returned (.tuple #[.agg (Rc.vals z), .int .i64 10]) ∧ Below w.heap.size w w' := by
  have hz := zeroRec
  go_enter Tryz.func19, Tryz.ntmps19
  go_wp2_with (refine store_recN (zero_new w) rfl rfl (.tmp 4) (.tmp 13) rfl rfl zeroRc rfl rfl ?_; intro w3 X3 G3)
  refine bodyPost_ret (result_rec2 X3.out rfl _ rfl) rfl ?_
  exact ⟨zeroRc, rfl, below_only (below_alloc w _) G3.out (Nat.le_refl _) (by simp)⟩
/-- What a Read has done, where it answered z and err. -/
structure Looked (own : Own) (w0 w : World) (v : Sv) (d : Dk) (w' : World) : Prop where
  ex : ∃ k K', K' ≤ v.K + 1 ∧ Lies own w0 w' { v with K := K' } (d.read k)
  step : Step own own v.f w w'
theorem read_none_id (d : Dk) : d.read 0 = d := by
  unfold Dk.read
  simp
set_option maxRecDepth 100000 in
set_option maxHeartbeats 4000000 in
theorem readRange_lies {own : Own} {w0 w : World} {v : Sv} {d : Dk} (a : Int) (h : Lies own w0 w v d) (ha : a < 0 ∨ (v.x.now.length : Int) ≤ a) (hb : -9223372036854775808 ≤ a ∧ a ≤ 9223372036854775807) :
    Calls Tryz.prog 19 #[ptr v.sg, .int .i64 a] w fun e w' => ∃ z, e = .returned (.tuple #[.agg (Rc.vals z), .int .i64 6]) ∧ Looked own w0 w v d w' := by
  have hN := h.xok.max
  have CZ := fun w1 (hb : Below w.heap.size w w1) => size_lies (h.all hb)
  obtain ⟨N, hNN⟩ : ∃ N, N = v.x.now.length := ⟨_, rfl⟩
  rw [← hNN] at ha hN
  have CZ' : Hid (∀ w1, Below w.heap.size w w1 → Calls Tryz.prog 11 #[.pointer (some ⟨v.sg, 0, none⟩)] w1 fun e w' => e = .returned (.int .i64 (N : Int)) ∧ Below w1.heap.size w1 w') := by
    rw [hNN]
    exact CZ
  have e : ptr v.sg = .pointer (some ⟨v.sg, 0, none⟩) := rfl
  rw [e]
  have HH := Lib.hid h
  have hz := zeroRec
  clear e h hNN CZ
  have hfin : Hid (∀ w1, Below w.heap.size w w1 → Looked own w0 w v d w1) := fun w1 hb => ⟨⟨0, v.K, by omega, by rw [read_none_id]; exact HH.out.all hb⟩, HH.out.stepAll hb⟩
  by_cases h1 : a < 0
  · clear ha
    go_enter Tryz.func19, Tryz.ntmps19
    go_wp2_with (first
      | (go_at_call 11; refine (CZ'.out _ (below_alloc w _)).mono ?_; rintro e w1 ⟨rfl, hb1⟩; have hg1 : w.heap.size < w1.heap.size := (by have := hb1.size; simp at this; omega); have X1 := Lib.hid ((zero_new w).below hb1 (by simp)); have HB1 := Lib.hid ((below_alloc w (.cells #[.int .i64 0, .int .u32 0, .int .u64 0, .int .u64 0, .int .u64 0, .string ⟨#[]⟩] 40)).trans (hb1.mono (by simp))); clear hb1)
      | (refine store_recN X1.out rfl rfl (.tmp 4) (.tmp 23) rfl rfl zeroRc rfl rfl ?_; intro w3 X3 G3))
    refine bodyPost_ret (result_rec2 X3.out rfl _ rfl) rfl ?_
    exact ⟨zeroRc, rfl, hfin.out _ (below_only HB1.out G3.out (Nat.le_refl _) (Nat.le_of_lt hg1))⟩
  · have h2 : 0 ≤ a := by omega
    have h3 : (N : Int) ≤ a := by omega
    clear ha h1
    go_enter Tryz.func19, Tryz.ntmps19
    go_wp2_with (first
      | (go_at_call 11; refine (CZ'.out _ (below_alloc w _)).mono ?_; rintro e w1 ⟨rfl, hb1⟩; have hg1 : w.heap.size < w1.heap.size := (by have := hb1.size; simp at this; omega); have X1 := Lib.hid ((zero_new w).below hb1 (by simp)); have HB1 := Lib.hid ((below_alloc w (.cells #[.int .i64 0, .int .u32 0, .int .u64 0, .int .u64 0, .int .u64 0, .string ⟨#[]⟩] 40)).trans (hb1.mono (by simp))); clear hb1)
      | (refine store_recN X1.out rfl rfl (.tmp 4) (.tmp 23) rfl rfl zeroRc rfl rfl ?_; intro w3 X3 G3))
    refine bodyPost_ret (result_rec2 X3.out rfl _ rfl) rfl ?_
    exact ⟨zeroRc, rfl, hfin.out _ (below_only HB1.out G3.out (Nat.le_refl _) (Nat.le_of_lt hg1))⟩
set_option maxRecDepth 100000 in
set_option maxHeartbeats 4000000 in
theorem sync_lies {own : Own} {w0 w : World} {v : Sv} {d : Dk} (h : Lies own w0 w v d) (hf : d.failing = false) (hK : v.K + 1 ≤ 1073741824) :
    Calls Tryz.prog 10 #[ptr v.sg] w fun e w' => ∃ own' d', e = .returned (.int .i64 0) ∧ Lies own' w0 w' { v with x := ⟨v.x.now, v.x.now, []⟩, K := v.K + 1 } d' ∧ d'.failing = false ∧ Step own own' v.f w w' := by
  have c0 : w.cell? ⟨v.sg, 0, none⟩ = some (ptr v.f) := Blk.cell h.blk 0
  have c2 : w.cell? ⟨v.sg, 2, none⟩ = some (.string (str (segName v.id v.num))) := Blk.cell h.blk 2
  have hb := (Below.refl w.heap.size w).drew
  have hd := h.all hb
  have CS := Lib.hid (sync_held _ hd.disk hd.nm hK hf (g := v.g) hd.dget)
  have HH := Lib.hid hd
  have HS := Lib.hid (h.stepAll hb)
  have HF := Lib.hid hf
  obtain ⟨nm, hnm⟩ : ∃ nm, nm = str (segName v.id v.num) := ⟨_, rfl⟩
  rw [← hnm] at c2 CS
  have e : ptr v.sg = .pointer (some ⟨v.sg, 0, none⟩) := rfl
  have e2 : ptr v.f = .pointer (some ⟨v.f, 0, none⟩) := rfl
  rw [e]
  rw [e2] at c0
  clear e e2 h hd hb hnm hK hf
  go_enter Tryz.func10, Tryz.ntmps10
  go_wp2_with fail
  go_still_tail 8, (by kernel_rfl)
  change wpList _ _ _ _ _ w.drew
  go_wp2_with (go_at_call 30; refine CS.out.mono ?_; rintro e w1 ⟨own', rfl, hd1, hst⟩; have HD1 := Lib.hid hd1; have HST := Lib.hid hst; clear hd1 hst)
  go_ret
  have hfl : d.fl v.g = v.x := HH.out.fl
  have hd1 := HD1.out
  rw [hfl] at hd1
  exact ⟨own', _, rfl, HH.out.step HST.out hd1 rfl rfl HH.out.S HH.out.wait (if_pos rfl), HF.out, HS.out.trans HST.out⟩
end Go.Proofs.YtkdnfikaodkhnaaGreatDoor.Seg
