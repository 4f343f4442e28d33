/-
  Texts one behind the other: SegAllWalk.
-/
import Derived.Test.YtkdnfikaodkhnaaGreatDoorG26
import Derived.Test.YtkdnfikaodkhnaaGreatDoorG27
import Derived.Test.YtkdnfikaodkhnaaGreatDoorG30
import Derived.Test.YtkdnfikaodkhnaaGreatDoorG41
/-
  Proved: SegmentAll returns true, whatever it is handed, over the landed package.
-/
namespace Go.Proofs.YtkdnfikaodkhnaaGreatDoor.Seg
open Go.RowKit Go.Proofs.YtkdnfikaodkhnaaGreatDoor.Disk Go.Proofs.YtkdnfikaodkhnaaGreatDoor.Rec Go.Proofs.YtkdnfikaodkhnaaGreatDoor.Mix
set_option linter.unusedVariables false
set_option linter.unusedSimpArgs false

theorem grow_rs' {own : Own} {w w' : World} {v : Value} {l : List Rc} (ht : ∀ b q, own b = some q → b < w.heap.size) (h : Rs w w' v l) : ∃ A c, v = .slice A l.length c ∧ l.length ≤ c ∧ c ≤ maxLen ∧ Free own w' A (l.length * 6) (rflat l) ∧ ∀ ad, A = some ad → 0 < l.length → w.heap.size ≤ ad.block := by
  obtain ⟨A, c, e, h1, h2, h3⟩ := Grow.form (own := own) (base := w.heap.size) ⟨h.row, fun g hg => by
    cases ho : own g with
    | none => rfl
    | some q => have := ht g q ho; have := (h.row.lt g hg).1; omega⟩
  refine ⟨A, c, e, h1, h2, h3, fun ad had hl => ?_⟩
  obtain ⟨b, o, rfl, _, _, _⟩ := h3.2 (by omega)
  injection had with had
  subst had
  exact (h.row.lt b (by rw [e]; rfl)).1
theorem good_fit {id : Nat} {h : List Rc} (hh : ∀ x ∈ h, x.Good ∧ x.tenant = id) : Fit id h := fun x hx => ⟨(hh x hx).1.1, (hh x hx).1.2.1, (hh x hx).2⟩
theorem fit_append {id : Nat} {a b : List Rc} (ha : Fit id a) (hb : Fit id b) : Fit id (a ++ b) := fun x hx => by
  rcases List.mem_append.1 hx with h | h
  · exact ha x h
  · exact hb x h
theorem places_snoc (G : List Rc) (x : Rc) : places 0 G ++ [((cat G).length, x)] = places 0 (G ++ [x]) := by
  have : ∀ (G : List Rc) (p : Nat), places p G ++ [(p + (cat G).length, x)] = places p (G ++ [x]) := by
    intro G
    induction G with
    | nil => intro p; rfl
    | cons y G ih =>
      intro p
      show (p, y) :: (places (p + (enc y).length) G ++ [(p + (cat (y :: G)).length, x)]) = (p, y) :: places (p + (enc y).length) (G ++ [x])
      rw [← ih (p + (enc y).length), cat_cons, List.length_append, Nat.add_assoc]
  have h := this G 0
  rwa [Nat.zero_add] at h
theorem places_take (G : List Rc) : ∀ (m p : Nat), (places p G).take m = places p (G.take m) := by
  induction G with
  | nil => intro m p; cases m <;> rfl
  | cons x G ih =>
    intro m p
    cases m with
    | zero => rfl
    | succ m =>
      show (p, x) :: (places (p + (enc x).length) G).take m = (p, x) :: places (p + (enc x).length) (G.take m)
      rw [ih]
theorem fd_append_flat (l : List (Nat × Rc)) (q : Nat × Rc) : flat l ++ fcells q = flat (l ++ [q]) := flat_snoc l q
theorem found_zero : (Tryz.prog.info? 42).map (fun i => (i.zero, i.size, i.bytes)) = some (some (.agg #[.int .i64 0, .int .i64 0, .int .u32 0, .int .u64 0, .int .u64 0, .int .u64 0, .string ⟨#[]⟩]), 7, 64) := by kernel_rfl
section
variable {own : Own} {w : World} {ops : Array Oper} {rest : List Oper} {o : Oper} {a : Act} {Q : Exit → Act → World → Prop}
theorem grow_append2 (ht : ∀ b p, own b = some p → b < w.heap.size) {base : Nat} {e : TypeId} {k n : Nat} {v : Value} {xs : List Value} (h : Grow own w base e k v n xs) (hbase : base ≤ w.heap.size) (hgd : o.guard = none) (s y : Operand) (T : TypeId)
    (ho : o.op = .call { callee := .builtin .append, args := #[s, y], argTypes := #[T, T] }) (z : Value) (by' : Nat) (hT : Tryz.prog.underlying T = some (.slice e)) (hi : (Tryz.prog.info? e).map (fun i => (i.zero, i.size, i.bytes)) = some (some z, k, by')) (hz : z.cells.size = k) (hk : 0 < k) (hby : by' ≤ 64)
    (hs : a.eval s = v) (ad : Addr) (m c : Nat) (news : List Value) (hy : a.eval y = .slice (some ad) m c) (hl : news.length = m * k) (hq : ∀ j u, news[j]? = some u → w.cell? (ad.add j) = some u) (h1 : ∀ u ∈ news, u.oneCell' = true) (hn : n + m ≤ 100000000)
    (K : ∀ v' w', Hid (Grow own w' base e k v' (n + m) (xs ++ news)) → Hid (w.grownBy w' v.ownBlock) → Hid (v'.ownBlock = v.ownBlock ∨ ∀ g, v'.ownBlock = some g → w.heap.size ≤ g) → wpList Tryz.prog ops Q rest (a.put o.dst v') w') : wpList Tryz.prog ops Q (o :: rest) a w := by
  refine wpList_append_where hgd s y T ho base e z k by' hT hi hz hk v n xs hs h.row ad m c news hy hl hq h1 (by unfold maxLen; omega) ?_ hbase ?_
  · have : (n + m) * by' ≤ (n + m) * 64 := Nat.mul_le_mul_left _ hby
    omega
  · intro v' w' h2 h3 h4
    refine K v' w' ⟨h2.out, fun g hg => ?_⟩ h3 h4.out
    rcases h4.out with e4 | e4
    · exact h.free g (by rw [← e4]; exact hg)
    · cases ho : own g with
      | none => rfl
      | some x => have := ht g x ho; have := e4 g hg; omega
end
/-- A row stays where another one grows, if its block is not that one's. -/
theorem free_grown {own : Own} {w w' : World} {A : Option Addr} {n : Nat} {vs : List Value} {row : Option Nat} (h : Free own w A n vs) (hg : w.grownBy w' row) (hne : ∀ ad, A = some ad → 0 < n → row ≠ some ad.block) : Free own w' A n vs := by
  refine ⟨h.1, fun hn => ?_⟩
  obtain ⟨b, o, rfl, ho, hb, hc⟩ := h.2 hn
  exact ⟨b, o, rfl, ho, Nat.lt_of_lt_of_le hb hg.size, fun i v hv => (World.cell?_of_block (a := ⟨b, o + i, none⟩) (hg.block b hb (fun e => hne _ rfl hn e.symm))).trans (hc i v hv)⟩
set_option maxRecDepth 100000 in
set_option maxHeartbeats 16000000 in
theorem segmentAll_walk (id : Nat) (hid : id < 4294967296) (A : Option Addr) (n c : Nat) (sy : Int) (B : Option Addr) (bn bc : Nat) (keep0 : List Bool) (torn : Int) (w : World) (hT : Tabs w) (hA : RowsR w A n) (hn : n ≤ c) (hc : c ≤ maxLen)
    (hsy : -9223372036854775808 ≤ sy ∧ sy ≤ 9223372036854775807) (hB : Row w w.heap.size B bn (lvs keep0)) (hbn : bn ≤ bc) (hbc : bc ≤ maxLen) (htorn : -9223372036854775808 ≤ torn ∧ torn ≤ 9223372036854775807) :
    Calls Tryz.prog 3 #[.int .u32 (id : Int), .slice A n c, .int .i64 sy, .slice B bn bc, .int .i64 torn] w fun e w' => e = .returned (.bool true) ∧ Below w.heap.size w w' := by
  have HT := Lib.hid hT
  have HF : Hid (Face SG) := landed_face
  have HCR : Hid (Crashes SG) := landed_crashes
  have HBEG := Lib.hid (segbegun_any landed_face w hT)
  have HA := Lib.hid hA
  have HB := Lib.hid hB
  have hcm : c ≤ 9223372036854775807 := by unfold maxLen at hc; exact hc
  have hbcm : bc ≤ 9223372036854775807 := by unfold maxLen at hbc; exact hbc
  have hid' : (id : Int) ≤ 4294967295 := by omega
  have HHID := Lib.hid hid
  have hz := zeroRec
  clear hT hA hB hc hbc hid
  go_enter Tryz.func3, Tryz.ntmps3
  go_upto_region 4 with (go_at_call 5; refine HBEG.out.mono ?_; rintro e w1 ⟨rfl, hb1⟩; have HB1 := Lib.hid hb1; clear hb1)
  obtain ⟨tk, htk⟩ : ∃ tk, tk = decide (100 < bn) := ⟨_, rfl⟩
  have HTK := Lib.hid htk
  clear htk
  go_cut [31] (fun v w' => v = .bool tk ∧ w1 = w')
  case first =>
    by_cases hb : 100 < bn
    · have h1 : (100 : Int) < (bn : Int) := by omega
      go_wp2_with fail
      go_meet
      case rel => exact ⟨by rw [HTK.out, decide_eq_true hb], rfl⟩
    · have h1 : ¬ (100 : Int) < (bn : Int) := by omega
      go_wp2_with fail
      go_meet
      case rel => exact ⟨by rw [HTK.out, decide_eq_false hb], rfl⟩
  case rest =>
  obtain ⟨rfl, rfl⟩ := hcut
  go_upto_if 31 with fail
  go_cut [3] (fun v w' => ∃ (m : Nat) (ks : List Bool), v = .slice B m bc ∧ m ≤ 100 ∧ m ≤ bc ∧ Hid (Row w w.heap.size B m (lvs ks)) ∧ w1 = w')
  case first =>
    by_cases hb : 100 < bn
    · obtain rfl : tk = true := by rw [HTK.out, decide_eq_true hb]
      have h2 : (100 : Int) ≤ (bc : Int) := by omega
      have HB2 : Hid (Row w w.heap.size B 100 (lvs (keep0.take 100))) := by
        have := HB.out.take (k := 100) (by omega)
        rw [lvs_take] at this
        exact this
      go_wp2_with fail
      go_meet
      case rel => exact ⟨100, keep0.take 100, rfl, Nat.le_refl _, by omega, HB2, rfl⟩
    · obtain rfl : tk = false := by rw [HTK.out, decide_eq_false hb]
      go_wp2_with fail
      go_meet
      case rel => exact ⟨bn, keep0, rfl, by omega, hbn, HB, rfl⟩
  case rest =>
  obtain ⟨km, ks, rfl, hkm, hkc, HKS, rfl⟩ := hcut
  clear HB HTK
  have CN := Lib.hid (new_held 1048576 w1)
  rw [show room 1048576 = 1048576 by decide] at CN
  have HT1 := Lib.hid (Tabs.below HT.out HB1.out rfl)
  go_upto_region 7 with (go_at_call 6; refine CN.out.mono ?_; rintro e w2 ⟨own2, f, rfl, hd2⟩)
  have CC := Lib.hid (HF.out.create (id := id) (num := 1) HT1.out hd2 (St.new 1048576) HHID.out (by decide) (by decide))
  clear CN hd2
  go_upto_region 10 with (go_at_call 7; refine CC.out.mono ?_; rintro e w3 ⟨own3, sg, g, K3, rfl, hK3, hs3, hf3⟩)
  have ep : ptr sg = .pointer (some ⟨sg, 0, none⟩) := rfl
  rw [ep]
  have HS3 := Lib.hid hs3
  clear CC hs3 hf3 ep
  obtain ⟨V, hV⟩ : ∃ V : Fl → Nat → Sv, V = fun x K => ⟨f, sg, id, 1, 1048576, [(segName id 1, g)], [(segName id 1, g)], [], g, x, K⟩ := ⟨_, rfl⟩
  have HV := Lib.hid hV
  have HS3' : Hid (SG own3 w1 w3 (V ⟨cat [], cat (([] : List Rc).take 0), []⟩ K3)) := by rw [hV]; exact HS3.out
  have HG3 : Hid (Grow own3 w3 w1.heap.size 42 7 (.slice none 0 0) 0 (flat (places 0 []))) := Grow.nil _ _ _ _ _
  clear HS3 hV
  go_wp2_with fail
  go_loopw [15, 16, 17, 18] (fun vl va vs vi wr => ∃ (i a s K : Nat) (own : Own) (G : List Rc) (L : Secs), vi = .int .i64 (i : Int) ∧ va = .int .i64 (a : Int) ∧ vs = .int .i64 (s : Int) ∧ i ≤ 10 ∧ i ≤ n ∧ s ≤ G.length ∧ G.length ≤ 5 * i ∧ K ≤ 8 + 16 * i ∧ Hid (a = (cat G).length) ∧ Hid (Fit id G) ∧
    Hid (SG own w1 wr (V ⟨cat G, cat (G.take s), L⟩ K)) ∧ Hid (Grow own wr w1.heap.size 42 7 vl G.length (flat (places 0 G)))) (fun _ _ _ vi _ => n - (RowKit.intOf vi).toNat)
  case atStart => exact ⟨0, 0, 0, K3, own3, [], [], rfl, rfl, rfl, by omega, Nat.zero_le _, Nat.le_refl _, by simp, by omega, rfl, fun x hx => by simp at hx, HS3', HG3⟩
  case round =>
    obtain ⟨i, a, s, K, own, G, L, rfl, rfl, rfl, hi10, hin, hsG, hGl, hK, HAT, HFIT, HS, HG⟩ := hrel
    obtain ⟨A15, c15, rfl, h151, h152, hf15⟩ := HG.out.form
    have hc15 : c15 ≤ 9223372036854775807 := by unfold maxLen at h152; exact h152
    have HF15 := Lib.hid hf15
    obtain ⟨gl, hgl⟩ : ∃ gl, gl = G.length := ⟨_, rfl⟩
    rw [← hgl] at hsG hGl h151 HF15 HG ⊢
    have HGL := Lib.hid hgl
    obtain ⟨t, ht⟩ : ∃ t, t = decide (i < n ∧ i < 10) := ⟨_, rfl⟩
    have HTT := Lib.hid ht
    have HSZ : Hid (a ≤ 60000) := by
      have h1 := cat_most (l := G) (fun x hx => (HFIT.out x hx).1)
      have h2 := HAT.out
      show a ≤ 60000
      omega
    obtain ⟨wi, hwi⟩ : ∃ wi, wi = wr := ⟨_, rfl⟩
    subst hwi
    clear ht hf15 h152 hgl
    go_upto_region 13 with fail
    go_cut [50] (fun v w' => v = .bool t ∧ wi = w')
    case first =>
      by_cases h1 : i < n
      · have h1' : (i : Int) < (n : Int) := by omega
        by_cases h2 : i < 10
        · have h2' : (i : Int) < 10 := by omega
          go_wp2_with fail
          go_meet
          case rel => exact ⟨by rw [HTT.out, decide_eq_true ⟨h1, h2⟩], rfl⟩
        · have h2' : ¬ (i : Int) < 10 := by omega
          go_wp2_with fail
          go_meet
          case rel => exact ⟨by rw [HTT.out, decide_eq_false (fun h => by omega)], rfl⟩
      · have h1' : ¬ (i : Int) < (n : Int) := by omega
        go_wp2_with fail
        go_meet
        case rel => exact ⟨by rw [HTT.out, decide_eq_false (fun h => by omega)], rfl⟩
    case rest =>
    obtain ⟨rfl, rfl⟩ := hcut
    cases t with
    | true =>
      obtain ⟨hlt, hlt10⟩ : i < n ∧ i < 10 := of_decide_eq_true HTT.out.symm
      have hi' : i < n := hlt
      obtain ⟨gb, go, rfl, hgb, hrow⟩ := HA.out (by omega)
      obtain ⟨A1, l1, c1, recs, k1, k2, k3, k4, k5, k6⟩ := hrow i hlt
      have hS0 := HS.out
      rw [HV.out] at hS0
      have hBW : Below w.heap.size w wi := HB1.out.trans ((HF.out.below hS0).mono HB1.out.size)
      have xg : wi.cell? ⟨gb, go + i, none⟩ = some (.slice A1 l1 c1) := (hBW.cell (p := ⟨gb, go + i, none⟩) hgb).trans k1
      have CG := Lib.hid (group_any A1 l1 c1 id recs wi HHID.out ((k2.below hBW).more hBW.size) k3 k4 k5 k6)
      have HBW := Lib.hid hBW
      have HTI := Lib.hid (HF.out.top hS0)
      have hw1i : w1.heap.size ≤ wi.heap.size := (HF.out.below hS0).size
      clear hrow k1 k2 k3 k4 k5 k6 hS0 hBW
      go_upto_region 16 with (go_at_call 8; refine CG.out.mono ?_; rintro e w5 ⟨v5, rfl, h, hrs5, hh5, hgood⟩)
      obtain ⟨A19, c19, rfl, h191, h192, hf19, hnew19⟩ := grow_rs' HTI.out hrs5
      have HB5 := Lib.hid hrs5.below
      have hS5 := HF.out.all HS.out hrs5.below
      rw [HV.out] at hS5
      obtain ⟨m, hm⟩ : ∃ m, m = h.length := ⟨_, rfl⟩
      rw [← hm] at h191 hf19 hnew19 hh5 ⊢
      have HGOOD := Lib.hid hgood
      have HF155 := Lib.hid (HF15.out.keep (fun _ _ => rfl) hrs5.below)
      have HG5 := Lib.hid (HG.out.all hrs5.below)
      have hcm19 : c19 ≤ 9223372036854775807 := by unfold maxLen at h192; exact h192
      have hw15 : w1.heap.size ≤ w5.heap.size := Nat.le_trans hw1i hrs5.below.size
      by_cases hm0 : m = 0
      · have CA := Lib.hid (HF.out.append_form (g0 := G) (l := h) (n := m) (c := c19) HT1.out hS5 rfl HFIT.out (fun hh => by omega) (fun y hy => by
          have hl := List.length_pos_of_mem hy
          omega) hm.symm (by omega) h191 h192 hf19 (show K + 8 ≤ 1073741824 by omega))
        subst hm0
        clear hS5 hf19 hnew19 hgood hrs5 hm h192
        go_upto_region 17 with (go_at_call 9; refine CA.out.mono ?_; rintro e w6 ⟨own6, P6, cp6, K6, rfl, hK6, hs6, hf6⟩)
        have HS6 : Hid (SG own6 w1 w6 (V ⟨cat G, cat (G.take s), L⟩ K6)) := by rw [HV.out]; exact hs6
        have HG6 := Lib.hid (HG5.out.fr hf6.fr)
        have hK6' : K6 ≤ K + 8 := hK6
        clear CA hs6 hf6 hK6
        go_wp2_with fail
        go_roundw
        case rel => exact ⟨i + 1, a, s, K6, own6, G, L, by go_num, rfl, rfl, by omega, by omega, by rw [← HGL.out]; exact hsG, by rw [← HGL.out]; omega, by omega, HAT, HFIT, HS6, by rw [← HGL.out]; exact HG6⟩
        case measure => (simp [RowKit.intOf]; omega)
      · have hmp : 0 < m := by omega
        have hfh : Fit id h := good_fit hgood
        have hG2 : Fit id (G ++ h) := fit_append HFIT.out hfh
        have hcs := cat_most (l := G ++ h) (fun x hx => (hG2 x hx).1)
        rw [List.length_append, ← hm, ← HGL.out] at hcs
        have CA := Lib.hid (append_landed (g0 := G) (l := h) (n := m) (c := c19) HT1.out hS5 rfl HFIT.out hfh hm.symm hmp (by omega) h191 h192 hf19 (by
          show ((cat (G ++ h)).length : Int) ≤ 1048576
          omega) (show K + 8 ≤ 1073741824 by omega))
        have HF19 := Lib.hid hf19
        have HNEW := Lib.hid hnew19
        have HM := Lib.hid hm
        have HFH := Lib.hid hfh
        have HG2 := Lib.hid hG2
        have HCS := Lib.hid hcs
        have hml : ∀ gx, (Value.slice A15 gl c15).ownBlock = some gx → gx < wi.heap.size := fun gx hgx => (HG.out.row.lt gx hgx).2
        have HML := Lib.hid hml
        have hwi5 : wi.heap.size ≤ w5.heap.size := HB5.out.size
        obtain ⟨ab, ao, rfl, _, hab5, _⟩ := hf19.2 (by omega)
        have hab : wi.heap.size ≤ ab := hnew19 _ rfl hmp
        have hme : ((m : Int) == 0) = false := beq_eq_false_iff_ne.2 (by omega)
        clear hS5 hf19 hnew19 hgood hrs5 hm h192 hfh hG2 hcs hml hm0
        go_upto_region 22 with (go_at_call 9; refine CA.out.mono ?_; rintro e w6 ⟨own6, P6, cp6, L6, K6, rfl, hcp6, hcp62, hnewp, hfp, hK6, hs6, hf6⟩)
        have hK6' : K6 ≤ K + 8 := hK6
        obtain ⟨pb, po, rfl, _, hpb6, _⟩ := hfp.2 hmp
        have hpb : w5.heap.size ≤ pb := hnewp _ rfl
        have hw56 : w5.heap.size ≤ w6.heap.size := hf6.fr.size
        have HS6 : Hid (SG own6 w1 w6 (V ⟨cat (G ++ h), cat (G.take s), L6⟩ K6)) := by rw [HV.out]; exact hs6
        have HG6 := Lib.hid (HG5.out.fr hf6.fr)
        have HF6a := Lib.hid (free_fr HF19.out hf6.fr)
        have HFP := Lib.hid hfp
        have hcpm : cp6 ≤ 9223372036854775807 := by unfold maxLen at hcp62; exact hcp62
        have HG60 : Hid (Grow own6 w6 w1.heap.size 42 7 (.slice A15 gl c15) (gl + 0) (flat (places 0 (G ++ h.take 0)))) := by
          rw [List.take_zero, List.append_nil]
          exact HG6.out
        have HAT0 : Hid (a = (cat (G ++ h.take 0)).length) := by
          rw [List.take_zero, List.append_nil]
          exact HAT.out
        obtain ⟨wj, hwj⟩ : ∃ wj, wj = w6 := ⟨_, rfl⟩
        have habw : ab < w6.heap.size := by omega
        clear CA hs6 hf6 hfp hK6 hcp62 hnewp
        go_wp2_with fail
        go_loopw [15, 16, 22] (fun vl va vk wx => ∃ (q a2 : Nat), vk = .int .i64 (q : Int) ∧ va = .int .i64 (a2 : Int) ∧ q ≤ m ∧ Hid (a2 = (cat (G ++ h.take q)).length) ∧ Hid (SG own6 w1 wx (V ⟨cat (G ++ h), cat (G.take s), L6⟩ K6)) ∧ Hid (Grow own6 wx w1.heap.size 42 7 vl (gl + q) (flat (places 0 (G ++ h.take q)))) ∧
          Hid (Free own6 wx (some ⟨pb, po, none⟩) m (ivs ((List.range m).map fun j => (((cat G).length + (cat (h.take j)).length : Nat) : Int)))) ∧ Hid (Free own6 wx (some ⟨ab, ao, none⟩) (m * 6) (rflat h)) ∧ Hid (∀ gx, vl.ownBlock = some gx → gx < wi.heap.size ∨ w6.heap.size ≤ gx) ∧ Hid (w6.heap.size ≤ wx.heap.size)) (fun _ _ vk _ => m - (RowKit.intOf vk).toNat)
        case atStart => exact ⟨0, a, rfl, rfl, Nat.zero_le _, HAT0, HS6, HG60, HFP, HF6a, fun gx hgx => .inl (HML.out gx hgx), Nat.le_refl _⟩
        case round =>
          obtain ⟨q, a2, rfl, rfl, hq, HA2, HSX, HGX, HPX, HRX, HLX, HWX⟩ := hrel
          obtain ⟨A16, c16, rfl, h161, h162, hf16⟩ := HGX.out.form
          have hc16 : c16 ≤ 9223372036854775807 := by unfold maxLen at h162; exact h162
          by_cases hqm : q < m
          · obtain ⟨x, hx⟩ : ∃ x, h[q]? = some x := ⟨h[q]'(by rw [← HM.out]; exact hqm), List.getElem?_eq_getElem _⟩
            have hxg := (HGOOD.out x (List.mem_of_getElem? hx)).1
            have hxb := hxg.2.2
            have hval : (cat G).length + (cat (h.take q)).length = a2 := by rw [HA2.out, cat_append, List.length_append]
            have xp : wr.cell? ⟨pb, po + q, none⟩ = some (.int .i64 (a2 : Int)) := by
              refine free_at HPX.out q _ ?_
              unfold ivs
              rw [List.getElem?_map, List.getElem?_map, List.getElem?_range hqm]
              show some (Value.int .i64 (((cat G).length + (cat (h.take q)).length : Nat) : Int)) = _
              rw [hval]
            have HIT : Hid (wr.rangeAt ab (ao + q * 6) x.vals.toList) := rec_item HRX.out.row q x hx
            have hnext : G ++ h.take (q + 1) = (G ++ h.take q) ++ [x] := by rw [← take_next hx, List.append_assoc]
            have HNX := Lib.hid hnext
            have HA3 : Hid (a2 + (39 + x.body.length) = (cat (G ++ h.take (q + 1))).length) := by
              show _ = _
              rw [hnext, cat_snoc, List.length_append, enc_length x hxg.1, ← HA2.out]
            have hfl : flat (places 0 (G ++ h.take q)) ++ fcells (a2, x) = flat (places 0 (G ++ h.take (q + 1))) := by
              rw [hnext, fd_append_flat, HA2.out, places_snoc]
            have HFL := Lib.hid hfl
            have ha60 : a2 ≤ 60000 := by
              have h1 := cat_most (l := G ++ h.take q) (fun y hy => by
                rcases List.mem_append.1 hy with hy | hy
                · exact (HFIT.out y hy).1
                · exact (HFH.out y (List.mem_of_mem_take hy)).1)
              rw [List.length_append, List.length_take, ← HA2.out, ← HGL.out, ← HM.out] at h1
              omega
            have HBF := Lib.hid (built_ref a2 x)
            have HBS := Lib.hid (slice_ref a2 x)
            obtain ⟨fc, hfc⟩ : ∃ fc, fc = (fcells (a2, x)).toArray := ⟨_, rfl⟩
            rw [← hfc] at HBF HBS
            have HONE := Lib.hid (one_cells wr 42 (0, 0) (a2, x) fc (by rw [hfc]))
            have hal : Below wr.heap.size wr (wr.alloc (.cells fc 42)) := below_alloc wr _
            have HGY := Lib.hid (HGX.out.all hal)
            have HSY : Hid (SG own6 w1 (wr.alloc (.cells fc 42)) (V ⟨cat (G ++ h), cat (G.take s), L6⟩ K6)) := HF.out.all HSX.out hal
            have HTY : Hid (∀ b q, own6 b = some q → b < (wr.alloc (.cells fc 42)).heap.size) := HF.out.top HSY.out
            have HPY := Lib.hid (HPX.out.keep (fun _ _ => rfl) hal)
            have HRY := Lib.hid (HRX.out.keep (fun _ _ => rfl) hal)
            have hwy : w1.heap.size ≤ (wr.alloc (.cells fc 42)).heap.size := by have h := HWX.out; simp; omega
            have hgr : gl + q + 1 ≤ 100000000 := by omega
            have HFC := Lib.hid hfc
            obtain ⟨wy, hwy2⟩ : ∃ wy, wy = wr.alloc (.cells fc 42) := ⟨_, rfl⟩
            rw [← hwy2] at HGY HSY HTY HPY HRY hwy HONE hal
            have hsy : wr.heap.size < wy.heap.size := by rw [hwy2]; simp
            have HWY := Lib.hid hwy2
            have HXX := Lib.hid hx
            clear hx hxg hval hnext hfl hfc hf16 h162 hwy2
            go_upto_region 28 with (first
              | (refine load_recM HIT.out rfl (.tmp 100) rfl rfl ?_)
              | (refine build_found rfl 42 (.tmp 97) (.tmp 101) rfl (some 102) rfl (.int .i64 (a2 : Int)) (.agg x.vals) rfl rfl fc HBF.out ?_)
              | (refine build_one rfl 32 42 (.tmp 102) rfl (some 103) rfl Tryz.underlying32 (.agg fc) rfl fc HBS.out ?_; rw [← HWY.out])
              | (at_builtin; refine grow_append2 HTY.out HGY.out hwy rfl (.tmp 96) (.tmp 103) 32 rfl _ 64 Tryz.underlying32 found_zero rfl (by decide) (by decide) rfl ⟨wr.heap.size, 0, none⟩ 1 1 (fcells (a2, x)) rfl rfl (fun j u hu => by have := HONE.out j u hu; rw [Lib.add_plain, Nat.zero_add]; exact this) (fcells_one _) hgr ?_; intro v7 w7 HG7 hgw7 hown7))
            have HS7 : Hid (SG own6 w1 w7 (V ⟨cat (G ++ h), cat (G.take s), L6⟩ K6)) := HCR.out.grow HSY.out hgw7.out fun g' hg' => ⟨HGY.out.free g' hg', (HGY.out.row.lt g' hg').1⟩
            have HG7' : Hid (Grow own6 w7 w1.heap.size 42 7 v7 (gl + (q + 1)) (flat (places 0 (G ++ h.take (q + 1))))) := by
              have h := HG7.out
              rw [HFL.out] at h
              exact h
            have HP7 : Hid (Free own6 w7 (some ⟨pb, po, none⟩) m (ivs ((List.range m).map fun j => (((cat G).length + (cat (h.take j)).length : Nat) : Int)))) := free_grown HPY.out hgw7.out fun ad had _ e => by
              injection had with had
              subst had
              rcases HLX.out _ e with h | h
              · have : pb < wi.heap.size := h
                omega
              · have : w6.heap.size ≤ pb := h
                omega
            have HR7 : Hid (Free own6 w7 (some ⟨ab, ao, none⟩) (m * 6) (rflat h)) := free_grown HRY.out hgw7.out fun ad had _ e => by
              injection had with had
              subst had
              rcases HLX.out _ e with h | h
              · have : ab < wi.heap.size := h
                omega
              · have : w6.heap.size ≤ ab := h
                omega
            have HL7 : Hid (∀ gx, v7.ownBlock = some gx → gx < wi.heap.size ∨ w6.heap.size ≤ gx) := fun gx hgx => by
              rcases hown7.out with h | h
              · exact HLX.out gx (by rw [← h]; exact hgx)
              · have h1 := h gx hgx
                have h2 := HWX.out
                have h3 : w6.heap.size ≤ wr.heap.size := h2
                exact .inr (by omega)
            have hsz7 := hgw7.out.size
            have HW7 : Hid (w6.heap.size ≤ w7.heap.size) := by have h := HWX.out; show _ ≤ _; omega
            obtain ⟨_, _, _, _, _, y5⟩ := range_rec (rec_item HR7.out.row q x HXX.out)
            obtain ⟨sx, hsx⟩ : ∃ sx, sx = str x.body := ⟨_, rfl⟩
            rw [← hsx] at y5
            have hsz : (sx.size : Int) = (x.body.length : Int) := by rw [hsx, str_size]
            clear hsx HG7 HGY HSY HPY HRY HTY HONE HBF HBS
            go_wp2_with fail
            go_roundw
            case rel => exact ⟨q + 1, a2 + (39 + x.body.length), by go_num, by go_num, by omega, HA3, HS7, HG7', HP7, HR7, HL7, HW7⟩
            case measure => (simp [RowKit.intOf]; omega)
          · obtain rfl : q = m := by omega
            have htk : h.take q = h := by rw [HM.out, List.take_length]
            rw [htk] at HA2 HGX
            have hlen : (G ++ h).length = gl + q := by rw [List.length_append, ← HGL.out, ← HM.out]
            have HLEN := Lib.hid hlen
            have hS7 := HSX.out
            rw [HV.out] at hS7
            clear htk hlen hf16 h162 HPX HRX HLX
            by_cases hsy0 : (i : Int) = sy
            · have e1 : ((i : Int) == sy) = true := beq_iff_eq.2 hsy0
              have CY := Lib.hid (HF.out.sync HT1.out hS7 (show K6 + 8 ≤ 1073741824 by omega))
              clear hS7 hsy0
              go_wp2_with (go_at_call 10; refine CY.out.mono ?_; rintro e w8 ⟨own8, K8, rfl, hK8, hs8, hf8⟩; have HS8 : Hid (SG own8 w1 w8 (V ⟨cat (G ++ h), cat ((G ++ h).take (gl + q)), []⟩ K8)) := (by show SG own8 w1 w8 (V _ K8); rw [HV.out, ← HLEN.out, List.take_length]; exact hs8); have HG8 := Lib.hid (HGX.out.fr hf8.fr); have hK8' : K8 ≤ K6 + 8 := hK8; clear hs8 hf8 hK8)
              go_roundw
              case rel => exact ⟨i + 1, a2, gl + q, K8, own8, G ++ h, [], by go_num, rfl, by go_num, by omega, by omega, by rw [HLEN.out]; exact Nat.le_refl _, by rw [HLEN.out]; omega, by omega, HA2, HG2, HS8, by rw [HLEN.out]; exact HG8⟩
              case measure => (simp [RowKit.intOf]; omega)
            · have e1 : ((i : Int) == sy) = false := beq_eq_false_iff_ne.2 hsy0
              have HS8 : Hid (SG own6 w1 wr (V ⟨cat (G ++ h), cat ((G ++ h).take s), L6⟩ K6)) := by
                have hq := HSX.out
                have htake : (G ++ h).take s = G.take s := List.take_append_of_le_length (by rw [← HGL.out]; exact hsG)
                show SG own6 w1 wr (V ⟨cat (G ++ h), cat ((G ++ h).take s), L6⟩ K6)
                rw [htake]
                exact hq
              clear hS7 hsy0
              go_wp2_with fail
              go_roundw
              case rel => exact ⟨i + 1, a2, s, K6, own6, G ++ h, L6, by go_num, rfl, rfl, by omega, by omega, by rw [HLEN.out]; omega, by rw [HLEN.out]; omega, by omega, HA2, HG2, HS8, by rw [HLEN.out]; exact HGX⟩
              case measure => (simp [RowKit.intOf]; omega)
    | false =>
      have hS0 := HS.out
      rw [HV.out] at hS0
      have hgood : AllGood G := fun x hx => ⟨(HFIT.out x hx).1, (HFIT.out x hx).2.1⟩
      have hfr : frontFrom 0 (cat G) = places 0 G := (front_whole hgood).1
      have hown : ownOf id (frontFrom 0 (cat G)) = places 0 G := by rw [hfr]; exact ownOf_all (places_tenant (fun x hx => (HFIT.out x hx).2.2) 0)
      have hownl : (ownOf id (frontFrom 0 (cat G))).length = gl := by rw [hown, places_length, ← HGL.out]
      have hlt := HCR.out.lt hS0
      obtain ⟨hsgl, hfl⟩ : sg < wi.heap.size ∧ f < wi.heap.size := hlt
      have CZ0 := HF.out.size hS0
      have CZ : Hid (Calls Tryz.prog 11 #[.pointer (some ⟨sg, 0, none⟩)] wi fun e w' => e = .returned (.int .i64 (a : Int)) ∧ Below wi.heap.size wi w') := by
        rw [HAT.out]
        exact CZ0
      have hgl50 : gl ≤ 50 := by omega
      have CSM : Hid (∀ w5, Below wi.heap.size wi w5 → Calls Tryz.prog 12 #[.pointer (some ⟨sg, 0, none⟩), .slice A15 gl c15] w5 fun e w' => e = .returned (.bool true) ∧ ∃ own' K', K' ≤ K + 8 * (gl + 1) ∧ SG own' w1 w' ⟨f, sg, id, 1, 1048576, [(segName id 1, g)], [(segName id 1, g)], [], g, ⟨cat G, cat (G.take s), L⟩, K'⟩ ∧ Fr own own' wi w') := fun w5 hb5 => by
        refine (same_any HF.out HT1.out (HF.out.all hS0 hb5) (n := gl) (c := c15) (A := A15) hownl (by omega) (by
          show Free own w5 A15 (gl * 7) (flat (ownOf id (frontFrom 0 (cat G))))
          rw [hown]
          exact HF15.out.keep (fun _ _ => rfl) hb5) h151 (by unfold maxLen; omega) (by show K + 8 * (gl + 1) + 8 ≤ 1073741824; omega)).mono ?_
        rintro e w' ⟨he, own', K', h1, h2, h3⟩
        exact ⟨he, own', K', h1, h2, (Fr.of_below hb5).trans h3⟩
      clear hS0 hgood hfr hown hownl CZ0
      go_upto_region 35 with (first
        | (go_at_call 11; refine CZ.out.mono ?_; rintro e w5 ⟨rfl, hb5⟩; have HB5 := Lib.hid hb5; clear hb5)
        | (go_at_call 12; refine (CSM.out _ HB5.out).mono ?_; rintro e w6 ⟨rfl, own6, K6, hK6, hs6, hf6⟩; have HS6 := Lib.hid hs6; have HFR6 := Lib.hid hf6; clear hs6 hf6))
      have HF156 := Lib.hid (free_fr HF15.out HFR6.out)
      have hwi6 := HFR6.out.size
      have hw16 : Below w1.heap.size w1 w6 := HF.out.below HS6.out
      have hk6 : Row w6 w.heap.size B km (lvs ks) := HKS.out.below (HB1.out.trans (hw16.mono HB1.out.size))
      have CX0 := HCR.out.crash (B := w.heap.size) (A := B) (m := km) (c := bc) (keep := ks) 0 torn HS6.out hk6 (Nat.le_trans HB1.out.size hw16.size) (by omega)
      have hok6 : (Fl.mk (cat G) (cat (G.take s)) L).Ok := by
        obtain ⟨d, h1, h2, h3⟩ := HF.out.held HS6.out
        exact h1.ok (n := segName id 1) (h2.look h3)
      have HOK6 := Lib.hid hok6
      have CX : Hid (Calls Tryz.prog 13 #[.pointer (some ⟨f, 0, none⟩), .int .i64 0, .slice B km bc, .int .i64 torn] w6 fun e w' => ∃ own7 f7 d d7, e = .returned (.pointer (some ⟨f7, 0, none⟩)) ∧ St d 1048576 [(segName id 1, g)] [(segName id 1, g)] [] [(g, ⟨cat G, cat (G.take s), L⟩)] ∧ Held own7 w1 w' f d K6 ∧ Held own7 w1 w' f7 d7 K6 ∧ d.Crashed d7 0 ks torn ∧ f ≠ f7 ∧ Fr own6 own7 w6 w') := by
        refine CX0.mono ?_
        rintro e w' ⟨own7, f7, d, d7, he, _, k2, k3, k4, k5, k6, k7, _⟩
        exact ⟨own7, f7, d, d7, he, k2, k3, k4, k5, by omega, k7⟩
      clear CX0 hk6 hw16 hok6 CZ CSM HB5
      go_upto_region 36 with (go_at_call 13; refine CX.out.mono ?_; rintro e w7 ⟨own7, f7, d, d7, rfl, hst, hhd, hh7, hcr, hne, hfr7⟩)
      have HST := Lib.hid hst
      have HCRA := Lib.hid hcr
      have HF157 := Lib.hid (free_fr HF156.out hfr7)
      obtain ⟨g7, hst7⟩ := crashed_one hcr hst.wait hst.S
      have hnl : (segName id 1).length ≤ maxLen := by
        have := segName_length HHID.out (show 1 ≤ 1099511627776 by decide)
        unfold maxLen
        omega
      have CM := Lib.hid (mixed_any (M := 1) (KT := K6 + 215205) hhd hh7 hne (by rw [hst.N]; exact Nat.le_refl _) (by rw [Dk.crashDir, hst.wait, hst.S]; exact Nat.le_refl _)
        (fun n hn => by rw [hst.N] at hn; obtain rfl : n = segName id 1 := by simpa using hn
                        exact hnl)
        (fun n hn => by rw [Dk.crashDir, hst.wait, hst.S] at hn; obtain rfl : n = segName id 1 := by simpa using hn
                        exact hnl)
        (fun n hn => by rw [hst7.N] at hn; obtain rfl : n = segName id 1 := by simpa using hn
                        exact hnl)
        (fun n x hx => hh7.ok hx) (by rw [hst7.N]; show K6 + 1 * (1 + 107602 * (2 * 1)) ≤ _; omega) (by omega))
      have HN7 := Lib.hid hst7.N
      clear CX hst hhd hh7 hcr hfr7 hst7 hnl
      go_upto_if 138 with (go_at_call 14; refine CM.out.mono ?_; rintro e w8 ⟨t8, rfl, hsays⟩)
      obtain ⟨own8, pa, pc, pf, d2, hcr2, hsame, hdks, hrd, hpa, hpc, hpf0, hpfn, hpfT, hone⟩ := hsays.ex
      have HFIN8 : Hid (Below w1.heap.size w1 w8) := by
        obtain ⟨dx, hx, _⟩ := hdks.disk pc (by simp)
        rw [hpc] at hx
        exact hx.below
      cases t8 with
      | true =>
        go_wp2_with fail
        go_ret
        exact ⟨rfl, HB1.out.trans (HFIN8.out.mono HB1.out.size)⟩
      | false =>
        obtain ⟨dx, hx, hxn, hxt⟩ := hdks.disk pc (by simp)
        have hone1 := hone rfl (segName id 1) (by rw [hpc]; show segName id 1 ∈ d7.N.map (·.1); rw [HN7.out]; simp)
        rw [hpc] at hx hxn hxt hone1
        rw [hpa] at hone1
        obtain ⟨mm, hm1, hm2, hm3⟩ := all_crash (torn := torn) (keep := ks) HST.out HOK6.out HFIT.out HCRA.out hcr2 hpfn hpfT hone1
        have hmin : s ≤ mm := by rw [← HGL.out] at hm1; omega
        have hmg : mm ≤ gl := by rw [← HGL.out] at hm2; exact hm2
        have hxN : ∃ gx, dx.N = [(segName id 1, gx)] := by
          have hxn' : dx.N.map (·.1) = d7.N.map (·.1) := hxn
          rw [HN7.out] at hxn'
          match hdx : dx.N with
          | [] => rw [hdx] at hxn'; have := congrArg List.length hxn'; simp at this
          | [(n1, g1)] =>
            rw [hdx] at hxn'
            have : n1 = segName id 1 := by simpa using hxn'
            exact ⟨g1, by rw [this]⟩
          | p :: q :: r => rw [hdx] at hxn'; have := congrArg List.length hxn'; simp at this
        obtain ⟨gx, hgx⟩ := hxN
        have htx : (dx.fl gx).now = text d7 (segName id 1) := by
          have h2 : text dx (segName id 1) = text d7 (segName id 1) := hxt (segName id 1)
          rw [← h2]
          unfold text Dk.look
          rw [hgx]
          simp [Disk.dget]
        have hx' : Held own8 w1 w8 f7 dx (K6 + 215205) := hx
        have CO := Lib.hid (open_any HT1.out hx' hgx HHID.out (show 1 ≤ 1099511627776 by decide))
        have hF158 : Free own8 w8 A15 (gl * 7) (flat (places 0 G)) := free_rd (HF157.out.keep hsame (Below.refl _ _)) hrd
        have HF158 := Lib.hid hF158
        have hfrx : frontFrom 0 (dx.fl gx).now = places 0 (G.take mm) := by rw [htx]; exact hm3
        have hfitm : ∀ x ∈ G.take mm, x.tenant = id := fun x hx => (HFIT.out x (List.mem_of_mem_take hx)).2.2
        have hownx : ownOf id (frontFrom 0 (dx.fl gx).now) = places 0 (G.take mm) := by
          rw [hfrx]
          exact ownOf_all (places_tenant hfitm 0)
        have hlenx : (places 0 (G.take mm)).length = mm := by rw [places_length, List.length_take, ← HGL.out]; omega
        have HOX := Lib.hid hownx
        have HLX := Lib.hid hlenx
        have ef7 : ptr f7 = .pointer (some ⟨f7, 0, none⟩) := rfl
        rw [ef7] at CO
        clear hsays hcr2 hsame hdks hrd hpa hpc hpf0 hpfn hpfT hone hx hxn hxt hone1 hm1 hm2 hm3 hgx htx hx' hF158 hfrx hfitm hownx hlenx CM HCRA HST HN7 HF157 HOK6 ef7
        go_upto_region 41 with (go_at_call 15; refine CO.out.mono ?_; rintro e w9 ⟨own9, sg9, rfl, hl9, hf9⟩)
        have HF159 := Lib.hid (free_fr HF158.out hf9)
        have CR0 := records_lies HT1.out hl9 (show K6 + 215205 + 1 ≤ 1073741824 by omega)
        have CR : Hid (Calls Tryz.prog 17 #[ptr sg9] w9 fun e w' => ∃ A c, e = .returned (.slice A mm c) ∧ mm ≤ c ∧ c ≤ maxLen ∧ Free own9 w' A (mm * 7) (flat (places 0 (G.take mm))) ∧ Free own9 w' A15 (gl * 7) (flat (places 0 G)) ∧ (∀ b q, own9 b = some q → b < w'.heap.size) ∧ Below w1.heap.size w1 w') := by
          refine CR0.mono ?_
          rintro e w' ⟨A9, c9, d9, he, k1, k2, k3, _, k5, k6⟩
          have ho : ownOf (⟨f7, sg9, id, 1, dx.room, dx.N, dx.S, dx.wait, gx, dx.fl gx, K6 + 215205⟩ : Sv).id (frontFrom 0 (⟨f7, sg9, id, 1, dx.room, dx.N, dx.S, dx.wait, gx, dx.fl gx, K6 + 215205⟩ : Sv).x.now) = places 0 (G.take mm) := HOX.out
          rw [ho, HLX.out] at he k1 k3
          exact ⟨A9, c9, he, k1, k2, k3, HF159.out.step k6, k5.top, k5.disk.below⟩
        have ep9 : ptr sg9 = .pointer (some ⟨sg9, 0, none⟩) := rfl
        rw [ep9] at CR ⊢
        clear CR0 hl9 hf9 CO ep9 HF158
        go_upto_region 42 with (first
          | (go_at_call 17; refine CR.out.mono ?_; rintro e w10 ⟨A10, c10, rfl, h101, h102, hfa10, hfb10, htop10, hbel10⟩; have HA10 := Lib.hid hfa10; have HB10 := Lib.hid hfb10; have HT10 := Lib.hid htop10; have HBL10 := Lib.hid hbel10; have CFD := Lib.hid (found_any A10 mm c10 (places 0 (G.take mm)) w10 hfa10.row HLX.out h101 h102 (by omega)); clear hfa10 hfb10 htop10 hbel10)
          | (go_at_call 16; refine CFD.out.mono ?_; rintro e w11 ⟨v11, rfl, hfd11⟩))
        obtain ⟨A11, c11, rfl, h111, h112, hf11⟩ := found_free HT10.out hfd11
        rw [HLX.out] at h111 hf11 ⊢
        have hB11 := HB10.out.keep (fun _ _ => rfl) hfd11.below
        have hr2 : Row w11 w11.heap.size A15 (mm * 7) (flat (places 0 (G.take mm))) := by
          rw [← places_take, flat_take]
          exact (free_front hB11 (by omega)).row
        have CE : Hid (∀ cx, Calls Tryz.prog 18 #[.slice A11 mm c11, .slice A15 mm cx] w11 fun e w' => e = .returned (.bool true) ∧ Below w11.heap.size w11 w') := fun cx => eqall_any A11 A15 mm c11 cx (places 0 (G.take mm)) w11 hf11.row hr2 HLX.out (by omega)
        have HFIN11 : Hid (Below w1.heap.size w1 w11) := HBL10.out.trans (hfd11.below.mono HBL10.out.size)
        have hc11m : c11 ≤ 9223372036854775807 := by unfold maxLen at h112; exact h112
        have p1 : ¬ (mm : Int) < (s : Int) := by omega
        have p2 : ¬ (gl : Int) < (mm : Int) := by omega
        have p3 : (mm : Int) ≤ (c15 : Int) := by omega
        clear hfd11 hf11 hB11 hr2 h112 CFD HA10 HB10 HT10
        go_wp2_with (go_at_call 18; refine (CE.out _).mono ?_; rintro e w12 ⟨rfl, hb12⟩; have HB12 := Lib.hid hb12; clear hb12)
        go_ret
        exact ⟨rfl, HB1.out.trans ((HFIN11.out.trans (HB12.out.mono HFIN11.out.size)).mono HB1.out.size)⟩
end Go.Proofs.YtkdnfikaodkhnaaGreatDoor.Seg
