/-
  Texts one behind the other: TenLaw, ManBytes.
-/
import Derived.Test.YtcmlchicpmnhdaaDoorG07
import Derived.Test.YtcmlchicpmnhdaaDoorG37
import Derived.Test.YtcmlchicpmnhdaaDoorG38
import Derived.Test.YtcmlchicpmnhdaaDoorG39
import Derived.Test.YtcmlchicpmnhdaaDoorG40
/-
  Proved: what total of law 10 returns.
-/
namespace Go.Proofs.YtcmlchicpmnhdaaDoor.Ten
open Go.RowKit Go.Proofs.YtcmlchicpmnhdaaDoor.Rec
set_option linter.unusedVariables false
set_option linter.unusedSimpArgs false

/-- How many segments there are. -/
def tot (l : List Te) : Nat := (l.map fun t => t.segs.length).sum
theorem tot_take {l : List Tv} {i : Nat} {x : Tv} (h : l[i]? = some x) : tot ((l.take (i + 1)).map Tv.te) = tot ((l.take i).map Tv.te) + x.te.segs.length := by
  obtain ⟨h1, h2⟩ := List.getElem?_eq_some_iff.1 h
  unfold tot
  rw [List.take_succ_eq_append_getElem h1, h2]
  simp
theorem tot_le (l : List Te) (h : ∀ t ∈ l, t.segs.length ≤ 62) : tot l ≤ 62 * l.length := by
  induction l with
  | nil => simp [tot]
  | cons t l ih =>
    have h1 := ih (fun u hu => h u (List.mem_cons_of_mem _ hu))
    have h2 := h t (by simp)
    unfold tot at h1 ⊢
    simp only [List.map_cons, List.sum_cons, List.length_cons]
    omega
set_option maxRecDepth 100000 in
set_option maxHeartbeats 4000000 in
theorem total_any (A : Option Addr) (n c : Nat) (l : List Tv) (w : World) (hR : Tens w w.heap.size A n l) (hs : ∀ v ∈ l, v.te.segs.length ≤ 62) (hnc : n ≤ c) (hc : c ≤ maxLen) (hn : n ≤ 100000) :
    Calls Tryd.prog 20 #[.slice A n c] w fun e w' => e = .returned (.int .i64 (tot (l.map Tv.te) : Int)) ∧ w = w' := by
  have hcm : c ≤ 9223372036854775807 := by unfold maxLen at hc; exact hc
  have HR := Lib.hid hR
  have HSS := Lib.hid hs
  clear hR hc hs
  go_enter Tryd.func20, Tryd.ntmps20
  go_wp2_with fail
  go_loopw [3, 4] (fun sv iv wr => ∃ (i s : Nat), sv = .int .i64 (s : Int) ∧ iv = .int .i64 (i : Int) ∧ i ≤ n ∧ s ≤ 62 * i ∧ Hid (s = tot ((l.take i).map Tv.te)) ∧ w = wr) (fun _ iv _ => n - (RowKit.intOf iv).toNat)
  case atStart => exact ⟨0, 0, rfl, rfl, Nat.zero_le _, Nat.zero_le _, Lib.hid (by simp [tot]), rfl⟩
  case round =>
    obtain ⟨i, s, rfl, rfl, hi, hsl, HE, rfl⟩ := hrel
    by_cases hlt : i < n
    · have hlt' : (i : Int) < (n : Int) := by omega
      obtain ⟨bl, o, rfl, hbl, _⟩ := HR.out.row.2 (by omega)
      obtain ⟨x, hx, hmem, hrange⟩ := HR.out.at hlt
      have yx : w.cell? ⟨bl, o + i * 6 + 5, none⟩ = some (.slice x.A x.te.segs.length x.c) := (range_ten hrange).2.2.2.2.2
      have hx62 := HSS.out x hmem
      have hE2 : s + x.te.segs.length = tot ((l.take (i + 1)).map Tv.te) := by rw [tot_take hx, ← HE.out]
      have HE2 := Lib.hid hE2
      obtain ⟨m, hm⟩ : ∃ m, m = x.te.segs.length := ⟨_, rfl⟩
      rw [← hm] at yx hx62 HE2
      clear hx hmem hrange hE2 hm
      go_wp2_with fail
      go_roundw
      case rel => exact ⟨i + 1, s + m, by go_num, by go_num, by omega, by omega, HE2, by first | rfl | trivial⟩
      case measure => (simp [RowKit.intOf]; omega)
    · obtain rfl : i = n := by omega
      have HE2 : Hid (s = tot (l.map Tv.te)) := by have := HE.out; rw [List.take_of_length_le (by rw [HR.out.len]; exact Nat.le_refl _)] at this; exact this
      go_wp2_with fail
      go_ret
      have e := HE2.out
      exact ⟨by subst e; first | rfl | simp, rfl⟩
end Go.Proofs.YtcmlchicpmnhdaaDoor.Ten
/-
  Proved: TenantBytes returns true, whatever it is handed.
-/
namespace Go.Proofs.YtcmlchicpmnhdaaDoor.Man
open Go.RowKit Go.Proofs.YtcmlchicpmnhdaaDoor.Rec Go.Proofs.YtcmlchicpmnhdaaDoor.Ten
open Go.Proofs.YtcmlchicpmnhdaaDoor.Crc (Turned)
set_option linter.unusedVariables false
set_option linter.unusedSimpArgs false

theorem man_yields_conv {ops : Array Oper} {S : World → Prop} {op : Oper} {a : Act} {A : Option Addr} {n c : Nat} {s : ByteArray} (hw : Region.wanted op (yielded ops a.tmps) = true) (y : Operand) (ho : op.op = .convert 44 9 y)
    (hx : a.eval y = .slice A n c) (hS : ∀ w, S w → (convert 44 9 (.slice A n c)).run Tryd.prog w = .ok (.string s) w) : YieldsIf Tryd.prog ops S op (.string s) a :=
  .inl ⟨hw, fun w hw' => by
    unfold execOp
    simp only [ho, hx, Sem.run_bind, Sem.run_pure, Result.andThen_ok, hS w hw']⟩
/-- Tenants of which no more are read. -/
theorem ts_tens {w0 w : World} {v : Value} {l : List Tv} (h : Ts w0 w v l) (hok : ∀ x ∈ l, x.te.Ok) (hin : ∀ x ∈ l, x.In w0 w0.heap.size) : ∃ A c, v = .slice A l.length c ∧ l.length ≤ c ∧ c ≤ maxLen ∧ Tens w w.heap.size A l.length l := by
  obtain ⟨A, c, rfl, h1, h2, h3⟩ := own_row h.row
  exact ⟨A, c, rfl, h1, h2, rfl, h3, hok, fun x hx => ((hin x hx).below h.below).more h.below.size⟩
theorem cut_all_ok {l : List Tv} (h : ∀ x ∈ l, x.te.Ok) : ∀ x ∈ (l.take 8).map cutTv, x.te.Ok := by
  intro x hx
  obtain ⟨y, hy, rfl⟩ := List.mem_map.1 hx
  exact cut_ok (h y (List.mem_of_mem_take hy))
theorem cut_all_in {w : World} {B : Nat} {l : List Tv} (h : ∀ x ∈ l, x.In w B) : ∀ x ∈ (l.take 8).map cutTv, x.In w B := by
  intro x hx
  obtain ⟨y, hy, rfl⟩ := List.mem_map.1 hx
  exact cut_in (h y (List.mem_of_mem_take hy))
/-- A row of bytes of the call's own of which one was turned. -/
theorem own_byte {w : World} {base g n c q : Nat} {l : List UInt8} {cur : Array Value} (hb : base ≤ g) (hg : Blk w g 5 cur) (hnc : n ≤ c) (hm : c ≤ maxLen) (hs : cur.size = c) (hx : cur.toList.take n = bvs l) (hq : q < n) (d : UInt8) :
    (w.setCell ⟨g, q, none⟩ (bv d)).ownsRow base 5 1 (.slice (some ⟨g, 0, none⟩) n c) n (bvs (l.set q d)) := by
  have hl : l.length = n := by
    have := congrArg List.length hx
    rw [List.length_take, bvs_length, Array.length_toList] at this
    omega
  refine ⟨by rw [bvs_length, List.length_set, hl, Nat.mul_one], .inr ⟨g, c, _, rfl, hb, Blk.put hg q (bv d), hnc, hm, by rw [Array.size_setIfInBounds]; omega, ?_⟩⟩
  rw [Nat.mul_one, Array.toList_setIfInBounds, List.take_set, hx]
  unfold bvs
  rw [List.map_set]
set_option maxRecDepth 100000 in
set_option maxHeartbeats 16000000 in
theorem tenantBytes_walk (A : Option Addr) (n c : Nat) (z X : Int) (w : World) (hT : Turned w) (hA : ∃ l : List Tv, l.length = n ∧ (∀ y ∈ l, y.te.Ok ∧ y.In w w.heap.size) ∧ Row w w.heap.size A (n * 6) (tflat l)) (hnc : n ≤ c) (hc : c ≤ maxLen)
    (hz : -9223372036854775808 ≤ z ∧ z ≤ 9223372036854775807) (hX : (Lit.int .u8 X).wf = true) :
    Calls Tryd.prog 5 #[.slice A n c, .int .i64 z, .int .u8 X] w fun e w' => e = .returned (.bool true) ∧ Below w.heap.size w w' := by
  obtain ⟨l, hl, hls, hrow⟩ := hA
  have hXb := bounds_u8 hX
  obtain ⟨y, hy⟩ : ∃ y : UInt8, (y.toNat : Int) = X := ⟨UInt8.ofNat X.toNat, by rw [UInt8.toNat_ofNat', Nat.mod_eq_of_lt (by omega)]; omega⟩
  have hcm : c ≤ 9223372036854775807 := by unfold maxLen at hc; exact hc
  have HTN : Hid (Tens w w.heap.size A n l) := Lib.hid ⟨hl, hrow, fun v hv => (hls v hv).1, fun v hv => (hls v hv).2⟩
  have HT := Lib.hid hT
  have HY := Lib.hid hy
  have HC := Lib.hid hc
  have HBEG := Lib.hid (manbegun_any w hT)
  clear hl hls hrow hT hX hXb hy hc
  go_enter Tryd.func5, Tryd.ntmps5
  go_upto_region 4 with (go_at_call 7; (with_reducible refine HBEG.out.mono ?_); rintro e w1 ⟨rfl, hb1⟩; have HB1 := Lib.hid hb1; clear hb1)
  have HTN1 := Lib.hid ((HTN.out.below HB1.out).more HB1.out.size)
  have CC := Lib.hid (mancutall_any A n c l w1 HTN1.out hnc HC.out)
  clear HBEG
  go_upto_region 5 with (go_at_call 14; (with_reducible refine CC.out.mono ?_); rintro e w2 ⟨v2, rfl, hts⟩; have HTS := Lib.hid hts; clear hts)
  obtain ⟨L, hL⟩ : ∃ L, L = (l.take 8).map cutTv := ⟨_, rfl⟩
  have hLok : ∀ x ∈ L, x.te.Ok := by rw [hL]; exact cut_all_ok HTN1.out.ok
  have hLin : ∀ x ∈ L, x.In w1 w1.heap.size := by rw [hL]; exact cut_all_in HTN1.out.ins
  rw [← hL] at HTS
  obtain ⟨A2, c2, rfl, q1, q2, hten⟩ := ts_tens HTS.out hLok hLin
  have HT2 := Lib.hid hten
  have HB2 := Lib.hid (HB1.out.trans (HTS.out.below.mono HB1.out.size))
  obtain ⟨n2, hn2⟩ : ∃ n2, n2 = L.length := ⟨_, rfl⟩
  rw [← hn2] at HT2 q1 ⊢
  have HQ2 := Lib.hid q2
  have hc2m : c2 ≤ 9223372036854775807 := by unfold maxLen at q2; exact q2
  have HLOK := Lib.hid hLok
  have HIDS : Hid (∀ t ∈ L.map Tv.te, t.id < 4294967296) := Lib.hid fun t ht => by
    obtain ⟨x, hx, rfl⟩ := List.mem_map.1 ht
    exact (HLOK.out x hx).id
  clear CC hL hLok hLin hten hn2 q2
  by_cases hmay : May (L.map Tv.te)
  case neg =>
    have CM := maytens_any A2 n2 c2 L w2 HT2.out q1 HQ2.out
    rw [mayAllB_false hmay] at CM
    have CM' := Lib.hid CM
    have CE : Hid (∀ W, Hid (Below w2.heap.size w2 W) → Calls Tryd.prog 16 #[.slice A2 n2 c2] W fun e w' => e = .returned (.slice none 0 0) ∧ Below W.heap.size W w') := Lib.hid fun W hW => encode_bad A2 n2 c2 L W ((HT2.out.below hW.out).more hW.out.size) q1 HQ2.out hmay
    have CN : Hid (∀ W, Hid (Below w2.heap.size w2 W) → Calls Tryd.prog 17 #[.slice A2 n2 c2] W fun e w' => e = .returned (.bool false) ∧ Below W.heap.size W w') := Lib.hid fun W hW => by
      have := mayAll_any A2 n2 c2 L W ((HT2.out.below hW.out).more hW.out.size) q1 HQ2.out
      rwa [mayAllB_false hmay] at this
    clear CM hmay
    go_wp2_with (first
      | (go_at_call 15; (with_reducible refine CM'.out.mono ?_); rintro e w3 ⟨rfl, hb3⟩; have HB3 := Lib.hid hb3; clear hb3)
      | (go_at_call 16; (with_reducible refine (CE.out w3 HB3).mono ?_); rintro e w4 ⟨rfl, hb4⟩; have HB4 := Lib.hid (HB3.out.trans (hb4.mono HB3.out.size)); clear hb4)
      | (go_at_call 17; (with_reducible refine (CN.out w4 HB4).mono ?_); rintro e w5 ⟨rfl, hb5⟩; have HB5 := Lib.hid (HB4.out.trans (hb5.mono HB4.out.size)); clear hb5))
    go_ret
    exact ⟨rfl, HB2.out.trans (HB5.out.mono HB2.out.size)⟩
  have CM := maytens_any A2 n2 c2 L w2 HT2.out q1 HQ2.out
  rw [mayAllB_true hmay] at CM
  have CM' := Lib.hid CM
  have CE : Hid (∀ W, Hid (Below w2.heap.size w2 W) → Calls Tryd.prog 16 #[.slice A2 n2 c2] W fun e w' => ∃ A' c', e = .returned (.slice A' (encAll (L.map Tv.te)).length c') ∧ Hid (w'.ownsRow W.heap.size 5 1 (.slice A' (encAll (L.map Tv.te)).length c') (encAll (L.map Tv.te)).length (bvs (encAll (L.map Tv.te)))) ∧ (encAll (L.map Tv.te)).length ≤ c' ∧ c' ≤ maxLen ∧ Below W.heap.size W w') := Lib.hid fun W hW => encode_ok A2 n2 c2 L W ((HT2.out.below hW.out).more hW.out.size) q1 HQ2.out hmay
  have CN : Hid (∀ W, Hid (Below w2.heap.size w2 W) → Calls Tryd.prog 17 #[.slice A2 n2 c2] W fun e w' => e = .returned (.bool true) ∧ Below W.heap.size W w') := Lib.hid fun W hW => by
    have := mayAll_any A2 n2 c2 L W ((HT2.out.below hW.out).more hW.out.size) q1 HQ2.out
    rwa [mayAllB_true hmay] at this
  obtain ⟨bs, hbs⟩ : ∃ bs, bs = encAll (L.map Tv.te) := ⟨_, rfl⟩
  have HD : Hid (decAll bs = some (L.map Tv.te)) := Lib.hid (by rw [hbs]; exact decAll_be hmay HIDS.out)
  have hN0 : bs.length ≤ 2317 ∧ 0 < bs.length := ⟨by rw [hbs]; exact encAll_length hmay, by rw [hbs]; unfold encAll; rw [List.length_append, be_length]; omega⟩
  rw [← hbs] at CE
  obtain ⟨N, hN⟩ : ∃ N, N = bs.length := ⟨_, rfl⟩
  rw [← hN] at CE hN0
  obtain ⟨hN1, hN2⟩ := hN0
  have hN3 : ¬ (4080 : Int) < (N : Int) := by omega
  have hN4 : (0 : Int) < (N : Int) := by omega
  have HN := Lib.hid hN
  clear CM hmay hbs hN
  go_upto_region 11 with (first
    | (go_at_call 15; (with_reducible refine CM'.out.mono ?_); rintro e w3 ⟨rfl, hb3⟩; have HB3 := Lib.hid hb3; clear hb3)
    | (go_at_call 16; (with_reducible refine (CE.out w3 HB3).mono ?_); rintro e w4 ⟨A4, c4, rfl, R4, p1, p2, hb4⟩; have P1 := Lib.hid p1; have P2 := Lib.hid p2; have HB34 := Lib.hid hb4; have HB4 := Lib.hid (HB3.out.trans (hb4.mono HB3.out.size)); clear hb4 p1 p2)
    | (go_at_call 17; (with_reducible refine (CN.out w4 HB4).mono ?_); rintro e w5 ⟨rfl, hb5⟩; have B5 := Lib.hid hb5; have HB5 := Lib.hid (HB4.out.trans (hb5.mono HB4.out.size)); clear hb5))
  have hR5 : Row w5 w5.heap.size A4 N (bvs bs) := Row.own (own_all R4.out B5.out)
  have CD := Lib.hid (mandec_any A4 N c4 bs w5 hR5 P1.out P2.out)
  have HR5 := Lib.hid hR5
  clear hR5 CE CM' CN R4 B5 HB34 HB3
  go_upto_region 12 with (first
    | (go_at_call 18; (with_reducible refine CD.out.mono ?_); rintro e w6 (⟨k1, _⟩ | ⟨v6, l6, k1, rfl, k2⟩)
       · have := HD.out; rw [k1] at this; cases this
       have K1 := Lib.hid k1
       have K2 := Lib.hid k2
       clear k1 k2))
  obtain ⟨A6, c6, rfl, q3, q4, hten6⟩ := K2.out.form
  have hl6 : l6.map Tv.te = L.map Tv.te := by have := HD.out; rw [K1.out] at this; exact Option.some.inj this
  have HB6 := Lib.hid (HB5.out.trans (K2.out.below.mono HB5.out.size))
  have CQ := eqtens_any A2 A6 n2 c2 l6.length c6 L l6 w6 ((HT2.out.below HB6.out).more HB6.out.size) hten6 q1 HQ2.out q3 q4
  rw [eqB_true hl6.symm] at CQ
  obtain ⟨n6, hn6⟩ : ∃ n6, n6 = l6.length := ⟨_, rfl⟩
  rw [← hn6] at CQ ⊢
  have CQ' := Lib.hid CQ
  have HR6 := Lib.hid ((HR5.out.below K2.out.below).more K2.out.below.size)
  clear CQ hten6 hl6 hn6 q3 q4 K1 K2 CD
  go_upto_region 14 with (go_at_call 19; (with_reducible refine CQ'.out.mono ?_); rintro e w7 ⟨rfl, hb7⟩; have B7 := Lib.hid hb7; have HB7 := Lib.hid (HB6.out.trans (hb7.mono HB6.out.size)); clear hb7)
  have HR7 := Lib.hid ((HR6.out.below B7.out).more B7.out.size)
  clear CQ' B7 HR6
  by_cases hz0 : 0 ≤ z
  case neg =>
    go_wp2_with fail
    go_ret
    exact ⟨rfl, HB2.out.trans (HB7.out.mono HB2.out.size)⟩
  obtain ⟨a, rfl⟩ : ∃ a : Nat, z = a := ⟨z.toNat, by omega⟩
  obtain ⟨q, hq⟩ : ∃ q, q = a % N := ⟨_, rfl⟩
  have hqN : q < N := by rw [hq]; exact Nat.mod_lt _ hN2
  have hqI : (q : Int) < (N : Int) := by omega
  have hr1 : (a : Int) % (N : Int) = (q : Int) := by rw [hq, Int.natCast_emod]
  have hr2 : (a : Int).tmod (N : Int) = (q : Int) := by rw [hq, Int.tmod_eq_emod_of_nonneg (by omega), Int.natCast_emod]
  have hNn : ¬ (N : Int) = 0 := by omega
  have hNl : N ≤ 1000000 := by omega
  have HNL := Lib.hid hNl
  clear hq
  go_upto_region 16 with (at_builtin; refine Slot.mk_append (Slot.Mk.nil w7) rfl (.const (.slice none 0 0)) (.tmp 66) rfl rfl _ A4 N c4 bs rfl HR7.out N (Nat.zero_add _) HNL.out ?_; intro v8 w8 M8 _)
  obtain ⟨g8, c8, cur, rfl, hg8, hb8, hn8, hm8, hs8, hx8⟩ := own_block M8.out.row hN2
  have HB8 := Lib.hid M8.out.below
  have hx8' : cur.toList.take N = bvs bs := by rw [hx8, List.nil_append]
  obtain ⟨u, hu⟩ : ∃ u, u = bs.getD q 0 := ⟨_, rfl⟩
  have hcu : w8.cell? ⟨g8, q, none⟩ = some (.int .u8 (u.toNat : Int)) := by
    rw [Blk.cell hb8 q, ← Array.getElem?_toList]
    have e : (bvs bs)[q]? = some (bv u) := by
      unfold bvs
      rw [List.getElem?_map, hu, List.getD_eq_getElem?_getD, List.getElem?_eq_getElem (by have := HN.out; omega)]
      rfl
    rw [← hx8', List.getElem?_take, if_pos hqN] at e
    exact e
  have hfu : w8.frozen? ⟨g8, q, none⟩ = false := Blk.free hb8 q
  obtain ⟨d, hd⟩ : ∃ d : UInt8, d = u ^^^ y := ⟨_, rfl⟩
  have hxr : bits .xor .u8 (u.toNat : Int) X = (d.toNat : Int) := by rw [← HY.out, u8_xor_nat _ _ u.toNat_lt y.toNat_lt, hd, UInt8.toNat_xor]
  obtain ⟨w9, hw9⟩ : ∃ w9, w9 = w8.setCell ⟨g8, q, none⟩ (.int .u8 (d.toNat : Int)) := ⟨_, rfl⟩
  have R9 : Hid (w9.ownsRow w7.heap.size 5 1 (.slice (some ⟨g8, 0, none⟩) N c8) N (bvs (bs.set q d))) := by rw [hw9]; exact Lib.hid (own_byte hg8 hb8 hn8 hm8 hs8 hx8' hqN d)
  have HB9 : Hid (Below w7.heap.size w7 w9) := by rw [hw9]; exact Lib.hid (below_only HB8.out (only_setCell w8 ⟨g8, q, none⟩ _) hg8 HB8.out.size)
  have HW9 := Lib.hid hw9
  have HM8 := Lib.hid hm8
  have hm8' : c8 ≤ 9223372036854775807 := by unfold maxLen at hm8; exact hm8
  obtain ⟨bs', hbs'⟩ : ∃ bs', bs' = bs.set q d := ⟨_, rfl⟩
  rw [← hbs'] at R9
  clear M8 hb8 hg8 hs8 hx8 hx8' hu hd hbs' hm8 hw9
  go_upto_region 17 with fail
  rw [← HW9.out]
  have CD2 := Lib.hid (mandec_any (some ⟨g8, 0, none⟩) N c8 bs' w9 (Row.own R9.out) hn8 HM8.out)
  have hRC9 := Row.own R9.out
  have HRC9 := Lib.hid hRC9
  clear hcu hfu hxr hRC9 HW9
  go_upto_region 18 with (first
    | (go_at_call 18; (with_reducible refine CD2.out.mono ?_); rintro e w10 (⟨k1, rfl, k2⟩ | ⟨v10, l10, k1, rfl, k2⟩)))
  · have HB10 := Lib.hid (HB2.out.trans ((HB7.out.trans ((HB9.out.trans (k2.mono HB9.out.size)).mono HB7.out.size)).mono HB2.out.size))
    have HSZ := Lib.hid HB10.out.size
    clear k1 k2
    go_wp2_with fail
    go_quiet (fail)
    go_wp2_with fail
    go_ret
    exact ⟨rfl, HB10.out.trans (below_drewN (Below.refl _ _) _ |>.mono HSZ.out)⟩
  · have HB10 := Lib.hid (HB2.out.trans ((HB7.out.trans ((HB9.out.trans (k2.below.mono HB9.out.size)).mono HB7.out.size)).mono HB2.out.size))
    obtain ⟨e1, e2, _⟩ := decAll_bytes k1
    obtain ⟨A10, c10, rfl, q5, q6, hten10⟩ := k2.form
    have HRC : Hid (Row w10 w10.heap.size (some ⟨g8, 0, none⟩) N (bvs bs')) := Lib.hid ((HRC9.out.below k2.below).more k2.below.size)
    have hNb : bs'.length = N := HRC.out.size
    obtain ⟨s, hs⟩ : ∃ s, s = str bs' := ⟨_, rfl⟩
    have HSS := Lib.hid hs
    obtain ⟨n10, hn10⟩ : ∃ n10, n10 = l10.length := ⟨_, rfl⟩
    rw [← hn10] at hten10 q5 ⊢
    have HT10 := Lib.hid hten10
    have HQ6 := Lib.hid q6
    have CE2 : Hid (∀ W, Hid (Below w10.heap.size w10 W) → Calls Tryd.prog 16 #[.slice A10 n10 c10] W fun e w' => ∃ A' c', e = .returned (.slice A' N c') ∧ Hid (Row w' w'.heap.size A' N (bvs bs')) ∧ Hid (Below W.heap.size W w')) := Lib.hid fun W hW => by
      have := encode_ok A10 n10 c10 l10 W ((HT10.out.below hW.out).more hW.out.size) q5 HQ6.out e2
      rw [e1, hNb] at this
      refine this.mono ?_
      rintro e w' ⟨A', c', rfl, r, _, _, hb⟩
      exact ⟨A', c', rfl, Row.own r.out, hb⟩
    have HBD : Hid (Below w10.heap.size w10 w10.drew) := (Below.refl _ _).drew
    clear k1 k2 e1 e2 hten10 q6 hNb hs hn10
    go_wp2_with fail
    refine wp_region_noPanic ?_
    refine wp_region_held_drew (S := fun W => Hid (Below w10.heap.size w10 W)) (by kernel_rfl) HBD (fun h0 => ?_)
    refine held_take 0 (v := .bool true) (d := (some 83)) rfl rfl (by kernel_rfl) (by kernel_rfl) (by kernel_rfl) (fun _ _ _ h => h) (Or.inl ⟨by rfl, ?_⟩) h0 ?_
    · intro _ _; go_simp; (try with_reducible rfl)
    try simp only [Act.put, List.setIfInBounds_toArray, List.set_cons_zero, List.set_cons_succ]
    refine held_take 1 (v := .bool false) (d := (some 84)) rfl rfl (by kernel_rfl) (by kernel_rfl) (by kernel_rfl) (fun _ _ _ h => h) (Or.inl ⟨by rfl, ?_⟩) h0 ?_
    · intro _ _; go_simp; (try with_reducible rfl)
    try simp only [Act.put, List.setIfInBounds_toArray, List.set_cons_zero, List.set_cons_succ]
    refine held_take 2 (v := .bool false) (d := (some 85)) rfl rfl (by kernel_rfl) (by kernel_rfl) (by kernel_rfl) (fun _ _ _ h => h) (Or.inl ⟨by rfl, ?_⟩) h0 ?_
    · intro _ _; go_simp; (try with_reducible rfl)
    try simp only [Act.put, List.setIfInBounds_toArray, List.set_cons_zero, List.set_cons_succ]
    refine held_take 3 (v := undef) (d := (some 86)) rfl rfl (by kernel_rfl) (by kernel_rfl) (by kernel_rfl) (fun _ _ _ h => h) (Or.inr ⟨by rfl, rfl⟩) h0 ?_
    try simp only [Act.put, List.setIfInBounds_toArray, List.set_cons_zero, List.set_cons_succ]
    refine held_take 4 (v := undef) (d := (some 87)) rfl rfl (by kernel_rfl) (by kernel_rfl) (by kernel_rfl) (fun _ _ _ h => h) (Or.inr ⟨by rfl, rfl⟩) h0 ?_
    try simp only [Act.put, List.setIfInBounds_toArray, List.set_cons_zero, List.set_cons_succ]
    refine held_take 5 (v := undef) (d := (some 88)) rfl rfl (by kernel_rfl) (by kernel_rfl) (by kernel_rfl) (fun _ _ _ h => h) (Or.inr ⟨by rfl, rfl⟩) h0 ?_
    try simp only [Act.put, List.setIfInBounds_toArray, List.set_cons_zero, List.set_cons_succ]
    refine held_take 6 (v := .bool false) (d := (some 89)) rfl rfl (by kernel_rfl) (by kernel_rfl) (by kernel_rfl) (fun _ _ _ h => h) (Or.inl ⟨by rfl, ?_⟩) h0 ?_
    · intro _ _; go_simp; (try with_reducible rfl)
    try simp only [Act.put, List.setIfInBounds_toArray, List.set_cons_zero, List.set_cons_succ]
    refine held_take 7 (v := .bool false) (d := (some 90)) rfl rfl (by kernel_rfl) (by kernel_rfl) (by kernel_rfl) (fun _ _ _ h => h) (Or.inl ⟨by rfl, ?_⟩) h0 ?_
    · intro _ _; go_simp; (try with_reducible rfl)
    try simp only [Act.put, List.setIfInBounds_toArray, List.set_cons_zero, List.set_cons_succ]
    refine held_take 8 (v := .bool true) (d := (some 91)) rfl rfl (by kernel_rfl) (by kernel_rfl) (by kernel_rfl) (fun _ _ _ h => h) (Or.inl ⟨by rfl, ?_⟩) h0 ?_
    · intro _ _; go_simp; (try with_reducible rfl)
    try simp only [Act.put, List.setIfInBounds_toArray, List.set_cons_zero, List.set_cons_succ]
    refine held_take 9 (v := .bool true) (d := (some 92)) rfl rfl (by kernel_rfl) (by kernel_rfl) (by kernel_rfl) (fun _ _ _ h => h) (Or.inl ⟨by rfl, ?_⟩) h0 ?_
    · intro _ _; go_simp; (try with_reducible rfl)
    try simp only [Act.put, List.setIfInBounds_toArray, List.set_cons_zero, List.set_cons_succ]
    refine held_take 10 (v := ?_) (d := (some 93)) rfl rfl (by kernel_rfl) (by kernel_rfl) (by kernel_rfl) (fun _ _ _ h => h) (Or.inl ⟨by rfl, ?_⟩) h0 ?_
    rotate_left
    · intro _ _; go_simp; (try with_reducible rfl)
    try simp only [Act.put, List.setIfInBounds_toArray, List.set_cons_zero, List.set_cons_succ]
    refine held_take 13 (v := ?_) (d := (some 96)) rfl rfl (by kernel_rfl) (by kernel_rfl) (by kernel_rfl) (fun _ _ _ h => h) (Or.inl ⟨by rfl, ?_⟩) h0 ?_
    rotate_left
    · intro _ _; go_simp; (try with_reducible rfl)
    try simp only [Act.put, List.setIfInBounds_toArray, List.set_cons_zero, List.set_cons_succ]
    refine held_take 14 (v := .string s) (d := (some 97)) rfl rfl (by kernel_rfl) (by kernel_rfl) (by kernel_rfl) (fun _ _ _ h => h) (man_yields_conv (by rfl) (.tmp 96) rfl rfl (fun w h => conv_row (c := c8) (HRC.out.below h.out) HSS)) h0 ?_
    try simp only [Act.put, List.setIfInBounds_toArray, List.set_cons_zero, List.set_cons_succ]
    refine wpAnyH_ready (rs := [11]) (by kernel_rfl) (by simp) (AllReadyH.cons rfl (fun K hK => ?_) AllReadyH.nil)
    go_simp
    (with_reducible refine (CE2.out _ h0).mono ?_)
    rintro e w11 ⟨A11, c11, rfl, R11, hb11⟩
    have B11 := Lib.hid (h0.out.trans (hb11.out.mono h0.out.size))
    have cv : (convert 44 9 (.slice A11 N c11)).run Tryd.prog w11 = .ok (.string s) w11 := conv_row R11.out HSS
    clear hb11
    refine hK.out _ _ (B11) (fun h1 => ?_)
    clear hK K
    try simp only [Act.put, List.setIfInBounds_toArray, List.set_cons_zero, List.set_cons_succ]
    refine wpAnyH_ready (rs := [12]) (by kernel_rfl) (by simp) (AllReadyH.cons rfl (fun K hK => ?_) AllReadyH.nil)
    go_simp
    refine hK.out _ _ (h1) (fun h2 => ?_)
    clear hK K
    try simp only [Act.put, List.setIfInBounds_toArray, List.set_cons_zero, List.set_cons_succ]
    refine held_take 15 (v := .bool true) (d := (some 98)) rfl rfl (by kernel_rfl) (by kernel_rfl) (by kernel_rfl) (fun _ _ _ h => h) (Or.inl ⟨by rfl, ?_⟩) h2 ?_
    · intro _ _; go_simp; (try with_reducible rfl)
    try simp only [Act.put, List.setIfInBounds_toArray, List.set_cons_zero, List.set_cons_succ]
    refine held_take 16 (v := .bool true) (d := (some 99)) rfl rfl (by kernel_rfl) (by kernel_rfl) (by kernel_rfl) (fun _ _ _ h => h) (Or.inl ⟨by rfl, ?_⟩) h2 ?_
    · intro _ _; go_simp; (try with_reducible rfl)
    try simp only [Act.put, List.setIfInBounds_toArray, List.set_cons_zero, List.set_cons_succ]
    refine held_take 17 (v := .bool true) (d := (some 100)) rfl rfl (by kernel_rfl) (by kernel_rfl) (by kernel_rfl) (fun _ _ _ h => h) (Or.inl ⟨by rfl, ?_⟩) h2 ?_
    · intro _ _; go_simp; (try with_reducible rfl)
    try simp only [Act.put, List.setIfInBounds_toArray, List.set_cons_zero, List.set_cons_succ]
    refine held_take 18 (v := ?_) (d := (some 6)) rfl rfl (by kernel_rfl) (by kernel_rfl) (by kernel_rfl) (fun _ _ _ h => h) (Or.inl ⟨by rfl, ?_⟩) h2 ?_
    rotate_left
    · intro _ _; go_simp; (try with_reducible rfl)
    try simp only [Act.put, List.setIfInBounds_toArray, List.set_cons_zero, List.set_cons_succ]
    refine wpAnyH_done (by kernel_rfl) ?_ _
    refine NoPanic.normal ?_
    go_wp2_with fail
    go_ret
    exact ⟨rfl, HB10.out.trans (h2.out.mono HB10.out.size)⟩
end Go.Proofs.YtcmlchicpmnhdaaDoor.Man
