/-
  Texts one behind the other: ManMany.
-/
import Derived.Lib.MinMax
import Derived.Test.YtcmlchicpmnhdaaDoorG37
/-
  Proved: ManifestMany returns true, whatever it is handed.
-/
namespace Go.Proofs.YtcmlchicpmnhdaaDoor.Man
open Go.RowKit Go.Proofs.YtcmlchicpmnhdaaDoor.Rec Go.Proofs.YtcmlchicpmnhdaaDoor.Ten Go.Proofs.YtcmlchicpmnhdaaDoor.Disk
open Go.Proofs.YtcmlchicpmnhdaaDoor.Crc (Turned)
open Go.Proofs.YtcmlchicpmnhdaaDoor.Slot (Sf Up SG Stp laidB)
open Go.Proofs.YtcmlchicpmnhdaaDoor.Seg (Fr ptr mark_old mark_top free_fr)
set_option linter.unusedVariables false
set_option linter.unusedSimpArgs false

/-- The tenants that were put, so many of them. -/
def manyL (i : Nat) : List Te := (List.range i).map fun j => oneTe (11 - i + j)
theorem many_put : ∀ i, i < 6 → put (oneTe (10 - i)) false (manyL i) = manyL (i + 1) := by
  intro i hi
  rcases (by omega : i = 0 ∨ i = 1 ∨ i = 2 ∨ i = 3 ∨ i = 4 ∨ i = 5) with rfl | rfl | rfl | rfl | rfl | rfl <;> rfl
theorem many_full : ∀ i, i < 10 → 6 ≤ i → 6 < (put (oneTe (10 - i)) false (manyL 6)).length := by decide
theorem many_may : ∀ i, i < 7 → May (manyL i) := by decide +kernel
/-- So many tenants, whose Ids are the ten and those ahead of it. -/
structure Ring (L : List Te) (k : Nat) : Prop where
  may : May L
  ids : L.map (·.id) = (List.range k).map (fun j => 11 - k + j)
theorem ring_many {k : Nat} (h : k ≤ 6) : Ring (manyL k) k := ⟨many_may k (by omega), by unfold manyL; rw [List.map_map]; rfl⟩
theorem Ring.len {L : List Te} {k : Nat} (h : Ring L k) : L.length = k := by
  have := congrArg List.length h.ids
  simpa using this
theorem Ring.at {L : List Te} {k i : Nat} (h : Ring L k) (hi : i < L.length) : (L[i]).id = 11 - k + i := by
  have h1 : (L.map (·.id))[i]? = ((List.range k).map (fun j => 11 - k + j))[i]? := by rw [h.ids]
  rw [List.getElem?_map, List.getElem?_map, List.getElem?_eq_getElem hi, List.getElem?_range (by rw [← h.len]; exact hi)] at h1
  simpa using h1
theorem may_unique {L : List Te} (h : May L) {a b : Te} (ha : a ∈ L) (hb : b ∈ L) (e : a.id = b.id) : a = b := by
  have hr := may_rises h
  obtain ⟨i, hi, rfl⟩ := List.getElem_of_mem ha
  obtain ⟨j, hj, rfl⟩ := List.getElem_of_mem hb
  unfold Rises at hr
  rw [List.pairwise_iff_getElem] at hr
  by_cases h1 : i < j
  · have := hr i j hi hj h1; omega
  · by_cases h2 : j < i
    · have := hr j i hj hi h2; omega
    · obtain rfl : i = j := by omega
      rfl
theorem Ring.put {L : List Te} {k r : Nat} {t : Te} (h : Ring L k) (hr : r < k) (hk : k ≤ 6) (ht : t.id = 10 - r) : ∃ i, i < L.length ∧ Ten.put t false L = L.set i t ∧ ∀ hi : i < L.length, (L[i]).id = t.id := by
  have hl := h.len
  have hi : k - 1 - r < L.length := by omega
  have he := h.at hi
  have hid : (L[k - 1 - r]).id = t.id := by rw [he, ht]; omega
  refine ⟨k - 1 - r, hi, put_set (may_rises h.may) (fun x hx => ?_) hi hid, fun _ => hid⟩
  obtain ⟨j, hj, rfl⟩ := List.getElem_of_mem hx
  rw [List.length_take] at hj
  rw [List.getElem_take, h.at (by omega), ht]
  omega
theorem may_set {L : List Te} {i : Nat} {t : Te} (h : May L) (hi : i < L.length) (hid : (L[i]).id = t.id) (ht : t.May) : May (L.set i t) := by
  refine ⟨by rw [List.length_set]; exact h.1, fun j hj => ?_⟩
  rw [List.length_set] at hj
  have hg : ∀ q, ((L.set i t).getD q zeroTe).id = (L.getD q zeroTe).id := fun q => by
    rw [List.getD_eq_getElem?_getD, List.getD_eq_getElem?_getD, List.getElem?_set]
    by_cases e : i = q
    · subst e
      rw [if_pos rfl, if_pos hi, List.getElem?_eq_getElem hi]
      exact hid.symm
    · rw [if_neg e]
  refine ⟨fun h0 => by rw [hg, hg]; exact (h.2 j hj).1 h0, ?_⟩
  rw [List.getD_eq_getElem?_getD, List.getElem?_set]
  by_cases e : i = j
  · rw [if_pos e, if_pos (by omega)]; exact ht
  · rw [if_neg e, ← List.getD_eq_getElem?_getD]; exact (h.2 j hj).2
theorem not_may_set {L : List Te} {i : Nat} {t : Te} (hi : i < L.length) (ht : ¬ t.May) : ¬ May (L.set i t) := fun h => ht (may_mem h t (List.mem_set hi t))
theorem Ring.set {L : List Te} {k i : Nat} {t : Te} (h : Ring L k) (hi : i < L.length) (hid : (L[i]).id = t.id) (ht : t.May) : Ring (L.set i t) k := by
  refine ⟨may_set h.may hi hid ht, ?_⟩
  rw [← h.ids, List.map_set]
  refine List.ext_getElem (by rw [List.length_set]) fun j h1 h2 => ?_
  rw [List.getElem_set]
  split
  · rename_i e
    subst e
    rw [List.getElem_map]
    exact hid.symm
  · rfl
theorem Ring.has {L : List Te} {k r : Nat} (h : Ring L k) (hr : r < k) (hk : k ≤ 6) : ∃ t ∈ L, t.id = 10 - r := by
  have hl := h.len
  have hi : k - 1 - r < L.length := by omega
  exact ⟨_, List.getElem_mem hi, by rw [h.at hi]; omega⟩
def quoTe (id : Nat) (q : Int) : Te := { oneTe id with quota := q }
theorem quo_may {id : Nat} {q : Int} : (quoTe id q).May ↔ 1000 ≤ q ∧ q ≤ 65536 := by
  have h := one_may id
  constructor
  · intro hh
    exact ⟨hh.1.2.2.2.2.1, hh.1.2.2.2.2.2.1⟩
  · rintro ⟨h1, h2⟩
    obtain ⟨a, b, c, d, _, _, e, f, g⟩ := h.1
    exact ⟨⟨a, b, c, d, h1, h2, e, f, g⟩, h.2⟩
theorem quo_ok {id : Nat} {q : Int} (h : id < 4294967296) (hq : -9223372036854775808 ≤ q ∧ q ≤ 9223372036854775807) : (quoTe id q).Ok := by
  have := one_ok h
  exact ⟨this.id, this.epoch, hq, this.next, this.nextSeg, this.segs⟩
theorem ten_quota {w : World} {g : Nat} {x : Tv} {q : Int} (h : TenAt w g x) : TenAt (w.setCell ⟨g, 2, none⟩ (.int .i64 q)) g ⟨{ x.te with quota := q }, x.A, x.c⟩ := Blk.put h 2 (.int .i64 q)
set_option maxRecDepth 100000 in
set_option maxHeartbeats 16000000 in
theorem manifestMany_walk (z : Int) (A : Option Addr) (lq cq : Nat) (zs : List Int) (w : World) (hT : Turned w) (hz : -9223372036854775808 ≤ z ∧ z ≤ 9223372036854775807) (hQ : Row w w.heap.size A lq (ivs zs)) (hlq : lq ≤ cq) (hcq : cq ≤ maxLen) (hzb : ∀ i, -9223372036854775808 ≤ zs.getD i 0 ∧ zs.getD i 0 ≤ 9223372036854775807) :
    Calls Tryd.prog 3 #[.int .i64 z, .slice A lq cq] w fun e w' => e = .returned (.bool true) ∧ Below w.heap.size w w' := by
  have hcm : cq ≤ 9223372036854775807 := by unfold maxLen at hcq; exact hcq
  have HT := Lib.hid hT
  have HBEG := Lib.hid (manbegun_any w hT)
  have HQ := Lib.hid hQ
  have HZB := Lib.hid hzb
  clear hT hQ hcq hzb
  by_cases hbad : z < 0 ∨ 10 < z
  case pos =>
    go_enter Tryd.func3, Tryd.ntmps3
    go_upto_region 4 with (go_at_call 7; (with_reducible refine HBEG.out.mono ?_); rintro e w1 ⟨rfl, hb1⟩; have HB1 := Lib.hid hb1; clear hb1)
    by_cases h1 : z < 0
    · go_wp2_with fail
      go_ret
      exact ⟨rfl, HB1.out⟩
    have h4 : 10 < z := by omega
    go_wp2_with fail
    go_ret
    exact ⟨rfl, HB1.out⟩
  obtain ⟨n, rfl⟩ : ∃ n : Nat, z = n := ⟨z.toNat, by omega⟩
  have hn10 : n ≤ 10 := by omega
  have g1 : ¬ (n : Int) < 0 := by omega
  have g2 : ¬ 10 < (n : Int) := by omega
  have HN10 := Lib.hid hn10
  clear hbad
  go_enter Tryd.func3, Tryd.ntmps3
  go_upto_region 6 with (go_at_call 7; (with_reducible refine HBEG.out.mono ?_); rintro e w1 ⟨rfl, hb1⟩; have HB1 := Lib.hid hb1; clear hb1)
  have CN := Lib.hid (new_held 100000 w1)
  rw [show room 100000 = 100000 by decide] at CN
  have HT1 := Lib.hid (turned_below HT.out HB1.out rfl)
  clear g1 g2 HBEG
  go_upto_region 7 with (go_at_call 8; refine CN.out.mono ?_; rintro e w2 ⟨own2, f, rfl, hd2⟩)
  have CC : Hid (Calls Tryd.prog 9 #[.pointer (some ⟨f, 0, none⟩)] w2 fun e w' => ∃ m sf own' x, e = .returned (.tuple #[.pointer (some ⟨m, 0, none⟩), .int .i64 0]) ∧ MUp own' w1 w' m ⟨f, sf, sMAN, 0, 1, encAll [], 1, true⟩ x 5 [] ∧ Stp own2 own' f w2 w') :=
    mancreate_up HT1.out hd2 (Slot.new_bare _) (Slot.new_arm _) (by decide) (by decide)
  clear hd2 CN
  go_upto_region 10 with (go_at_call 9; (with_reducible refine CC.out.mono ?_); rintro e w3 ⟨m, sf, own3, x3, rfl, hu3, _⟩; have HU3 := Lib.hid hu3; clear hu3)
  clear CC
  go_wp2_with fail
  go_loopw [9] (fun iv wr => ∃ (i K : Nat) (own' : Own) (v : Sf) (x : Fl), iv = .int .i64 (i : Int) ∧ i ≤ n ∧ v.turn ≤ 1 + i ∧ K ≤ 5 + 2 * i ∧ Hid (MUp own' w1 wr m v x K (manyL (min i 6)))) (fun iv _ => n - (RowKit.intOf iv).toNat)
  case atStart => exact ⟨0, 5, own3, _, x3, rfl, Nat.zero_le _, Nat.le_refl _, Nat.le_refl _, HU3⟩
  case round =>
    obtain ⟨i, K, own', v, x, rfl, hi, hvt, hK, HU⟩ := hrel
    by_cases hlt : i < n
    case pos =>
      have hlt' : (i : Int) < (n : Int) := by omega
      obtain ⟨id, hid⟩ : ∃ id, id = 10 - i := ⟨_, rfl⟩
      have hidI : (10 : Int) - (i : Int) = (id : Int) := by omega
      have hidb : id < 4294967296 := by omega
      have CO := Lib.hid (one_any id wr hidb)
      have HID := Lib.hid hid
      by_cases h6 : i < 6
      · have h6' : (i : Int) < 6 := by omega
        have CP : Hid (∀ W (t : Tv), Hid (t.te = oneTe id ∧ t.te.Ok ∧ t.In W W.heap.size) → Hid (Below wr.heap.size wr W) → Calls Tryd.prog 10 #[.pointer (some ⟨m, 0, none⟩), .agg t.vals] W fun e w' => e = .returned (.int .i64 0) ∧ ∃ own2 v2 x2 K2, Hid (MUp own2 w1 w' m v2 x2 K2 (manyL (min (i + 1) 6))) ∧ v2.turn ≤ v.turn + 1 ∧ K2 ≤ K + 2) := Lib.hid fun W t ht hb => by
          obtain ⟨h1, h2, h3⟩ := ht.out
          have hput : put t.te false (manyL (min i 6)) = manyL (min (i + 1) 6) := by rw [h1, HID.out, Nat.min_eq_left (by omega), Nat.min_eq_left (by omega)]; exact many_put i h6
          have hmay : May (manyL (min (i + 1) 6)) := many_may _ (by omega)
          refine (manput_up HT1.out (HU.out.all hb.out) (by omega) (by omega) h2 h3 (manyL (min (i + 1) 6)) hput.symm).mono ?_
          rintro e w' ⟨er, rfl, own2, v2, x2, K2, L2, k1, k2, k3, k4, k5, k6, ⟨k7, _⟩ | ⟨_, k7, _⟩ | ⟨_, rfl, rfl⟩⟩
          · exact absurd hmay.1 (by omega)
          · exact absurd hmay k7
          · exact ⟨rfl, own2, v2, x2, K2, Lib.hid k1, k5, k6⟩
        clear hid
        go_wp2_with (first
          | (go_at_call 11; (with_reducible refine CO.out.mono ?_); rintro e w4 ⟨t4, rfl, HX4, HB4⟩)
          | (go_at_call 10; (with_reducible refine (CP.out w4 t4 HX4 HB4).mono ?_); rintro e w5 ⟨rfl, own5, v5, x5, K5, HU5, ht5, hk5⟩))
        go_roundw
        case rel => exact ⟨i + 1, K5, own5, v5, x5, by go_num, by omega, by omega, by omega, HU5⟩
        case measure => (simp [RowKit.intOf]; omega)
      · have h6' : ¬ (i : Int) < 6 := by omega
        have h6'' : (6 : Int) ≤ (i : Int) := by omega
        have CP : Hid (∀ W (t : Tv), Hid (t.te = oneTe id ∧ t.te.Ok ∧ t.In W W.heap.size) → Hid (Below wr.heap.size wr W) → Calls Tryd.prog 10 #[.pointer (some ⟨m, 0, none⟩), .agg t.vals] W fun e w' => e = .returned (.int .i64 2) ∧ ∃ own2 v2 x2 K2, Hid (MUp own2 w1 w' m v2 x2 K2 (manyL (min (i + 1) 6))) ∧ v2.turn ≤ v.turn + 1 ∧ K2 ≤ K + 2) := Lib.hid fun W t ht hb => by
          obtain ⟨h1, h2, h3⟩ := ht.out
          have hfull : 6 < (put t.te false (manyL (min i 6))).length := by rw [h1, HID.out, Nat.min_eq_right (by omega)]; exact many_full i (by omega) (by omega)
          refine (manput_up HT1.out (HU.out.all hb.out) (by omega) (by omega) h2 h3 _ rfl).mono ?_
          rintro e w' ⟨er, rfl, own2, v2, x2, K2, L2, k1, k2, k3, k4, k5, k6, ⟨_, rfl, rfl⟩ | ⟨k7, _⟩ | ⟨k7, _⟩⟩
          · refine ⟨rfl, own2, v2, x2, K2, ?_, k5, k6⟩
            rw [show min (i + 1) 6 = min i 6 by omega]
            exact Lib.hid k1
          · omega
          · have := k7.1; omega
        clear hid h6
        go_wp2_with (first
          | (go_at_call 11; (with_reducible refine CO.out.mono ?_); rintro e w4 ⟨t4, rfl, HX4, HB4⟩)
          | (go_at_call 10; (with_reducible refine (CP.out w4 t4 HX4 HB4).mono ?_); rintro e w5 ⟨rfl, own5, v5, x5, K5, HU5, ht5, hk5⟩))
        go_roundw
        case rel => exact ⟨i + 1, K5, own5, v5, x5, by go_num, by omega, by omega, by omega, HU5⟩
        case measure => (simp [RowKit.intOf]; omega)
    case neg =>
    obtain rfl : i = n := by omega
    obtain ⟨k, hk⟩ : ∃ k, k = min i 6 := ⟨_, rfl⟩
    have hkI : min (i : Int) 6 = (k : Int) := by omega
    have hk6 : k ≤ 6 := by omega
    rw [← hk] at HU
    have HR0 : Hid (Ring (manyL k) k) := Lib.hid (ring_many hk6)
    have hvt2 : v.turn ≤ 11 := by omega
    have hK2 : K ≤ 25 := by omega
    clear hk hvt hK hi hlt
    go_wp2_with fail
    go_loopw [12] (fun iv wr => ∃ (i K : Nat) (own' : Own) (v : Sf) (x : Fl) (L : List Te), iv = .int .i64 (i : Int) ∧ i ≤ 20 ∧ v.turn ≤ 11 + i ∧ K ≤ 25 + 2 * i ∧ Hid (MUp own' w1 wr m v x K L) ∧ Hid (Ring L k)) (fun iv _ => 20 - (RowKit.intOf iv).toNat)
    case atStart => exact ⟨0, K, own', v, x, manyL k, rfl, Nat.zero_le _, hvt2, hK2, HU, HR0⟩
    case round =>
      clear HU HR0 hvt2 hK2 HU3
      obtain ⟨i, K, own', v, x, L, rfl, hi, hvt, hK, HU, HR⟩ := hrel
      obtain ⟨t, ht⟩ : ∃ t, t = decide (i < lq ∧ i < 20 ∧ 0 < k) := ⟨_, rfl⟩
      have HTT := Lib.hid ht
      clear ht
      go_upto_region 18 with fail
      go_cut [75] (fun v w' => v = .bool t ∧ wr = w')
      case first =>
        by_cases h1 : i < lq
        · have h1' : (i : Int) < (lq : Int) := by omega
          by_cases h2 : i < 20
          · have h2' : (i : Int) < 20 := by omega
            by_cases h3 : 0 < k
            · have h3' : (0 : Int) < (k : Int) := by omega
              go_wp2_with fail
              go_meet
              case rel => exact ⟨by rw [HTT.out, decide_eq_true ⟨h1, h2, h3⟩], rfl⟩
            · have h3' : ¬ (0 : Int) < (k : Int) := by omega
              go_wp2_with fail
              go_meet
              case rel => exact ⟨by rw [HTT.out, decide_eq_false (fun h => by omega)], rfl⟩
          · have h2' : ¬ (i : Int) < 20 := by omega
            go_wp2_with fail
            go_meet
            case rel => exact ⟨by rw [HTT.out, decide_eq_false (fun h => by omega)], rfl⟩
        · have h1' : ¬ (i : Int) < (lq : Int) := by omega
          go_wp2_with fail
          go_meet
          case rel => exact ⟨by rw [HTT.out, decide_eq_false (fun h => by omega)], rfl⟩
      case rest =>
      obtain ⟨rfl, rfl⟩ := hcut
      cases t with
      | true =>
        obtain ⟨hin, hi20, hk0⟩ := of_decide_eq_true HTT.out.symm
        have hinI : (i : Int) < (lq : Int) := by omega
        obtain ⟨r, hr⟩ : ∃ r, r = i % k := ⟨_, rfl⟩
        have hrk : r < k := by rw [hr]; exact Nat.mod_lt _ hk0
        have hr1 : (i : Int) % (k : Int) = (r : Int) := by rw [hr, Int.natCast_emod]
        have hr2 : (i : Int).tmod (k : Int) = (r : Int) := by rw [hr, Int.tmod_eq_emod_of_nonneg (by omega), Int.natCast_emod]
        have hkn : ¬ (k : Int) = 0 := by omega
        obtain ⟨id, hid⟩ : ∃ id, id = 10 - r := ⟨_, rfl⟩
        have hidI : (10 : Int) - (r : Int) = (id : Int) := by omega
        have hidb : id < 4294967296 := by omega
        have CO := Lib.hid (one_any id wr hidb)
        obtain ⟨b, o, rfl, hb, hqc⟩ := HQ.out.int (by omega)
        obtain ⟨q, hq⟩ : ∃ q, q = zs.getD i 0 := ⟨_, rfl⟩
        have hqb : -9223372036854775808 ≤ q ∧ q ≤ 9223372036854775807 := by rw [hq]; exact HZB.out i
        have HQC : Hid (∀ W, Below w.heap.size w W → W.cell? ⟨b, o + i, none⟩ = some (.int .i64 q)) := Lib.hid fun W hW => by
          have := hqc i hin
          rw [← hq] at this
          exact (hW.cell (p := ⟨b, o + i, none⟩) hb).trans this
        have HWR : Hid (Below w.heap.size w wr) := Lib.hid (HB1.out.trans (HU.out.below.mono HB1.out.size))
        have HBL : Hid (b < w.heap.size) := Lib.hid hb
        have HID := Lib.hid hid
        have HTOP := Lib.hid HU.out.top
        have HQB := Lib.hid hqb
        clear hqc hq hr hid
        go_upto_region 21 with (first
          | (go_at_call 11; (with_reducible refine CO.out.mono ?_); rintro e w4 ⟨t4, rfl, HX4, HB4⟩)
          | (refine store_ten (ten_zero w4) rfl rfl (.tmp 13) (.tmp 83) rfl rfl t4 rfl rfl ?_; intro w5 X5 G5))
        have HBA := Lib.hid (below_only (below_alloc w4 (.cells #[.int .u32 0, .int .u64 0, .int .i64 0, .int .u64 0, .int .i64 0, .slice none 0 0] 34)) G5.out (Nat.le_refl _) (by simp))
        have HR5 := Lib.hid (HB4.out.trans (HBA.out.mono HB4.out.size))
        obtain ⟨qb, hqb9⟩ : ∃ qb, qb = w4.heap.size := ⟨_, rfl⟩
        have HGE : Hid (wr.heap.size ≤ qb) := Lib.hid (by rw [hqb9]; exact HB4.out.size)
        rw [← hqb9] at X5 ⊢
        have HW5 := Lib.hid (HWR.out.trans (HR5.out.mono HWR.out.size))
        have yq5 := HQC.out w5 HW5.out
        have f5 := Blk.free X5.out 2
        have y5 := X5.out.cells.2.2.1
        obtain ⟨w6, hw6⟩ : ∃ w6, w6 = w5.setCell ⟨qb, 2, none⟩ (.int .i64 q) := ⟨_, rfl⟩
        have X6 : Hid (TenAt w6 qb ⟨quoTe id q, t4.A, t4.c⟩) := Lib.hid (by
          have := ten_quota (q := q) X5.out
          rw [HX4.out.1, ← hw6] at this
          exact this)
        have G6 : Hid (w5.grownBy w6 (some qb)) := Lib.hid (by rw [hw6]; exact only_setCell w5 ⟨qb, 2, none⟩ _)
        have HR6 := Lib.hid (below_only HR5.out G6.out HGE.out HR5.out.size)
        have HIN : Hid ((⟨quoTe id q, t4.A, t4.c⟩ : Tv).In w6 w6.heap.size) := Lib.hid (by
          have hb6 : Below w4.heap.size w4 w6 := below_only HBA.out G6.out (Nat.le_of_eq hqb9.symm) HBA.out.size
          have h := HX4.out.2.2
          have e : t4.te.segs = (quoTe id q).segs := by rw [HX4.out.1]; rfl
          have := (h.below hb6).more hb6.size
          exact ⟨by have h1 := this.row; rw [e] at h1; exact h1, by have h1 := this.cap; rw [e] at h1; exact h1, this.most⟩)
        have HW6 := Lib.hid (HWR.out.trans (HR6.out.mono HWR.out.size))
        have HU6 := Lib.hid (HU.out.all HR6.out)
        have HFQ : Hid (own' qb = none) := Lib.hid (by
          cases ho : own' qb with
          | none => rfl
          | some p => have := HTOP.out _ _ ho; have := HGE.out; omega)
        have HW66 := Lib.hid hw6
        clear hqb9 hw6 CO
        go_upto_region 22 with fail
        rw [← HW66.out]
        have yq6 := HQC.out w6 HW6.out
        clear yq5 y5 f5 HBA HR5 HX4 HB4 X5 G5 G6 HW66
        obtain ⟨ok, hok⟩ : ∃ ok, ok = decide (1000 ≤ q ∧ q ≤ 65536) := ⟨_, rfl⟩
        have HOK := Lib.hid hok
        clear hok
        go_cut [14] (fun u w' => u = .bool ok ∧ w6 = w')
        case first =>
          by_cases hq1 : 1000 ≤ q
          · by_cases hq2 : q ≤ 65536
            · go_wp2_with fail
              go_meet
              case rel => exact ⟨by rw [HOK.out, decide_eq_true ⟨hq1, hq2⟩], rfl⟩
            · go_wp2_with fail
              go_meet
              case rel => exact ⟨by rw [HOK.out, decide_eq_false (fun h => by omega)], rfl⟩
          · go_wp2_with fail
            go_meet
            case rel => exact ⟨by rw [HOK.out, decide_eq_false (fun h => by omega)], rfl⟩
        case rest =>
        obtain ⟨rfl, rfl⟩ := hcut
        have CP : Hid (Calls Tryd.prog 10 #[.pointer (some ⟨m, 0, none⟩), .agg (Tv.vals ⟨quoTe id q, t4.A, t4.c⟩)] w6 fun e w' => e = .returned (.int .i64 (if ok = true then 0 else 5)) ∧ ∃ own2 v2 x2 K2 L2, Hid (MUp own2 w1 w' m v2 x2 K2 L2) ∧ v2.turn ≤ v.turn + 1 ∧ K2 ≤ K + 2 ∧ Hid (Ring L2 k) ∧ Hid (ok = true → quoTe id q ∈ L2) ∧ Hid (Fr own' own2 w6 w')) := Lib.hid (by
          obtain ⟨j, hj, hput, hidj⟩ := HR.out.put (t := quoTe id q) hrk hk6 (by show id = _; exact HID.out)
          refine (manput_up HT1.out HU6.out (by omega) (by omega) (quo_ok hidb HQB.out) HIN.out (L.set j (quoTe id q)) hput.symm).mono ?_
          rintro e w' ⟨er, rfl, own2, v2, x2, K2, L2, k1, k2, k3, k4, k5, k6, ⟨k7, _⟩ | ⟨_, k7, rfl, rfl⟩ | ⟨k7, rfl, rfl⟩⟩
          · rw [List.length_set, HR.out.len] at k7; omega
          · have hno : ok = false := by
              cases ok with
              | false => rfl
              | true => exact absurd (may_set HR.out.may hj (hidj hj) (quo_may.2 (of_decide_eq_true HOK.out.symm))) k7
            exact ⟨by rw [hno]; rfl, own2, v2, x2, K2, L2, Lib.hid k1, k5, k6, HR, Lib.hid (fun h => by rw [hno] at h; cases h), Lib.hid k2⟩
          · have hyes : (quoTe id q).May := may_mem k7 _ (List.mem_set hj _)
            have hy : ok = true := by rw [HOK.out]; exact decide_eq_true (quo_may.1 hyes)
            exact ⟨by rw [hy]; rfl, own2, v2, x2, K2, _, Lib.hid k1, k5, k6, Lib.hid (HR.out.set hj (hidj hj) hyes), Lib.hid (fun _ => List.mem_set hj _), Lib.hid k2⟩)
        go_upto_region 24 with (first
          | (refine load_ten X6.out rfl (.tmp 13) rfl rfl ?_)
          | (go_at_call 10; (with_reducible refine CP.out.mono ?_); rintro e w7 ⟨rfl, own7, v7, x7, K7, L7, HU7, ht7, hk7, HR7, HIN7, HF7⟩))
        have X7 : Hid (TenAt w7 qb ⟨quoTe id q, t4.A, t4.c⟩) := Lib.hid ((HF7.out.block qb X6.out.lt HFQ.out).trans X6.out)
        have y70 : w7.cell? ⟨qb, 0, none⟩ = some (.int .u32 (id : Int)) := X7.out.cells.1
        have CG := Lib.hid (manget_any id HU7.out.up.lies HU7.out.man HU7.out.txt)
        have HNONE : Hid (¬ ∀ t ∈ L7, t.id ≠ id) := Lib.hid (fun h => by
          obtain ⟨t, ht, he⟩ := HR7.out.has hrk hk6
          exact h t ht (by rw [he, HID.out]))
        have HW7 : Hid (Below w.heap.size w w7) := Lib.hid (HB1.out.trans (HU7.out.below.mono HB1.out.size))
        clear CP yq6 X6 HU6
        cases ok with
        | true =>
          go_upto_region 27 with (first
            | (go_at_call 12; (with_reducible refine CG.out.mono ?_); rintro e w8 (⟨x8, rfl, h8a, h8b, _, _, h8c⟩ | ⟨_, h8, _⟩)
               rotate_left
               · exact absurd h8 HNONE.out
               have H8 : Hid (x8.te = quoTe id q) := Lib.hid (may_unique HR7.out.may h8a (HIN7.out rfl) (by rw [h8b]; rfl))
               have HB8 := Lib.hid h8c
               clear h8a h8b h8c)
            | (refine store_ten (ten_zero w8) rfl rfl (.tmp 16) (.tmp 122) rfl rfl x8 rfl rfl ?_; intro w9 X9 G9))
          have HB9 := Lib.hid (HB8.out.trans ((below_only (below_alloc w8 (.cells #[.int .u32 0, .int .u64 0, .int .i64 0, .int .u64 0, .int .i64 0, .slice none 0 0] 34)) G9.out (Nat.le_refl _) (by simp)).mono HB8.out.size))
          obtain ⟨xb, hxb⟩ : ∃ xb, xb = w8.heap.size := ⟨_, rfl⟩
          rw [← hxb] at X9 ⊢
          have y92 := X9.out.cells.2.2.1
          rw [H8.out] at y92
          have y92' : w9.cell? ⟨xb, 2, none⟩ = some (.int .i64 q) := y92
          have HW9 := Lib.hid (HW7.out.trans (HB9.out.mono HW7.out.size))
          have yq9 := HQC.out w9 HW9.out
          have HU9 := Lib.hid (HU7.out.all HB9.out)
          clear y92 hxb G9 y70
          go_quiet (fail)
          go_wp2_with fail
          go_roundw
          case rel => exact ⟨i + 1, K7, own7, v7, x7, L7, by go_num, by omega, by omega, by omega, Lib.hid (HU9.out.all (below_drewN (Below.refl _ _) _)), HR7⟩
          case measure => (simp [RowKit.intOf]; omega)
        | false =>
          go_upto_region 27 with (first
            | (go_at_call 12; (with_reducible refine CG.out.mono ?_); rintro e w8 (⟨x8, rfl, h8a, h8b, _, _, h8c⟩ | ⟨_, h8, _⟩)
               rotate_left
               · exact absurd h8 HNONE.out
               have HB8 := Lib.hid h8c
               clear h8a h8b h8c)
            | (refine store_ten (ten_zero w8) rfl rfl (.tmp 16) (.tmp 122) rfl rfl x8 rfl rfl ?_; intro w9 X9 G9))
          have HB9 := Lib.hid (HB8.out.trans ((below_only (below_alloc w8 (.cells #[.int .u32 0, .int .u64 0, .int .i64 0, .int .u64 0, .int .i64 0, .slice none 0 0] 34)) G9.out (Nat.le_refl _) (by simp)).mono HB8.out.size))
          have HU9 := Lib.hid (HU7.out.all HB9.out)
          clear G9 y70
          go_quiet (fail)
          go_wp2_with fail
          go_roundw
          case rel => exact ⟨i + 1, K7, own7, v7, x7, L7, by go_num, by omega, by omega, by omega, Lib.hid (HU9.out.all (below_drewN (Below.refl _ _) _)), HR7⟩
          case measure => (simp [RowKit.intOf]; omega)
      | false =>
        have CA := Lib.hid (manall_any HU.out.up.lies HU.out.man HU.out.txt)
        have HWR : Hid (Below w.heap.size w wr) := Lib.hid (HB1.out.trans (HU.out.below.mono HB1.out.size))
        have HRI := Lib.hid (may_rises HR.out.may)
        have HLK := Lib.hid HR.out.len
        clear HU HTT
        go_upto_region 30 with (go_at_call 13; (with_reducible refine CA.out.mono ?_); rintro e w4 ⟨va, l, rfl, hl, hto⟩; have HL := Lib.hid hl; have HTO := Lib.hid hto; clear hl hto)
        obtain ⟨A4, c4, rfl, q1, q2, hten⟩ := HTO.out.form
        have hlk : l.length = k := by have := HLK.out; rw [← HL.out, List.length_map] at this; exact this
        rw [hlk] at q1 hten ⊢
        have HTE := Lib.hid hten
        have HRL : Hid (Rises (l.map Tv.te)) := Lib.hid (by rw [HL.out]; exact HRI.out)
        have HB4 := Lib.hid (HWR.out.trans (HTO.out.below.mono HWR.out.size))
        have hc4 : c4 ≤ 9223372036854775807 := by unfold maxLen at q2; exact q2
        have HLL := Lib.hid hlk
        clear hten hlk q2 CA
        go_wp2_with fail
        go_loopw [19] (fun jv wz => ∃ (j : Nat), jv = .int .i64 (j : Int) ∧ 1 ≤ j ∧ j ≤ k + 1 ∧ Hid (Below w4.heap.size w4 wz)) (fun jv _ => k + 1 - (RowKit.intOf jv).toNat)
        case atStart => exact ⟨1, rfl, Nat.le_refl _, by omega, Below.refl _ _⟩
        case round =>
          obtain ⟨j, rfl, hj1, hjk, HBZ⟩ := hrel
          have HBN := Lib.hid (HB4.out.trans (HBZ.out.mono HB4.out.size))
          have HSZ := Lib.hid HBN.out.size
          by_cases hlt : j < k
          · have hlt' : (j : Int) < (k : Int) := by omega
            obtain ⟨b, o, rfl, _, _⟩ := HTE.out.row.2 (by omega)
            obtain ⟨p, hp⟩ : ∃ p, p = j - 1 := ⟨_, rfl⟩
            have hwp : IntKind.i64.wrap ((j : Int) - 1) = (p : Int) := by rw [IntKind.wrap_i64]; omega
            have hpk : p < k := by omega
            have hpk' : (p : Int) < (k : Int) := by omega
            obtain ⟨x, hx, _, _⟩ := HTE.out.at hlt
            obtain ⟨y, hy, _, _⟩ := HTE.out.at hpk
            have yx := (range_ten (ten_item (HTE.out.row.below HBZ.out) j x hx)).1
            have yy := (range_ten (ten_item (HTE.out.row.below HBZ.out) p y hy)).1
            have hlt2 := idAt_lt HRL.out (show p < j by omega) (by have := HLL.out; omega)
            rw [idAt_of hx, idAt_of hy] at hlt2
            obtain ⟨ix, hix⟩ : ∃ a, a = x.te.id := ⟨_, rfl⟩
            obtain ⟨iy, hiy⟩ : ∃ a, a = y.te.id := ⟨_, rfl⟩
            rw [← hix] at yx hlt2
            rw [← hiy] at yy hlt2
            have hle : ¬ (ix : Int) ≤ (iy : Int) := by omega
            clear hx hy hlt2 hix hiy hp
            go_wp2_with fail
            go_quiet (fail)
            go_wp2_with fail
            go_roundw
            case rel => exact ⟨j + 1, by go_num, by omega, by omega, Lib.hid (HBZ.out.trans (below_drewN (Below.refl _ _) _ |>.mono HBZ.out.size))⟩
            case measure => (simp [RowKit.intOf]; omega)
          · have hlt' : ¬ (j : Int) < (k : Int) := by omega
            go_wp2_with fail
            go_ret
            exact ⟨by first | rfl | simp, HBN.out⟩
end Go.Proofs.YtcmlchicpmnhdaaDoor.Man
