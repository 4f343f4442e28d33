/-
  Texts one behind the other: RecLeaf, RecLeaf2, RecMay, RecBegins.
-/
import Derived.Laws.ShiftsVarLaws
import Derived.LoopN
import Derived.BigQuiet
import Derived.Deep.DeepCutAuto
import Derived.Deep.RegionLaw
import Derived.Lib.MinMax
import Derived.Laws.BytesString
import Derived.Laws.BytesArg
import Derived.Laws.StructEq
import Derived.MapKept
import Derived.Test.YtcmlchicpmnhdaaGreatDoorG02
import Derived.Test.YtcmlchicpmnhdaaGreatDoorG03
/-
  Proved: what Put of package stillroomref1 returns: a number's bytes.
  Conditions: sizes of one to eight bytes.
-/
namespace Go.Proofs.YtcmlchicpmnhdaaGreatDoor.Rec
open Go.RowKit
set_option linter.unusedVariables false
set_option linter.unusedSimpArgs false

theorem ret_int {k : IntKind} {a b : Int} (h : a = b) : Ending.returned (.int k a) = .returned (.int k b) := by rw [h]
theorem byte_pow (n m : Nat) : Value.int .u8 ((n : Int) / 2 ^ m % 256) = bv (UInt8.ofNat (n / 2 ^ m)) := by
  unfold bv
  rw [UInt8.toNat_ofNat', Int.natCast_emod, Int.natCast_ediv, Int.natCast_pow]
  rfl
theorem bvs_one_list (c : UInt8) : bvs [c] = [bv c] := rfl
theorem u8_info : (Tryz.prog.info? 5).map (fun i => (i.zero, i.size, i.bytes)) = some (some (.int .u8 0), 1, 1) := by kernel_rfl
theorem u8_info3 : ∃ i, Tryz.prog.info? 5 = some i ∧ i.zero = some (.int .u8 0) ∧ i.size = 1 ∧ i.bytes = 1 := by
  obtain ⟨i, hi, h⟩ := Option.map_eq_some_iff.1 u8_info
  simp only [Prod.mk.injEq] at h
  exact ⟨i, hi, h.1, h.2.1, h.2.2⟩

set_option maxHeartbeats 400000 in
set_option maxRecDepth 100000 in
theorem refput_any (n size : Nat) (v : Int) (w : World) (hv : v = (size : Int)) (hs : 1 ≤ size ∧ size ≤ 8) (hn : n < 18446744073709551616) :
    Calls Tryz.prog 71 #[.int .u64 (n : Int), .int .i64 v] w fun e w' => ∃ u, e = .returned u ∧ w'.ownsRow w.heap.size 5 1 u size (bvs (be n size)) ∧ Below w.heap.size w w' := by
  subst hv
  obtain ⟨hs1, hs2⟩ := hs
  have HN := Lib.hid hn
  clear hn
  go_enter Tryz.func71, Tryz.ntmps71
  go_wp2_with fail
  go_loopw [5, 6] (fun u i wr => ∃ t : Nat, t ≤ size ∧ i = .int .i64 ((size : Int) - 1 - (t : Int)) ∧ Hid (wr.ownsRow w.heap.size 5 1 u t (bvs (beL n size t)) ∧ Below w.heap.size w wr)) (fun _ i _ => (RowKit.intOf i + 1).toNat)
  case atStart => exact ⟨0, Nat.zero_le _, by simp, World.ownsRow_nil _ _ _ _, Below.refl _ _⟩
  case round =>
    obtain ⟨t, ht, rfl, HI⟩ := hrel
    by_cases hlt : t < size
    · have HO := Lib.hid (HI.out.1.alloc (.cells #[.int .u8 ((n : Int) / 2 ^ (8 * (size - 1 - t)) % 256)] 5))
      have HB := Lib.hid HI.out.2
      have HRF : Hid (Row (wr.alloc (.cells #[.int .u8 ((n : Int) / 2 ^ (8 * (size - 1 - t)) % 256)] 5)) (wr.heap.size + 1) (some ⟨wr.heap.size, 0, none⟩) 1 [.int .u8 ((n : Int) / 2 ^ (8 * (size - 1 - t)) % 256)]) := Row.fresh wr 5 (0, 0) _
      have E1 : Hid (∀ u ∈ [Value.int .u8 ((n : Int) / 2 ^ (8 * (size - 1 - t)) % 256)], u.oneCell' = true) := fun u hu => by rw [List.mem_singleton.1 hu]; rfl
      have E2 : Hid (t + 1 ≤ maxLen) := by show t + 1 ≤ maxLen; unfold maxLen; omega
      have E3 : Hid ((t + 1) * 1 ≤ 140737488355328) := by show (t + 1) * 1 ≤ 140737488355328; omega
      have E4 : Hid (w.heap.size ≤ (wr.alloc (.cells #[.int .u8 ((n : Int) / 2 ^ (8 * (size - 1 - t)) % 256)] 5)).heap.size) := by
        show _ ≤ _
        have := HB.out.size
        simp
        omega
      clear HI
      go_wp2_with (at_builtin; refine wpList_append_reads rfl (.tmp 19) (.tmp 26) _ rfl w.heap.size 5 (.int .u8 0) 1 Tryz.underlying51 u8_info rfl u5 t (bvs (beL n size t)) rfl HO.out (wr.heap.size + 1) (some ⟨wr.heap.size, 0, none⟩) 1 1 _ rfl HRF.out E1.out E2.out E3.out E4.out ?_; intro v2 w2 ho2 hg2)
      rw [byte_pow, ← bvs_one_list, bvs_append, ← beL_snoc] at ho2
      have hb2 : Below w.heap.size w w2 := (HB.out.alloc HB.out.size _).grown hg2 E4.out (fun q hq => (HO.out.lt q hq).1)
      have HO2 := Lib.hid ho2
      have HB2 := Lib.hid hb2
      clear ho2 hg2 hb2
      go_wp2_with fail
      go_roundw
      case rel => exact ⟨t + 1, by omega, by go_num, HO2.out, HB2.out⟩
      case measure => simp [RowKit.intOf]; omega
    · obtain rfl : t = size := by omega
      go_wp2_with fail
      go_ret
      exact ⟨u5, rfl, HI.out.1, HI.out.2⟩

theorem be_at (n size p : Nat) (h : p < size) : (bvs (be n size))[p]? = some (bv (UInt8.ofNat (n / 2 ^ (8 * (size - 1 - p))))) := by
  simp [bvs, be, beL, h]
end Go.Proofs.YtcmlchicpmnhdaaGreatDoor.Rec
/-
  Proved: what Get of package num and of package stillroomref1 return; May of record and of the reference, mayKind, HasPrefix, Eq, sumOf, Cut.
  Conditions: Get of at most eight bytes; numbers and texts are those of values.
-/
namespace Go.Proofs.YtcmlchicpmnhdaaGreatDoor.Rec
open Go.RowKit
set_option linter.unusedVariables false
set_option linter.unusedSimpArgs false

theorem get_step (r : Nat) (c : UInt8) (h : r < 72057594037927936) : bits .or .u64 ((r : Int) * 256) (c.toNat : Int) = ((r * 256 + c.toNat : Nat) : Int) := by
  have hc := c.toNat_lt
  have e : (r : Int) * 256 = ((r * 256 : Nat) : Int) := by omega
  rw [e, u64_or_nat _ _ (by omega) (by omega), show r * 256 = r <<< 8 by rw [Nat.shiftLeft_eq], Nat.shiftLeft_add_eq_or_of_lt (by omega)]
theorem beN_small (bs : List UInt8) (k : Nat) (hk : k < 8) : beN (bs.take k) < 72057594037927936 := by
  have h := beN_lt _ (bs.take k) rfl
  have h2 : 256 ^ (bs.take k).length ≤ 256 ^ 7 := Nat.pow_le_pow_right (by decide) (by rw [List.length_take]; omega)
  have h3 : 256 ^ 7 = 72057594037927936 := by decide
  omega
set_option maxHeartbeats 400000 in
set_option maxRecDepth 100000 in
theorem get_any (A : Option Addr) (n c B : Nat) (bs : List UInt8) (w : World) (hR : Row w B A n (bvs bs)) (hn : n ≤ 8) (hnc : n ≤ c) (hc : c ≤ maxLen) :
    Calls Tryz.prog 91 #[.slice A n c] w fun e w' => e = .returned (.int .u64 (beN bs : Int)) ∧ w = w' := by
  have HL := Lib.hid hR.size
  have HB := Lib.hid (hR.byte)
  clear hR
  go_enter Tryz.func91, Tryz.ntmps91
  go_wp2
  go_loop [3, 16] (fun r i => ∃ k : Nat, ∃ R : Nat, k ≤ n ∧ Hid (R = beN (bs.take k)) ∧ r = .int .u64 (R : Int) ∧ i = .int .i64 k) (fun _ i => n - (RowKit.intOf i).toNat)
  case atStart => exact ⟨0, 0, Nat.zero_le _, rfl, rfl, rfl⟩
  case round =>
    obtain ⟨k, R, hk, HR, rfl, rfl⟩ := hrel
    by_cases hlt : k < n
    · obtain ⟨b, o, rfl, _, hcs⟩ := HB.out (by omega)
      have hcell := hcs k hlt
      have HS := Lib.hid (getD_snoc bs k (by rw [HL.out]; exact hlt))
      obtain ⟨C, HC⟩ : ∃ C, Hid (C = bs.getD k 0) := ⟨_, rfl⟩
      rw [← HC.out] at hcell
      have hr : R < 72057594037927936 := by rw [HR.out]; exact beN_small bs k (by omega)
      have hg := get_step R C hr
      have hC := C.toNat_lt
      clear hcs HB
      go_wp2
      go_round
      case rel =>
        refine ⟨k + 1, R * 256 + C.toNat, by omega, ?_, rfl, by go_num⟩
        show R * 256 + C.toNat = beN (bs.take (k + 1))
        rw [HS.out, beN_snoc, ← HR.out, ← HC.out]
      case measure => simp [RowKit.intOf]; omega
    · obtain rfl : k = n := by omega
      go_wp2
      go_ret
      exact ⟨ret_int (by rw [HR.out, List.take_of_length_le (by rw [HL.out]; exact Nat.le_refl _)]), rfl⟩
set_option maxHeartbeats 400000 in
set_option maxRecDepth 100000 in
theorem refget_any (A : Option Addr) (n c B : Nat) (bs : List UInt8) (w : World) (hR : Row w B A n (bvs bs)) (hn : n ≤ 8) (hnc : n ≤ c) (hc : c ≤ maxLen) :
    Calls Tryz.prog 73 #[.slice A n c] w fun e w' => e = .returned (.int .u64 (beN bs : Int)) ∧ w = w' := by
  have HL := Lib.hid hR.size
  have HB := Lib.hid (hR.byte)
  clear hR
  go_enter Tryz.func73, Tryz.ntmps73
  go_wp2
  go_loop [3, 4] (fun r i => ∃ k : Nat, ∃ R : Nat, k ≤ n ∧ Hid (R = beN (bs.take k)) ∧ r = .int .u64 (R : Int) ∧ i = .int .i64 k) (fun _ i => n - (RowKit.intOf i).toNat)
  case atStart => exact ⟨0, 0, Nat.zero_le _, rfl, rfl, rfl⟩
  case round =>
    obtain ⟨k, R, hk, HR, rfl, rfl⟩ := hrel
    by_cases hlt : k < n
    · obtain ⟨b, o, rfl, _, hcs⟩ := HB.out (by omega)
      have hcell := hcs k hlt
      have HS := Lib.hid (getD_snoc bs k (by rw [HL.out]; exact hlt))
      obtain ⟨C, HC⟩ : ∃ C, Hid (C = bs.getD k 0) := ⟨_, rfl⟩
      rw [← HC.out] at hcell
      have hr : R < 72057594037927936 := by rw [HR.out]; exact beN_small bs k (by omega)
      have hC := C.toNat_lt
      clear hcs HB
      go_wp2
      go_round
      case rel =>
        refine ⟨k + 1, R * 256 + C.toNat, by omega, ?_, by congr 1, by go_num⟩
        show R * 256 + C.toNat = beN (bs.take (k + 1))
        rw [HS.out, beN_snoc, ← HR.out, ← HC.out]
      case measure => simp [RowKit.intOf]; omega
    · obtain rfl : k = n := by omega
      go_wp2
      go_ret
      exact ⟨ret_int (by rw [HR.out, List.take_of_length_le (by rw [HL.out]; exact Nat.le_refl _)]), rfl⟩

/-! Records as values. -/
def str (l : List UInt8) : ByteArray := ⟨l.toArray⟩
theorem str_size (l : List UInt8) : (str l).size = l.length := by simp [str, ByteArray.size]
theorem str_inj {l m : List UInt8} (h : str l = str m) : l = m := by
  unfold str at h
  injection h with h
  simpa using congrArg Array.toList h
def Rc.vals (x : Rc) : Array Value := #[.int .i64 x.kind, .int .u32 (x.tenant : Int), .int .u64 (x.epoch : Int), .int .u64 (x.object : Int), .int .u64 (x.seq : Int), .string (str x.body)]
end Go.Proofs.YtcmlchicpmnhdaaGreatDoor.Rec
/-
  Proved: what May of record and of the reference, HasPrefix, Eq, sumOf and Cut return.
  Conditions: numbers and texts are those of values.
-/
namespace Go.Proofs.YtcmlchicpmnhdaaGreatDoor.Rec
open Go.RowKit
set_option linter.unusedVariables false
set_option linter.unusedSimpArgs false

theorem below_alloc (w : World) (o : Obj) : Below w.heap.size w (w.alloc o) := (Below.refl _ _).alloc (Nat.le_refl _) _

set_option maxHeartbeats 1000000 in
set_option maxRecDepth 100000 in
theorem refmay_any (x : Rc) (w : World) (hb : x.body.length ≤ maxLen) :
    Calls Tryz.prog 70 #[.agg x.vals] w fun e w' => e = .returned (.bool x.may) ∧ Below w.heap.size w w' := by
  obtain ⟨k, t, ep, ob, se, body⟩ := x
  obtain ⟨s, hs⟩ : ∃ s, s = str body := ⟨_, rfl⟩
  have hsz : s.size = body.length := by rw [hs]; exact str_size body
  have hb' : s.size ≤ 9223372036854775807 := by rw [hsz]; unfold maxLen at hb; exact hb
  show Calls _ _ #[.agg #[.int .i64 k, .int .u32 (t : Int), .int .u64 (ep : Int), .int .u64 (ob : Int), .int .u64 (se : Int), .string (str body)]] _ _
  rw [← hs]
  have hfin := below_alloc w (.cells #[.int .i64 k, .int .u32 (t : Int), .int .u64 (ep : Int), .int .u64 (ob : Int), .int .u64 (se : Int), .string s] 91)
  have HFIN := Lib.hid hfin
  clear hfin hb
  by_cases h1 : 1 ≤ k
  case neg =>
    have e : Rc.may ⟨k, t, ep, ob, se, body⟩ = false := decide_eq_false (fun h => h1 h.1)
    rw [e]
    clear hs hsz e
    go_enter Tryz.func70, Tryz.ntmps70
    go_wp2_with fail
    go_ret
    exact ⟨by simp [*], HFIN.out⟩
  by_cases h2 : k ≤ 4
  case neg =>
    have e : Rc.may ⟨k, t, ep, ob, se, body⟩ = false := decide_eq_false (fun h => h2 h.2.1)
    rw [e]
    clear hs hsz e
    go_enter Tryz.func70, Tryz.ntmps70
    go_wp2_with fail
    go_ret
    exact ⟨by simp [*], HFIN.out⟩
  by_cases h3 : ep ≤ 1099511627776
  case neg =>
    have g3 : ¬ (ep : Int) ≤ 1099511627776 := by omega
    have e : Rc.may ⟨k, t, ep, ob, se, body⟩ = false := decide_eq_false (fun h => h3 h.2.2.1)
    rw [e]
    clear hs hsz e
    go_enter Tryz.func70, Tryz.ntmps70
    go_wp2_with fail
    go_ret
    exact ⟨by simp [*], HFIN.out⟩
  have g3 : (ep : Int) ≤ 1099511627776 := by omega
  by_cases h4 : ob ≤ 1099511627776
  case neg =>
    have g4 : ¬ (ob : Int) ≤ 1099511627776 := by omega
    have e : Rc.may ⟨k, t, ep, ob, se, body⟩ = false := decide_eq_false (fun h => h4 h.2.2.2.1)
    rw [e]
    clear hs hsz e
    go_enter Tryz.func70, Tryz.ntmps70
    go_wp2_with fail
    go_ret
    exact ⟨by simp [*], HFIN.out⟩
  have g4 : (ob : Int) ≤ 1099511627776 := by omega
  by_cases h5 : se ≤ 1099511627776
  case neg =>
    have g5 : ¬ (se : Int) ≤ 1099511627776 := by omega
    have e : Rc.may ⟨k, t, ep, ob, se, body⟩ = false := decide_eq_false (fun h => h5 h.2.2.2.2.1)
    rw [e]
    clear hs hsz e
    go_enter Tryz.func70, Tryz.ntmps70
    go_wp2_with fail
    go_ret
    exact ⟨by simp [*], HFIN.out⟩
  have g5 : (se : Int) ≤ 1099511627776 := by omega
  by_cases h6 : body.length ≤ 1000
  case neg =>
    have g6 : ¬ (s.size : Int) ≤ 1000 := by omega
    have e : Rc.may ⟨k, t, ep, ob, se, body⟩ = false := decide_eq_false (fun h => h6 h.2.2.2.2.2)
    rw [e]
    clear hs hsz e
    go_enter Tryz.func70, Tryz.ntmps70
    go_wp2_with fail
    go_ret
    exact ⟨by simp [*], HFIN.out⟩
  have g6 : (s.size : Int) ≤ 1000 := by omega
  have e : Rc.may ⟨k, t, ep, ob, se, body⟩ = true := decide_eq_true ⟨h1, h2, h3, h4, h5, h6⟩
  rw [e]
  clear hs hsz e
  go_enter Tryz.func70, Tryz.ntmps70
  go_wp2_with fail
  go_ret
  exact ⟨by simp [*], HFIN.out⟩
end Go.Proofs.YtcmlchicpmnhdaaGreatDoor.Rec
/-
  Proved: what HasPrefix returns of "SR" and a short text; what beginsRight returns.
  Conditions: the slice reads as bytes.
-/
namespace Go.Proofs.YtcmlchicpmnhdaaGreatDoor.Rec
open Go.RowKit
set_option linter.unusedVariables false
set_option linter.unusedSimpArgs false

theorem bytes_string {P : Program} {w : World} {B n c : Nat} {A : Option Addr} {bs : List UInt8} {src dst e : TypeId} (hs : P.underlying src = some (.slice e)) (he : P.underlying e = some (.int .u8)) (hd : P.underlying dst = some .string)
    (hR : Row w B A n (bvs bs)) : (convert src dst (.slice A n c)).run P w = .ok (.string (str bs)) w := by
  rcases Nat.eq_zero_or_pos n with h0 | h0
  · subst h0
    obtain rfl : bs = [] := List.eq_nil_of_length_eq_zero hR.size
    rcases A with _ | a
    · exact run_convert_bytes_nil w src e hs he 0 c dst hd
    · rw [run_convert_bytes_string w src dst e _ 0 c hs he hd, run_bytesToString w _ 0 c [] (run_loadCells_list (P := P) w a [] (fun j v hv => by simp at hv))]
      rfl
  · obtain ⟨b, o, rfl, _, hc⟩ := hR.byte h0
    rw [run_convert_bytes_arg w src e hs he b o n c (bs.map fun x => (x.toNat : Int)) (by rw [List.length_map]; exact hR.size) (fun i hi => by
      rw [hc i hi, List.getD_eq_getElem?_getD, List.getD_eq_getElem?_getD, List.getElem?_map, List.getElem?_eq_getElem (by rw [hR.size]; exact hi)]
      rfl) dst hd]
    congr 2
    have e : ((bs.map fun x => (x.toNat : Int)).map fun n => UInt8.ofNat n.toNat) = bs := by
      rw [List.map_map]
      refine (List.map_congr_left (g := id) fun x _ => ?_).trans (List.map_id bs)
      exact UInt8.toNat_inj.1 (by simp)
    unfold strOfNums str
    rw [e]
theorem text_eq (a b : ByteArray) : (a.toList == b.toList) = decide (a = b) := by
  rw [← beq_toListBytes]
  by_cases h : a = b
  · rw [decide_eq_true h]; exact (Go.MapKept.bytes_beq a b).2 h
  · rw [decide_eq_false h]
    cases e : (a == b)
    · rfl
    · exact absurd ((Go.MapKept.bytes_beq a b).1 e) h
def sSR : ByteArray := ⟨#[83, 82]⟩
theorem sr_front (bs : List UInt8) : sSR.extract 0 (bs.take 2).length = str (bs.take 2) ↔ (0 < bs.length → bs.getD 0 0 = 83) ∧ (1 < bs.length → bs.getD 1 0 = 82) := by
  have h0 : sSR.extract 0 0 = str [] := by decide
  have h1 : sSR.extract 0 1 = str [83] := by decide
  have h2 : sSR.extract 0 2 = str [83, 82] := by decide
  match bs with
  | [] => exact ⟨fun _ => ⟨fun h => absurd h (by simp), fun h => absurd h (by simp)⟩, fun _ => h0⟩
  | [a] =>
    constructor
    · intro h
      have : str [83] = str [a] := by rw [← h1]; exact h
      have := str_inj this
      simp at this
      simp [this]
    · rintro ⟨h, _⟩
      have : a = 83 := h (by simp)
      subst this
      exact h1
  | a :: b :: r =>
    constructor
    · intro h
      have : str [83, 82] = str [a, b] := by rw [← h2]; exact h
      have := str_inj this
      simp at this
      simp [this.1, this.2]
    · rintro ⟨h, g⟩
      have e1 : a = 83 := h (by simp)
      have e2 : b = 82 := g (by simp)
      subst e1 e2
      exact h2
theorem front_iff (bs : List UInt8) : Front bs ↔ sSR.extract 0 (str (bs.take 2)).size = str (bs.take 2) ∧ (2 < bs.length → mayKind ((bs.getD 2 0).toNat : Int)) := by
  rw [str_size, sr_front]
  unfold Front
  exact ⟨fun ⟨a, b, c⟩ => ⟨⟨a, b⟩, c⟩, fun ⟨⟨a, b⟩, c⟩ => ⟨a, b, c⟩⟩
end Go.Proofs.YtcmlchicpmnhdaaGreatDoor.Rec
