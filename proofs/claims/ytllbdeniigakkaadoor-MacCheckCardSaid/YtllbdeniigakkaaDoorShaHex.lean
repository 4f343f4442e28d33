/-
  Proved: what Hex, Unhex and digitOf of package sha return.
  Conditions: the slice reads as bytes, fewer than 2 to the 45th; the text has at most 2 to the 47th bytes.
-/
import Derived.Test.YtllbdeniigakkaaDoorShaLeaf
import Derived.Test.YtllbdeniigakkaaDoorOwn
import Derived.Laws.BytesArg
import Derived.StillTailTactics
import Derived.OwnWalk
import Derived.Deep.RegionLaw
namespace Go.Proofs.YtllbdeniigakkaaDoor.Sha
open Go.RowKit

def dig (n : Nat) : UInt8 := if n < 10 then UInt8.ofNat (48 + n) else UInt8.ofNat (87 + n)
def hexL (bs : List UInt8) : List UInt8 := bs.flatMap fun b => [dig (b.toNat / 16), dig (b.toNat % 16)]
theorem hexL_length (bs : List UInt8) : (hexL bs).length = 2 * bs.length := by
  induction bs with
  | nil => rfl
  | cons b l ih => rw [hexL, List.flatMap_cons, List.length_append, ← hexL, ih, List.length_cons, List.length_cons, List.length_cons, List.length_nil]; omega
theorem hexL_snoc (bs : List UInt8) (b : UInt8) : hexL (bs ++ [b]) = hexL bs ++ [dig (b.toNat / 16), dig (b.toNat % 16)] := by simp [hexL]
abbrev digits : ByteArray := ⟨#[48, 49, 50, 51, 52, 53, 54, 55, 56, 57, 97, 98, 99, 100, 101, 102]⟩
theorem digits_at : ∀ i : Fin 16, digits[i.val]'(by have := i.isLt; exact this) = dig i.val := by decide
theorem index_digits {P : Program} {T : TypeId} (ht : P.underlying T = some .string) (k : IntKind) (v : Int) (i : Nat) (hv : v = (i : Int)) (hi : i < 16) (w : World) : (Instr.index T (.string digits) (.int k v)).run P w = .ok (.int .u8 ((dig i).toNat : Int)) w := by
  subst hv
  rw [run_index_string w T digits k (i : Int) ht, dif_pos ⟨by omega, by show (i : Int) < 16; omega⟩]
  congr 3
  have := digits_at ⟨i, hi⟩
  simp only [Int.toNat_natCast]
  rw [this]
theorem run_bytes_string {P : Program} {w : World} {B n c : Nat} {A : Option Addr} {bs : List UInt8} {src dst e : TypeId} (hs : P.underlying src = some (.slice e)) (he : P.underlying e = some (.int .u8)) (hd : P.underlying dst = some .string)
    (hR : Row w B A n (bvs bs)) : (convert src dst (.slice A n c)).run P w = .ok (.string ⟨bs.toArray⟩) w := by
  rcases Nat.eq_zero_or_pos n with h0 | h0
  · subst h0
    obtain rfl : bs = [] := List.eq_nil_of_length_eq_zero hR.size
    rcases A with _ | a
    · exact run_convert_bytes_nil w src e hs he 0 c dst hd
    · rw [run_convert_bytes_string w src dst e _ 0 c hs he hd, run_bytesToString w _ 0 c [] (run_loadCells_list (P := P) w a [] (fun j v hv => by simp at hv))]
      rfl
  · obtain ⟨b, o, rfl, _, hc⟩ := hR.byte h0
    rw [run_convert_bytes_arg w src e hs he b o n c (bs.map fun x => (x.toNat : Int)) (by rw [List.length_map]; exact hR.size) (fun i hi => by
      rw [hc i hi, List.getD_eq_getElem?_getD, List.getD_eq_getElem?_getD, List.getElem?_map, List.getElem?_eq_getElem (by rw [hR.size]; exact hi)]
      rfl) dst hd]
    congr 2
    have e : ((bs.map fun x => (x.toNat : Int)).map fun n => UInt8.ofNat n.toNat) = bs := by
      rw [List.map_map]
      refine (List.map_congr_left (g := id) fun x _ => ?_).trans (List.map_id bs)
      exact UInt8.toNat_inj.1 (by simp)
    unfold strOfNums
    rw [e]
theorem byte16 (c : UInt8) : bits .and .u8 (c.toNat : Int) 15 = ((c.toNat % 16 : Nat) : Int) := by
  have hc := c.toNat_lt
  have h := u8_and_nat c.toNat 15 hc (by decide)
  rw [show ((15 : Nat) : Int) = 15 from rfl] at h
  rw [h, show 15 = 2 ^ 4 - 1 from rfl, Nat.and_two_pow_sub_one_eq_mod]

theorem hex_next (bs : List UInt8) (k : Nat) (h : k < bs.length) : bvs (hexL (bs.take (k + 1))) = bvs (hexL (bs.take k)) ++ [.int .u8 ((dig ((bs.getD k 0).toNat / 16)).toNat : Int), .int .u8 ((dig ((bs.getD k 0).toNat % 16)).toNat : Int)] := by
  rw [getD_snoc bs k h, hexL_snoc, ← bvs_append]
  rfl
theorem two_cells (w : World) (a b : Value) (t : TypeId) : ∀ j u, [a, b][j]? = some u → ((w.alloc (.cells #[a, b] t)).drew).cell? ((⟨w.heap.size, 0, none⟩ : Addr).add j) = some u := by
  intro j u hu
  have h := (Blk.new w t #[a, b]).cell j
  have e : (⟨w.heap.size, 0, none⟩ : Addr).add j = ⟨w.heap.size, j, none⟩ := by
    unfold Addr.add
    split
    · rename_i hj; subst hj; rfl
    · simp
  rw [e]
  refine Eq.trans h ?_
  rw [← hu]
  simp
theorem le_new {B : Nat} {w : World} (h : B ≤ w.heap.size) (o : Obj) : B ≤ ((w.alloc o).drew).heap.size := by
  show B ≤ (w.alloc o).heap.size
  simp
  omega
theorem step_append_own {P : Program} {ops : Array Oper} {o : Oper} {a : Act} {w : World} {K : Act → World → Prop} {Q : Exit → Act → World → Prop} {E : Prop} (hgd : o.guard = none) (s x : Operand) (t : TypeId)
    (ho : o.op = Op.call { callee := Callee.builtin Builtin.append, args := #[s, x], argTypes := #[t, t] })
    (base : Nat) (e : TypeId) (z : Value) (bytes : Nat) (ht : P.underlying t = some (.slice e)) (hinfo : (P.info? e).map (fun i => (i.zero, i.size, i.bytes)) = some (some z, 1, bytes)) (hz1 : z.cells = #[z])
    (v : Value) (n : Nat) (xs : List Value) (hs : a.eval s = v) (hown : w.ownsRow base e 1 v n xs)
    (ad : Addr) (m c : Nat) (news : List Value) (hx : a.eval x = .slice (some ad) m c) (hl : news.length = m) (hnews : ∀ j u, news[j]? = some u → w.cell? (ad.add j) = some u) (h1 : ∀ u ∈ news, u.oneCell' = true)
    (h63 : n + m ≤ maxLen) (hbytes : (n + m) * bytes ≤ 140737488355328) (hbase : base ≤ w.heap.size)
    (hK : ∀ v' w', Hid (w'.ownsRow base e 1 v' (n + m) (xs ++ news)) → Hid (w.grownBy w' v.ownBlock) → K (a.put o.dst v') w') :
    if Region.wanted o (yielded ops a.tmps) = true then Oper.wp P o a w K Q else E := by
  have hw : Region.wanted o (yielded ops a.tmps) = true := by simp [Region.wanted, hgd]
  rw [if_pos hw]
  obtain ⟨i, hi, hz0, hs1, hb1⟩ := info_parts hinfo
  exact wp_append_own w s x t ho base e i z 1 bytes ht hi hz0 hs1 hb1 (by rw [hz1]; rfl) (by decide) v n xs hs hown ad m c news hx (by rw [hl, Nat.mul_one]) hnews h1 h63 hbytes hbase fun v' w' h2 h3 _ => hK v' w' h2 h3

set_option maxHeartbeats 400000 in
theorem hex_any (A : Option Addr) (n c : Nat) (bs : List UInt8) (w : World) (hR : Row w w.heap.size A n (bvs bs)) (hl : n < 35184372088832) :
    Calls Tryd.prog 11 #[.slice A n c] w fun e w' => e = .returned (.string ⟨(hexL bs).toArray⟩) ∧ Below w.heap.size w w' := by
  obtain ⟨i0, hi, hz0, hz1, hz2⟩ := info_parts (P := Tryd.prog) (e := 5) (z := .int .u8 0) (size := 1) (bytes := 1) (by kernel_rfl)
  have HR := Lib.hid hR.byte
  have HL := Lib.hid hR.size
  have HN : Hid ((2 : Int) * (n : Int) = ((2 * n : Nat) : Int)) := by show _ = _; omega
  have hn2 : (n : Int) ≤ 35184372088832 := by omega
  have HI := Lib.hid hi
  have HZ0 := Lib.hid hz0
  have HZ1 := Lib.hid hz1
  have HB : Hid (i0.bytes * (2 * n) ≤ 281474976710656 ∧ 2 * n ≤ maxLen) := ⟨by rw [hz2]; omega, by unfold maxLen; omega⟩
  clear hR hi hz0 hz1 hz2
  go_enter Tryd.func11, Tryd.ntmps11
  go_wp2_with (at_make; refine wpList_make_own _ rfl _ _ 22 rfl w.heap.size 5 i0 (.int .u8 0) 1 Tryd.underlying22 HI.out HZ0.out HZ1.out _ _ _ (2 * n) rfl rfl HN.out HB.out.1 HB.out.2 (Nat.le_refl _) ?_; intro w1 ho1 hg1)
  have hb1 : Below w.heap.size w w1 := (Below.refl _ _).grown hg1 (Nat.le_refl _) (fun k hk => by cases hk)
  have HO1 := Lib.hid ho1
  have HB1 := Lib.hid hb1
  clear ho1 hg1 hb1
  go_wp2_with fail
  go_loopw [3, 12] (fun v i wr => ∃ k : Nat, k ≤ n ∧ i = .int .i64 k ∧ Hid (wr.ownsRow w.heap.size 5 1 v (2 * k) (bvs (hexL (bs.take k))) ∧ Below w.heap.size w wr)) (fun _ i _ => n - (intOf i).toNat)
  case atStart => exact ⟨0, Nat.zero_le _, rfl, HO1.out, HB1.out⟩
  case round =>
    obtain ⟨k, hk, rfl, HO⟩ := hrel
    by_cases hlt : k < n
    · obtain ⟨b, o, rfl, hblk, hcs⟩ := HR.out (by omega)
      obtain ⟨x, HX⟩ : ∃ x, Hid (x = bs.getD k 0) := ⟨_, rfl⟩
      have hcell : wr.cell? ⟨b, o + k, none⟩ = some (.int .u8 (x.toNat : Int)) := by rw [HX.out]; exact (HO.out.2.cell hblk).trans (hcs k hlt)
      have hx := x.toNat_lt
      have hi1 : ∀ w : World, (Instr.index 9 (.string digits) (.int .u8 ((x.toNat : Int) / 16))).run Tryd.prog w = .ok (.int .u8 ((dig (x.toNat / 16)).toNat : Int)) w := fun w =>
        index_digits Tryd.underlying9 .u8 _ (x.toNat / 16) (by omega) (by omega) w
      have hi2 : ∀ w : World, (Instr.index 9 (.string digits) (.int .u8 (bits .and .u8 (x.toNat : Int) 15))).run Tryd.prog w = .ok (.int .u8 ((dig (x.toNat % 16)).toNat : Int)) w := fun w =>
        index_digits Tryd.underlying9 .u8 _ (x.toNat % 16) (byte16 x) (by omega) w
      clear hcs HR
      have HOB : Hid (w.heap.size ≤ wr.heap.size) := HO.out.2.size
      have HOX : Hid (∀ o, (wr.drew.alloc o).ownsRow w.heap.size 5 1 u3 (2 * k) (bvs (hexL (bs.take k)))) := fun o => HO.out.1.drew.alloc o
      have E2 : Hid (∀ u ∈ [Value.int .u8 ((dig (x.toNat / 16)).toNat : Int), .int .u8 ((dig (x.toNat % 16)).toNat : Int)], u.oneCell' = true) := by
        intro u hu
        rcases List.mem_cons.1 hu with h | h
        · rw [h]; rfl
        · rw [List.mem_singleton.1 h]; rfl
      have E3 : Hid (2 * k + 2 ≤ maxLen) := by show 2 * k + 2 ≤ maxLen; unfold maxLen; omega
      have E4 : Hid ((2 * k + 2) * 1 ≤ 140737488355328) := by show (2 * k + 2) * 1 ≤ 140737488355328; omega
      go_wp2_with fail
      go_region_law (refine step_append_own rfl (.tmp 16) (.tmp 23) 22 rfl w.heap.size 5 (.int .u8 0) 1 Tryd.underlying22 (by kernel_rfl) rfl u3 (2 * k) (bvs (hexL (bs.take k))) rfl (HOX.out _) ⟨wr.heap.size, 0, none⟩ 2 2 [.int .u8 ((dig (x.toNat / 16)).toNat : Int), .int .u8 ((dig (x.toNat % 16)).toNat : Int)] rfl rfl (two_cells wr _ _ _) E2.out E3.out E4.out (le_new HOB.out _) ?_; intro v2 w3 G1 G2)
      all_goals
        go_wp2_with fail
        go_roundw
        case rel =>
          refine ⟨k + 1, by omega, by go_num, ?_, ?_⟩
          · have h := G1.out
            rw [show 2 * (k + 1) = 2 * k + 2 by omega, hex_next bs k (by rw [HL.out]; exact hlt), ← HX.out]
            exact h
          · have hlt2 := HO.out.1.lt
            exact ((HO.out.2.alloc HO.out.2.size _).drew).grown G2.out (le_new HOB.out _) (fun q hq => (hlt2 q hq).1)
        case measure => simp [intOf]; omega
    · obtain rfl : k = n := by omega
      obtain ⟨A2, c2, rfl, _, _⟩ := own_form HO.out.1
      have hrow := Row.own HO.out.1
      rw [List.take_of_length_le (by rw [HL.out]; exact Nat.le_refl _)] at hrow
      have hcv := run_bytes_string (P := Tryd.prog) (src := 22) (dst := 9) (c := c2) Tryd.underlying22 Tryd.underlying5 Tryd.underlying9 hrow
      have HBB := Lib.hid HO.out.2
      clear HO hrow
      go_wp2_with fail
      go_ret
      exact ⟨rfl, HBB.out⟩
end Go.Proofs.YtllbdeniigakkaaDoor.Sha
