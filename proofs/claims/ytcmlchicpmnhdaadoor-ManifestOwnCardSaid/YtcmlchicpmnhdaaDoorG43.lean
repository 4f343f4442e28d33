/-
  Texts one behind the other: ManOwn.
-/
import Derived.Test.YtcmlchicpmnhdaaDoorG37
/-
  Proved: law 10's 'ManifestOwn': what Get and All tell is the caller's own, and Put keeps none of the caller's slices.
-/
namespace Go.Proofs.YtcmlchicpmnhdaaDoor.Man
open Go.RowKit Go.Proofs.YtcmlchicpmnhdaaDoor.Rec Go.Proofs.YtcmlchicpmnhdaaDoor.Ten Go.Proofs.YtcmlchicpmnhdaaDoor.Disk
open Go.Proofs.YtcmlchicpmnhdaaDoor.Crc (Turned)
open Go.Proofs.YtcmlchicpmnhdaaDoor.Slot (Sf Up SG Stp laidB)
open Go.Proofs.YtcmlchicpmnhdaaDoor.Seg (Fr ptr mark_old mark_top free_fr)
set_option linter.unusedVariables false
set_option linter.unusedSimpArgs false

/-! The sums of the walk's argument. -/
def rot (z : Int) : Nat := (z.tmod 50 % 50).toNat
theorem rot_lt (z : Int) : rot z < 50 := by unfold rot; omega
def lastN (zs : List Int) : Nat → Nat
  | 0 => 0
  | n + 1 => lastN zs n + 1 + rot (zs.getD n 0)
theorem lastN_le (zs : List Int) : ∀ n, lastN zs n ≤ 50 * n := by
  intro n
  induction n with
  | zero => simp only [lastN]; omega
  | succ n ih => have := rot_lt (zs.getD n 0); simp only [lastN]; omega
def sumsL (zs : List Int) (n : Nat) : List Int := (List.range n).map fun i => (lastN zs (i + 1) : Int)
theorem sumsL_length (zs : List Int) (n : Nat) : (sumsL zs n).length = n := by simp [sumsL]
theorem sumsL_succ (zs : List Int) (n : Nat) : sumsL zs (n + 1) = sumsL zs n ++ [(lastN zs (n + 1) : Int)] := by simp [sumsL, List.range_succ]
theorem sumsL_get (zs : List Int) {n i : Nat} (h : i < n) : (sumsL zs n).getD i 0 = (lastN zs (i + 1) : Int) := by
  rw [List.getD_eq_getElem?_getD, sumsL, List.getElem?_map, List.getElem?_range h]
  rfl
def ownTe (L : List Int) : Te := ⟨4, 1, 5000, 1, 1073741824, L⟩
theorem own_may {zs : List Int} {n : Nat} (hn : n ≤ 30) : (ownTe (sumsL zs n)).May := by
  have hl := sumsL_length zs n
  refine ⟨⟨(by decide : 1 ≤ 1), (by decide : 1 ≤ 1099511627776), (by decide : 1 ≤ 1), (by decide : 1 ≤ 1099511627776), (by decide : (1000 : Int) ≤ 5000), (by decide : (5000 : Int) ≤ 65536), (by decide : (1 : Int) ≤ 1073741824), (by decide : (1073741824 : Int) ≤ 1099511627776), ?_⟩, fun k hk => ?_⟩
  · show (sumsL zs n).length ≤ 60
    omega
  · have hk' : k < n := by rw [← hl]; exact hk
    have h1 := lastN_le zs (k + 1)
    have e1 := sumsL_get zs hk'
    have e0 : lastN zs (k + 1) = lastN zs k + 1 + rot (zs.getD k 0) := by simp only [lastN]
    show 1 ≤ (sumsL zs n).getD k 0 ∧ (sumsL zs n).getD k 0 < 1073741824 ∧ (0 < k → (sumsL zs n).getD (k - 1) 0 < (sumsL zs n).getD k 0)
    rw [e1]
    refine ⟨by omega, by omega, fun h0 => ?_⟩
    rw [sumsL_get zs (show k - 1 < n by omega), show k - 1 + 1 = k by omega]
    omega
theorem own_ok {zs : List Int} {n : Nat} (hn : n ≤ 30) : (ownTe (sumsL zs n)).Ok := by
  refine ⟨by show (4 : Nat) < _; decide, by show (1 : Nat) < _; decide, by dsimp only [ownTe]; decide, by show (1 : Nat) < _; decide, by dsimp only [ownTe]; decide, fun i => ?_⟩
  show _ ≤ (sumsL zs n).getD i 0 ∧ (sumsL zs n).getD i 0 ≤ _
  by_cases hi : i < n
  · rw [sumsL_get zs hi]
    have := lastN_le zs (i + 1)
    omega
  · rw [List.getD_eq_getElem?_getD, List.getElem?_eq_none (by rw [sumsL_length]; omega)]
    simp
/-! A block that is no disk's turns. -/
theorem mup_turn {own : Own} {w0 w w' : World} {m K g : Nat} {v : Sf} {x : Fl} {L : List Te} (h : MUp own w0 w m v x K L) (hg : w.grownBy w' (some g)) (ho : own g = none) (h0 : w0.heap.size ≤ g) (hm : g ≠ m) : MUp own w0 w' m v x K L := by
  obtain ⟨g', d, hs⟩ := h.up.ex
  have hblk : ∀ b p, own b = some p → w'.heap[b]? = w.heap[b]? := fun b p hb => hg.block b (hs.top b p hb) (fun e => by injection e with e; rw [e, ho] at hb; cases hb)
  have hd : Held own w0 w' v.f d K := ⟨hs.disk.disk.keep hg.size (fun _ _ => rfl) (fun b p hp => Nat.lt_of_lt_of_le (hs.top b p hp) hg.size) (fun b _ g2 hb => hblk b _ hb), below_only hs.disk.below hg h0 hs.disk.below.size, hs.disk.free⟩
  have hl : Slot.Lies own w' v := { hs.lies with blk := (hblk _ _ hs.lies.own).trans hs.lies.blk }
  exact { h with up := { h.up with ex := ⟨g', d, { hs with disk := hd, lies := hl }⟩ }, man := (hg.block m h.man.lt (fun e => by injection e with e; exact hm e.symm)).trans h.man }
theorem mup_row {own : Own} {w0 w w' : World} {m K base n : Nat} {e : TypeId} {v : Sf} {x : Fl} {L : List Te} {u : Value} {xs : List Value} (h : MUp own w0 w m v x K L) (hr : w.ownsRow base e 1 u n xs) (hg : w.grownBy w' u.ownBlock) (ho : ∀ g, u.ownBlock = some g → own g = none) (h0 : w0.heap.size ≤ base) (hm : m < base) : MUp own w0 w' m v x K L := by
  cases hu : u.ownBlock with
  | none => rw [hu] at hg; exact h.all ⟨hg.os, hg.tape, hg.output, hg.size, fun i hi => hg.block i hi (by simp)⟩
  | some g =>
    rw [hu] at hg
    have hb := (hr.lt g hu).1
    exact mup_turn h hg (ho g hu) (Nat.le_trans h0 hb) (by omega)
theorem row_fr {own own' : Own} {w w' : World} {base k n : Nat} {e : TypeId} {v : Value} {xs : List Value} (h : w.ownsRow base e k v n xs) (ho : ∀ g, base ≤ g → own g = none) (hf : Fr own own' w w') : w'.ownsRow base e k v n xs := by
  refine ⟨h.1, ?_⟩
  rcases h.2 with h0 | ⟨g, cap, cur, hv, h1, h2, h3⟩
  · exact .inl h0
  · have hw : v.ownBlock = some g := by rw [hv]; rfl
    exact .inr ⟨g, cap, cur, hv, h1, (hf.block g (h.lt g hw).2 (ho g h1)).trans h2, h3⟩
/-! A row's cells, written one by one. -/
structure Wr (w0 w : World) (A : Option Addr) (n c i : Nat) (xs : List Value) : Prop where
  grow : w0.grownBy w (Value.slice A n c).ownBlock
  blk : 0 < n → ∃ g cur, A = some ⟨g, 0, none⟩ ∧ Blk w g 2 cur ∧ n ≤ c ∧ cur.size = c ∧ ∀ j, i ≤ j → j < n → cur[j]? = xs[j]?
theorem wr_start {w : World} {base n c : Nat} {A : Option Addr} {xs : List Value} (h : w.ownsRow base 2 1 (.slice A n c) n xs) : Wr w w A n c 0 xs := by
  refine ⟨World.grownBy.refl w _, fun hn => ?_⟩
  obtain ⟨g, cap, cur, hv, hb, hg, hnc, hm, hcs, hx⟩ := own_block h hn
  injection hv with h1 h2 h3
  subst h1 h3
  refine ⟨g, cur, rfl, hg, hnc, hcs, fun j _ hj => ?_⟩
  rw [← hx, List.getElem?_take_of_lt hj, Array.getElem?_toList]
theorem wr_next {w0 w : World} {n c i g : Nat} {xs : List Value} (h : Wr w0 w (some ⟨g, 0, none⟩) n c i xs) (hi : i < n) (u : Value) : Wr w0 (w.setCell ⟨g, i, none⟩ u) (some ⟨g, 0, none⟩) n c (i + 1) xs := by
  refine ⟨only_trans h.grow (only_setCell w ⟨g, i, none⟩ u), fun hn => ?_⟩
  obtain ⟨g2, cur, e, hg, hnc, hcs, hx⟩ := h.blk hn
  injection e with e
  injection e with e
  subst e
  refine ⟨g, _, rfl, Blk.put hg i u, hnc, by rw [Array.size_setIfInBounds]; exact hcs, fun j hj1 hj2 => ?_⟩
  rw [Array.getElem?_setIfInBounds_ne (by omega)]
  exact hx j (by omega) hj2
theorem wr_drew {w0 w : World} {n c i k : Nat} {A : Option Addr} {xs : List Value} (h : Wr w0 w A n c i xs) : Wr w0 (w.drewN k) A n c i xs :=
  ⟨only_below h.grow ((below_drewN (Below.refl _ _) k).mono h.grow.size), fun hn => by
    obtain ⟨g, cur, e, hg, h3⟩ := h.blk hn
    exact ⟨g, cur, e, blk_below hg (below_drewN (Below.refl _ _) k) (blk_lt' hg), h3⟩⟩
/-! The tenant under way. -/
theorem ten_seg {w : World} {g n c : Nat} {L : List Int} {A : Option Addr} (h : TenAt w g ⟨ownTe L, A, c⟩) (hl : L.length = n) : w.cell? ⟨g, 5, none⟩ = some (.slice A n c) := by
  subst hl
  exact h.cells.2.2.2.2.2
structure OSt (wc wr : World) (tb n : Nat) (L : List Int) : Prop where
  ex : ∃ A c, TenAt wr tb ⟨ownTe L, A, c⟩ ∧ wr.ownsRow wc.heap.size 2 1 (.slice A n c) n (ivs L)
  below : Below wc.heap.size wc wr
  ge : wc.heap.size ≤ tb
theorem ost_next {wc wr w8 : World} {tb n c c8 : Nat} {L : List Int} {A A8 : Option Addr} {o : Obj} {y : Int} (h : OSt wc wr tb n L) (hl : L.length = n) (hx : TenAt wr tb ⟨ownTe L, A, c⟩) (ho : wr.ownsRow wc.heap.size 2 1 (.slice A n c) n (ivs L))
    (G8 : w8.ownsRow wc.heap.size 2 1 (.slice A8 (n + 1) c8) (n + 1) (ivs L ++ [.int .i64 y])) (G9 : (wr.alloc o).grownBy w8 (Value.slice A n c).ownBlock) : OSt wc (w8.setCell ⟨tb, 5, none⟩ (.slice A8 (n + 1) c8)) tb (n + 1) (L ++ [y]) := by
  have x5 := blk_below hx (below_alloc wr o) hx.lt
  have x8 : TenAt w8 tb ⟨ownTe L, A, c⟩ := Rec.blk_kept x5 G9 (own_not ho hx seg_kinds)
  have hb8 : Below wc.heap.size wc w8 := (h.below.trans ((below_alloc wr o).mono h.below.size)).grown G9 (Nat.le_trans h.below.size (below_alloc wr o).size) (fun k hk => (ho.lt k hk).1)
  refine ⟨⟨A8, c8, ten_put (l := L ++ [y]) x8 (by rw [List.length_append, hl]; rfl), ?_⟩, below_only hb8 (only_setCell w8 ⟨tb, 5, none⟩ _) h.ge hb8.size, h.ge⟩
  have e2 : ivs (L ++ [y]) = ivs L ++ [.int .i64 y] := by simp [ivs]
  rw [e2]
  exact own_kept (row := some tb) G8 (only_setCell w8 ⟨tb, 5, none⟩ _) (fun k hk e => own_not G8 x8 seg_kinds (by rw [hk]; exact e.symm))
theorem fresh_none {own : Own} {w w0 : World} {v : Sf} {m K : Nat} {x : Fl} {L : List Te} {base : Nat} (h : MUp own w0 w m v x K L) (hb : w.heap.size ≤ base) : ∀ g, base ≤ g → own g = none := fun g hg => by
  cases ho : own g with
  | none => rfl
  | some p => have := h.top _ _ ho; omega
set_option maxRecDepth 100000 in
set_option maxHeartbeats 8000000 in
theorem manifestOwn_walk (S : Option Addr) (ls cs : Nat) (zs : List Int) (w : World) (hT : Turned w) (hS : Row w w.heap.size S ls (ivs zs)) (hls : ls ≤ cs) (hcs : cs ≤ maxLen) (hzb : ∀ i, -9223372036854775808 ≤ zs.getD i 0 ∧ zs.getD i 0 ≤ 9223372036854775807) :
    Calls Tryd.prog 4 #[.slice S ls cs] w fun e w' => e = .returned (.bool true) ∧ Below w.heap.size w w' := by
  have hcm : cs ≤ 9223372036854775807 := by unfold maxLen at hcs; exact hcs
  have HT := Lib.hid hT
  have HBEG := Lib.hid (manbegun_any w hT)
  have HS := Lib.hid hS
  have HZB := Lib.hid hzb
  clear hT hS hcs hzb
  go_enter Tryd.func4, Tryd.ntmps4
  go_upto_region 4 with (go_at_call 7; (with_reducible refine HBEG.out.mono ?_); rintro e w1 ⟨rfl, hb1⟩; have HB1 := Lib.hid hb1; clear hb1)
  have CN := Lib.hid (new_held 100000 w1)
  rw [show room 100000 = 100000 by decide] at CN
  have HT1 := Lib.hid (turned_below HT.out HB1.out rfl)
  clear HBEG
  go_upto_region 5 with (go_at_call 8; refine CN.out.mono ?_; rintro e w2 ⟨own2, f, rfl, hd2⟩)
  have CC : Hid (Calls Tryd.prog 9 #[.pointer (some ⟨f, 0, none⟩)] w2 fun e w' => ∃ m sf own' x, e = .returned (.tuple #[.pointer (some ⟨m, 0, none⟩), .int .i64 0]) ∧ MUp own' w1 w' m ⟨f, sf, sMAN, 0, 1, encAll [], 1, true⟩ x 5 [] ∧ Stp own2 own' f w2 w') :=
    mancreate_up HT1.out hd2 (Slot.new_bare _) (Slot.new_arm _) (by decide) (by decide)
  clear hd2 CN
  go_upto_region 6 with (go_at_call 9; (with_reducible refine CC.out.mono ?_); rintro e w3 ⟨m, sf, own3, x3, rfl, hu3, _⟩; have HU3 := Lib.hid hu3; clear hu3)
  clear CC
  by_cases h30 : 30 < ls
  case pos =>
    have h30' : (30 : Int) < (ls : Int) := by omega
    go_wp2_with fail
    go_ret
    exact ⟨rfl, HB1.out.trans (HU3.out.below.mono HB1.out.size)⟩
  have h30' : ¬ (30 : Int) < (ls : Int) := by omega
  have CO := Lib.hid (one_any 4 w3 (by decide))
  rw [show ((4 : Nat) : Int) = 4 from rfl] at CO
  go_upto_region 9 with (first
    | (go_at_call 11; (with_reducible refine CO.out.mono ?_); rintro e w4 ⟨t4, rfl, HX4, HB4⟩)
    | (refine store_ten (ten_zero w4) rfl rfl (.tmp 7) (.tmp 35) rfl rfl t4 rfl rfl ?_; intro w5 X5 G5))
  have HBA := Lib.hid (below_only (below_alloc w4 (.cells #[.int .u32 0, .int .u64 0, .int .i64 0, .int .u64 0, .int .i64 0, .slice none 0 0] 34)) G5.out (Nat.le_refl _) (by simp))
  have HR5 := Lib.hid (HB4.out.trans (HBA.out.mono HB4.out.size))
  obtain ⟨tb, htb⟩ : ∃ tb, tb = w4.heap.size := ⟨_, rfl⟩
  have HGE : Hid (w3.heap.size ≤ tb) := Lib.hid (by rw [htb]; exact HB4.out.size)
  rw [← htb] at X5 ⊢
  have f5 := Blk.free X5.out 4
  have y5 := X5.out.cells.2.2.2.2.1
  obtain ⟨w6, hw6⟩ : ∃ w6, w6 = w5.setCell ⟨tb, 4, none⟩ (.int .i64 1073741824) := ⟨_, rfl⟩
  have X6 : Hid (Blk w6 tb 34 (t4.vals.setIfInBounds 4 (.int .i64 1073741824))) := Lib.hid (by rw [hw6]; exact Blk.put X5.out 4 _)
  have HR6 : Hid (Below w3.heap.size w3 w6) := Lib.hid (by rw [hw6]; exact below_only HR5.out (only_setCell w5 ⟨tb, 4, none⟩ _) HGE.out HR5.out.size)
  have HW6 := Lib.hid hw6
  have HXB := Lib.hid htb
  clear hw6 htb CO
  go_upto_region 10 with fail
  rw [← HW6.out]
  have f6 := Blk.free X6.out 5
  have y6 : w6.cell? ⟨tb, 5, none⟩ = some (.slice t4.A t4.te.segs.length t4.c) := Blk.cell X6.out 5
  obtain ⟨w7, hw7⟩ : ∃ w7, w7 = w6.setCell ⟨tb, 5, none⟩ (.slice none 0 0) := ⟨_, rfl⟩
  have HO7 : Hid (OSt w3 w7 tb 0 []) := Lib.hid (by
    have h := Blk.put X6.out 5 (.slice none 0 0)
    have hb := below_only HR6.out (only_setCell w6 ⟨tb, 5, none⟩ (.slice none 0 0)) HGE.out HR6.out.size
    rw [← hw7] at h hb
    have e := HX4.out.1
    obtain ⟨te, A, c⟩ := t4
    dsimp only at e
    subst e
    exact ⟨⟨none, 0, h, World.ownsRow_nil _ _ _ _⟩, hb, HGE.out⟩)
  have HW7 := Lib.hid hw7
  clear hw7 f5 y5
  go_upto_region 11 with fail
  rw [← HW7.out]
  clear HW7 HW6 f6 y6 X6 HR6 HX4 HB4 X5 G5 HBA HR5 HXB HGE
  go_wp2_with fail
  go_loopw [8, 9] (fun lv iv wr => ∃ i : Nat, iv = .int .i64 (i : Int) ∧ lv = .int .i64 ((lastN zs i : Nat) : Int) ∧ i ≤ ls ∧ Hid (OSt w3 wr tb i (sumsL zs i))) (fun _ iv _ => ls - (RowKit.intOf iv).toNat)
  case atStart => exact ⟨0, rfl, rfl, Nat.zero_le _, HO7⟩
  case round =>
    clear HO7
    obtain ⟨i, rfl, rfl, hi, HO⟩ := hrel
    by_cases hlt : i < ls
    case pos =>
      have hlt' : (i : Int) < (ls : Int) := by omega
      obtain ⟨A, c, hx, ho⟩ := HO.out.ex
      obtain ⟨b, o, rfl, hb, hqc⟩ := HS.out.int (by omega)
      obtain ⟨X, hX⟩ : ∃ X, X = zs.getD i 0 := ⟨_, rfl⟩
      have hXb : -9223372036854775808 ≤ X ∧ X ≤ 9223372036854775807 := by rw [hX]; exact HZB.out i
      have hXc : wr.cell? ⟨b, o + i, none⟩ = some (.int .i64 X) := by
        rw [hX, ← hqc i hlt]
        exact (HB1.out.trans ((HU3.out.below.trans (HO.out.below.mono HU3.out.below.size)).mono HB1.out.size)).cell hb
      have ht1 : -50 < X.tmod 50 := by rw [Int.tmod_eq_emod]; split <;> omega
      have ht2 : X.tmod 50 < 50 := by rw [Int.tmod_eq_emod]; split <;> omega
      obtain ⟨l, hl⟩ : ∃ l, l = lastN zs i := ⟨_, rfl⟩
      obtain ⟨l2, hl2⟩ : ∃ l2, l2 = lastN zs (i + 1) := ⟨_, rfl⟩
      have hle : l ≤ 50 * i := by rw [hl]; exact lastN_le zs i
      have he : (l : Int) + (1 + X.tmod 50 % 50) = (l2 : Int) := by
        rw [hl2, hl, hX]
        have e0 : lastN zs (i + 1) = lastN zs i + 1 + rot (zs.getD i 0) := by simp only [lastN]
        rw [e0]
        unfold rot
        omega
      have hl2b : l2 ≤ 50 * (i + 1) := by rw [hl2]; exact lastN_le zs (i + 1)
      have HX := Lib.hid hx
      have HO2 := Lib.hid ho
      have HL2 := Lib.hid hl2
      have c5 := ten_seg hx (sumsL_length zs i)
      have HOA : Hid (∀ o, (wr.alloc o).ownsRow w3.heap.size 2 1 (.slice A i c) i (ivs (sumsL zs i))) := Lib.hid fun o => own_all HO2.out (below_alloc wr o)
      have E2 : Hid (∀ u ∈ [Value.int .i64 (l2 : Int)], u.oneCell' = true) := Lib.hid fun u hu => by rw [List.mem_singleton.1 hu]; rfl
      have E3 : Hid (i + 1 ≤ maxLen) := by show i + 1 ≤ maxLen; unfold maxLen; omega
      have E4 : Hid ((i + 1) * 8 ≤ 140737488355328) := by show (i + 1) * 8 ≤ 140737488355328; omega
      have HF8 : Hid (∀ (w8 : World) (o : Obj), (wr.alloc o).grownBy w8 (Value.slice A i c).ownBlock → w8.cell? ⟨tb, 5, none⟩ = some (.slice A i c) ∧ w8.frozen? ⟨tb, 5, none⟩ = false) := Lib.hid fun w8 o G9 => by
        have x5 := blk_below HX.out (below_alloc wr o) HX.out.lt
        have x8 : TenAt w8 tb ⟨ownTe (sumsL zs i), A, c⟩ := Rec.blk_kept x5 G9 (own_not HO2.out HX.out seg_kinds)
        exact ⟨ten_seg x8 (sumsL_length zs i), Blk.free x8 5⟩
      rw [← hl]
      clear hx ho hqc hX hl hl2 hb
      go_wp2_with (first
        | (at_builtin; refine wpList_append_where rfl (.tmp 55) (.tmp 57) 22 rfl w3.heap.size 2 (.int .i64 0) 1 8 Tryd.underlying22 i64s_info rfl (by decide) (.slice A i c) i (ivs (sumsL zs i)) rfl (HOA.out _) ⟨wr.heap.size, 0, none⟩ 1 1 [.int .i64 (l2 : Int)] rfl rfl (one_cell wr _ _) E2.out E3.out E4.out (Nat.le_trans HO.out.below.size (by simp)) ?_
           intro v8 w8 G8 G9 _
           obtain ⟨A8, c8, rfl, _, _⟩ := own_form G8.out
           have c58 := (HF8.out w8 _ G9.out).1
           have f58 := (HF8.out w8 _ G9.out).2))
      have HN : Hid (OSt w3 (w8.setCell ⟨tb, 5, none⟩ (.slice A8 (i + 1) c8)) tb (i + 1) (sumsL zs (i + 1))) := Lib.hid (by
        rw [sumsL_succ, ← HL2.out]
        exact ost_next HO.out (sumsL_length zs i) HX.out HO2.out G8.out G9.out)
      clear G8 G9
      go_wp2_with fail
      go_roundw
      case rel => exact ⟨i + 1, by go_num, by rw [← HL2.out], by omega, HN⟩
      case measure => (simp [RowKit.intOf]; omega)
    case neg =>
    obtain rfl : i = ls := by omega
    obtain ⟨L, hL⟩ : ∃ L, L = sumsL zs i := ⟨_, rfl⟩
    have HMAY : Hid ((ownTe L).May ∧ (ownTe L).Ok ∧ L.length = i) := Lib.hid (by rw [hL]; exact ⟨own_may (by omega), own_ok (by omega), sumsL_length zs i⟩)
    rw [← hL] at HO
    obtain ⟨A, c, hx, ho⟩ := HO.out.ex
    obtain ⟨hA1, hA2⟩ : i ≤ c ∧ c ≤ maxLen := by
      obtain ⟨_, _, e, e1, e2⟩ := own_form ho
      injection e with e3 e4 e5
      omega
    have HX := Lib.hid hx
    have HO2 := Lib.hid ho
    have HUR := Lib.hid (HU3.out.all HO.out.below)
    have HN3 := Lib.hid (fresh_none HU3.out (Nat.le_refl w3.heap.size))
    have HM3 := Lib.hid HU3.out.man.lt
    have HIN : Hid ((⟨ownTe L, A, c⟩ : Tv).In wr wr.heap.size) := Lib.hid ⟨by
      show Row wr wr.heap.size A L.length (ivs L)
      rw [HMAY.out.2.2]
      exact Row.own ho, by show L.length ≤ c; rw [HMAY.out.2.2]; exact hA1, hA2⟩
    have CP : Hid (Calls Tryd.prog 10 #[.pointer (some ⟨m, 0, none⟩), .agg (Tv.vals ⟨ownTe L, A, c⟩)] wr fun e w' => e = .returned (.int .i64 0) ∧ ∃ own2 v2 x2 K2, Hid (MUp own2 w1 w' m v2 x2 K2 [ownTe L]) ∧ Hid (Fr own3 own2 wr w')) := Lib.hid (by
      refine (manput_up HT1.out HUR.out (by show (1 : Nat) < _; decide) (by decide) HMAY.out.2.1 HIN.out [ownTe L] rfl).mono ?_
      rintro e w' ⟨er, rfl, own2, v2, x2, K2, L2, k1, k2, k3, k4, k5, k6, ⟨k7, _⟩ | ⟨_, k7, rfl, rfl⟩ | ⟨k7, rfl, rfl⟩⟩
      · exact absurd k7 (by show ¬ 6 < 1; decide)
      · exact absurd (may_one HMAY.out.1) k7
      · exact ⟨rfl, own2, v2, x2, K2, Lib.hid k1, Lib.hid k2⟩)
    have HBR := Lib.hid HO.out.below
    have HGE := Lib.hid HO.out.ge
    have H13 := Lib.hid HU3.out.below.size
    clear hx ho hL HO HU3 hlt HS HZB
    go_upto_region 19 with (first
      | (refine load_ten HX.out rfl (.tmp 7) rfl rfl ?_)
      | (go_at_call 10; (with_reducible refine CP.out.mono ?_); rintro e w5 ⟨rfl, own5, v5, x5, K5, HU5, HF5⟩))
    have HN5 : Hid (∀ g, w5.heap.size ≤ g → own5 g = none) := Lib.hid (fresh_none HU5.out (Nat.le_refl _))
    have HOB : Hid (∀ g, (Value.slice A i c).ownBlock = some g → own5 g = none) := Lib.hid (fun g hg => (HF5.out.same g (HO2.out.lt g hg).2).trans (HN3.out g (HO2.out.lt g hg).1))
    have X5 : Hid (TenAt w5 tb ⟨ownTe L, A, c⟩) := Lib.hid ((HF5.out.block tb HX.out.lt (HN3.out tb HGE.out)).trans HX.out)
    have O5 : Hid (w5.ownsRow w3.heap.size 2 1 (.slice A i c) i (ivs L)) := Lib.hid (row_fr HO2.out HN3.out HF5.out)
    have c5 := ten_seg X5.out HMAY.out.2.2
    have HR5 := Lib.hid (Row.own O5.out)
    have E2 : Hid (∀ u ∈ ivs L, u.oneCell' = true) := Lib.hid (fun u hu => by
      obtain ⟨z, _, rfl⟩ := List.mem_map.1 hu
      rfl)
    have E3 : Hid (0 + i ≤ maxLen) := Lib.hid (by unfold maxLen; omega)
    have E4 : Hid ((0 + i) * 8 ≤ 140737488355328) := Lib.hid (by omega)
    clear CP HUR HIN HX HO2
    go_upto_region 20 with (first
      | (at_builtin; refine wpList_append_reads rfl (.const (.slice none 0 0)) (.tmp 65) 22 rfl w5.heap.size 2 (.int .i64 0) 8 Tryd.underlying22 i64s_info rfl (.slice none 0 0) 0 [] rfl (World.ownsRow_nil _ _ _ _) w5.heap.size A i c (ivs L) rfl HR5.out E2.out E3.out E4.out (Nat.le_refl _) ?_
         intro v6 w6 g6 b6
         rw [Nat.zero_add, List.nil_append] at g6
         obtain ⟨A6, c6, rfl, h61, h62⟩ := own_form g6
         have R6 := Lib.hid g6
         have B6 := Lib.hid b6
         clear g6 b6))
    have HB6 : Hid (Below w5.heap.size w5 w6) := Lib.hid (by
      have g := B6.out
      exact ⟨g.os, g.tape, g.output, g.size, fun k hk => g.block k hk (by simp [Value.ownBlock])⟩)
    have X6 : Hid (TenAt w6 tb ⟨ownTe L, A, c⟩) := Lib.hid (X5.out.below HB6.out X5.out.lt)
    have O6 : Hid (w6.ownsRow w3.heap.size 2 1 (.slice A i c) i (ivs L)) := Lib.hid (own_all O5.out HB6.out)
    have HU6 := Lib.hid (HU5.out.all HB6.out)
    have HWR0 : Hid (Wr w6 w6 A i c 0 (ivs L)) := Lib.hid (wr_start O6.out)
    have HLI : Hid (i ≤ 30) := Lib.hid (by omega)
    have HOL : Hid (∀ g, (Value.slice A i c).ownBlock = some g → g < w5.heap.size) := Lib.hid (fun g hg => (O5.out.lt g hg).2)
    have hi64 : (i : Int) ≤ 30 := by omega
    clear c5 HU5 X5 O5 HR5 E2 E3 E4 B6 HF5 HBR h30
    go_wp2_with fail
    go_loopw [11] (fun jv wz => ∃ j : Nat, jv = .int .i64 (j : Int) ∧ j ≤ i ∧ Hid (Wr w6 wz A i c j (ivs L))) (fun jv _ => i - (RowKit.intOf jv).toNat)
    case atStart => exact ⟨0, rfl, Nat.zero_le _, HWR0⟩
    case round =>
      clear HWR0
      obtain ⟨j, rfl, hj, HJ⟩ := hrel
      have XZ : Hid (TenAt wr tb ⟨ownTe L, A, c⟩) := Lib.hid (Rec.blk_kept X6.out HJ.out.grow (own_not O6.out X6.out seg_kinds))
      have c5 := ten_seg XZ.out HMAY.out.2.2
      by_cases hlt : j < i
      case pos =>
        have hlt' : (j : Int) < (i : Int) := by omega
        obtain ⟨g, cur, rfl, hg, hnc, hcz, hcx⟩ := HJ.out.blk (by omega)
        have y := Blk.cell hg j
        rw [Array.getElem?_eq_getElem (by omega)] at y
        have f := Blk.free hg j
        have HN := Lib.hid (wr_next HJ.out hlt (.int .i64 (-1)))
        clear hg hcx
        go_wp2_with fail
        go_roundw
        case rel => exact ⟨j + 1, by go_num, by omega, HN⟩
        case measure => (simp [RowKit.intOf]; omega)
      case neg =>
      obtain rfl : j = i := by omega
      have HB1Z : Hid (MUp own5 w1 wr m v5 x5 K5 [ownTe L]) := Lib.hid (mup_row HU6.out O6.out HJ.out.grow HOB.out H13.out HM3.out)
      have HTW : Hid (∀ (u : Nat), w5.heap.size ≤ u → some u ≠ (Value.slice A j c).ownBlock) := Lib.hid (fun u hu e => by have := HOL.out u e.symm; omega)
      have RZ : Hid (wr.ownsRow w5.heap.size 2 1 (.slice A6 j c6) j (ivs L)) := Lib.hid (own_kept R6.out HJ.out.grow (fun g hg => HTW.out g (R6.out.lt g hg).1))
      have HSZ : Hid (w5.heap.size ≤ wr.heap.size) := Lib.hid (Nat.le_trans HB6.out.size HJ.out.grow.size)
      have CG : Hid (Calls Tryd.prog 12 #[.pointer (some ⟨m, 0, none⟩), .int .u32 4] wr fun e w' => ∃ A8 c8, e = .returned (.tuple #[.agg (Tv.vals ⟨ownTe L, A8, c8⟩), .bool true]) ∧ Hid (w'.ownsRow wr.heap.size 2 1 (.slice A8 j c8) j (ivs L)) ∧ Hid (Below wr.heap.size wr w')) := Lib.hid (by
        have h := HB1Z.out
        refine (manget_any 4 h.up.lies h.man h.txt).mono ?_
        rintro e w' (⟨x8, rfl, h1, h2, h3, _, h5⟩ | ⟨_, h1, _⟩)
        · obtain ⟨te8, A8, c8⟩ := x8
          have e8 : te8 = ownTe L := List.mem_singleton.1 h1
          subst e8
          refine ⟨A8, c8, rfl, Lib.hid ?_, Lib.hid h5⟩
          have h6 : w'.ownsRow wr.heap.size 2 1 (.slice A8 L.length c8) L.length (ivs L) := h3
          rw [HMAY.out.2.2] at h6
          exact h6
        · exact absurd rfl (h1 (ownTe L) (List.mem_singleton.2 rfl)))
      clear HU6 HJ R6 HB6 XZ X6 O6 HOB HOL
      go_upto_region 25 with (first
        | (go_at_call 12; (with_reducible refine CG.out.mono ?_); rintro e w8 ⟨A8, c8, rfl, O8, HB8⟩)
        | (refine store_ten (ten_zero w8) rfl rfl (.tmp 12) (.tmp 81) rfl rfl ⟨ownTe L, A8, c8⟩ rfl rfl ?_; intro w9 X9 G9))
      have HBA := Lib.hid (below_only (below_alloc w8 (.cells #[.int .u32 0, .int .u64 0, .int .i64 0, .int .u64 0, .int .i64 0, .slice none 0 0] 34)) G9.out (Nat.le_refl _) (by simp))
      obtain ⟨xb, hxb⟩ : ∃ xb, xb = w8.heap.size := ⟨_, rfl⟩
      rw [← hxb] at X9 ⊢
      have HB9 := Lib.hid (HB8.out.trans (HBA.out.mono HB8.out.size))
      have O9 := Lib.hid (own_all O8.out HBA.out)
      have R9 := Lib.hid (own_all RZ.out HB9.out)
      have HU9 := Lib.hid (HB1Z.out.all HB9.out)
      have HOB9 : Hid (∀ g, (Value.slice A8 j c8).ownBlock = some g → own5 g = none) := Lib.hid (fun g hg => HN5.out g (Nat.le_trans HSZ.out (O9.out.lt g hg).1))
      have HNE9 : Hid (∀ g, (Value.slice A6 j c6).ownBlock = some g → some g ≠ (Value.slice A8 j c8).ownBlock) := Lib.hid (fun g hg e => by
        have h1 := (RZ.out.lt g hg).2
        have h2 := (O9.out.lt g e.symm).1
        omega)
      have HWR9 : Hid (Wr w9 w9 A8 j c8 0 (ivs L)) := Lib.hid (wr_start O9.out)
      have H19 := Lib.hid (Nat.le_trans HB1Z.out.below.size (Nat.le_refl _))
      have HM9 := Lib.hid HB1Z.out.man.lt
      have hc8 : c8 ≤ 9223372036854775807 := by
        obtain ⟨_, _, e, e1, e2⟩ := own_form O9.out
        injection e with e3 e4 e5
        unfold maxLen at e2
        omega
      have hc6 : c6 ≤ 9223372036854775807 := by unfold maxLen at h62; exact h62
      clear hxb HBA HB8 O8 RZ HB1Z CG G9 c5
      go_wp2_with fail
      go_loopw [14] (fun kv wz => ∃ k : Nat, kv = .int .i64 (k : Int) ∧ k ≤ j ∧ Hid (Wr w9 wz A8 j c8 k (ivs L))) (fun kv _ => j - (RowKit.intOf kv).toNat)
      case atStart => exact ⟨0, rfl, Nat.zero_le _, HWR9⟩
      case round =>
        clear HWR9
        obtain ⟨k, rfl, hk, HK⟩ := hrel
        have XK : Hid (TenAt wr xb ⟨ownTe L, A8, c8⟩) := Lib.hid (Rec.blk_kept X9.out HK.out.grow (own_not O9.out X9.out seg_kinds))
        have c8f := ten_seg XK.out HMAY.out.2.2
        have RK := Lib.hid (own_kept R9.out HK.out.grow (fun g hg => HNE9.out g hg))
        by_cases hlt : k < j
        case pos =>
          have hlt' : (k : Int) < (j : Int) := by omega
          obtain ⟨g, cur, rfl, hg, hnc, hcz, hcx⟩ := HK.out.blk (by omega)
          obtain ⟨z, hz⟩ : ∃ z, z = L.getD k 0 := ⟨_, rfl⟩
          obtain ⟨b6, o6, rfl, _, hq6⟩ := (Row.own RK.out).int (by omega)
          have y6 := hq6 k hlt
          rw [← hz] at y6
          have y := Blk.cell hg k
          rw [hcx k (Nat.le_refl _) hlt] at y
          have ez : (ivs L)[k]? = some (.int .i64 z) := by
            have hl := HMAY.out.2.2
            rw [ivs, List.getElem?_map, List.getElem?_eq_getElem (by omega), hz, List.getD_eq_getElem?_getD, List.getElem?_eq_getElem (by omega)]
            rfl
          rw [ez] at y
          have f := Blk.free hg k
          have HN : Hid (∀ q, Wr w9 ((wr.drewN q).setCell ⟨g, k, none⟩ (.int .i64 (-2))) (some ⟨g, 0, none⟩) j c8 (k + 1) (ivs L)) := Lib.hid (fun q => wr_next (wr_drew HK.out) hlt (.int .i64 (-2)))
          clear hg hcx hq6 hz ez
          go_wp2_with fail
          go_quiet (fail)
          go_wp2_with fail
          go_roundw
          case rel => exact ⟨k + 1, by go_num, by omega, Lib.hid (HN.out _)⟩
          case measure => (simp [RowKit.intOf]; omega)
        case neg =>
        obtain rfl : k = j := by omega
        have HUK := Lib.hid (mup_row HU9.out O9.out HK.out.grow HOB9.out H19.out HM9.out)
        have CA : Hid (Calls Tryd.prog 13 #[.pointer (some ⟨m, 0, none⟩)] wr fun e w' => ∃ b o c A3 c3, e = .returned (.slice (some ⟨b, o, none⟩) 1 c) ∧ 1 ≤ c ∧ c ≤ 9223372036854775807 ∧ c3 ≤ 9223372036854775807 ∧ Hid (b < w'.heap.size ∧ w'.cell? ⟨b, o + 5, none⟩ = some (.slice A3 k c3)) ∧ Hid (Row w' w'.heap.size A3 k (ivs L)) ∧ Hid (Below wr.heap.size wr w')) := Lib.hid (by
          have h := HUK.out
          refine (manall_any h.up.lies h.man h.txt).mono ?_
          rintro e w' ⟨va, l, rfl, hl, hto⟩
          obtain ⟨x, rfl⟩ : ∃ x, l = [x] := by
            rcases l with _ | ⟨x, _ | ⟨y, l⟩⟩
            · simp at hl
            · exact ⟨x, rfl⟩
            · simp at hl
          obtain ⟨te, A3, c3⟩ := x
          have e3 : te = ownTe L := by simpa using hl
          subst e3
          have hs : w'.ownsRow wr.heap.size 2 1 (.slice A3 L.length c3) L.length (ivs L) := hto.each _ (List.mem_singleton.2 rfl)
          rw [HMAY.out.2.2] at hs
          obtain ⟨A, c, rfl, q1, q2, hten⟩ := hto.form
          obtain ⟨b, o, rfl, hb, _⟩ := hten.row.2 (by show 0 < 1 * 6; decide)
          obtain ⟨v, hv, _, hr⟩ := hten.at (i := 0) (by show 0 < 1; decide)
          have hv' : (⟨ownTe L, A3, c3⟩ : Tv) = v := by simpa using hv
          subst hv'
          have h5 := (range_ten hr).2.2.2.2.2
          have h6 : w'.cell? ⟨b, o + 5, none⟩ = some (.slice A3 L.length c3) := by
            rw [Nat.zero_mul, Nat.add_zero] at h5
            exact h5
          rw [HMAY.out.2.2] at h6
          obtain ⟨_, _, e, e1, e2⟩ := own_form hs
          injection e with e3 e4 e5
          unfold maxLen at e2 q2
          exact ⟨b, o, c, A3, c3, rfl, q1, q2, by omega, Lib.hid ⟨hb, h6⟩, Lib.hid (Row.own hs), Lib.hid hto.below⟩)
        clear HU9 O9 HOB9 X9 XK HK
        go_upto_region 32 with (go_at_call 13; (with_reducible refine CA.out.mono ?_); rintro e w11 ⟨b, o, c11, A3, c3, rfl, h111, h112, h113, HC5, HR3, HB11⟩)
        have R11 := Lib.hid (own_all RK.out HB11.out)
        have HU11 := Lib.hid (HUK.out.all HB11.out)
        have c5 := HC5.out.2
        clear CA HUK RK c8f
        go_upto_region 34 with fail
        clear c5
        go_wp2_with fail
        go_loopw [16] (fun qv wz => ∃ q : Nat, qv = .int .i64 (q : Int) ∧ q ≤ k ∧ Hid (Below w11.heap.size w11 wz)) (fun qv _ => k - (RowKit.intOf qv).toNat)
        case atStart => exact ⟨0, rfl, Nat.zero_le _, Below.refl _ _⟩
        case round =>
          obtain ⟨q, rfl, hq, HQ⟩ := hrel
          by_cases hlt : q < k
          case pos =>
            have hlt' : (q : Int) < (k : Int) := by omega
            have c5 := (HQ.out.cell (p := ⟨b, o + 5, none⟩) HC5.out.1).trans HC5.out.2
            obtain ⟨z, hz⟩ : ∃ z, z = L.getD q 0 := ⟨_, rfl⟩
            obtain ⟨b6, o6, rfl, _, hq6⟩ := ((Row.own R11.out).below HQ.out).int (by omega)
            have y6 := hq6 q hlt
            obtain ⟨b3, o3, rfl, _, hq3⟩ := (HR3.out.below HQ.out).int (by omega)
            have y3 := hq3 q hlt
            rw [← hz] at y6 y3
            clear hq6 hq3 hz
            go_wp2_with fail
            go_quiet (fail)
            go_wp2_with fail
            go_roundw
            case rel => exact ⟨q + 1, by go_num, by omega, Lib.hid (HQ.out.trans ((below_drewN (Below.refl _ _) _).mono HQ.out.size))⟩
            case measure => (simp [RowKit.intOf]; omega)
          case neg =>
          have hlt' : ¬ (q : Int) < (k : Int) := by omega
          have HUZ := Lib.hid (HU11.out.all HQ.out)
          go_wp2_with fail
          go_ret
          exact ⟨by first | rfl | simp, HB1.out.trans (HUZ.out.below.mono HB1.out.size)⟩
end Go.Proofs.YtcmlchicpmnhdaaDoor.Man
