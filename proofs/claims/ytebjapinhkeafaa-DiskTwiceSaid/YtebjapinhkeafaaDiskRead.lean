/-
  Proved: what Read, Size and Sync of package disk do.
-/
import Derived.Test.YtebjapinhkeafaaDiskPut
namespace Go.Proofs.Ytebjapinhkeafaa.Disk
open Go.RowKit Go.Maps
set_option linter.unusedVariables false
set_option linter.unusedSimpArgs false

theorem DiskIn.look {own : Own} {w : World} {f K nb sb g : Nat} {d : Dk} {wv : Value} {s : ByteArray} (h : DiskIn own w f d K nb sb wv) (hx : dget s.data.toList d.N = some g) : g ≠ f ∧ FileAt own w f g (d.fl g) :=
  h.files g (.inl (List.mem_map.2 ⟨_, dget_mem hx, rfl⟩))
theorem size_none {own : Own} {w : World} {f K : Nat} {d : Dk} (s : ByteArray) (h : DiskAt own w f d K) (hs : s.size ≤ maxLen) (hx : dget s.data.toList d.N = none) :
    Calls Try.prog 18 #[.pointer (some ⟨f, 0, none⟩), .string s] w fun e w' => e = .returned (.int .i64 (-1)) ∧ w' = w := by
  obtain ⟨nb, sb, wv, h⟩ := h
  have b1 : w.cell? ⟨f, 1, none⟩ = some (.map (some nb)) := Blk.cell h.blk 1
  have lk := dir_look_none h.mapN hs hx
  clear h
  go_enter Try.func18, Try.ntmps18
  go_wp2
  go_ret
  exact ⟨rfl, rfl⟩
theorem size_some {own : Own} {w : World} {f K g : Nat} {d : Dk} (s : ByteArray) (h : DiskAt own w f d K) (hs : s.size ≤ maxLen) (hx : dget s.data.toList d.N = some g) :
    Calls Try.prog 18 #[.pointer (some ⟨f, 0, none⟩), .string s] w fun e w' => e = .returned (.int .i64 ((d.fl g).now.length : Int)) ∧ w' = w := by
  obtain ⟨nb, sb, wv, h⟩ := h
  have b1 : w.cell? ⟨f, 1, none⟩ = some (.map (some nb)) := Blk.cell h.blk 1
  have lk := dir_look_some h.mapN hs hx
  obtain ⟨_, v, ob, hf⟩ := h.look hx
  obtain ⟨A, c, rfl, _, _⟩ := own_form hf.row
  have cg : w.cell? ⟨g, 0, none⟩ = some (.slice A (d.fl g).now.length c) := Blk.cell hf.blk 0
  have hmx := hf.ok.max
  clear h hf
  go_enter Try.func18, Try.ntmps18
  go_wp2
  go_ret
  exact ⟨rfl, rfl⟩
theorem read_none {own : Own} {w : World} {f K : Nat} {d : Dk} (s : ByteArray) (a n : Int) (h : DiskAt own w f d K) (hs : s.size ≤ maxLen) (hx : dget s.data.toList d.N = none) :
    Calls Try.prog 17 #[.pointer (some ⟨f, 0, none⟩), .string s, .int .i64 a, .int .i64 n] w fun e w' => e = .returned (.tuple #[.slice none 0 0, .int .i64 1]) ∧ w' = w := by
  obtain ⟨nb, sb, wv, h⟩ := h
  have b1 : w.cell? ⟨f, 1, none⟩ = some (.map (some nb)) := Blk.cell h.blk 1
  have lk := dir_look_none h.mapN hs hx
  clear h
  go_enter Try.func17, Try.ntmps17
  go_wp2
  go_ret2
  exact ⟨rfl, rfl⟩
theorem read_range {own : Own} {w : World} {f K g : Nat} {d : Dk} (s : ByteArray) (a n : Int) (h : DiskAt own w f d K) (hs : s.size ≤ maxLen) (hx : dget s.data.toList d.N = some g)
    (hbad : a < 0 ∨ ((d.fl g).now.length : Int) < a ∨ n < 0 ∨ ((d.fl g).now.length : Int) - a < n) :
    Calls Try.prog 17 #[.pointer (some ⟨f, 0, none⟩), .string s, .int .i64 a, .int .i64 n] w fun e w' => e = .returned (.tuple #[.slice none 0 0, .int .i64 6]) ∧ w' = w := by
  obtain ⟨nb, sb, wv, h⟩ := h
  have b1 : w.cell? ⟨f, 1, none⟩ = some (.map (some nb)) := Blk.cell h.blk 1
  have lk := dir_look_some h.mapN hs hx
  obtain ⟨_, v, ob, hf⟩ := h.look hx
  obtain ⟨A, c, rfl, _, _⟩ := own_form hf.row
  have cg : w.cell? ⟨g, 0, none⟩ = some (.slice A (d.fl g).now.length c) := Blk.cell hf.blk 0
  have hmx := hf.ok.max
  clear h hf
  generalize (d.fl g).now.length = N at *
  by_cases h1 : a < 0
  · go_enter Try.func17, Try.ntmps17
    go_wp2
    go_ret2
    exact ⟨rfl, rfl⟩
  · have h1' : 0 ≤ a := by omega
    by_cases h2 : (N : Int) < a
    · go_enter Try.func17, Try.ntmps17
      go_wp2
      go_ret2
      exact ⟨rfl, rfl⟩
    · have h2' : a ≤ (N : Int) := by omega
      by_cases h3 : n < 0
      · go_enter Try.func17, Try.ntmps17
        go_wp2
        go_ret2
        exact ⟨rfl, rfl⟩
      · have h3' : 0 ≤ n := by omega
        have h4 : (N : Int) - a < n := by omega
        clear hbad h1 h2 h3
        go_enter Try.func17, Try.ntmps17
        go_wp2
        go_ret2
        exact ⟨rfl, rfl⟩
/-- A slice of a file's own bytes, as the walk has it. -/
theorem cut_row {w : World} {A : Option Addr} {n c : Nat} {now : List UInt8} (hrow : w.ownsRow 0 5 1 (.slice A n c) n (bvs now)) (F T : Nat) (hFT : F ≤ T) (hT : T ≤ n) (D : Value)
    (hD : (c = F ∧ D = .slice A 0 0) ∨ (c ≠ F ∧ D = .slice (Option.map (fun x => x.add F) A) (T - F) (c - F))) (hm : n ≤ 140737488355328) :
    Calls Try.prog 38 #[D] w fun e w' => ∃ v, e = .returned v ∧ w'.ownsRow w.heap.size 5 1 v (T - F) (bvs ((now.drop F).take (T - F))) ∧ Below w.heap.size w w' := by
  obtain ⟨_, _, e, hnc, _⟩ := own_form hrow
  injection e with _ _ e
  subst e
  have hR := Row.own hrow
  rcases hD with ⟨hc, rfl⟩ | ⟨hc, rfl⟩
  · have e0 : T - F = 0 := by omega
    rw [e0, List.take_zero]
    exact clone_any (B := 0) 0 ⟨rfl, fun h => absurd h (by omega)⟩ (by omega) (fun _ => rfl)
  · have hA : A ≠ none := by
      rintro rfl
      rcases hrow.2 with ⟨e, _⟩ | ⟨g, cap, cur, e, _⟩
      · injection e with _ _ e; omega
      · injection e with e; cases e
    have hR' : Row w w.heap.size (Option.map (fun x => x.add F) A) (T - F) (bvs ((now.drop F).take (T - F))) := by
      rcases Nat.lt_or_ge F T with hlt | hge
      · have := Row.cut hR hlt hT
        rw [bvs_drop, bvs_take] at this
        exact this
      · have e0 : T - F = 0 := by omega
        rw [e0, List.take_zero]
        exact ⟨rfl, fun h => absurd h (by omega)⟩
    exact clone_any (c - F) hR' (by omega) (fun h => absurd (Option.map_eq_none_iff.1 h) hA)
def Dk.read (d : Dk) (n : Nat) : Dk := { d with reads := d.reads + n }
set_option maxRecDepth 100000 in
theorem read_ok {own : Own} {w : World} {f K g : Nat} {d : Dk} (s : ByteArray) (a n : Nat) (h : DiskAt own w f d K) (hs : s.size ≤ maxLen) (hx : dget s.data.toList d.N = some g) (hn : a + n ≤ (d.fl g).now.length) (hK : K + 1 ≤ 1073741824) :
    Calls Try.prog 17 #[.pointer (some ⟨f, 0, none⟩), .string s, .int .i64 (a : Int), .int .i64 (n : Int)] w fun e w' => ∃ v, e = .returned (.tuple #[v, .int .i64 0]) ∧
      w'.ownsRow w.heap.size 5 1 v n (bvs (((d.fl g).now.drop a).take n)) ∧ DiskAt own w' f (d.read n) (K + 1) ∧ Step own own f w w' := by
  obtain ⟨nb, sb, wv, h⟩ := h
  have b1 : w.cell? ⟨f, 1, none⟩ = some (.map (some nb)) := Blk.cell h.blk 1
  have b5 : w.cell? ⟨f, 5, none⟩ = some (.int .i64 d.reads) := Blk.cell h.blk 5
  have fr5 := Blk.free h.blk 5
  have lk := dir_look_some h.mapN hs hx
  obtain ⟨hgf, v, ob, hf⟩ := h.look hx
  obtain ⟨A, c, rfl, hc1, hc2⟩ := own_form hf.row
  have cg : w.cell? ⟨g, 0, none⟩ = some (.slice A (d.fl g).now.length c) := Blk.cell hf.blk 0
  have hmx := hf.ok.max
  have hrd := h.ok.reads
  have hKb := h.ok.big
  have hmid : DiskIn own (w.setCell ⟨f, 5, none⟩ (.int .i64 (d.reads + n))) f (d.read n) (K + 1) nb sb wv := by
    refine h.put (only_setCell w ⟨f, 5, none⟩ _) (Blk.put h.blk 5 _) rfl rfl rfl rfl ?_
    obtain ⟨k1, k2, k3, k4, k5, k6, k7, k8⟩ := h.ok
    refine ⟨hK, k2, ?_, ?_, k5, ?_, ?_, k8⟩
    · show d.N.length ≤ _; omega
    · show d.S.length + d.wait.length ≤ _; omega
    · show 0 ≤ d.calls ∧ d.calls ≤ _; omega
    · show 0 ≤ d.reads + n ∧ d.reads + n ≤ _; omega
  have hst : Step own own f w (w.setCell ⟨f, 5, none⟩ (.int .i64 (d.reads + n))) := Step.of_grown h.top h.of (only_setCell w ⟨f, 5, none⟩ _)
  have hsz : (w.setCell ⟨f, 5, none⟩ (.int .i64 (d.reads + n))).heap.size = w.heap.size := by simp [World.setCell]
  have hrow : (w.setCell ⟨f, 5, none⟩ (.int .i64 (d.reads + n))).ownsRow 0 5 1 (.slice A (d.fl g).now.length c) (d.fl g).now.length (bvs (d.fl g).now) := by
    refine row_keep hf.row fun b hb => (only_setCell w ⟨f, 5, none⟩ _).block b (row_lt hf.row b hb) ?_
    intro e
    have e' : b = f := Option.some.inj e
    have h1 := hf.orow b hb
    rw [e', h.of] at h1
    injection h1 with h1
    injection h1 with _ h1
    exact hgf h1.symm
  have cg1 : (w.setCell ⟨f, 5, none⟩ (.int .i64 (d.reads + n))).cell? ⟨g, 0, none⟩ = some (.slice A (d.fl g).now.length c) :=
    (World.cell?_of_block ((only_setCell w ⟨f, 5, none⟩ _).block g (blk_lt' hf.blk) (fun e => hgf (Option.some.inj e)))).trans cg
  have HM := Lib.hid hmid
  have HST := Lib.hid hst
  have HSZ := Lib.hid hsz
  generalize hNN : (d.fl g).now = now at *
  have HRW := Lib.hid hrow
  have HNN := Lib.hid hNN
  clear hmid hst hrow hf h hsz hNN
  by_cases hca : c = a
  · have hn0 : n = 0 := by omega
    subst hca
    subst hn0
    have CL := cut_row HRW.out c c (Nat.le_refl _) (by omega) (.slice A 0 0) (.inl ⟨rfl, rfl⟩) (by omega)
    rw [Nat.sub_self] at CL
    have HCL := Lib.hid CL
    have hz : d.reads + ((0 : Nat) : Int) = d.reads := by simp
    rw [hz] at HCL HM HST HSZ
    clear CL hz
    go_enter Try.func17, Try.ntmps17
    go_wp2_with (go_at_call 38; refine HCL.out.mono ?_; rintro e w2 ⟨v, rfl, r2, b2⟩)
    go_ret2
    exact ⟨v, rfl, by rw [HSZ.out] at r2; exact r2, DiskAt.below ⟨nb, sb, wv, HM.out⟩ b2, HST.out.trans (Step.of_below HM.out.top b2)⟩
  · have CL := cut_row HRW.out a (a + n) (by omega) (by omega) (.slice (Option.map (fun x => x.add a) A) (a + n - a) (c - a)) (.inr ⟨hca, rfl⟩) (by omega)
    have e1 : a + n - a = n := by omega
    rw [e1] at CL
    have HCL := Lib.hid CL
    clear CL e1
    go_enter Try.func17, Try.ntmps17
    go_wp2_with (go_at_call 38; refine HCL.out.mono ?_; rintro e w2 ⟨v, rfl, r2, b2⟩)
    go_ret2
    exact ⟨v, rfl, by rw [HSZ.out] at r2; exact r2, DiskAt.below ⟨nb, sb, wv, HM.out⟩ b2, HST.out.trans (Step.of_below HM.out.top b2)⟩
end Go.Proofs.Ytebjapinhkeafaa.Disk
