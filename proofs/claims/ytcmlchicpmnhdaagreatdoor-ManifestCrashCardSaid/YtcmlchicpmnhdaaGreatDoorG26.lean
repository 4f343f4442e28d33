/-
  Texts one behind the other: DiskRead, DiskSort, DiskSize.
-/
import Derived.Shelf.AbstractIn
import Derived.Deep.QuietTactic
import Derived.BigQuiet
import Derived.Test.YtcmlchicpmnhdaaGreatDoorG25
/-
  Proved: what Read, Size and Sync of package disk do.
-/
namespace Go.Proofs.YtcmlchicpmnhdaaGreatDoor.Disk
open Go.RowKit Go.Maps
set_option linter.unusedVariables false
set_option linter.unusedSimpArgs false

theorem DiskIn.look {own : Own} {w : World} {f K nb sb g : Nat} {d : Dk} {wv : Value} {s : ByteArray} (h : DiskIn own w f d K nb sb wv) (hx : dget s.data.toList d.N = some g) : g ≠ f ∧ FileAt own w f g (d.fl g) :=
  h.files g (.inl (List.mem_map.2 ⟨_, dget_mem hx, rfl⟩))
theorem size_none {own : Own} {w : World} {f K : Nat} {d : Dk} (s : ByteArray) (h : DiskAt own w f d K) (hs : s.size ≤ maxLen) (hx : dget s.data.toList d.N = none) :
    Calls Tryz.prog 45 #[.pointer (some ⟨f, 0, none⟩), .string s] w fun e w' => e = .returned (.int .i64 (-1)) ∧ w' = w := by
  obtain ⟨nb, sb, wv, h⟩ := h
  have b1 : w.cell? ⟨f, 1, none⟩ = some (.map (some nb)) := Blk.cell h.blk 1
  have lk := dir_look_none h.mapN hs hx
  clear h
  go_enter Tryz.func45, Tryz.ntmps45
  go_wp2
  go_ret
  exact ⟨rfl, rfl⟩
theorem size_some {own : Own} {w : World} {f K g : Nat} {d : Dk} (s : ByteArray) (h : DiskAt own w f d K) (hs : s.size ≤ maxLen) (hx : dget s.data.toList d.N = some g) :
    Calls Tryz.prog 45 #[.pointer (some ⟨f, 0, none⟩), .string s] w fun e w' => e = .returned (.int .i64 ((d.fl g).now.length : Int)) ∧ w' = w := by
  obtain ⟨nb, sb, wv, h⟩ := h
  have b1 : w.cell? ⟨f, 1, none⟩ = some (.map (some nb)) := Blk.cell h.blk 1
  have lk := dir_look_some h.mapN hs hx
  obtain ⟨_, v, ob, hf⟩ := h.look hx
  obtain ⟨A, c, rfl, _, _⟩ := own_form hf.row
  have cg : w.cell? ⟨g, 0, none⟩ = some (.slice A (d.fl g).now.length c) := Blk.cell hf.blk 0
  have hmx := hf.ok.max
  clear h hf
  go_enter Tryz.func45, Tryz.ntmps45
  go_wp2
  go_ret
  exact ⟨rfl, rfl⟩
theorem read_none {own : Own} {w : World} {f K : Nat} {d : Dk} (s : ByteArray) (a n : Int) (h : DiskAt own w f d K) (hs : s.size ≤ maxLen) (hx : dget s.data.toList d.N = none) :
    Calls Tryz.prog 68 #[.pointer (some ⟨f, 0, none⟩), .string s, .int .i64 a, .int .i64 n] w fun e w' => e = .returned (.tuple #[.slice none 0 0, .int .i64 1]) ∧ w' = w := by
  obtain ⟨nb, sb, wv, h⟩ := h
  have b1 : w.cell? ⟨f, 1, none⟩ = some (.map (some nb)) := Blk.cell h.blk 1
  have lk := dir_look_none h.mapN hs hx
  clear h
  go_enter Tryz.func68, Tryz.ntmps68
  go_wp2
  go_ret2
  exact ⟨rfl, rfl⟩
theorem read_range {own : Own} {w : World} {f K g : Nat} {d : Dk} (s : ByteArray) (a n : Int) (h : DiskAt own w f d K) (hs : s.size ≤ maxLen) (hx : dget s.data.toList d.N = some g)
    (hbad : a < 0 ∨ ((d.fl g).now.length : Int) < a ∨ n < 0 ∨ ((d.fl g).now.length : Int) - a < n) :
    Calls Tryz.prog 68 #[.pointer (some ⟨f, 0, none⟩), .string s, .int .i64 a, .int .i64 n] w fun e w' => e = .returned (.tuple #[.slice none 0 0, .int .i64 6]) ∧ w' = w := by
  obtain ⟨nb, sb, wv, h⟩ := h
  have b1 : w.cell? ⟨f, 1, none⟩ = some (.map (some nb)) := Blk.cell h.blk 1
  have lk := dir_look_some h.mapN hs hx
  obtain ⟨_, v, ob, hf⟩ := h.look hx
  obtain ⟨A, c, rfl, _, _⟩ := own_form hf.row
  have cg : w.cell? ⟨g, 0, none⟩ = some (.slice A (d.fl g).now.length c) := Blk.cell hf.blk 0
  have hmx := hf.ok.max
  clear h hf
  generalize (d.fl g).now.length = N at *
  by_cases h1 : a < 0
  · go_enter Tryz.func68, Tryz.ntmps68
    go_wp2
    go_ret2
    exact ⟨rfl, rfl⟩
  · have h1' : 0 ≤ a := by omega
    by_cases h2 : (N : Int) < a
    · go_enter Tryz.func68, Tryz.ntmps68
      go_wp2
      go_ret2
      exact ⟨rfl, rfl⟩
    · have h2' : a ≤ (N : Int) := by omega
      by_cases h3 : n < 0
      · go_enter Tryz.func68, Tryz.ntmps68
        go_wp2
        go_ret2
        exact ⟨rfl, rfl⟩
      · have h3' : 0 ≤ n := by omega
        have h4 : (N : Int) - a < n := by omega
        clear hbad h1 h2 h3
        go_enter Tryz.func68, Tryz.ntmps68
        go_wp2
        go_ret2
        exact ⟨rfl, rfl⟩
/-- A slice of a file's own bytes, as the walk has it. -/
theorem cut_row {w : World} {A : Option Addr} {n c : Nat} {now : List UInt8} (hrow : w.ownsRow 0 5 1 (.slice A n c) n (bvs now)) (F T : Nat) (hFT : F ≤ T) (hT : T ≤ n) (D : Value)
    (hD : (c = F ∧ D = .slice A 0 0) ∨ (c ≠ F ∧ D = .slice (Option.map (fun x => x.add F) A) (T - F) (c - F))) (hm : n ≤ 140737488355328) :
    Calls Tryz.prog 63 #[D] w fun e w' => ∃ v, e = .returned v ∧ w'.ownsRow w.heap.size 5 1 v (T - F) (bvs ((now.drop F).take (T - F))) ∧ Below w.heap.size w w' := by
  obtain ⟨_, _, e, hnc, _⟩ := own_form hrow
  injection e with _ _ e
  subst e
  have hR := Row.own hrow
  rcases hD with ⟨hc, rfl⟩ | ⟨hc, rfl⟩
  · have e0 : T - F = 0 := by omega
    rw [e0, List.take_zero]
    exact clone_any (B := 0) 0 ⟨rfl, fun h => absurd h (by omega)⟩ (by omega) (fun _ => rfl)
  · have hA : A ≠ none := by
      rintro rfl
      rcases hrow.2 with ⟨e, _⟩ | ⟨g, cap, cur, e, _⟩
      · injection e with _ _ e; omega
      · injection e with e; cases e
    have hR' : Row w w.heap.size (Option.map (fun x => x.add F) A) (T - F) (bvs ((now.drop F).take (T - F))) := by
      rcases Nat.lt_or_ge F T with hlt | hge
      · have := Row.cut hR hlt hT
        rw [bvs_drop, bvs_take] at this
        exact this
      · have e0 : T - F = 0 := by omega
        rw [e0, List.take_zero]
        exact ⟨rfl, fun h => absurd h (by omega)⟩
    exact clone_any (c - F) hR' (by omega) (fun h => absurd (Option.map_eq_none_iff.1 h) hA)
def Dk.read (d : Dk) (n : Nat) : Dk := { d with reads := d.reads + n }
set_option maxRecDepth 100000 in
theorem read_ok {own : Own} {w : World} {f K g : Nat} {d : Dk} (s : ByteArray) (a n : Nat) (h : DiskAt own w f d K) (hs : s.size ≤ maxLen) (hx : dget s.data.toList d.N = some g) (hn : a + n ≤ (d.fl g).now.length) (hK : K + 1 ≤ 1073741824) :
    Calls Tryz.prog 68 #[.pointer (some ⟨f, 0, none⟩), .string s, .int .i64 (a : Int), .int .i64 (n : Int)] w fun e w' => ∃ v, e = .returned (.tuple #[v, .int .i64 0]) ∧
      w'.ownsRow w.heap.size 5 1 v n (bvs (((d.fl g).now.drop a).take n)) ∧ DiskAt own w' f (d.read n) (K + 1) ∧ Step own own f w w' := by
  obtain ⟨nb, sb, wv, h⟩ := h
  have b1 : w.cell? ⟨f, 1, none⟩ = some (.map (some nb)) := Blk.cell h.blk 1
  have b5 : w.cell? ⟨f, 5, none⟩ = some (.int .i64 d.reads) := Blk.cell h.blk 5
  have fr5 := Blk.free h.blk 5
  have lk := dir_look_some h.mapN hs hx
  obtain ⟨hgf, v, ob, hf⟩ := h.look hx
  obtain ⟨A, c, rfl, hc1, hc2⟩ := own_form hf.row
  have cg : w.cell? ⟨g, 0, none⟩ = some (.slice A (d.fl g).now.length c) := Blk.cell hf.blk 0
  have hmx := hf.ok.max
  have hrd := h.ok.reads
  have hKb := h.ok.big
  have hmid : DiskIn own (w.setCell ⟨f, 5, none⟩ (.int .i64 (d.reads + n))) f (d.read n) (K + 1) nb sb wv := by
    refine h.put (only_setCell w ⟨f, 5, none⟩ _) (Blk.put h.blk 5 _) rfl rfl rfl rfl ?_
    obtain ⟨k1, k2, k3, k4, k5, k6, k7, k8⟩ := h.ok
    refine ⟨hK, k2, ?_, ?_, k5, ?_, ?_, k8⟩
    · show d.N.length ≤ _; omega
    · show d.S.length + d.wait.length ≤ _; omega
    · show 0 ≤ d.calls ∧ d.calls ≤ _; omega
    · show 0 ≤ d.reads + n ∧ d.reads + n ≤ _; omega
  have hst : Step own own f w (w.setCell ⟨f, 5, none⟩ (.int .i64 (d.reads + n))) := Step.of_grown h.top h.of (only_setCell w ⟨f, 5, none⟩ _)
  have hsz : (w.setCell ⟨f, 5, none⟩ (.int .i64 (d.reads + n))).heap.size = w.heap.size := by simp [World.setCell]
  have hrow : (w.setCell ⟨f, 5, none⟩ (.int .i64 (d.reads + n))).ownsRow 0 5 1 (.slice A (d.fl g).now.length c) (d.fl g).now.length (bvs (d.fl g).now) := by
    refine row_keep hf.row fun b hb => (only_setCell w ⟨f, 5, none⟩ _).block b (row_lt hf.row b hb) ?_
    intro e
    have e' : b = f := Option.some.inj e
    have h1 := hf.orow b hb
    rw [e', h.of] at h1
    injection h1 with h1
    injection h1 with _ h1
    exact hgf h1.symm
  have cg1 : (w.setCell ⟨f, 5, none⟩ (.int .i64 (d.reads + n))).cell? ⟨g, 0, none⟩ = some (.slice A (d.fl g).now.length c) :=
    (World.cell?_of_block ((only_setCell w ⟨f, 5, none⟩ _).block g (blk_lt' hf.blk) (fun e => hgf (Option.some.inj e)))).trans cg
  have HM := Lib.hid hmid
  have HST := Lib.hid hst
  have HSZ := Lib.hid hsz
  generalize hNN : (d.fl g).now = now at *
  have HRW := Lib.hid hrow
  have HNN := Lib.hid hNN
  clear hmid hst hrow hf h hsz hNN
  by_cases hca : c = a
  · have hn0 : n = 0 := by omega
    subst hca
    subst hn0
    have CL := cut_row HRW.out c c (Nat.le_refl _) (by omega) (.slice A 0 0) (.inl ⟨rfl, rfl⟩) (by omega)
    rw [Nat.sub_self] at CL
    have HCL := Lib.hid CL
    have hz : d.reads + ((0 : Nat) : Int) = d.reads := by simp
    rw [hz] at HCL HM HST HSZ
    clear CL hz
    go_enter Tryz.func68, Tryz.ntmps68
    go_wp2_with (go_at_call 63; refine HCL.out.mono ?_; rintro e w2 ⟨v, rfl, r2, b2⟩)
    go_ret2
    exact ⟨v, rfl, by rw [HSZ.out] at r2; exact r2, DiskAt.below ⟨nb, sb, wv, HM.out⟩ b2, HST.out.trans (Step.of_below HM.out.top b2)⟩
  · have CL := cut_row HRW.out a (a + n) (by omega) (by omega) (.slice (Option.map (fun x => x.add a) A) (a + n - a) (c - a)) (.inr ⟨hca, rfl⟩) (by omega)
    have e1 : a + n - a = n := by omega
    rw [e1] at CL
    have HCL := Lib.hid CL
    clear CL e1
    go_enter Tryz.func68, Tryz.ntmps68
    go_wp2_with (go_at_call 63; refine HCL.out.mono ?_; rintro e w2 ⟨v, rfl, r2, b2⟩)
    go_ret2
    exact ⟨v, rfl, by rw [HSZ.out] at r2; exact r2, DiskAt.below ⟨nb, sb, wv, HM.out⟩ b2, HST.out.trans (Step.of_below HM.out.top b2)⟩
end Go.Proofs.YtcmlchicpmnhdaaGreatDoor.Disk
/-
  Proved: a directory's names, and a file's dirty sectors, rising: what slices.Sorted of maps.Keys returns of them.
-/
namespace Go.Proofs.YtcmlchicpmnhdaaGreatDoor.Disk
open Go.RowKit Go.Maps Go.Sort Go.Shelf
set_option linter.unusedVariables false
set_option linter.unusedSimpArgs false

theorem keysS_any (mb : Option Nat) (W : World) : Calls Tryz.prog 59 #[.map mb] W fun e w' => e = .returned (.func (.func 87) #[] #[.pointer (some ⟨W.heap.size, 0, none⟩)]) ∧ w' = W.alloc (.cells #[.map mb] 55) :=
  (callsIn_wide (n := 6)).1 (AnyZ.keys_in Shelf.keysS Fence.wide 6 trivial rfl mb W)
theorem sortsS (m : Nat) : AnyZ.SortsIn Tryz.prog Shelf.sortedS_ren Fence.wide m :=
  ⟨fun blk off cap ss W hH hblk hsz => callsIn_wide.2 (AnyM.slices_Sort_string Shelf.sortS blk off cap ss W hH hblk hsz),
   fun p cap W => callsIn_wide.2 (AnyM.slices_Sort_string_none Shelf.sortS p cap W)⟩
theorem sorted_names {N : Dir} (h : N.Pairwise fun p q => bytesBefore p.1 q.1 = true) {ss : List Nm} (hp : ss.Perm (strKeys (dirMap N))) : ss.mergeSort (fun x y => decide (x ≤ y)) = N.map (·.1) := by
  rw [dirMap_keys] at hp
  have hlt : ∀ a b : Nm, bytesBefore a b = true → a ≤ b := by
    intro a
    induction a with
    | nil => intro b _; exact List.nil_le b
    | cons x r ih =>
      intro b hb
      cases b with
      | nil => simp [bytesBefore] at hb
      | cons y q =>
        simp only [bytesBefore, Bool.or_eq_true, Bool.and_eq_true, decide_eq_true_eq, beq_iff_eq] at hb
        rw [List.cons_le_cons_iff]
        rcases hb with hb | ⟨e, hb⟩
        · exact .inl hb
        · exact .inr ⟨e, ih q hb⟩
  have e := mergeSort_of_perm hp
  unfold leB at e
  rw [e]
  refine List.mergeSort_of_pairwise ?_
  rw [List.pairwise_map]
  exact h.imp fun {p q} hpq => decide_eq_true (hlt p.1 q.1 hpq)
theorem dir_rising {w : World} {nb n : Nat} {N : Dir} (h : w.ownsMap Tryz.prog 9 held nb n (dirMap N)) : N.Pairwise fun p q => bytesBefore p.1 q.1 = true := by
  obtain ⟨es, e, hr, _⟩ := h.canon lawS
  injection e with e
  subst e
  rw [List.pairwise_map] at hr
  exact hr
theorem sortedS_any {w : World} {nb n : Nat} {N : Dir} (h : w.ownsMap Tryz.prog 9 held nb n (dirMap N)) (hn : N.length ≤ 1099511627776) :
    Calls Tryz.prog 58 #[.func (.func 87) #[] #[.pointer (some ⟨w.heap.size, 0, none⟩)]] (w.alloc (.cells #[.map (some nb)] 55)) fun e w' => ∃ v, e = .returned v ∧
      w'.ownsRow w.heap.size 9 1 v N.length ((N.map (·.1)).map encStr) ∧ Below w.heap.size w w' := by
  have hsz := dirMap_size N
  have hseq : SeqGives Fence.wide 3 Tryz.prog 87 #[.pointer (some ⟨w.heap.size, 0, none⟩)] encStr (fun ss => ss.Perm (strKeys (dirMap N))) (Maps.size (dirMap N)) (w.alloc (.cells #[.map (some nb)] 55)) :=
    AnyZ.keys_gives (ρ := Shelf.keysS_ren) { Shelf.keysS with } Fence.wide _ trivial rfl (by omega) w.heap.size nb n (dirMap N) _ (by simp) (by simp) (h.alloc _)
  have cS := AnyZ.sorted_in Shelf.sortedS Fence.wide 6 trivial trivial trivial trivial rfl (by omega) (sortsS _) (enters_of Tryz.func86 (by kernel_rfl) rfl) 87 #[.pointer (some ⟨w.heap.size, 0, none⟩)] trivial
    (enters_of Tryz.func87 (by kernel_rfl) rfl) _ _ (by rw [hsz]; unfold maxLen; omega) (by rw [hsz]; omega) _ hseq
  change CallsIn _ _ Tryz.prog 58 _ _ _ at cS
  refine ((callsIn_wide (n := 6)).1 cS).mono ?_
  rintro e w' ⟨v, ss, rfl, hS, hrow, _, hb⟩
  have hl : ss.length = N.length := by rw [hS.length_eq, dirMap_keys, List.length_map]
  rw [sorted_names (dir_rising h) hS, hl] at hrow
  have hb0 : Below w.heap.size w (w.alloc (.cells #[.map (some nb)] 55)) := (Below.refl _ w).alloc (Nat.le_refl _) _
  exact ⟨v, rfl, ownsRow_base_a hrow (by simp), hb0.trans (hb.mono (by simp))⟩
theorem names_any {w : World} {nb n : Nat} {N : Dir} (h : w.ownsMap Tryz.prog 9 held nb n (dirMap N)) (hn : N.length ≤ 1099511627776) :
    Calls Tryz.prog 30 #[.map (some nb)] w fun e w' => ∃ v, e = .returned v ∧ w'.ownsRow w.heap.size 9 1 v N.length ((N.map (·.1)).map encStr) ∧ Below w.heap.size w w' := by
  have cS := sortedS_any h hn
  clear h hn
  go_enter Tryz.func30, Tryz.ntmps30
  go_wp2_with (first
    | (go_at_call 59; refine (keysS_any _ _).mono ?_; rintro e w' ⟨rfl, rfl⟩)
    | (go_at_call 58; refine cS.mono ?_; rintro e w' ⟨v, rfl, hrow, hb⟩))
  go_ret
  exact ⟨v, rfl, hrow, hb⟩

theorem keysI_any (mb : Option Nat) (W : World) : Calls Tryz.prog 61 #[.map mb] W fun e w' => e = .returned (.func (.func 90) #[] #[.pointer (some ⟨W.heap.size, 0, none⟩)]) ∧ w' = W.alloc (.cells #[.map mb] 76) :=
  (callsIn_wide (n := 6)).1 (AnyZI.keys_in Shelf.keysI Fence.wide 6 trivial rfl mb W)
theorem sortsI (m : Nat) : AnyZI.SortsIn Tryz.prog Shelf.sortedI_ren Fence.wide m :=
  ⟨fun blk off cap ss W hH hblk hsz => callsIn_wide.2 (AnyM.slices_Sort_int Shelf.sortI blk off cap ss W hH hblk hsz),
   fun p cap W => callsIn_wide.2 (AnyM.slices_Sort_int_none Shelf.sortI p cap W)⟩
theorem sorted_secs {L : Secs} (h : L.Pairwise fun p q => p.1 < q.1) {ss : List Int} (hp : ss.Perm (intKeys (secMap L))) : ss.mergeSort (fun x y => decide (x ≤ y)) = L.map fun p => (p.1 : Int) := by
  rw [secMap_keys] at hp
  have e := mergeSort_of_perm_i hp
  unfold leI at e
  rw [e]
  refine List.mergeSort_of_pairwise ?_
  rw [List.pairwise_map]
  exact h.imp fun {p q} hpq => decide_eq_true (by have : p.1 < q.1 := hpq; omega)
theorem sortedI_any {w : World} {ob n : Nat} {L : Secs} (h : w.ownsMap Tryz.prog 3 held ob n (secMap L)) (hr : L.Pairwise fun p q => p.1 < q.1) (hn : L.length ≤ 1099511627776) :
    Calls Tryz.prog 60 #[.func (.func 90) #[] #[.pointer (some ⟨w.heap.size, 0, none⟩)]] (w.alloc (.cells #[.map (some ob)] 76)) fun e w' => ∃ v, e = .returned v ∧
      w'.ownsRow w.heap.size 3 1 v L.length (ivs (L.map fun p => (p.1 : Int))) ∧ Below w.heap.size w w' := by
  have hsz := secMap_size L
  have hseq : SeqGives Fence.wide 3 Tryz.prog 90 #[.pointer (some ⟨w.heap.size, 0, none⟩)] encZ (fun ss => ss.Perm (intKeys (secMap L))) (Maps.size (secMap L)) (w.alloc (.cells #[.map (some ob)] 76)) :=
    AnyZI.keys_gives (ρ := Shelf.keysI_ren) { Shelf.keysI with } Fence.wide _ trivial rfl (by omega) w.heap.size ob n (secMap L) _ (by simp) (by simp) (h.alloc _)
  have cS := AnyZI.sorted_in Shelf.sortedI Fence.wide 6 trivial trivial trivial trivial rfl (by omega) (sortsI _) (enters_of Tryz.func89 (by kernel_rfl) rfl) 90 #[.pointer (some ⟨w.heap.size, 0, none⟩)] trivial
    (enters_of Tryz.func90 (by kernel_rfl) rfl) _ _ (by rw [hsz]; unfold maxLen; omega) (by rw [hsz]; omega) _ hseq
  change CallsIn _ _ Tryz.prog 60 _ _ _ at cS
  refine ((callsIn_wide (n := 6)).1 cS).mono ?_
  rintro e w' ⟨v, ss, rfl, hS, hrow, _, hb⟩
  have hl : ss.length = L.length := by rw [hS.length_eq, secMap_keys, List.length_map]
  rw [sorted_secs hr hS, hl] at hrow
  have hb0 : Below w.heap.size w (w.alloc (.cells #[.map (some ob)] 76)) := (Below.refl _ w).alloc (Nat.le_refl _) _
  exact ⟨v, rfl, ownsRow_base_a hrow (by simp), hb0.trans (hb.mono (by simp))⟩
end Go.Proofs.YtcmlchicpmnhdaaGreatDoor.Disk
/-
  Proved: what crashedSize of package disk returns.
-/
namespace Go.Proofs.YtcmlchicpmnhdaaGreatDoor.Disk
open Go.RowKit Go.Maps
set_option linter.unusedVariables false
set_option linter.unusedSimpArgs false

/-- How long a file is behind a crash, the first k of its dirty sectors looked at. -/
def csize (n S : Nat) (secs parts : Nat → Nat) : Nat → Nat
  | 0 => S
  | k + 1 => if 0 < parts k then max (csize n S secs parts k) (min (64 * secs k + parts k) n) else csize n S secs parts k
theorem csize_le {n S : Nat} {secs parts : Nat → Nat} (h : S ≤ n) : ∀ k, csize n S secs parts k ≤ n
  | 0 => h
  | k + 1 => by
    have := csize_le (secs := secs) (parts := parts) h k
    unfold csize
    split <;> omega
def secAt (L : Secs) (k : Nat) : Nat := (L.map (·.1)).getD k 0
def nvs (l : List Nat) : List Value := l.map fun (n : Nat) => Value.int .i64 (n : Int)
theorem nvs_secs (L : Secs) : ivs (L.map fun p => (p.1 : Int)) = nvs (L.map (·.1)) := by
  simp [ivs, nvs]
theorem Row.nat {w : World} {B n : Nat} {A : Option Addr} {l : List Nat} (h : Row w B A n (nvs l)) (hn : 0 < n) :
    ∃ b o, A = some ⟨b, o, none⟩ ∧ b < B ∧ ∀ i, i < n → w.cell? ⟨b, o + i, none⟩ = some (.int .i64 ((l.getD i 0 : Nat) : Int)) := by
  obtain ⟨b, o, e, hb, hc⟩ := h.2 hn
  refine ⟨b, o, e, hb, fun i hi => hc i _ ?_⟩
  have hl : l.length = n := by have := h.1; rwa [nvs, List.length_map] at this
  rw [nvs, List.getElem?_map, List.getD_eq_getElem?_getD, List.getElem?_eq_getElem (by omega)]
  rfl
set_option maxRecDepth 100000 in
set_option maxHeartbeats 1000000 in
theorem crashedSize_any {own : Own} {w : World} {f g : Nat} {x : Fl} {v : Value} {ob : Nat} (h : FileIn own w f g x v ob) {B n c1 c2 : Nat} {A1 A2 : Option Addr} {secs parts : List Nat} (hB : B ≤ w.heap.size) (h1 : Row w B A1 n (nvs secs)) (h2 : Row w B A2 n (nvs parts))
    (hs : ∀ i, secs.getD i 0 ≤ 65536) (hp : ∀ i, parts.getD i 0 ≤ 64) (hn : n ≤ 65536) :
    Calls Tryz.prog 62 #[.pointer (some ⟨g, 0, none⟩), .slice A1 n c1, .slice A2 n c2] w fun e w' => e = .returned (.int .i64 ((csize x.now.length x.was.length (fun i => secs.getD i 0) (fun i => parts.getD i 0) n : Nat) : Int)) ∧ Below w.heap.size w w' := by
  obtain ⟨A, c, rfl, _, _⟩ := own_form h.row
  have cg0 : w.cell? ⟨g, 0, none⟩ = some (.slice A x.now.length c) := Blk.cell h.blk 0
  have cg1 : w.cell? ⟨g, 1, none⟩ = some (.int .i64 (x.was.length : Int)) := Blk.cell h.blk 1
  have hmx := h.ok.max
  have hle := h.ok.le
  have hgl := blk_lt' h.blk
  clear h
  generalize x.now.length = N at *
  generalize x.was.length = S at *
  obtain ⟨cs, hcs⟩ : ∃ cs : Nat → Nat, ∀ k, cs k = csize N S (fun i => secs.getD i 0) (fun i => parts.getD i 0) k := ⟨_, fun _ => rfl⟩
  have hcl : ∀ k, cs k ≤ N := fun k => by rw [hcs]; exact csize_le hle k
  rw [← hcs]
  have c0e : cs 0 = S := by rw [hcs]; rfl
  have hnext : Hid (∀ k, cs (k + 1) = if 0 < parts.getD k 0 then max (cs k) (min (64 * secs.getD k 0 + parts.getD k 0) N) else cs k) := fun k => by rw [hcs, hcs]; rfl
  have HC0 := Lib.hid c0e
  have HCL := Lib.hid hcl
  have H1 := Lib.hid h1
  have H2 := Lib.hid h2
  have HS := Lib.hid hs
  have HP := Lib.hid hp
  clear hcs hcl c0e h1 h2 hs hp
  go_enter Tryz.func62, Tryz.ntmps62
  go_wp2
  go_loopw [7, 16] (fun y z wr => ∃ k : Nat, z = .int .i64 (k : Int) ∧ y = .int .i64 ((cs k : Nat) : Int) ∧ k ≤ n ∧ Hid (Below w.heap.size w wr)) (fun _ z _ => n - (RowKit.intOf z).toNat)
  case atStart => exact ⟨0, rfl, by rw [HC0.out], Nat.zero_le _, Below.refl _ _⟩
  case round =>
    obtain ⟨k, rfl, rfl, hk, HB⟩ := hrel
    by_cases hlt : k < n
    · obtain ⟨b1, o1, rfl, hb1, hc1⟩ := Row.nat H1.out (by omega)
      obtain ⟨b2, o2, rfl, hb2, hc2⟩ := Row.nat H2.out (by omega)
      have q1 : wr.cell? ⟨b1, o1 + k, none⟩ = some (.int .i64 ((secs.getD k 0 : Nat) : Int)) := (HB.out.cell (p := ⟨b1, o1 + k, none⟩) (show b1 < w.heap.size by omega)).trans (hc1 k hlt)
      have q2 : wr.cell? ⟨b2, o2 + k, none⟩ = some (.int .i64 ((parts.getD k 0 : Nat) : Int)) := (HB.out.cell (p := ⟨b2, o2 + k, none⟩) (show b2 < w.heap.size by omega)).trans (hc2 k hlt)
      have q0 : wr.cell? ⟨g, 0, none⟩ = some (.slice A N c) := (HB.out.cell hgl).trans cg0
      have b1' := HS.out k
      have b2' := HP.out k
      have hck := HCL.out k
      have hnx := hnext.out k
      generalize secs.getD k 0 = s at *
      generalize parts.getD k 0 = p at *
      generalize hCk : cs k = C at *
      have HNX := Lib.hid hnx
      have HCK := Lib.hid hCk
      clear hc1 hc2 hnx hCk
      have hkn : (k : Int) < (n : Int) := by omega
      by_cases hp0 : 0 < p
      · have hp0' : (0 : Int) < (p : Int) := by omega
        go_wp2_with fail
        go_quiet (fail)
        go_wp2_with fail
        refine ⟨⟨k + 1, by go_num, ?_, by omega, below_drewN HB.out _⟩, by simp [RowKit.intOf]; omega⟩
        congr 1
        rw [HNX.out, if_pos hp0]
        omega
      · obtain rfl : p = 0 := by omega
        go_wp2_with fail
        go_roundw
        case rel => exact ⟨k + 1, by go_num, by rw [HNX.out, if_neg hp0], by omega, HB⟩
        case measure => simp [RowKit.intOf]; omega
    · obtain rfl : k = n := by omega
      go_wp2_with fail
      go_ret
      exact ⟨rfl, HB.out⟩
end Go.Proofs.YtcmlchicpmnhdaaGreatDoor.Disk
