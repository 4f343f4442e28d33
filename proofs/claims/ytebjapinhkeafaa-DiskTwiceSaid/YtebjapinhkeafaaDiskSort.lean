/-
  Proved: a directory's names, and a file's dirty sectors, rising: what slices.Sorted of maps.Keys returns of them.
-/
import Derived.Test.YtebjapinhkeafaaDiskRead
import Derived.Shelf.AbstractIn
namespace Go.Proofs.Ytebjapinhkeafaa.Disk
open Go.RowKit Go.Maps Go.Sort Go.Shelf
set_option linter.unusedVariables false
set_option linter.unusedSimpArgs false

theorem keysS_any (mb : Option Nat) (W : World) : Calls Try.prog 48 #[.map mb] W fun e w' => e = .returned (.func (.func 54) #[] #[.pointer (some ⟨W.heap.size, 0, none⟩)]) ∧ w' = W.alloc (.cells #[.map mb] 55) :=
  (callsIn_wide (n := 6)).1 (AnyZ.keys_in Shelf.keysS Fence.wide 6 trivial rfl mb W)
theorem sortsS (m : Nat) : AnyZ.SortsIn Try.prog Shelf.sortedS_ren Fence.wide m :=
  ⟨fun blk off cap ss W hH hblk hsz => callsIn_wide.2 (AnyM.slices_Sort_string Shelf.sortS blk off cap ss W hH hblk hsz),
   fun p cap W => callsIn_wide.2 (AnyM.slices_Sort_string_none Shelf.sortS p cap W)⟩
theorem sorted_names {N : Dir} (h : N.Pairwise fun p q => bytesBefore p.1 q.1 = true) {ss : List Nm} (hp : ss.Perm (strKeys (dirMap N))) : ss.mergeSort (fun x y => decide (x ≤ y)) = N.map (·.1) := by
  rw [dirMap_keys] at hp
  have hlt : ∀ a b : Nm, bytesBefore a b = true → a ≤ b := by
    intro a
    induction a with
    | nil => intro b _; exact List.nil_le b
    | cons x r ih =>
      intro b hb
      cases b with
      | nil => simp [bytesBefore] at hb
      | cons y q =>
        simp only [bytesBefore, Bool.or_eq_true, Bool.and_eq_true, decide_eq_true_eq, beq_iff_eq] at hb
        rw [List.cons_le_cons_iff]
        rcases hb with hb | ⟨e, hb⟩
        · exact .inl hb
        · exact .inr ⟨e, ih q hb⟩
  have e := mergeSort_of_perm hp
  unfold leB at e
  rw [e]
  refine List.mergeSort_of_pairwise ?_
  rw [List.pairwise_map]
  exact h.imp fun {p q} hpq => decide_eq_true (hlt p.1 q.1 hpq)
theorem dir_rising {w : World} {nb n : Nat} {N : Dir} (h : w.ownsMap Try.prog 9 held nb n (dirMap N)) : N.Pairwise fun p q => bytesBefore p.1 q.1 = true := by
  obtain ⟨es, e, hr, _⟩ := h.canon lawS
  injection e with e
  subst e
  rw [List.pairwise_map] at hr
  exact hr
theorem sortedS_any {w : World} {nb n : Nat} {N : Dir} (h : w.ownsMap Try.prog 9 held nb n (dirMap N)) (hn : N.length ≤ 1099511627776) :
    Calls Try.prog 47 #[.func (.func 54) #[] #[.pointer (some ⟨w.heap.size, 0, none⟩)]] (w.alloc (.cells #[.map (some nb)] 55)) fun e w' => ∃ v, e = .returned v ∧
      w'.ownsRow w.heap.size 9 1 v N.length ((N.map (·.1)).map encStr) ∧ Below w.heap.size w w' := by
  have hsz := dirMap_size N
  have hseq : SeqGives Fence.wide 3 Try.prog 54 #[.pointer (some ⟨w.heap.size, 0, none⟩)] encStr (fun ss => ss.Perm (strKeys (dirMap N))) (Maps.size (dirMap N)) (w.alloc (.cells #[.map (some nb)] 55)) :=
    AnyZ.keys_gives (ρ := Shelf.keysS_ren) { Shelf.keysS with } Fence.wide _ trivial rfl (by omega) w.heap.size nb n (dirMap N) _ (by simp) (by simp) (h.alloc _)
  have cS := AnyZ.sorted_in Shelf.sortedS Fence.wide 6 trivial trivial trivial trivial rfl (by omega) (sortsS _) (enters_of Try.func53 (by kernel_rfl) rfl) 54 #[.pointer (some ⟨w.heap.size, 0, none⟩)] trivial
    (enters_of Try.func54 (by kernel_rfl) rfl) _ _ (by rw [hsz]; unfold maxLen; omega) (by rw [hsz]; omega) _ hseq
  change CallsIn _ _ Try.prog 47 _ _ _ at cS
  refine ((callsIn_wide (n := 6)).1 cS).mono ?_
  rintro e w' ⟨v, ss, rfl, hS, hrow, _, hb⟩
  have hl : ss.length = N.length := by rw [hS.length_eq, dirMap_keys, List.length_map]
  rw [sorted_names (dir_rising h) hS, hl] at hrow
  have hb0 : Below w.heap.size w (w.alloc (.cells #[.map (some nb)] 55)) := (Below.refl _ w).alloc (Nat.le_refl _) _
  exact ⟨v, rfl, ownsRow_base_a hrow (by simp), hb0.trans (hb.mono (by simp))⟩
theorem names_any {w : World} {nb n : Nat} {N : Dir} (h : w.ownsMap Try.prog 9 held nb n (dirMap N)) (hn : N.length ≤ 1099511627776) :
    Calls Try.prog 40 #[.map (some nb)] w fun e w' => ∃ v, e = .returned v ∧ w'.ownsRow w.heap.size 9 1 v N.length ((N.map (·.1)).map encStr) ∧ Below w.heap.size w w' := by
  have cS := sortedS_any h hn
  clear h hn
  go_enter Try.func40, Try.ntmps40
  go_wp2_with (first
    | (go_at_call 48; refine (keysS_any _ _).mono ?_; rintro e w' ⟨rfl, rfl⟩)
    | (go_at_call 47; refine cS.mono ?_; rintro e w' ⟨v, rfl, hrow, hb⟩))
  go_ret
  exact ⟨v, rfl, hrow, hb⟩

theorem keysI_any (mb : Option Nat) (W : World) : Calls Try.prog 50 #[.map mb] W fun e w' => e = .returned (.func (.func 57) #[] #[.pointer (some ⟨W.heap.size, 0, none⟩)]) ∧ w' = W.alloc (.cells #[.map mb] 65) :=
  (callsIn_wide (n := 6)).1 (AnyZI.keys_in Shelf.keysI Fence.wide 6 trivial rfl mb W)
theorem sortsI (m : Nat) : AnyZI.SortsIn Try.prog Shelf.sortedI_ren Fence.wide m :=
  ⟨fun blk off cap ss W hH hblk hsz => callsIn_wide.2 (AnyM.slices_Sort_int Shelf.sortI blk off cap ss W hH hblk hsz),
   fun p cap W => callsIn_wide.2 (AnyM.slices_Sort_int_none Shelf.sortI p cap W)⟩
theorem sorted_secs {L : Secs} (h : L.Pairwise fun p q => p.1 < q.1) {ss : List Int} (hp : ss.Perm (intKeys (secMap L))) : ss.mergeSort (fun x y => decide (x ≤ y)) = L.map fun p => (p.1 : Int) := by
  rw [secMap_keys] at hp
  have e := mergeSort_of_perm_i hp
  unfold leI at e
  rw [e]
  refine List.mergeSort_of_pairwise ?_
  rw [List.pairwise_map]
  exact h.imp fun {p q} hpq => decide_eq_true (by have : p.1 < q.1 := hpq; omega)
theorem sortedI_any {w : World} {ob n : Nat} {L : Secs} (h : w.ownsMap Try.prog 3 held ob n (secMap L)) (hr : L.Pairwise fun p q => p.1 < q.1) (hn : L.length ≤ 1099511627776) :
    Calls Try.prog 49 #[.func (.func 57) #[] #[.pointer (some ⟨w.heap.size, 0, none⟩)]] (w.alloc (.cells #[.map (some ob)] 65)) fun e w' => ∃ v, e = .returned v ∧
      w'.ownsRow w.heap.size 3 1 v L.length (ivs (L.map fun p => (p.1 : Int))) ∧ Below w.heap.size w w' := by
  have hsz := secMap_size L
  have hseq : SeqGives Fence.wide 3 Try.prog 57 #[.pointer (some ⟨w.heap.size, 0, none⟩)] encZ (fun ss => ss.Perm (intKeys (secMap L))) (Maps.size (secMap L)) (w.alloc (.cells #[.map (some ob)] 65)) :=
    AnyZI.keys_gives (ρ := Shelf.keysI_ren) { Shelf.keysI with } Fence.wide _ trivial rfl (by omega) w.heap.size ob n (secMap L) _ (by simp) (by simp) (h.alloc _)
  have cS := AnyZI.sorted_in Shelf.sortedI Fence.wide 6 trivial trivial trivial trivial rfl (by omega) (sortsI _) (enters_of Try.func56 (by kernel_rfl) rfl) 57 #[.pointer (some ⟨w.heap.size, 0, none⟩)] trivial
    (enters_of Try.func57 (by kernel_rfl) rfl) _ _ (by rw [hsz]; unfold maxLen; omega) (by rw [hsz]; omega) _ hseq
  change CallsIn _ _ Try.prog 49 _ _ _ at cS
  refine ((callsIn_wide (n := 6)).1 cS).mono ?_
  rintro e w' ⟨v, ss, rfl, hS, hrow, _, hb⟩
  have hl : ss.length = L.length := by rw [hS.length_eq, secMap_keys, List.length_map]
  rw [sorted_secs hr hS, hl] at hrow
  have hb0 : Below w.heap.size w (w.alloc (.cells #[.map (some ob)] 65)) := (Below.refl _ w).alloc (Nat.le_refl _) _
  exact ⟨v, rfl, ownsRow_base_a hrow (by simp), hb0.trans (hb.mono (by simp))⟩
end Go.Proofs.Ytebjapinhkeafaa.Disk
