/-
  Proved: what crashedSize of package disk returns.
-/
import Derived.Test.YtebjapinhkeafaaDiskSort
import Derived.Deep.QuietTactic
import Derived.BigQuiet
namespace Go.Proofs.Ytebjapinhkeafaa.Disk
open Go.RowKit Go.Maps
set_option linter.unusedVariables false
set_option linter.unusedSimpArgs false

/-- How long a file is behind a crash, the first k of its dirty sectors looked at. -/
def csize (n S : Nat) (secs parts : Nat → Nat) : Nat → Nat
  | 0 => S
  | k + 1 => if 0 < parts k then max (csize n S secs parts k) (min (64 * secs k + parts k) n) else csize n S secs parts k
theorem csize_le {n S : Nat} {secs parts : Nat → Nat} (h : S ≤ n) : ∀ k, csize n S secs parts k ≤ n
  | 0 => h
  | k + 1 => by
    have := csize_le (secs := secs) (parts := parts) h k
    unfold csize
    split <;> omega
def secAt (L : Secs) (k : Nat) : Nat := (L.map (·.1)).getD k 0
def nvs (l : List Nat) : List Value := l.map fun (n : Nat) => Value.int .i64 (n : Int)
theorem nvs_secs (L : Secs) : ivs (L.map fun p => (p.1 : Int)) = nvs (L.map (·.1)) := by
  simp [ivs, nvs]
theorem Row.nat {w : World} {B n : Nat} {A : Option Addr} {l : List Nat} (h : Row w B A n (nvs l)) (hn : 0 < n) :
    ∃ b o, A = some ⟨b, o, none⟩ ∧ b < B ∧ ∀ i, i < n → w.cell? ⟨b, o + i, none⟩ = some (.int .i64 ((l.getD i 0 : Nat) : Int)) := by
  obtain ⟨b, o, e, hb, hc⟩ := h.2 hn
  refine ⟨b, o, e, hb, fun i hi => hc i _ ?_⟩
  have hl : l.length = n := by have := h.1; rwa [nvs, List.length_map] at this
  rw [nvs, List.getElem?_map, List.getD_eq_getElem?_getD, List.getElem?_eq_getElem (by omega)]
  rfl
set_option maxRecDepth 100000 in
set_option maxHeartbeats 1000000 in
theorem crashedSize_any {own : Own} {w : World} {f g : Nat} {x : Fl} {v : Value} {ob : Nat} (h : FileIn own w f g x v ob) {B n c1 c2 : Nat} {A1 A2 : Option Addr} {secs parts : List Nat} (hB : B ≤ w.heap.size) (h1 : Row w B A1 n (nvs secs)) (h2 : Row w B A2 n (nvs parts))
    (hs : ∀ i, secs.getD i 0 ≤ 65536) (hp : ∀ i, parts.getD i 0 ≤ 64) (hn : n ≤ 65536) :
    Calls Try.prog 51 #[.pointer (some ⟨g, 0, none⟩), .slice A1 n c1, .slice A2 n c2] w fun e w' => e = .returned (.int .i64 ((csize x.now.length x.was.length (fun i => secs.getD i 0) (fun i => parts.getD i 0) n : Nat) : Int)) ∧ Below w.heap.size w w' := by
  obtain ⟨A, c, rfl, _, _⟩ := own_form h.row
  have cg0 : w.cell? ⟨g, 0, none⟩ = some (.slice A x.now.length c) := Blk.cell h.blk 0
  have cg1 : w.cell? ⟨g, 1, none⟩ = some (.int .i64 (x.was.length : Int)) := Blk.cell h.blk 1
  have hmx := h.ok.max
  have hle := h.ok.le
  have hgl := blk_lt' h.blk
  clear h
  generalize x.now.length = N at *
  generalize x.was.length = S at *
  obtain ⟨cs, hcs⟩ : ∃ cs : Nat → Nat, ∀ k, cs k = csize N S (fun i => secs.getD i 0) (fun i => parts.getD i 0) k := ⟨_, fun _ => rfl⟩
  have hcl : ∀ k, cs k ≤ N := fun k => by rw [hcs]; exact csize_le hle k
  rw [← hcs]
  have c0e : cs 0 = S := by rw [hcs]; rfl
  have hnext : Hid (∀ k, cs (k + 1) = if 0 < parts.getD k 0 then max (cs k) (min (64 * secs.getD k 0 + parts.getD k 0) N) else cs k) := fun k => by rw [hcs, hcs]; rfl
  have HC0 := Lib.hid c0e
  have HCL := Lib.hid hcl
  have H1 := Lib.hid h1
  have H2 := Lib.hid h2
  have HS := Lib.hid hs
  have HP := Lib.hid hp
  clear hcs hcl c0e h1 h2 hs hp
  go_enter Try.func51, Try.ntmps51
  go_wp2
  go_loopw [7, 16] (fun y z wr => ∃ k : Nat, z = .int .i64 (k : Int) ∧ y = .int .i64 ((cs k : Nat) : Int) ∧ k ≤ n ∧ Hid (Below w.heap.size w wr)) (fun _ z _ => n - (RowKit.intOf z).toNat)
  case atStart => exact ⟨0, rfl, by rw [HC0.out], Nat.zero_le _, Below.refl _ _⟩
  case round =>
    obtain ⟨k, rfl, rfl, hk, HB⟩ := hrel
    by_cases hlt : k < n
    · obtain ⟨b1, o1, rfl, hb1, hc1⟩ := Row.nat H1.out (by omega)
      obtain ⟨b2, o2, rfl, hb2, hc2⟩ := Row.nat H2.out (by omega)
      have q1 : wr.cell? ⟨b1, o1 + k, none⟩ = some (.int .i64 ((secs.getD k 0 : Nat) : Int)) := (HB.out.cell (p := ⟨b1, o1 + k, none⟩) (show b1 < w.heap.size by omega)).trans (hc1 k hlt)
      have q2 : wr.cell? ⟨b2, o2 + k, none⟩ = some (.int .i64 ((parts.getD k 0 : Nat) : Int)) := (HB.out.cell (p := ⟨b2, o2 + k, none⟩) (show b2 < w.heap.size by omega)).trans (hc2 k hlt)
      have q0 : wr.cell? ⟨g, 0, none⟩ = some (.slice A N c) := (HB.out.cell hgl).trans cg0
      have b1' := HS.out k
      have b2' := HP.out k
      have hck := HCL.out k
      have hnx := hnext.out k
      generalize secs.getD k 0 = s at *
      generalize parts.getD k 0 = p at *
      generalize hCk : cs k = C at *
      have HNX := Lib.hid hnx
      have HCK := Lib.hid hCk
      clear hc1 hc2 hnx hCk
      have hkn : (k : Int) < (n : Int) := by omega
      by_cases hp0 : 0 < p
      · have hp0' : (0 : Int) < (p : Int) := by omega
        go_wp2_with fail
        go_quiet (fail)
        go_wp2_with fail
        refine ⟨⟨k + 1, by go_num, ?_, by omega, below_drewN HB.out _⟩, by simp [RowKit.intOf]; omega⟩
        congr 1
        rw [HNX.out, if_pos hp0]
        omega
      · obtain rfl : p = 0 := by omega
        go_wp2_with fail
        go_roundw
        case rel => exact ⟨k + 1, by go_num, by rw [HNX.out, if_neg hp0], by omega, HB⟩
        case measure => simp [RowKit.intOf]; omega
    · obtain rfl : k = n := by omega
      go_wp2_with fail
      go_ret
      exact ⟨rfl, HB.out⟩
end Go.Proofs.Ytebjapinhkeafaa.Disk
