/-
  Proved: the walk of ShaNone of package stillroomlaw2: it returns true and changes nothing that was there.
  Conditions: the tables sha.start and sha.rounds hold their words.
-/
import Derived.Test.YtfhedljhkikdmaaDoorShaBase
namespace Go.Proofs.YtfhedljhkikdmaaDoor.Sha
open Go.RowKit

theorem eq_same {res : Array Value} {bs : List UInt8} (hres : res = (bvs bs).toArray) (hb : bs.length = 32) (w : World) : (binOp .eql 25 (.agg res) (.agg res)).run Tryd.prog w = .ok (.bool true) w := by
  subst hres
  rw [run_eql_bytes (P := Tryd.prog) Tryd.underlying25 Tryd.underlying5 (by kernel_rfl) bs bs hb hb w]
  simp
theorem eq_guard : Tryd.prog.eqGuardType Tryd.prog.depth 25 = false := by kernel_rfl

set_option maxHeartbeats 1000000 in
theorem shaNone_walk (w : World) (hT : Tables w) : Calls Tryd.prog 5 #[] w fun e w' => e = .returned (.bool true) ∧ Below w.heap.size w w' := by
  have hcv := fun (w : World) (C : Array Value) (n c : Nat) => Lib.run_convert_bytes_const (P := Tryd.prog) w 22 5 C n c Tryd.underlying22 Tryd.underlying5
  have hgd := eq_guard
  obtain ⟨res, hres⟩ : ∃ res, res = (bvs (digest [])).toArray := ⟨_, rfl⟩
  have heq := eq_same hres rfl
  have HRES := Lib.hid hres
  have HT := Lib.hid hT
  clear hT hres
  go_enter Tryd.func5, Tryd.ntmps5
  go_wp2_with fail
  refine (write_nil _ _ _ _).mono ?_
  rintro e w1 ⟨rfl, rfl⟩
  go_wp2_with fail
  refine (begun_any _ (HT.out.all ((Below.refl _ _).alloc (Nat.le_refl _) _))).mono ?_
  rintro e w1 ⟨rfl, hb1⟩
  have hB1 : Below w.heap.size w w1 := ((Below.refl _ _).alloc (Nat.le_refl _) _).trans (hb1.mono (by simp))
  have HB1 := Lib.hid hB1
  clear hb1 hB1
  go_wp2_with fail
  refine (hsum_nil w1 (HT.out.all HB1.out)).mono ?_
  rintro e w2 ⟨rfl, hb2⟩
  have hB2 : Below w.heap.size w w2 := HB1.out.trans (hb2.mono HB1.out.size)
  have HB2 := Lib.hid hB2
  rw [← HRES.out]
  clear hb2 hB2
  go_wp2_with fail
  refine (sum_any none 0 0 [] w2 (HT.out.all HB2.out) (Row.nil _ _) (Nat.le_refl _) (by decide) (by decide)).mono ?_
  rintro e w3 ⟨rfl, hb3⟩
  have hB3 : Below w.heap.size w w3 := HB2.out.trans (hb3.mono HB2.out.size)
  have HB3 := Lib.hid hB3
  rw [← HRES.out]
  clear hb3 hB3
  go_wp2_with fail
  refine (new_any w3).mono ?_
  rintro e w4 ⟨rfl, hh4, _, hb4⟩
  have hB4 : Below w.heap.size w w4 := HB3.out.trans (hb4.mono HB3.out.size)
  have HB4 := Lib.hid hB4
  have HH4 := Lib.hid hh4
  clear hb4 hB4 hh4
  go_wp2_with fail
  refine (hsum_any w3.heap.size [] w4 (HT.out.all HB4.out) HH4.out (by decide)).mono ?_
  rintro e w5 ⟨rfl, hb5⟩
  have hB5 : Below w.heap.size w w5 := HB4.out.trans (hb5.mono HB4.out.size)
  have HB5 := Lib.hid hB5
  rw [← HRES.out]
  clear hb5 hB5
  go_wp2_with fail
  refine (sum_any none 0 0 [] w5 (HT.out.all HB5.out) (Row.nil _ _) (Nat.le_refl _) (by decide) (by decide)).mono ?_
  rintro e w6 ⟨rfl, hb6⟩
  have hB6 : Below w.heap.size w w6 := HB5.out.trans (hb6.mono HB5.out.size)
  have HB6 := Lib.hid hB6
  rw [← HRES.out]
  clear hb6 hB6
  go_wp2_with fail
  go_ret
  exact ⟨rfl, HB6.out⟩
end Go.Proofs.YtfhedljhkikdmaaDoor.Sha
