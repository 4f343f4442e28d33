/-
  Proved: the words of SHA-256's two tables are what stands behind the point of the third and the second roots of the first 64 and 8 primes.
  Conditions: none.
-/
import Derived.Test.YtfhedljhkikdmaaDoorRefMath
namespace Go.Proofs.YtfhedljhkikdmaaDoor.Sha
theorem roots3 : ((List.range 64).all fun j => rootWord ((primes 312).getD j 0) 3 (k32 j)) = true := by decide +kernel
theorem roots2 : ((List.range 8).all fun j => rootWord ((primes 312).getD j 0) 2 (start.list.getD j 0)) = true := by decide +kernel
theorem root3_at {r j : Nat} (hj : j < 64) (h : isRoot r ((primes 312).getD j 0) 3) : r % 4294967296 = (k32 j).toNat :=
  root_word (List.all_eq_true.1 roots3 j (List.mem_range.2 hj)) h
theorem root2_at {r j : Nat} (hj : j < 8) (h : isRoot r ((primes 312).getD j 0) 2) : r % 4294967296 = (start.list.getD j 0).toNat :=
  root_word (List.all_eq_true.1 roots2 j (List.mem_range.2 hj)) h
end Go.Proofs.YtfhedljhkikdmaaDoor.Sha
