/-
  The digest of the empty text, reckoned by the kernel.
-/
import Derived.Test.YtllbdeniigakkaaDoorShaMath
namespace Go.Proofs.YtllbdeniigakkaaDoor.Sha

theorem digest_nil : digest [] = [227, 176, 196, 66, 152, 252, 28, 20, 154, 251, 244, 200, 153, 111, 185, 36, 39, 174, 65, 228, 100, 155, 147, 76, 164, 149, 153, 27, 120, 82, 184, 85] := by decide +kernel
end Go.Proofs.YtllbdeniigakkaaDoor.Sha
