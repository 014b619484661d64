/-
  Several texts in one (Mv). By the verifier.
-/
import Derived.Test.YtaepcfidpekflaaGreatDoorProg
import Derived.DeepKeys4
namespace Go.Proofs.YtaepcfidpekflaaGreatDoor

theorem laidAll : laidOutB Tryz.prog = true := by kernel_rfl
end Go.Proofs.YtaepcfidpekflaaGreatDoor
