/- The statements of layer 1: what every row's proof takes. -/
import Derived.Test.YtccajbcblbfgnaaRows
import Derived.Test.YtccajbcblbfgnaaClose
namespace Go.Proofs.Ytccajbcblbfgnaa
open Go.ChangeShapes Go.WideShapes Go.ChangeAt Go.RowKit
theorem own : ownKnob Try.prog.godebug = none := by kernel_rfl
theorem laidOut : laidOutB Try.prog = true := by kernel_rfl
theorem readable_s : Try.prog.readableRec 9 = true ∧ 9 < Try.prog.types.size := ⟨by kernel_rfl, of_decide_eq_true (by kernel_rfl)⟩
end Go.Proofs.Ytccajbcblbfgnaa
