/-
  The law Taints of layer 14, whole.
-/
import Derived.Test.YtnelpgeiioflmaaGreatDoorSFTC
import Derived.Test.YtnelpgeiioflmaaGreatDoorSFWB
namespace Go.Proofs.YtnelpgeiioflmaaGreatDoor.F
open Go.RowKit
open A (Pr PrIn OkP prV)
open Y (Tb)

theorem lawTaints_any (p : Pr) (a1 a2 : Option Addr) (c1 c2 : Nat) (hok : OkP p) (hc1 : p.params.length ≤ c1) (w : World) (ht : Tb w) (hK : PrIn w p a1 a2) :
    Calls Tryz.prog 3 #[prV p a1 c1 a2 c2] w fun e' w' => e' = .returned (.bool true) ∧ Below w.heap.size w w' := lawTaints_core wk_holds p a1 a2 c1 c2 hok hc1 w ht hK
end Go.Proofs.YtnelpgeiioflmaaGreatDoor.F
