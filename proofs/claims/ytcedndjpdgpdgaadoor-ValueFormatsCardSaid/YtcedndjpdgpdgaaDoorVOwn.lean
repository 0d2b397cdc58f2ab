/-
  All contracts of the program's own value functions together.
-/
import Derived.Test.YtcedndjpdgpdgaaDoorVOwnC
import Derived.Test.YtcedndjpdgpdgaaDoorVOwnD
import Derived.Test.YtcedndjpdgpdgaaDoorVOwnF
namespace Go.Proofs.YtcedndjpdgpdgaaDoor.V
open Go.RowKit

theorem own_holds : Own where
  valid := fun k n s hs w _ => ovalid_any k n s (by omega) w
  int := fun n w _ => oint_any n w
  str := fun s hs w _ => ostr_any s hs w
  compare := fun k n s l m t w _ => ocompare_any k n s l m t w
  fmt := fun k n s h0 h1 hs w hT => ofmt_any k n h0 h1 s hs w hT
  ps := fun s hs w _ => ops_any s hs w
  enc := fun k n s h0 h1 hs w _ => oenc_any k n h0 h1 s hs w
  ds := fun s hs a h0 h1 w _ => odec_any s hs a h0 h1 w
end Go.Proofs.YtcedndjpdgpdgaaDoor.V
