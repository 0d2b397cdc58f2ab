/-
  Laws of layer 8: what the reference's Rename returns, with the reference's stmt.
-/
import Derived.Test.YtffamknoamknpaaHG
import Derived.Test.YtffamknoamknpaaHF
namespace Go.Proofs.Ytffamknoamknpaa.A

theorem rrename_holds : RRename := fun p a1 a2 c1 c2 f t hok hsz hpl ht w hK => rrename_any rstmt p a1 a2 c1 c2 f t hok hsz hpl ht w hK
end Go.Proofs.Ytffamknoamknpaa.A
