/- The walks of a Reader's Uint. -/
import Derived.Test.YtjbifbfhlmdlbaaNum
import Derived.Test.YtjbifbfhlmdlbaaNumMore
import Derived.Test.YtjbifbfhlmdlbaaRoom
namespace Go.Proofs.Ytjbifbfhlmdlbaa
open Go.RowKit

end Go.Proofs.Ytjbifbfhlmdlbaa
