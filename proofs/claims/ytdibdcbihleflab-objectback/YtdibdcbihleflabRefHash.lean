/- The walk of the document's Hash: it answers the same function of the bytes as the program's. -/
import Derived.Test.YtdibdcbihleflabHash
namespace Go.Proofs.Ytdibdcbihleflab
open Go.RowKit

end Go.Proofs.Ytdibdcbihleflab
