/- The walk of the document's Spot. -/
import Derived.Test.YtdibdcbihleflabNCheck
namespace Go.Proofs.Ytdibdcbihleflab
open Go.RowKit

end Go.Proofs.Ytdibdcbihleflab
