/- Counts are not sorted by this program. -/
import Derived.Test.YtbccdmpnojdldaaGreatSortU
namespace Go.Proofs
end Go.Proofs
