/- What is made of what comes is the same, whatever the spines are compacted to, if all that comes is beyond it, wherever the arguments are of bulk at most 1048576. -/
import Derived.Test.YtjffohpdjicfpaaGreatJoinCompactedM17
import Derived.SizedLaws
namespace Go.Proofs.YtjffohpdjicfpaaGreat.lawJoinCompacted
open Go.ChangeShapes Go.WideShapes Go.ChangeAt Go.RowKit
open Go.ChangeMaps (open_string)

end Go.Proofs.YtjffohpdjicfpaaGreat.lawJoinCompacted
