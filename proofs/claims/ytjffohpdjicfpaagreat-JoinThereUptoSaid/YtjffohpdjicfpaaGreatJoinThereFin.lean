/- What is there at a time of what two lists make is made of what is there at it of the ones, and of the others, wherever the arguments are of bulk at most 1048576. -/
import Derived.Test.YtjffohpdjicfpaaGreatJoinThereM17
import Derived.SizedLaws
namespace Go.Proofs.YtjffohpdjicfpaaGreat.lawJoinThere
open Go.ChangeShapes Go.WideShapes Go.ChangeAt Go.RowKit
open Go.ChangeMaps (open_string)

end Go.Proofs.YtjffohpdjicfpaaGreat.lawJoinThere
