/- Texts of code points; rows of bytes that grow. -/
import Derived.Test.YtmjbajocdchdiaaGreatDoorTkName
import Derived.Maps.Range
namespace Go.Proofs.YtmjbajocdchdiaaGreatDoor
open Go Go.RowKit Go.Shelf


end Go.Proofs.YtmjbajocdchdiaaGreatDoor
