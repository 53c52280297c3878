import Derived.Test.YtcclepohmhdpbabGreatDoorNoted
import Derived.Test.YtcclepohmhdpbabGreatDoorVdI
import Derived.Test.YtcclepohmhdpbabGreatDoorPnA
import Derived.Deep.DeepCutAuto
namespace Go.Proofs.YtcclepohmhdpbabGreatDoor
set_option linter.all false
open Go.RowKit Go.Deep
end Go.Proofs.YtcclepohmhdpbabGreatDoor
