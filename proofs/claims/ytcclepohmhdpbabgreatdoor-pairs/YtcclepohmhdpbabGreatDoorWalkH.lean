/- THE WALKS: (*World).spoil. -/
import Derived.Test.YtcclepohmhdpbabGreatDoorNoted
import Derived.Deep.DeepCutAuto
namespace Go.Proofs.YtcclepohmhdpbabGreatDoor
set_option linter.all false
open Go.RowKit Go.Deep

end Go.Proofs.YtcclepohmhdpbabGreatDoor
