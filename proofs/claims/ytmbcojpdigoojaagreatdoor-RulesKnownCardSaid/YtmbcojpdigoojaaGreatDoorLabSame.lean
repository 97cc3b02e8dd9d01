/- DERIVED. In a seat of rules: what XLabAppL imports. -/
import Derived.Test.YtmbcojpdigoojaaGreatDoorLabOrder
import Derived.Test.YtmbcojpdigoojaaGreatDoorLabDist
namespace Go.Proofs.YtmbcojpdigoojaaGreatDoor.Lab
end Go.Proofs.YtmbcojpdigoojaaGreatDoor.Lab
