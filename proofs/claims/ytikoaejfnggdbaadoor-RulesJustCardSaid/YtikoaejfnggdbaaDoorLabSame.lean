/- DERIVED. In a seat of rules: what XLabAppL imports. -/
import Derived.Test.YtikoaejfnggdbaaDoorLabOrder
import Derived.Test.YtikoaejfnggdbaaDoorLabDist
namespace Go.Proofs.YtikoaejfnggdbaaDoor.Lab
end Go.Proofs.YtikoaejfnggdbaaDoor.Lab
