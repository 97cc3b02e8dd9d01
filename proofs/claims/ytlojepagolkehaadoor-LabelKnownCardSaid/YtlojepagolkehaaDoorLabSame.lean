/- DERIVED. In a seat of rules: what XLabAppL imports. -/
import Derived.Test.YtlojepagolkehaaDoorLabOrder
import Derived.Test.YtlojepagolkehaaDoorLabDist
namespace Go.Proofs.YtlojepagolkehaaDoor.Lab
end Go.Proofs.YtlojepagolkehaaDoor.Lab
