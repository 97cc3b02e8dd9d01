/- DERIVED. Labels in the seat of LabelKnown: what label's texts want of XLabBoth there. -/
import Derived.Test.YtlojepagolkehaaDoorLabBox
import Derived.Test.YtlojepagolkehaaDoorSlUntil
namespace Go.Proofs.YtlojepagolkehaaDoor.Lab
open Go.RowKit Str
def ordL (a : Int) (c : Nat) (b : Int) (d : Nat) : Int := if a < b then -1 else if b < a then 1 else if c < d then -1 else if d < c then 1 else 0
end Go.Proofs.YtlojepagolkehaaDoor.Lab
