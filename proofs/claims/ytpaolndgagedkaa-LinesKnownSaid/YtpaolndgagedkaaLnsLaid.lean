/- DERIVED. A world that is as the program's types ask is laid. -/
import Derived.Test.YtpaolndgagedkaaLnsWorks
namespace Go.Proofs.Ytpaolndgagedkaa.Lns
open Go.RowKit
theorem laid_of {W : World} (h : W.ShapedOpen Try.prog) : Laid W := Try.laysM145.s1_3 W h
end Go.Proofs.Ytpaolndgagedkaa.Lns
