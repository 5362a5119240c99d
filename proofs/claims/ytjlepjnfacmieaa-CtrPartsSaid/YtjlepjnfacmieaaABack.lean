/- What the cipher's back answers: the walk of its text. The condition: the cipher's words and stand-ins lie in memory. -/
import Derived.Test.YtjlepjnfacmieaaAForth
namespace Go.Proofs.Ytjlepjnfacmieaa.ABack
open Go.RowKit
open AesM ADbl ATab AFill AOps AMix AForth ASub
end Go.Proofs.Ytjlepjnfacmieaa.ABack
