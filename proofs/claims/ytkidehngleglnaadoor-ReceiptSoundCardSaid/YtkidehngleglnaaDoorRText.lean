/- What keepsakeref01.Text answers: the walk of its text, for texts below 2^32 bytes. -/
import Derived.Test.YtkidehngleglnaaDoorLRef
namespace Go.Proofs.YtkidehngleglnaaDoor.RText
open Go.RowKit
end Go.Proofs.YtkidehngleglnaaDoor.RText
