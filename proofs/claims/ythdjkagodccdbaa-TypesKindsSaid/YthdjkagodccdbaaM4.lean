/-
  The imports that the texts on this one share.
-/
import Derived.Test.YthdjkagodccdbaaProg
import Derived.Lib.Hide
import Derived.Lib.ItoaMem
import Derived.Lib.ItoaLen
import Derived.Lib.ParseIntBCases
import Derived.Lib.Small
import Derived.Sort.Grow
import Derived.Lib.AtoiAll
import Derived.Lib.Bytealg
import Derived.Lib.IndexLaws
import Derived.Lib.ParseIntB
import Derived.Lib.Strings
import Derived.Lib.ConvBytes
import Derived.Lib.SlTrimSet
import Derived.Lib.LazyBuf
namespace Go.Proofs

end Go.Proofs
