/-
  Nothing: the code of this seat calls no function of the library for which a contract of the shelf is laid.
-/
import Derived.Test.YtlkpbpecgdphaaaProg
import Derived.Lib.Join
import Derived.Lib.Replace
namespace Go.Proofs.Ytlkpbpecgdphaaa
end Go.Proofs.Ytlkpbpecgdphaaa
