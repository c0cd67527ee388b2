import Derived.Test.YtlgpleiobieniaaEwVc1
import Derived.Test.YtlgpleiobieniaaEwS4
import Derived.Test.YtlgpleiobieniaaEwLib
set_option linter.unusedVariables false
set_option maxRecDepth 100000
namespace Go.Proofs.Ytlgpleiobieniaa
open Go.Ev Go.Ew
namespace Va
end Va
end Go.Proofs.Ytlgpleiobieniaa
