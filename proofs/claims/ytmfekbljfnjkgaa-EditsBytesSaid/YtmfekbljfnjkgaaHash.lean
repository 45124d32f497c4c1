/- Contracts of package hash's functions. -/
import Derived.Test.YtmfekbljfnjkgaaKeep
import Derived.Test.YtmfekbljfnjkgaaHashMath
namespace Go.Proofs.Ytmfekbljfnjkgaa
open Go.RowKit Go.Shelf
attribute [local go_sem] Oper.semAt_some
set_option linter.unusedVariables false

end Go.Proofs.Ytmfekbljfnjkgaa
