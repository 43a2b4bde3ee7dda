import Derived.Test.YtmganbdbihjbmaaK31
import Derived.Test.YtmganbdbihjbmaaK03
import Derived.Test.YtmganbdbihjbmaaK12
import Derived.Test.YtmganbdbihjbmaaK14
import Derived.Deep.Cut
import Derived.Test.YtmganbdbihjbmaaK04
/-
  THE WALK of coterieref12's Sends (layer 12).
-/
set_option linter.unusedVariables false
namespace Go.Proofs.Ytmganbdbihjbmaa
open Go.RowKit

theorem stInfo2 : (Try.prog.info? 51).map (·.size) = some 3 := by kernel_rfl
def zS : Array Value := #[.int .i64 0, .int .i64 0, .slice none 0 0]

end Go.Proofs.Ytmganbdbihjbmaa

