import Derived.Test.YtmganbdbihjbmaaJ30
import Derived.Test.YtmganbdbihjbmaaJ03
import Derived.Test.YtmganbdbihjbmaaJ11
import Derived.Test.YtmganbdbihjbmaaJ13
import Derived.Deep.Cut
import Derived.Test.YtmganbdbihjbmaaJ04
/-
  THE WALK of coterieref12's Sends (layer 12).
-/
set_option linter.unusedVariables false
namespace Go.Proofs.Ytmganbdbihjbmaa
open Go.RowKit

theorem stInfo2 : (Try.prog.info? 51).map (·.size) = some 3 := by kernel_rfl
def zS : Array Value := #[.int .i64 0, .int .i64 0, .slice none 0 0]

end Go.Proofs.Ytmganbdbihjbmaa

