import Derived.Test.YtjhcnhihmgpgbaaG33
import Derived.Test.YtjhcnhihmgpgbaaG35
import Derived.Test.YtjhcnhihmgpgbaaG36
import Derived.Test.YtjhcnhihmgpgbaaG26
/-
  THE PROGRAM'S CALLS ARE WHAT THE WALKS OF LAYER 10 ASK FOR.
-/
set_option linter.unusedVariables false
namespace Go.Proofs.Ytjhcnhihmgpgbaa
open Go.RowKit

theorem htB : HTB := fun A n c xs w hn h => PBuild_any A n c xs w hn h
theorem htC : HTC := fun Ai ni ci Al nl cl ids ll w h hf => PCheck_any Ai ni ci Al nl cl ids ll w h (few_million hf) (by have := (few_len hf).2.1; have := h.hni; omega)
theorem htI : HTI := fun Ai ni ci Al nl cl ids ll id w h hf => (PInsert_any Ai ni ci Al nl cl ids ll id w h hf).mono fun _ _ h => h.1
theorem htD : HTD := fun Ai ni ci Al nl cl ids ll id w h hf => (PDelete_any Ai ni ci Al nl cl ids ll id w h hf).mono fun _ _ h => h.1
theorem htF : HTF := fun Ai ni ci Al nl cl ids ll id w h hf => PFind_any Ai ni ci Al nl cl ids id w h.hni h.hci h.hmi h.hids
theorem htP : HTP := fun Ai ni ci Al nl cl ids ll id w h hf => PPath_any Ai ni ci Al nl cl ids ll id w h hf
theorem htS : HTS := fun Ai ni ci Al nl cl ids ll level w h1 h2 h hf => PSpans_any Ai ni ci Al nl cl ids ll level w h1 h2 h hf
theorem htM : HTM := fun Ai ni ci Al nl cl ids ll Ai' ni' ci' Al' nl' cl' ids' ll' w h h' hf hf' => PSame_any Ai ni ci Al nl cl ids ll Ai' ni' ci' Al' nl' cl' ids' ll' w h h'

end Go.Proofs.Ytjhcnhihmgpgbaa

