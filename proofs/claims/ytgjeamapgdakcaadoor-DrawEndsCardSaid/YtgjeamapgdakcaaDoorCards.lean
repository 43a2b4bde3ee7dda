/-
  DERIVED. GIVEN WITH THE SEED: THE CARDS: each row of YtgjeamapgdakcaaDoorRows.lean that lists a variable, with what it lists TIED to the program's text (the seventh form; the later family's looks); each row that meets fmt, with fmt's text TOLD by the authors' own Lean function (tested against real Go, not proved from fmt's source: count such statements apart). THE CARD IS WHAT COUNTS. Prove the row's statement (the work); the ties are given (YtgjeamapgdakcaaDoorTie.lean); close each card by the builder's one call (the guide's Derived/Test/ToyasCard.lean, 'card_holds'). Laid BY PROGRAM, IN A SANDBOX (cutbox-door.mjs). By AI agents, Wed Nov 11 2026. No macro, syntax, notation, axiom, sorry.
-/
import Derived.Test.YtgjeamapgdakcaaDoorRows
import GoSem.ClaimSeven
namespace Go.Proofs.YtgjeamapgdakcaaDoor
namespace Rows

/-- THE TIED CARD OF 'coterielaw09.DrawDoes'. -/
def drawDoesCard : Claim7 := { stood := { row := drawDoesRow, standIns := [], harness := (true, "9f6d58310847db36a41b1675108083df7826ecf67e7782001b645a36162af98d"), looks := false }, kinds := [], alts := [], laidByText := true, laidKinds := [.data, .data], laidTests := true, laidLooks := .later }
def DrawDoesCardSaid : Prop := Claim7.holds Tryd.pinned (.plain (OpenSpec.ofChange drawDoesSpec)) drawDoesCard

/-- THE TIED CARD OF 'coterielaw09.DrawParts'. -/
def drawPartsCard : Claim7 := { stood := { row := drawPartsRow, standIns := [], harness := (true, "9f6d58310847db36a41b1675108083df7826ecf67e7782001b645a36162af98d"), looks := false }, kinds := [], alts := [], laidByText := true, laidKinds := [.data], laidTests := true, laidLooks := .later }
def DrawPartsCardSaid : Prop := Claim7.holds Tryd.pinned (.plain (OpenSpec.ofChange drawPartsSpec)) drawPartsCard

/-- THE TIED CARD OF 'coterielaw09.DrawEnds'. -/
def drawEndsCard : Claim7 := { stood := { row := drawEndsRow, standIns := [], harness := (true, "9f6d58310847db36a41b1675108083df7826ecf67e7782001b645a36162af98d"), looks := false }, kinds := [], alts := [], laidByText := true, laidKinds := [.data], laidTests := true, laidLooks := .later }
def DrawEndsCardSaid : Prop := Claim7.holds Tryd.pinned (.plain (OpenSpec.ofChange drawEndsSpec)) drawEndsCard

/-- THE TIED CARD OF 'coterielaw09.DrawForks'. -/
def drawForksCard : Claim7 := { stood := { row := drawForksRow, standIns := [], harness := (true, "9f6d58310847db36a41b1675108083df7826ecf67e7782001b645a36162af98d"), looks := false }, kinds := [], alts := [], laidByText := true, laidKinds := [.data], laidTests := true, laidLooks := .later }
def DrawForksCardSaid : Prop := Claim7.holds Tryd.pinned (.plain (OpenSpec.ofChange drawForksSpec)) drawForksCard

/-- THE SECOND FORM's CARD OF 'coterielaw09.DrawDoes'. -/
def drawDoesUptoCard : Claim7 := { stood := { row := drawDoesUptoRow, standIns := [], harness := (true, "9f6d58310847db36a41b1675108083df7826ecf67e7782001b645a36162af98d"), looks := false }, kinds := [], alts := [], laidByText := true, laidKinds := [.data, .data], laidTests := true, laidLooks := .later }
def DrawDoesUptoCardSaid : Prop := Claim7.holds Tryd.pinned (.plain (OpenSpec.upto drawDoesSpec)) drawDoesUptoCard

/-- THE SECOND FORM's CARD OF 'coterielaw09.DrawParts'. -/
def drawPartsUptoCard : Claim7 := { stood := { row := drawPartsUptoRow, standIns := [], harness := (true, "9f6d58310847db36a41b1675108083df7826ecf67e7782001b645a36162af98d"), looks := false }, kinds := [], alts := [], laidByText := true, laidKinds := [.data], laidTests := true, laidLooks := .later }
def DrawPartsUptoCardSaid : Prop := Claim7.holds Tryd.pinned (.plain (OpenSpec.upto drawPartsSpec)) drawPartsUptoCard

/-- THE SECOND FORM's CARD OF 'coterielaw09.DrawEnds'. -/
def drawEndsUptoCard : Claim7 := { stood := { row := drawEndsUptoRow, standIns := [], harness := (true, "9f6d58310847db36a41b1675108083df7826ecf67e7782001b645a36162af98d"), looks := false }, kinds := [], alts := [], laidByText := true, laidKinds := [.data], laidTests := true, laidLooks := .later }
def DrawEndsUptoCardSaid : Prop := Claim7.holds Tryd.pinned (.plain (OpenSpec.upto drawEndsSpec)) drawEndsUptoCard

/-- THE SECOND FORM's CARD OF 'coterielaw09.DrawForks'. -/
def drawForksUptoCard : Claim7 := { stood := { row := drawForksUptoRow, standIns := [], harness := (true, "9f6d58310847db36a41b1675108083df7826ecf67e7782001b645a36162af98d"), looks := false }, kinds := [], alts := [], laidByText := true, laidKinds := [.data], laidTests := true, laidLooks := .later }
def DrawForksUptoCardSaid : Prop := Claim7.holds Tryd.pinned (.plain (OpenSpec.upto drawForksSpec)) drawForksUptoCard
end Rows
end Go.Proofs.YtgjeamapgdakcaaDoor
