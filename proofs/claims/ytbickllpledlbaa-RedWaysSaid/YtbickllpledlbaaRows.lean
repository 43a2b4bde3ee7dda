/-
  No cell of these rows narrows 'for every input' (looked for: loops, veiled, ifaces, maps, wideKeys, modest, calm, conditions, laid).
  DERIVED. THE GIVEN ROWS OF THIS SEAT. 6 by the template 'for every input the law returns true; each argument reads behind the call as it read before'; 0 by the template 'total and deterministic' (their statements: YtbickllpledlbaaTotals.lean).
  GIVEN WITH THE SEED: the statements are not yours to turn. If you find one false, say at which input.
  Laid BY PROGRAM, IN A SANDBOX (cutbox-rows.mjs): the forced cells as the released guide's own fill.sh prints them over the translation fa817e859d936d2a… (all of the seat's roots in one cut). By AI agents, Wed Nov 11 2026. No macro, syntax, notation, axiom, sorry.
-/
import Derived.Test.YtbickllpledlbaaChecked
import GoSem.Claim
import GoSem.ClaimJoined
import GoSem.ClaimMapViews
import Derived.JoinedTies
import Derived.KernelRfl
namespace Go.Proofs.Ytbickllpledlbaa
/- THE CELL 'sum', in the pinned program and in every row, IS THE sha256 OF THE DUMP (.gsa) THAT YtbickllpledlbaaProg.lean LOADS. Nothing in Lean hashes anything: it is a label: what it is worth is what the hold of that sum in a sandbox is worth. -/
noncomputable def Try.pinned : Pinned := { name := "ytbickllpledlbaa", sum := "fa817e859d936d2af1dbadd022a2248be0f9cc03a15480e0314ec96c8fcc449a", checked := Try.checked }
namespace Rows
def none {H : Type} : Left H := { results := [], args := [] }

/-- 'coterielaw11.RedTells': WHATEVER THE INPUT: true; the input reads as it did. -/
def redTellsSpec : ChangeSpec := { name := "redTells", fn := fun _ => fun
  | [d1, d2, d3] => { results := [.lit (.bool true)], args := [d1, d2, d3] }
  | _ => none }
def redTellsRow : OpenClaim := { program := "ytbickllpledlbaa", sum := "fa817e859d936d2af1dbadd022a2248be0f9cc03a15480e0314ec96c8fcc449a", func := "coterie/coterielaw11.RedTells", spec := "redTells", inPlace := ["slices.overlaps[int]"], unfollowed := true, recurses := true, apart := false }
def RedTellsSaid : Prop := redTellsRow.holds Try.pinned (OpenSpec.ofChange redTellsSpec)

/-- ITS FALSE NEIGHBOUR: 'it returns false'. Refute it at one input. -/
def redTellsWrong : ChangeSpec := { name := "redTells", fn := fun _ => fun
  | [d1, d2, d3] => { results := [.lit (.bool false)], args := [d1, d2, d3] }
  | _ => none }
def RedTellsWrongFalsely : Prop := redTellsRow.holds Try.pinned (OpenSpec.ofChange redTellsWrong)

/-- 'coterielaw11.RedSame': WHATEVER THE INPUT: true; the input reads as it did. -/
def redSameSpec : ChangeSpec := { name := "redSame", fn := fun _ => fun
  | [d1, d2] => { results := [.lit (.bool true)], args := [d1, d2] }
  | _ => none }
def redSameRow : OpenClaim := { program := "ytbickllpledlbaa", sum := "fa817e859d936d2af1dbadd022a2248be0f9cc03a15480e0314ec96c8fcc449a", func := "coterie/coterielaw11.RedSame", spec := "redSame", inPlace := ["slices.overlaps[int]"], unfollowed := true, recurses := true, apart := false }
def RedSameSaid : Prop := redSameRow.holds Try.pinned (OpenSpec.ofChange redSameSpec)

/-- ITS FALSE NEIGHBOUR: 'it returns false'. Refute it at one input. -/
def redSameWrong : ChangeSpec := { name := "redSame", fn := fun _ => fun
  | [d1, d2] => { results := [.lit (.bool false)], args := [d1, d2] }
  | _ => none }
def RedSameWrongFalsely : Prop := redSameRow.holds Try.pinned (OpenSpec.ofChange redSameWrong)

/-- 'coterielaw11.RedHeight': WHATEVER THE INPUT: true; the input reads as it did. -/
def redHeightSpec : ChangeSpec := { name := "redHeight", fn := fun _ => fun
  | [d1, d2] => { results := [.lit (.bool true)], args := [d1, d2] }
  | _ => none }
def redHeightRow : OpenClaim := { program := "ytbickllpledlbaa", sum := "fa817e859d936d2af1dbadd022a2248be0f9cc03a15480e0314ec96c8fcc449a", func := "coterie/coterielaw11.RedHeight", spec := "redHeight", inPlace := ["slices.overlaps[int]"], unfollowed := true, recurses := true, apart := false }
def RedHeightSaid : Prop := redHeightRow.holds Try.pinned (OpenSpec.ofChange redHeightSpec)

/-- ITS FALSE NEIGHBOUR: 'it returns false'. Refute it at one input. -/
def redHeightWrong : ChangeSpec := { name := "redHeight", fn := fun _ => fun
  | [d1, d2] => { results := [.lit (.bool false)], args := [d1, d2] }
  | _ => none }
def RedHeightWrongFalsely : Prop := redHeightRow.holds Try.pinned (OpenSpec.ofChange redHeightWrong)

/-- 'coterielaw11.RedWays': WHATEVER THE INPUT: true; the input reads as it did. -/
def redWaysSpec : ChangeSpec := { name := "redWays", fn := fun _ => fun
  | [d1, d2, d3] => { results := [.lit (.bool true)], args := [d1, d2, d3] }
  | _ => none }
def redWaysRow : OpenClaim := { program := "ytbickllpledlbaa", sum := "fa817e859d936d2af1dbadd022a2248be0f9cc03a15480e0314ec96c8fcc449a", func := "coterie/coterielaw11.RedWays", spec := "redWays", inPlace := ["slices.overlaps[int]"], unfollowed := true, recurses := true, apart := false }
def RedWaysSaid : Prop := redWaysRow.holds Try.pinned (OpenSpec.ofChange redWaysSpec)

/-- ITS FALSE NEIGHBOUR: 'it returns false'. Refute it at one input. -/
def redWaysWrong : ChangeSpec := { name := "redWays", fn := fun _ => fun
  | [d1, d2, d3] => { results := [.lit (.bool false)], args := [d1, d2, d3] }
  | _ => none }
def RedWaysWrongFalsely : Prop := redWaysRow.holds Try.pinned (OpenSpec.ofChange redWaysWrong)

/-- 'coterielaw11.RedKinds': WHATEVER THE INPUT: true; the input reads as it did. -/
def redKindsSpec : ChangeSpec := { name := "redKinds", fn := fun _ => fun
  | [d] => { results := [.lit (.bool true)], args := [d] }
  | _ => none }
def redKindsRow : OpenClaim := { program := "ytbickllpledlbaa", sum := "fa817e859d936d2af1dbadd022a2248be0f9cc03a15480e0314ec96c8fcc449a", func := "coterie/coterielaw11.RedKinds", spec := "redKinds", inPlace := ["slices.overlaps[int]"], unfollowed := true, recurses := true, apart := false }
def RedKindsSaid : Prop := redKindsRow.holds Try.pinned (OpenSpec.ofChange redKindsSpec)

/-- ITS FALSE NEIGHBOUR: 'it returns false'. Refute it at one input. -/
def redKindsWrong : ChangeSpec := { name := "redKinds", fn := fun _ => fun
  | [d] => { results := [.lit (.bool false)], args := [d] }
  | _ => none }
def RedKindsWrongFalsely : Prop := redKindsRow.holds Try.pinned (OpenSpec.ofChange redKindsWrong)

/-- 'coterielaw11.RedSpans': WHATEVER THE INPUT: true; the input reads as it did. -/
def redSpansSpec : ChangeSpec := { name := "redSpans", fn := fun _ => fun
  | [d1, d2] => { results := [.lit (.bool true)], args := [d1, d2] }
  | _ => none }
def redSpansRow : OpenClaim := { program := "ytbickllpledlbaa", sum := "fa817e859d936d2af1dbadd022a2248be0f9cc03a15480e0314ec96c8fcc449a", func := "coterie/coterielaw11.RedSpans", spec := "redSpans", inPlace := ["slices.overlaps[int]"], unfollowed := true, recurses := true, apart := false }
def RedSpansSaid : Prop := redSpansRow.holds Try.pinned (OpenSpec.ofChange redSpansSpec)

/-- ITS FALSE NEIGHBOUR: 'it returns false'. Refute it at one input. -/
def redSpansWrong : ChangeSpec := { name := "redSpans", fn := fun _ => fun
  | [d1, d2] => { results := [.lit (.bool false)], args := [d1, d2] }
  | _ => none }
def RedSpansWrongFalsely : Prop := redSpansRow.holds Try.pinned (OpenSpec.ofChange redSpansWrong)

/- THE SECOND FORM. 'bulk': how many values and letters a reading holds, each counted each time it is reached (what is shared counts as often as it is met; a slice's spare places count too). A statement '..UptoSaid' is the law's where the arguments, and the package variables that the reading takes, are together of bulk at most 1048576: NARROWER than '..Said'. Prove '..Said' where nothing that the law and all that it calls make is longer than what came in: it says more and counts as full. Else prove '..UptoSaid'. A law counts once. -/
mutual
def uptoBulk {H : Type} : DataW H → Nat
  | .lit (.string bytes) => bytes.length + 1
  | .lit _ => 1
  | .nil => 1
  | .ptr d => uptoBulk d + 1
  | .slice elems spare => uptoBulkAll elems + uptoBulkAll spare + 1
  | .agg parts => uptoBulkAll parts + 1
  | .iface _ d => uptoBulk d + 1
  | .map entries => uptoBulkEntries entries + 1
  | .held _ => 1
def uptoBulkAll {H : Type} : List (DataW H) → Nat
  | [] => 0
  | d :: r => uptoBulk d + uptoBulkAll r
def uptoBulkEntries {H : Type} : List (Lit × DataW H) → Nat
  | [] => 0
  | x :: r => uptoBulkEntry x + uptoBulkEntries r
def uptoBulkEntry {H : Type} : Lit × DataW H → Nat
  | (.string bytes, d) => bytes.length + uptoBulk d + 1
  | (_, d) => uptoBulk d + 1
 end
def uptoSmall : (H : Type) → List (DataW H) → Bool := fun _ ds => decide (uptoBulkAll ds ≤ 1048576)
def OpenSpec.upto (s : _root_.Go.ChangeSpec) : _root_.Go.OpenSpec := { _root_.Go.OpenSpec.ofChange s with cond := some uptoSmall }

/-- 'coterielaw11.RedTells', WHERE WHAT IT READS IS OF BULK AT MOST 1048576: true; the input reads as it did. -/
def redTellsUptoRow : OpenClaim := { program := "ytbickllpledlbaa", sum := "fa817e859d936d2af1dbadd022a2248be0f9cc03a15480e0314ec96c8fcc449a", func := "coterie/coterielaw11.RedTells", spec := "redTells", inPlace := ["slices.overlaps[int]"], unfollowed := true, recurses := true, apart := false, narrowed := true }
def RedTellsUptoSaid : Prop := redTellsUptoRow.holds Try.pinned (OpenSpec.upto redTellsSpec)

/-- 'coterielaw11.RedSame', WHERE WHAT IT READS IS OF BULK AT MOST 1048576: true; the input reads as it did. -/
def redSameUptoRow : OpenClaim := { program := "ytbickllpledlbaa", sum := "fa817e859d936d2af1dbadd022a2248be0f9cc03a15480e0314ec96c8fcc449a", func := "coterie/coterielaw11.RedSame", spec := "redSame", inPlace := ["slices.overlaps[int]"], unfollowed := true, recurses := true, apart := false, narrowed := true }
def RedSameUptoSaid : Prop := redSameUptoRow.holds Try.pinned (OpenSpec.upto redSameSpec)

/-- 'coterielaw11.RedHeight', WHERE WHAT IT READS IS OF BULK AT MOST 1048576: true; the input reads as it did. -/
def redHeightUptoRow : OpenClaim := { program := "ytbickllpledlbaa", sum := "fa817e859d936d2af1dbadd022a2248be0f9cc03a15480e0314ec96c8fcc449a", func := "coterie/coterielaw11.RedHeight", spec := "redHeight", inPlace := ["slices.overlaps[int]"], unfollowed := true, recurses := true, apart := false, narrowed := true }
def RedHeightUptoSaid : Prop := redHeightUptoRow.holds Try.pinned (OpenSpec.upto redHeightSpec)

/-- 'coterielaw11.RedWays', WHERE WHAT IT READS IS OF BULK AT MOST 1048576: true; the input reads as it did. -/
def redWaysUptoRow : OpenClaim := { program := "ytbickllpledlbaa", sum := "fa817e859d936d2af1dbadd022a2248be0f9cc03a15480e0314ec96c8fcc449a", func := "coterie/coterielaw11.RedWays", spec := "redWays", inPlace := ["slices.overlaps[int]"], unfollowed := true, recurses := true, apart := false, narrowed := true }
def RedWaysUptoSaid : Prop := redWaysUptoRow.holds Try.pinned (OpenSpec.upto redWaysSpec)

/-- 'coterielaw11.RedKinds', WHERE WHAT IT READS IS OF BULK AT MOST 1048576: true; the input reads as it did. -/
def redKindsUptoRow : OpenClaim := { program := "ytbickllpledlbaa", sum := "fa817e859d936d2af1dbadd022a2248be0f9cc03a15480e0314ec96c8fcc449a", func := "coterie/coterielaw11.RedKinds", spec := "redKinds", inPlace := ["slices.overlaps[int]"], unfollowed := true, recurses := true, apart := false, narrowed := true }
def RedKindsUptoSaid : Prop := redKindsUptoRow.holds Try.pinned (OpenSpec.upto redKindsSpec)

/-- 'coterielaw11.RedSpans', WHERE WHAT IT READS IS OF BULK AT MOST 1048576: true; the input reads as it did. -/
def redSpansUptoRow : OpenClaim := { program := "ytbickllpledlbaa", sum := "fa817e859d936d2af1dbadd022a2248be0f9cc03a15480e0314ec96c8fcc449a", func := "coterie/coterielaw11.RedSpans", spec := "redSpans", inPlace := ["slices.overlaps[int]"], unfollowed := true, recurses := true, apart := false, narrowed := true }
def RedSpansUptoSaid : Prop := redSpansUptoRow.holds Try.pinned (OpenSpec.upto redSpansSpec)

end Rows
end Go.Proofs.Ytbickllpledlbaa
