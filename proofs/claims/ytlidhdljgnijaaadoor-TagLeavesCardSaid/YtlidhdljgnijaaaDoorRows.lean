/-
  NARROWER THAN 'FOR EVERY INPUT', by the rows' own cells (each row's printed sentence says how): TagTells: laid · TagReads: laid · TagBack: laid · TagLeaves: laid · TagWay: laid.
  DERIVED. THE GIVEN ROWS OF THIS SEAT. 5 by the template 'for every input the law returns true; each argument reads behind the call as it read before'; 0 by the template 'total and deterministic' (their statements: YtlidhdljgnijaaaDoorTotals.lean).
  GIVEN WITH THE SEED: the statements are not yours to turn. If you find one false, say at which input.
  Laid BY PROGRAM, IN A SANDBOX (cutbox-rows.mjs): the forced cells as the released guide's own fill.sh prints them over the translation d5333d14ce8f74d7… (all of the seat's roots in one cut). By AI agents, Wed Nov 11 2026. No macro, syntax, notation, axiom, sorry.
-/
import Derived.Test.YtlidhdljgnijaaaDoorChecked
import GoSem.Claim
import GoSem.ClaimJoined
import GoSem.ClaimMapViews
import Derived.JoinedTies
import Derived.KernelRfl
namespace Go.Proofs.YtlidhdljgnijaaaDoor
/- THE CELL 'sum', in the pinned program and in every row, IS THE sha256 OF THE DUMP (.gsa) THAT YtlidhdljgnijaaaDoorProg.lean LOADS. Nothing in Lean hashes anything: it is a label: what it is worth is what the hold of that sum in a sandbox is worth. -/
noncomputable def Tryd.pinned : Pinned := { name := "ytlidhdljgnijaaadoor", sum := "d5333d14ce8f74d7929476543cc81dbd7ca1481c5bd2d6eaaef3edaa1bb4c380", checked := Tryd.checked }
namespace Rows
def none {H : Type} : Left H := { results := [], args := [] }

/- WHAT THE LISTED PACKAGE-LEVEL VARIABLES READ AS WHEN THE CALL BEGINS. Each datum BY PROGRAM (the guide's laid-datum.mjs) off the statement by which the dump's own 'gosem.cut.vars' lays the variable. In a bare row this is a premise. The card (YtlidhdljgnijaaaDoorCards.lean) ties it to the program's text. -/
def laid_coterie_coterieref02_k {H : Type} : DataW H := .agg [.lit (.int .u32 1116352408), .lit (.int .u32 1899447441), .lit (.int .u32 3049323471), .lit (.int .u32 3921009573), .lit (.int .u32 961987163), .lit (.int .u32 1508970993), .lit (.int .u32 2453635748), .lit (.int .u32 2870763221), .lit (.int .u32 3624381080), .lit (.int .u32 310598401), .lit (.int .u32 607225278), .lit (.int .u32 1426881987), .lit (.int .u32 1925078388), .lit (.int .u32 2162078206), .lit (.int .u32 2614888103), .lit (.int .u32 3248222580), .lit (.int .u32 3835390401), .lit (.int .u32 4022224774), .lit (.int .u32 264347078), .lit (.int .u32 604807628), .lit (.int .u32 770255983), .lit (.int .u32 1249150122), .lit (.int .u32 1555081692), .lit (.int .u32 1996064986), .lit (.int .u32 2554220882), .lit (.int .u32 2821834349), .lit (.int .u32 2952996808), .lit (.int .u32 3210313671), .lit (.int .u32 3336571891), .lit (.int .u32 3584528711), .lit (.int .u32 113926993), .lit (.int .u32 338241895), .lit (.int .u32 666307205), .lit (.int .u32 773529912), .lit (.int .u32 1294757372), .lit (.int .u32 1396182291), .lit (.int .u32 1695183700), .lit (.int .u32 1986661051), .lit (.int .u32 2177026350), .lit (.int .u32 2456956037), .lit (.int .u32 2730485921), .lit (.int .u32 2820302411), .lit (.int .u32 3259730800), .lit (.int .u32 3345764771), .lit (.int .u32 3516065817), .lit (.int .u32 3600352804), .lit (.int .u32 4094571909), .lit (.int .u32 275423344), .lit (.int .u32 430227734), .lit (.int .u32 506948616), .lit (.int .u32 659060556), .lit (.int .u32 883997877), .lit (.int .u32 958139571), .lit (.int .u32 1322822218), .lit (.int .u32 1537002063), .lit (.int .u32 1747873779), .lit (.int .u32 1955562222), .lit (.int .u32 2024104815), .lit (.int .u32 2227730452), .lit (.int .u32 2361852424), .lit (.int .u32 2428436474), .lit (.int .u32 2756734187), .lit (.int .u32 3204031479), .lit (.int .u32 3329325298)]
def laid_coterie_sha_cubeRoots {H : Type} : DataW H := .agg [.lit (.int .u32 1116352408), .lit (.int .u32 1899447441), .lit (.int .u32 3049323471), .lit (.int .u32 3921009573), .lit (.int .u32 961987163), .lit (.int .u32 1508970993), .lit (.int .u32 2453635748), .lit (.int .u32 2870763221), .lit (.int .u32 3624381080), .lit (.int .u32 310598401), .lit (.int .u32 607225278), .lit (.int .u32 1426881987), .lit (.int .u32 1925078388), .lit (.int .u32 2162078206), .lit (.int .u32 2614888103), .lit (.int .u32 3248222580), .lit (.int .u32 3835390401), .lit (.int .u32 4022224774), .lit (.int .u32 264347078), .lit (.int .u32 604807628), .lit (.int .u32 770255983), .lit (.int .u32 1249150122), .lit (.int .u32 1555081692), .lit (.int .u32 1996064986), .lit (.int .u32 2554220882), .lit (.int .u32 2821834349), .lit (.int .u32 2952996808), .lit (.int .u32 3210313671), .lit (.int .u32 3336571891), .lit (.int .u32 3584528711), .lit (.int .u32 113926993), .lit (.int .u32 338241895), .lit (.int .u32 666307205), .lit (.int .u32 773529912), .lit (.int .u32 1294757372), .lit (.int .u32 1396182291), .lit (.int .u32 1695183700), .lit (.int .u32 1986661051), .lit (.int .u32 2177026350), .lit (.int .u32 2456956037), .lit (.int .u32 2730485921), .lit (.int .u32 2820302411), .lit (.int .u32 3259730800), .lit (.int .u32 3345764771), .lit (.int .u32 3516065817), .lit (.int .u32 3600352804), .lit (.int .u32 4094571909), .lit (.int .u32 275423344), .lit (.int .u32 430227734), .lit (.int .u32 506948616), .lit (.int .u32 659060556), .lit (.int .u32 883997877), .lit (.int .u32 958139571), .lit (.int .u32 1322822218), .lit (.int .u32 1537002063), .lit (.int .u32 1747873779), .lit (.int .u32 1955562222), .lit (.int .u32 2024104815), .lit (.int .u32 2227730452), .lit (.int .u32 2361852424), .lit (.int .u32 2428436474), .lit (.int .u32 2756734187), .lit (.int .u32 3204031479), .lit (.int .u32 3329325298)]

/-- 'coterielaw13.TagTells': WHATEVER THE INPUT: true; the input reads as it did. -/
def tagTellsSpec : ChangeSpec := { name := "tagTells", fn := fun _ => fun
  | [d1, d2, d3] => { results := [.lit (.bool true)], args := [d1, d2, d3] }
  | _ => none }
def tagTellsRow : OpenClaim := { program := "ytlidhdljgnijaaadoor", sum := "d5333d14ce8f74d7929476543cc81dbd7ca1481c5bd2d6eaaef3edaa1bb4c380", func := "coterie/coterielaw13.TagTells", spec := "tagTells", unfollowed := true, recurses := true, named := ["coterie/sha.cubeRoots", "coterie/coterieref02.k"], apart := false, laid := [("coterie/coterieref02.k", laid_coterie_coterieref02_k), ("coterie/sha.cubeRoots", laid_coterie_sha_cubeRoots)] }
def TagTellsSaid : Prop := tagTellsRow.holds Tryd.pinned (OpenSpec.ofChange tagTellsSpec)

/-- ITS FALSE NEIGHBOUR: 'it returns false'. Refute it at one input. -/
def tagTellsWrong : ChangeSpec := { name := "tagTells", fn := fun _ => fun
  | [d1, d2, d3] => { results := [.lit (.bool false)], args := [d1, d2, d3] }
  | _ => none }
def TagTellsWrongFalsely : Prop := tagTellsRow.holds Tryd.pinned (OpenSpec.ofChange tagTellsWrong)

/-- 'coterielaw13.TagReads': WHATEVER THE INPUT: true; the input reads as it did. -/
def tagReadsSpec : ChangeSpec := { name := "tagReads", fn := fun _ => fun
  | [d1, d2] => { results := [.lit (.bool true)], args := [d1, d2] }
  | _ => none }
def tagReadsRow : OpenClaim := { program := "ytlidhdljgnijaaadoor", sum := "d5333d14ce8f74d7929476543cc81dbd7ca1481c5bd2d6eaaef3edaa1bb4c380", func := "coterie/coterielaw13.TagReads", spec := "tagReads", unfollowed := true, recurses := true, named := ["coterie/sha.cubeRoots"], apart := false, laid := [("coterie/sha.cubeRoots", laid_coterie_sha_cubeRoots)] }
def TagReadsSaid : Prop := tagReadsRow.holds Tryd.pinned (OpenSpec.ofChange tagReadsSpec)

/-- ITS FALSE NEIGHBOUR: 'it returns false'. Refute it at one input. -/
def tagReadsWrong : ChangeSpec := { name := "tagReads", fn := fun _ => fun
  | [d1, d2] => { results := [.lit (.bool false)], args := [d1, d2] }
  | _ => none }
def TagReadsWrongFalsely : Prop := tagReadsRow.holds Tryd.pinned (OpenSpec.ofChange tagReadsWrong)

/-- 'coterielaw13.TagBack': WHATEVER THE INPUT: true; the input reads as it did. -/
def tagBackSpec : ChangeSpec := { name := "tagBack", fn := fun _ => fun
  | [d1, d2, d3, d4] => { results := [.lit (.bool true)], args := [d1, d2, d3, d4] }
  | _ => none }
def tagBackRow : OpenClaim := { program := "ytlidhdljgnijaaadoor", sum := "d5333d14ce8f74d7929476543cc81dbd7ca1481c5bd2d6eaaef3edaa1bb4c380", func := "coterie/coterielaw13.TagBack", spec := "tagBack", unfollowed := true, recurses := true, named := ["coterie/sha.cubeRoots"], apart := false, laid := [("coterie/sha.cubeRoots", laid_coterie_sha_cubeRoots)] }
def TagBackSaid : Prop := tagBackRow.holds Tryd.pinned (OpenSpec.ofChange tagBackSpec)

/-- ITS FALSE NEIGHBOUR: 'it returns false'. Refute it at one input. -/
def tagBackWrong : ChangeSpec := { name := "tagBack", fn := fun _ => fun
  | [d1, d2, d3, d4] => { results := [.lit (.bool false)], args := [d1, d2, d3, d4] }
  | _ => none }
def TagBackWrongFalsely : Prop := tagBackRow.holds Tryd.pinned (OpenSpec.ofChange tagBackWrong)

/-- 'coterielaw13.TagLeaves': WHATEVER THE INPUT: true; the input reads as it did. -/
def tagLeavesSpec : ChangeSpec := { name := "tagLeaves", fn := fun _ => fun
  | [d] => { results := [.lit (.bool true)], args := [d] }
  | _ => none }
def tagLeavesRow : OpenClaim := { program := "ytlidhdljgnijaaadoor", sum := "d5333d14ce8f74d7929476543cc81dbd7ca1481c5bd2d6eaaef3edaa1bb4c380", func := "coterie/coterielaw13.TagLeaves", spec := "tagLeaves", unfollowed := true, recurses := true, named := ["coterie/sha.cubeRoots"], apart := false, laid := [("coterie/sha.cubeRoots", laid_coterie_sha_cubeRoots)] }
def TagLeavesSaid : Prop := tagLeavesRow.holds Tryd.pinned (OpenSpec.ofChange tagLeavesSpec)

/-- ITS FALSE NEIGHBOUR: 'it returns false'. Refute it at one input. -/
def tagLeavesWrong : ChangeSpec := { name := "tagLeaves", fn := fun _ => fun
  | [d] => { results := [.lit (.bool false)], args := [d] }
  | _ => none }
def TagLeavesWrongFalsely : Prop := tagLeavesRow.holds Tryd.pinned (OpenSpec.ofChange tagLeavesWrong)

/-- 'coterielaw13.TagWay': WHATEVER THE INPUT: true; the input reads as it did. -/
def tagWaySpec : ChangeSpec := { name := "tagWay", fn := fun _ => fun
  | [d1, d2, d3] => { results := [.lit (.bool true)], args := [d1, d2, d3] }
  | _ => none }
def tagWayRow : OpenClaim := { program := "ytlidhdljgnijaaadoor", sum := "d5333d14ce8f74d7929476543cc81dbd7ca1481c5bd2d6eaaef3edaa1bb4c380", func := "coterie/coterielaw13.TagWay", spec := "tagWay", unfollowed := true, recurses := true, named := ["coterie/sha.cubeRoots"], apart := false, laid := [("coterie/sha.cubeRoots", laid_coterie_sha_cubeRoots)] }
def TagWaySaid : Prop := tagWayRow.holds Tryd.pinned (OpenSpec.ofChange tagWaySpec)

/-- ITS FALSE NEIGHBOUR: 'it returns false'. Refute it at one input. -/
def tagWayWrong : ChangeSpec := { name := "tagWay", fn := fun _ => fun
  | [d1, d2, d3] => { results := [.lit (.bool false)], args := [d1, d2, d3] }
  | _ => none }
def TagWayWrongFalsely : Prop := tagWayRow.holds Tryd.pinned (OpenSpec.ofChange tagWayWrong)

/- THE SECOND FORM. 'bulk': how many values and letters a reading holds, each counted each time it is reached (what is shared counts as often as it is met; a slice's spare places count too). A statement '..UptoSaid' is the law's where the arguments, and the package variables that the reading takes, are together of bulk at most 1048576: NARROWER than '..Said'. Prove '..Said' where nothing that the law and all that it calls make is longer than what came in: it says more and counts as full. Else prove '..UptoSaid'. A law counts once. -/
mutual
def uptoBulk {H : Type} : DataW H → Nat
  | .lit (.string bytes) => bytes.length + 1
  | .lit _ => 1
  | .nil => 1
  | .ptr d => uptoBulk d + 1
  | .slice elems spare => uptoBulkAll elems + uptoBulkAll spare + 1
  | .agg parts => uptoBulkAll parts + 1
  | .iface _ d => uptoBulk d + 1
  | .map entries => uptoBulkEntries entries + 1
  | .held _ => 1
def uptoBulkAll {H : Type} : List (DataW H) → Nat
  | [] => 0
  | d :: r => uptoBulk d + uptoBulkAll r
def uptoBulkEntries {H : Type} : List (Lit × DataW H) → Nat
  | [] => 0
  | x :: r => uptoBulkEntry x + uptoBulkEntries r
def uptoBulkEntry {H : Type} : Lit × DataW H → Nat
  | (.string bytes, d) => bytes.length + uptoBulk d + 1
  | (_, d) => uptoBulk d + 1
 end
def uptoSmall : (H : Type) → List (DataW H) → Bool := fun _ ds => decide (uptoBulkAll ds ≤ 1048576)
def OpenSpec.upto (s : _root_.Go.ChangeSpec) : _root_.Go.OpenSpec := { _root_.Go.OpenSpec.ofChange s with cond := some uptoSmall }

/-- 'coterielaw13.TagTells', WHERE WHAT IT READS IS OF BULK AT MOST 1048576: true; the input reads as it did. -/
def tagTellsUptoRow : OpenClaim := { program := "ytlidhdljgnijaaadoor", sum := "d5333d14ce8f74d7929476543cc81dbd7ca1481c5bd2d6eaaef3edaa1bb4c380", func := "coterie/coterielaw13.TagTells", spec := "tagTells", unfollowed := true, recurses := true, named := ["coterie/sha.cubeRoots", "coterie/coterieref02.k"], apart := false, laid := [("coterie/coterieref02.k", laid_coterie_coterieref02_k), ("coterie/sha.cubeRoots", laid_coterie_sha_cubeRoots)], narrowed := true }
def TagTellsUptoSaid : Prop := tagTellsUptoRow.holds Tryd.pinned (OpenSpec.upto tagTellsSpec)

/-- 'coterielaw13.TagReads', WHERE WHAT IT READS IS OF BULK AT MOST 1048576: true; the input reads as it did. -/
def tagReadsUptoRow : OpenClaim := { program := "ytlidhdljgnijaaadoor", sum := "d5333d14ce8f74d7929476543cc81dbd7ca1481c5bd2d6eaaef3edaa1bb4c380", func := "coterie/coterielaw13.TagReads", spec := "tagReads", unfollowed := true, recurses := true, named := ["coterie/sha.cubeRoots"], apart := false, laid := [("coterie/sha.cubeRoots", laid_coterie_sha_cubeRoots)], narrowed := true }
def TagReadsUptoSaid : Prop := tagReadsUptoRow.holds Tryd.pinned (OpenSpec.upto tagReadsSpec)

/-- 'coterielaw13.TagBack', WHERE WHAT IT READS IS OF BULK AT MOST 1048576: true; the input reads as it did. -/
def tagBackUptoRow : OpenClaim := { program := "ytlidhdljgnijaaadoor", sum := "d5333d14ce8f74d7929476543cc81dbd7ca1481c5bd2d6eaaef3edaa1bb4c380", func := "coterie/coterielaw13.TagBack", spec := "tagBack", unfollowed := true, recurses := true, named := ["coterie/sha.cubeRoots"], apart := false, laid := [("coterie/sha.cubeRoots", laid_coterie_sha_cubeRoots)], narrowed := true }
def TagBackUptoSaid : Prop := tagBackUptoRow.holds Tryd.pinned (OpenSpec.upto tagBackSpec)

/-- 'coterielaw13.TagLeaves', WHERE WHAT IT READS IS OF BULK AT MOST 1048576: true; the input reads as it did. -/
def tagLeavesUptoRow : OpenClaim := { program := "ytlidhdljgnijaaadoor", sum := "d5333d14ce8f74d7929476543cc81dbd7ca1481c5bd2d6eaaef3edaa1bb4c380", func := "coterie/coterielaw13.TagLeaves", spec := "tagLeaves", unfollowed := true, recurses := true, named := ["coterie/sha.cubeRoots"], apart := false, laid := [("coterie/sha.cubeRoots", laid_coterie_sha_cubeRoots)], narrowed := true }
def TagLeavesUptoSaid : Prop := tagLeavesUptoRow.holds Tryd.pinned (OpenSpec.upto tagLeavesSpec)

/-- 'coterielaw13.TagWay', WHERE WHAT IT READS IS OF BULK AT MOST 1048576: true; the input reads as it did. -/
def tagWayUptoRow : OpenClaim := { program := "ytlidhdljgnijaaadoor", sum := "d5333d14ce8f74d7929476543cc81dbd7ca1481c5bd2d6eaaef3edaa1bb4c380", func := "coterie/coterielaw13.TagWay", spec := "tagWay", unfollowed := true, recurses := true, named := ["coterie/sha.cubeRoots"], apart := false, laid := [("coterie/sha.cubeRoots", laid_coterie_sha_cubeRoots)], narrowed := true }
def TagWayUptoSaid : Prop := tagWayUptoRow.holds Tryd.pinned (OpenSpec.upto tagWaySpec)

end Rows
end Go.Proofs.YtlidhdljgnijaaaDoor
