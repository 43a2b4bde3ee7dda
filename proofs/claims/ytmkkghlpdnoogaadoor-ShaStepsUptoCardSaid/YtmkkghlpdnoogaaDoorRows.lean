/-
  NARROWER THAN 'FOR EVERY INPUT', by the rows' own cells (each row's printed sentence says how): ShaSteps: laid · MacSums: laid · MacExpands: laid · MacPrefix: laid · MacKeys: laid · MacBounds: laid · MacDerives: laid · MacEqual: laid.
  DERIVED. THE GIVEN ROWS OF THIS SEAT. 8 by the template 'for every input the law returns true; each argument reads behind the call as it read before'; 0 by the template 'total and deterministic' (their statements: YtmkkghlpdnoogaaDoorTotals.lean).
  GIVEN WITH THE SEED: the statements are not yours to turn. If you find one false, say at which input.
  Laid BY PROGRAM, IN A SANDBOX (cutbox-rows.mjs): the forced cells as the released guide's own fill.sh prints them over the translation 2fa0b2509c443126… (all of the seat's roots in one cut). By AI agents, Wed Nov 11 2026. No macro, syntax, notation, axiom, sorry.
-/
import Derived.Test.YtmkkghlpdnoogaaDoorChecked
import GoSem.Claim
import GoSem.ClaimJoined
import GoSem.ClaimMapViews
import Derived.JoinedTies
import Derived.KernelRfl
namespace Go.Proofs.YtmkkghlpdnoogaaDoor
/- THE CELL 'sum', in the pinned program and in every row, IS THE sha256 OF THE DUMP (.gsa) THAT YtmkkghlpdnoogaaDoorProg.lean LOADS. Nothing in Lean hashes anything: it is a label: what it is worth is what the hold of that sum in a sandbox is worth. -/
noncomputable def Tryd.pinned : Pinned := { name := "ytmkkghlpdnoogaadoor", sum := "2fa0b2509c44312676c9b96e4fe2d31be00f1fe8b7e1d28fd5b1136128d8b457", checked := Tryd.checked }
namespace Rows
def none {H : Type} : Left H := { results := [], args := [] }

/- WHAT THE LISTED PACKAGE-LEVEL VARIABLES READ AS WHEN THE CALL BEGINS. Each datum BY PROGRAM (the guide's laid-datum.mjs) off the statement by which the dump's own 'gosem.cut.vars' lays the variable. In a bare row this is a premise. The card (YtmkkghlpdnoogaaDoorCards.lean) ties it to the program's text. -/
def laid_coterie_coterieref02_k {H : Type} : DataW H := .agg [.lit (.int .u32 1116352408), .lit (.int .u32 1899447441), .lit (.int .u32 3049323471), .lit (.int .u32 3921009573), .lit (.int .u32 961987163), .lit (.int .u32 1508970993), .lit (.int .u32 2453635748), .lit (.int .u32 2870763221), .lit (.int .u32 3624381080), .lit (.int .u32 310598401), .lit (.int .u32 607225278), .lit (.int .u32 1426881987), .lit (.int .u32 1925078388), .lit (.int .u32 2162078206), .lit (.int .u32 2614888103), .lit (.int .u32 3248222580), .lit (.int .u32 3835390401), .lit (.int .u32 4022224774), .lit (.int .u32 264347078), .lit (.int .u32 604807628), .lit (.int .u32 770255983), .lit (.int .u32 1249150122), .lit (.int .u32 1555081692), .lit (.int .u32 1996064986), .lit (.int .u32 2554220882), .lit (.int .u32 2821834349), .lit (.int .u32 2952996808), .lit (.int .u32 3210313671), .lit (.int .u32 3336571891), .lit (.int .u32 3584528711), .lit (.int .u32 113926993), .lit (.int .u32 338241895), .lit (.int .u32 666307205), .lit (.int .u32 773529912), .lit (.int .u32 1294757372), .lit (.int .u32 1396182291), .lit (.int .u32 1695183700), .lit (.int .u32 1986661051), .lit (.int .u32 2177026350), .lit (.int .u32 2456956037), .lit (.int .u32 2730485921), .lit (.int .u32 2820302411), .lit (.int .u32 3259730800), .lit (.int .u32 3345764771), .lit (.int .u32 3516065817), .lit (.int .u32 3600352804), .lit (.int .u32 4094571909), .lit (.int .u32 275423344), .lit (.int .u32 430227734), .lit (.int .u32 506948616), .lit (.int .u32 659060556), .lit (.int .u32 883997877), .lit (.int .u32 958139571), .lit (.int .u32 1322822218), .lit (.int .u32 1537002063), .lit (.int .u32 1747873779), .lit (.int .u32 1955562222), .lit (.int .u32 2024104815), .lit (.int .u32 2227730452), .lit (.int .u32 2361852424), .lit (.int .u32 2428436474), .lit (.int .u32 2756734187), .lit (.int .u32 3204031479), .lit (.int .u32 3329325298)]
def laid_coterie_sha_cubeRoots {H : Type} : DataW H := .agg [.lit (.int .u32 1116352408), .lit (.int .u32 1899447441), .lit (.int .u32 3049323471), .lit (.int .u32 3921009573), .lit (.int .u32 961987163), .lit (.int .u32 1508970993), .lit (.int .u32 2453635748), .lit (.int .u32 2870763221), .lit (.int .u32 3624381080), .lit (.int .u32 310598401), .lit (.int .u32 607225278), .lit (.int .u32 1426881987), .lit (.int .u32 1925078388), .lit (.int .u32 2162078206), .lit (.int .u32 2614888103), .lit (.int .u32 3248222580), .lit (.int .u32 3835390401), .lit (.int .u32 4022224774), .lit (.int .u32 264347078), .lit (.int .u32 604807628), .lit (.int .u32 770255983), .lit (.int .u32 1249150122), .lit (.int .u32 1555081692), .lit (.int .u32 1996064986), .lit (.int .u32 2554220882), .lit (.int .u32 2821834349), .lit (.int .u32 2952996808), .lit (.int .u32 3210313671), .lit (.int .u32 3336571891), .lit (.int .u32 3584528711), .lit (.int .u32 113926993), .lit (.int .u32 338241895), .lit (.int .u32 666307205), .lit (.int .u32 773529912), .lit (.int .u32 1294757372), .lit (.int .u32 1396182291), .lit (.int .u32 1695183700), .lit (.int .u32 1986661051), .lit (.int .u32 2177026350), .lit (.int .u32 2456956037), .lit (.int .u32 2730485921), .lit (.int .u32 2820302411), .lit (.int .u32 3259730800), .lit (.int .u32 3345764771), .lit (.int .u32 3516065817), .lit (.int .u32 3600352804), .lit (.int .u32 4094571909), .lit (.int .u32 275423344), .lit (.int .u32 430227734), .lit (.int .u32 506948616), .lit (.int .u32 659060556), .lit (.int .u32 883997877), .lit (.int .u32 958139571), .lit (.int .u32 1322822218), .lit (.int .u32 1537002063), .lit (.int .u32 1747873779), .lit (.int .u32 1955562222), .lit (.int .u32 2024104815), .lit (.int .u32 2227730452), .lit (.int .u32 2361852424), .lit (.int .u32 2428436474), .lit (.int .u32 2756734187), .lit (.int .u32 3204031479), .lit (.int .u32 3329325298)]

/-- 'coterielaw02.ShaSteps': WHATEVER THE INPUT: true; the input reads as it did. -/
def shaStepsSpec : ChangeSpec := { name := "shaSteps", fn := fun _ => fun
  | [d1, d2, d3] => { results := [.lit (.bool true)], args := [d1, d2, d3] }
  | _ => none }
def shaStepsRow : OpenClaim := { program := "ytmkkghlpdnoogaadoor", sum := "2fa0b2509c44312676c9b96e4fe2d31be00f1fe8b7e1d28fd5b1136128d8b457", func := "coterie/coterielaw02.ShaSteps", spec := "shaSteps", named := ["coterie/sha.cubeRoots", "coterie/coterieref02.k"], apart := false, laid := [("coterie/coterieref02.k", laid_coterie_coterieref02_k), ("coterie/sha.cubeRoots", laid_coterie_sha_cubeRoots)] }
def ShaStepsSaid : Prop := shaStepsRow.holds Tryd.pinned (OpenSpec.ofChange shaStepsSpec)

/-- ITS FALSE NEIGHBOUR: 'it returns false'. Refute it at one input. -/
def shaStepsWrong : ChangeSpec := { name := "shaSteps", fn := fun _ => fun
  | [d1, d2, d3] => { results := [.lit (.bool false)], args := [d1, d2, d3] }
  | _ => none }
def ShaStepsWrongFalsely : Prop := shaStepsRow.holds Tryd.pinned (OpenSpec.ofChange shaStepsWrong)

/-- 'coterielaw03.MacSums': WHATEVER THE INPUT: true; the input reads as it did. -/
def macSumsSpec : ChangeSpec := { name := "macSums", fn := fun _ => fun
  | [d1, d2, d3] => { results := [.lit (.bool true)], args := [d1, d2, d3] }
  | _ => none }
def macSumsRow : OpenClaim := { program := "ytmkkghlpdnoogaadoor", sum := "2fa0b2509c44312676c9b96e4fe2d31be00f1fe8b7e1d28fd5b1136128d8b457", func := "coterie/coterielaw03.MacSums", spec := "macSums", named := ["coterie/sha.cubeRoots", "coterie/coterieref02.k"], apart := false, laid := [("coterie/coterieref02.k", laid_coterie_coterieref02_k), ("coterie/sha.cubeRoots", laid_coterie_sha_cubeRoots)] }
def MacSumsSaid : Prop := macSumsRow.holds Tryd.pinned (OpenSpec.ofChange macSumsSpec)

/-- ITS FALSE NEIGHBOUR: 'it returns false'. Refute it at one input. -/
def macSumsWrong : ChangeSpec := { name := "macSums", fn := fun _ => fun
  | [d1, d2, d3] => { results := [.lit (.bool false)], args := [d1, d2, d3] }
  | _ => none }
def MacSumsWrongFalsely : Prop := macSumsRow.holds Tryd.pinned (OpenSpec.ofChange macSumsWrong)

/-- 'coterielaw03.MacExpands': WHATEVER THE INPUT: true; the input reads as it did. -/
def macExpandsSpec : ChangeSpec := { name := "macExpands", fn := fun _ => fun
  | [d1, d2, d3, d4, d5] => { results := [.lit (.bool true)], args := [d1, d2, d3, d4, d5] }
  | _ => none }
def macExpandsRow : OpenClaim := { program := "ytmkkghlpdnoogaadoor", sum := "2fa0b2509c44312676c9b96e4fe2d31be00f1fe8b7e1d28fd5b1136128d8b457", func := "coterie/coterielaw03.MacExpands", spec := "macExpands", unfollowed := true, recurses := true, named := ["coterie/sha.cubeRoots", "coterie/coterieref02.k"], apart := false, laid := [("coterie/coterieref02.k", laid_coterie_coterieref02_k), ("coterie/sha.cubeRoots", laid_coterie_sha_cubeRoots)] }
def MacExpandsSaid : Prop := macExpandsRow.holds Tryd.pinned (OpenSpec.ofChange macExpandsSpec)

/-- ITS FALSE NEIGHBOUR: 'it returns false'. Refute it at one input. -/
def macExpandsWrong : ChangeSpec := { name := "macExpands", fn := fun _ => fun
  | [d1, d2, d3, d4, d5] => { results := [.lit (.bool false)], args := [d1, d2, d3, d4, d5] }
  | _ => none }
def MacExpandsWrongFalsely : Prop := macExpandsRow.holds Tryd.pinned (OpenSpec.ofChange macExpandsWrong)

/-- 'coterielaw03.MacPrefix': WHATEVER THE INPUT: true; the input reads as it did. -/
def macPrefixSpec : ChangeSpec := { name := "macPrefix", fn := fun _ => fun
  | [d1, d2, d3, d4] => { results := [.lit (.bool true)], args := [d1, d2, d3, d4] }
  | _ => none }
def macPrefixRow : OpenClaim := { program := "ytmkkghlpdnoogaadoor", sum := "2fa0b2509c44312676c9b96e4fe2d31be00f1fe8b7e1d28fd5b1136128d8b457", func := "coterie/coterielaw03.MacPrefix", spec := "macPrefix", unfollowed := true, recurses := true, named := ["coterie/sha.cubeRoots"], apart := false, laid := [("coterie/sha.cubeRoots", laid_coterie_sha_cubeRoots)] }
def MacPrefixSaid : Prop := macPrefixRow.holds Tryd.pinned (OpenSpec.ofChange macPrefixSpec)

/-- ITS FALSE NEIGHBOUR: 'it returns false'. Refute it at one input. -/
def macPrefixWrong : ChangeSpec := { name := "macPrefix", fn := fun _ => fun
  | [d1, d2, d3, d4] => { results := [.lit (.bool false)], args := [d1, d2, d3, d4] }
  | _ => none }
def MacPrefixWrongFalsely : Prop := macPrefixRow.holds Tryd.pinned (OpenSpec.ofChange macPrefixWrong)

/-- 'coterielaw03.MacKeys': WHATEVER THE INPUT: true; the input reads as it did. -/
def macKeysSpec : ChangeSpec := { name := "macKeys", fn := fun _ => fun
  | [d1, d2, d3, d4] => { results := [.lit (.bool true)], args := [d1, d2, d3, d4] }
  | _ => none }
def macKeysRow : OpenClaim := { program := "ytmkkghlpdnoogaadoor", sum := "2fa0b2509c44312676c9b96e4fe2d31be00f1fe8b7e1d28fd5b1136128d8b457", func := "coterie/coterielaw03.MacKeys", spec := "macKeys", named := ["coterie/sha.cubeRoots"], apart := false, laid := [("coterie/sha.cubeRoots", laid_coterie_sha_cubeRoots)] }
def MacKeysSaid : Prop := macKeysRow.holds Tryd.pinned (OpenSpec.ofChange macKeysSpec)

/-- ITS FALSE NEIGHBOUR: 'it returns false'. Refute it at one input. -/
def macKeysWrong : ChangeSpec := { name := "macKeys", fn := fun _ => fun
  | [d1, d2, d3, d4] => { results := [.lit (.bool false)], args := [d1, d2, d3, d4] }
  | _ => none }
def MacKeysWrongFalsely : Prop := macKeysRow.holds Tryd.pinned (OpenSpec.ofChange macKeysWrong)

/-- 'coterielaw03.MacBounds': WHATEVER THE INPUT: true; the input reads as it did. -/
def macBoundsSpec : ChangeSpec := { name := "macBounds", fn := fun _ => fun
  | [d1, d2, d3] => { results := [.lit (.bool true)], args := [d1, d2, d3] }
  | _ => none }
def macBoundsRow : OpenClaim := { program := "ytmkkghlpdnoogaadoor", sum := "2fa0b2509c44312676c9b96e4fe2d31be00f1fe8b7e1d28fd5b1136128d8b457", func := "coterie/coterielaw03.MacBounds", spec := "macBounds", unfollowed := true, recurses := true, named := ["coterie/sha.cubeRoots"], apart := false, laid := [("coterie/sha.cubeRoots", laid_coterie_sha_cubeRoots)] }
def MacBoundsSaid : Prop := macBoundsRow.holds Tryd.pinned (OpenSpec.ofChange macBoundsSpec)

/-- ITS FALSE NEIGHBOUR: 'it returns false'. Refute it at one input. -/
def macBoundsWrong : ChangeSpec := { name := "macBounds", fn := fun _ => fun
  | [d1, d2, d3] => { results := [.lit (.bool false)], args := [d1, d2, d3] }
  | _ => none }
def MacBoundsWrongFalsely : Prop := macBoundsRow.holds Tryd.pinned (OpenSpec.ofChange macBoundsWrong)

/-- 'coterielaw03.MacDerives': WHATEVER THE INPUT: true; the input reads as it did. -/
def macDerivesSpec : ChangeSpec := { name := "macDerives", fn := fun _ => fun
  | [d1, d2, d3] => { results := [.lit (.bool true)], args := [d1, d2, d3] }
  | _ => none }
def macDerivesRow : OpenClaim := { program := "ytmkkghlpdnoogaadoor", sum := "2fa0b2509c44312676c9b96e4fe2d31be00f1fe8b7e1d28fd5b1136128d8b457", func := "coterie/coterielaw03.MacDerives", spec := "macDerives", unfollowed := true, recurses := true, named := ["coterie/sha.cubeRoots"], apart := false, laid := [("coterie/sha.cubeRoots", laid_coterie_sha_cubeRoots)] }
def MacDerivesSaid : Prop := macDerivesRow.holds Tryd.pinned (OpenSpec.ofChange macDerivesSpec)

/-- ITS FALSE NEIGHBOUR: 'it returns false'. Refute it at one input. -/
def macDerivesWrong : ChangeSpec := { name := "macDerives", fn := fun _ => fun
  | [d1, d2, d3] => { results := [.lit (.bool false)], args := [d1, d2, d3] }
  | _ => none }
def MacDerivesWrongFalsely : Prop := macDerivesRow.holds Tryd.pinned (OpenSpec.ofChange macDerivesWrong)

/-- 'coterielaw03.MacEqual': WHATEVER THE INPUT: true; the input reads as it did. -/
def macEqualSpec : ChangeSpec := { name := "macEqual", fn := fun _ => fun
  | [d1, d2, d3, d4] => { results := [.lit (.bool true)], args := [d1, d2, d3, d4] }
  | _ => none }
def macEqualRow : OpenClaim := { program := "ytmkkghlpdnoogaadoor", sum := "2fa0b2509c44312676c9b96e4fe2d31be00f1fe8b7e1d28fd5b1136128d8b457", func := "coterie/coterielaw03.MacEqual", spec := "macEqual", named := ["coterie/sha.cubeRoots"], apart := false, laid := [("coterie/sha.cubeRoots", laid_coterie_sha_cubeRoots)] }
def MacEqualSaid : Prop := macEqualRow.holds Tryd.pinned (OpenSpec.ofChange macEqualSpec)

/-- ITS FALSE NEIGHBOUR: 'it returns false'. Refute it at one input. -/
def macEqualWrong : ChangeSpec := { name := "macEqual", fn := fun _ => fun
  | [d1, d2, d3, d4] => { results := [.lit (.bool false)], args := [d1, d2, d3, d4] }
  | _ => none }
def MacEqualWrongFalsely : Prop := macEqualRow.holds Tryd.pinned (OpenSpec.ofChange macEqualWrong)

/- THE SECOND FORM. 'bulk': how many values and letters a reading holds, each counted each time it is reached (what is shared counts as often as it is met; a slice's spare places count too). A statement '..UptoSaid' is the law's where the arguments, and the package variables that the reading takes, are together of bulk at most 1048576: NARROWER than '..Said'. Prove '..Said' where nothing that the law and all that it calls make is longer than what came in: it says more and counts as full. Else prove '..UptoSaid'. A law counts once. -/
mutual
def uptoBulk {H : Type} : DataW H → Nat
  | .lit (.string bytes) => bytes.length + 1
  | .lit _ => 1
  | .nil => 1
  | .ptr d => uptoBulk d + 1
  | .slice elems spare => uptoBulkAll elems + uptoBulkAll spare + 1
  | .agg parts => uptoBulkAll parts + 1
  | .iface _ d => uptoBulk d + 1
  | .map entries => uptoBulkEntries entries + 1
  | .held _ => 1
def uptoBulkAll {H : Type} : List (DataW H) → Nat
  | [] => 0
  | d :: r => uptoBulk d + uptoBulkAll r
def uptoBulkEntries {H : Type} : List (Lit × DataW H) → Nat
  | [] => 0
  | x :: r => uptoBulkEntry x + uptoBulkEntries r
def uptoBulkEntry {H : Type} : Lit × DataW H → Nat
  | (.string bytes, d) => bytes.length + uptoBulk d + 1
  | (_, d) => uptoBulk d + 1
 end
def uptoSmall : (H : Type) → List (DataW H) → Bool := fun _ ds => decide (uptoBulkAll ds ≤ 1048576)
def OpenSpec.upto (s : _root_.Go.ChangeSpec) : _root_.Go.OpenSpec := { _root_.Go.OpenSpec.ofChange s with cond := some uptoSmall }

/-- 'coterielaw02.ShaSteps', WHERE WHAT IT READS IS OF BULK AT MOST 1048576: true; the input reads as it did. -/
def shaStepsUptoRow : OpenClaim := { program := "ytmkkghlpdnoogaadoor", sum := "2fa0b2509c44312676c9b96e4fe2d31be00f1fe8b7e1d28fd5b1136128d8b457", func := "coterie/coterielaw02.ShaSteps", spec := "shaSteps", named := ["coterie/sha.cubeRoots", "coterie/coterieref02.k"], apart := false, laid := [("coterie/coterieref02.k", laid_coterie_coterieref02_k), ("coterie/sha.cubeRoots", laid_coterie_sha_cubeRoots)], narrowed := true }
def ShaStepsUptoSaid : Prop := shaStepsUptoRow.holds Tryd.pinned (OpenSpec.upto shaStepsSpec)

/-- 'coterielaw03.MacSums', WHERE WHAT IT READS IS OF BULK AT MOST 1048576: true; the input reads as it did. -/
def macSumsUptoRow : OpenClaim := { program := "ytmkkghlpdnoogaadoor", sum := "2fa0b2509c44312676c9b96e4fe2d31be00f1fe8b7e1d28fd5b1136128d8b457", func := "coterie/coterielaw03.MacSums", spec := "macSums", named := ["coterie/sha.cubeRoots", "coterie/coterieref02.k"], apart := false, laid := [("coterie/coterieref02.k", laid_coterie_coterieref02_k), ("coterie/sha.cubeRoots", laid_coterie_sha_cubeRoots)], narrowed := true }
def MacSumsUptoSaid : Prop := macSumsUptoRow.holds Tryd.pinned (OpenSpec.upto macSumsSpec)

/-- 'coterielaw03.MacExpands', WHERE WHAT IT READS IS OF BULK AT MOST 1048576: true; the input reads as it did. -/
def macExpandsUptoRow : OpenClaim := { program := "ytmkkghlpdnoogaadoor", sum := "2fa0b2509c44312676c9b96e4fe2d31be00f1fe8b7e1d28fd5b1136128d8b457", func := "coterie/coterielaw03.MacExpands", spec := "macExpands", unfollowed := true, recurses := true, named := ["coterie/sha.cubeRoots", "coterie/coterieref02.k"], apart := false, laid := [("coterie/coterieref02.k", laid_coterie_coterieref02_k), ("coterie/sha.cubeRoots", laid_coterie_sha_cubeRoots)], narrowed := true }
def MacExpandsUptoSaid : Prop := macExpandsUptoRow.holds Tryd.pinned (OpenSpec.upto macExpandsSpec)

/-- 'coterielaw03.MacPrefix', WHERE WHAT IT READS IS OF BULK AT MOST 1048576: true; the input reads as it did. -/
def macPrefixUptoRow : OpenClaim := { program := "ytmkkghlpdnoogaadoor", sum := "2fa0b2509c44312676c9b96e4fe2d31be00f1fe8b7e1d28fd5b1136128d8b457", func := "coterie/coterielaw03.MacPrefix", spec := "macPrefix", unfollowed := true, recurses := true, named := ["coterie/sha.cubeRoots"], apart := false, laid := [("coterie/sha.cubeRoots", laid_coterie_sha_cubeRoots)], narrowed := true }
def MacPrefixUptoSaid : Prop := macPrefixUptoRow.holds Tryd.pinned (OpenSpec.upto macPrefixSpec)

/-- 'coterielaw03.MacKeys', WHERE WHAT IT READS IS OF BULK AT MOST 1048576: true; the input reads as it did. -/
def macKeysUptoRow : OpenClaim := { program := "ytmkkghlpdnoogaadoor", sum := "2fa0b2509c44312676c9b96e4fe2d31be00f1fe8b7e1d28fd5b1136128d8b457", func := "coterie/coterielaw03.MacKeys", spec := "macKeys", named := ["coterie/sha.cubeRoots"], apart := false, laid := [("coterie/sha.cubeRoots", laid_coterie_sha_cubeRoots)], narrowed := true }
def MacKeysUptoSaid : Prop := macKeysUptoRow.holds Tryd.pinned (OpenSpec.upto macKeysSpec)

/-- 'coterielaw03.MacBounds', WHERE WHAT IT READS IS OF BULK AT MOST 1048576: true; the input reads as it did. -/
def macBoundsUptoRow : OpenClaim := { program := "ytmkkghlpdnoogaadoor", sum := "2fa0b2509c44312676c9b96e4fe2d31be00f1fe8b7e1d28fd5b1136128d8b457", func := "coterie/coterielaw03.MacBounds", spec := "macBounds", unfollowed := true, recurses := true, named := ["coterie/sha.cubeRoots"], apart := false, laid := [("coterie/sha.cubeRoots", laid_coterie_sha_cubeRoots)], narrowed := true }
def MacBoundsUptoSaid : Prop := macBoundsUptoRow.holds Tryd.pinned (OpenSpec.upto macBoundsSpec)

/-- 'coterielaw03.MacDerives', WHERE WHAT IT READS IS OF BULK AT MOST 1048576: true; the input reads as it did. -/
def macDerivesUptoRow : OpenClaim := { program := "ytmkkghlpdnoogaadoor", sum := "2fa0b2509c44312676c9b96e4fe2d31be00f1fe8b7e1d28fd5b1136128d8b457", func := "coterie/coterielaw03.MacDerives", spec := "macDerives", unfollowed := true, recurses := true, named := ["coterie/sha.cubeRoots"], apart := false, laid := [("coterie/sha.cubeRoots", laid_coterie_sha_cubeRoots)], narrowed := true }
def MacDerivesUptoSaid : Prop := macDerivesUptoRow.holds Tryd.pinned (OpenSpec.upto macDerivesSpec)

/-- 'coterielaw03.MacEqual', WHERE WHAT IT READS IS OF BULK AT MOST 1048576: true; the input reads as it did. -/
def macEqualUptoRow : OpenClaim := { program := "ytmkkghlpdnoogaadoor", sum := "2fa0b2509c44312676c9b96e4fe2d31be00f1fe8b7e1d28fd5b1136128d8b457", func := "coterie/coterielaw03.MacEqual", spec := "macEqual", named := ["coterie/sha.cubeRoots"], apart := false, laid := [("coterie/sha.cubeRoots", laid_coterie_sha_cubeRoots)], narrowed := true }
def MacEqualUptoSaid : Prop := macEqualUptoRow.holds Tryd.pinned (OpenSpec.upto macEqualSpec)

end Rows
end Go.Proofs.YtmkkghlpdnoogaaDoor
