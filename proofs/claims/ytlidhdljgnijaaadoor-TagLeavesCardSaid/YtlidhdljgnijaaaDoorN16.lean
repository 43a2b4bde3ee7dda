import Derived.Test.YtlidhdljgnijaaaDoorN03
/-
  SHA-256 AS PLAIN FUNCTIONS ON WORDS (UInt32) AND BYTES. Nothing of the program.
-/
set_option linter.unusedVariables false
namespace Go.Proofs.YtlidhdljgnijaaaDoor

def kU : List UInt32 := [1116352408, 1899447441, 3049323471, 3921009573, 961987163, 1508970993, 2453635748, 2870763221, 3624381080, 310598401, 607225278, 1426881987, 1925078388, 2162078206, 2614888103, 3248222580, 3835390401, 4022224774, 264347078, 604807628, 770255983, 1249150122, 1555081692, 1996064986, 2554220882, 2821834349, 2952996808, 3210313671, 3336571891, 3584528711, 113926993, 338241895, 666307205, 773529912, 1294757372, 1396182291, 1695183700, 1986661051, 2177026350, 2456956037, 2730485921, 2820302411, 3259730800, 3345764771, 3516065817, 3600352804, 4094571909, 275423344, 430227734, 506948616, 659060556, 883997877, 958139571, 1322822218, 1537002063, 1747873779, 1955562222, 2024104815, 2227730452, 2361852424, 2428436474, 2756734187, 3204031479, 3329325298]
def firstU : List UInt32 := [1779033703, 3144134277, 1013904242, 2773480762, 1359893119, 2600822924, 528734635, 1541459225]

theorem kU_len : kU.length = 64 := rfl
def S0 (x : UInt32) : UInt32 := rorU x 2 ^^^ rorU x 13 ^^^ rorU x 22
def S1 (x : UInt32) : UInt32 := rorU x 6 ^^^ rorU x 11 ^^^ rorU x 25
def chU (e f g : UInt32) : UInt32 := e &&& f ^^^ ~~~e &&& g
def majU (a b c : UInt32) : UInt32 := a &&& b ^^^ a &&& c ^^^ b &&& c

def T1 (e f g h k w : UInt32) : UInt32 := h + S1 e + chU e f g + k + w
def T2 (a b c : UInt32) : UInt32 := S0 a + majU a b c

/-- one round -/
def roundU (k w : UInt32) : List UInt32 → List UInt32
  | [a, b, c, d, e, f, g, h] => [T1 e f g h k w + T2 a b c, a, b, c, d + T1 e f g h k w, e, f, g]
  | l => l
def roundsTo (h ws : List UInt32) : Nat → List UInt32
  | 0 => h
  | t + 1 => roundU (kU.getD t 0) (ws.getD t 0) (roundsTo h ws t)

theorem eight {l : List UInt32} (h : l.length = 8) : ∃ a b c d e f g i, l = [a, b, c, d, e, f, g, i] := by
  match l, h with
  | [a, b, c, d, e, f, g, i], _ => exact ⟨a, b, c, d, e, f, g, i, rfl⟩

/-- each word of the one and of the other, together: the first j -/
def addTo (h v : List UInt32) (j : Nat) : List UInt32 := (List.range 8).map fun i => if i < j then h.getD i 0 + v.getD i 0 else h.getD i 0
def blockW (h ws : List UInt32) : List UInt32 := addTo h (roundsTo h ws 64) 8

theorem addTo_len (h v : List UInt32) (j : Nat) : (addTo h v j).length = 8 := by simp [addTo]
end Go.Proofs.YtlidhdljgnijaaaDoor

