import Derived.Test.YtbiijdboolpaeaaDoorG12
import Derived.Test.YtbiijdboolpaeaaDoorG24
import Derived.Test.YtbiijdboolpaeaaDoorG26
set_option linter.unusedVariables false
namespace Go.Proofs.YtbiijdboolpaeaaDoor
open Go.RowKit
def pairNm : List UInt8 := [112, 97, 105, 114]
def keyNm : List UInt8 := [107, 101, 121]
def boxNm : List UInt8 := [98, 111, 120]
def secretU (seed : List UInt8) : List UInt8 := deriveU seed pairNm []
def pointU (seed : List UInt8) : List UInt8 := mltK (secretU seed) nineL
def twoU (both mine theirs : List UInt8) : List UInt8 := deriveU (macU [] both) keyNm [mine, theirs]
def ownU (seed : List UInt8) : List UInt8 := deriveU seed boxNm []
def boxBoth (point seed : List UInt8) : List UInt8 := mltK (secretU (ownU seed)) point
def boxKey (point seed : List UInt8) : List UInt8 := twoU (boxBoth point seed) (pointU (ownU seed)) point
def kboxU (point seed plain : List UInt8) (ts : List (List UInt8)) : List UInt8 := pointU (ownU seed) ++ sealU (boxKey point seed) plain ts
def unBoth (secret b : List UInt8) : List UInt8 := mltK secret (b.take 32)
def unKey (secret b : List UInt8) : List UInt8 := twoU (unBoth secret b) (b.take 32) (mltK secret nineL)
theorem secretU_len (seed : List UInt8) : (secretU seed).length = 32 := deriveU_len _ _ _
theorem pointU_len (seed : List UInt8) : (pointU seed).length = 32 := mltK_len _ _
theorem twoU_len (both mine theirs : List UInt8) : (twoU both mine theirs).length = 32 := deriveU_len _ _ _
theorem ownU_len (seed : List UInt8) : (ownU seed).length = 32 := deriveU_len _ _ _
theorem kboxU_len (point seed plain : List UInt8) (ts : List (List UInt8)) : (kboxU point seed plain ts).length = plain.length + 48 := by
 rw [kboxU, List.length_append, pointU_len, sealU_len]
 omega
theorem kboxU_take (point seed plain : List UInt8) (ts : List (List UInt8)) : (kboxU point seed plain ts).take 32 = pointU (ownU seed) := by
 rw [kboxU, List.take_append_of_le_length (by rw [pointU_len]; omega), List.take_of_length_le (by rw [pointU_len]; omega)]
theorem kboxU_drop (point seed plain : List UInt8) (ts : List (List UInt8)) : (kboxU point seed plain ts).drop 32 = sealU (boxKey point seed) plain ts := by
 rw [kboxU, List.drop_append_of_le_length (by rw [pointU_len]; omega), List.drop_of_length_le (by rw [pointU_len]; omega), List.nil_append]
theorem both_meet (s seed : List UInt8) : unBoth (secretU s) (pointU (ownU seed)) = boxBoth (pointU s) seed := by
 unfold unBoth boxBoth
 rw [List.take_of_length_le (by rw [pointU_len]; omega)]
 unfold pointU
 exact mltK_turns (secretU_len _) (secretU_len _)
theorem unBoth_box (s seed plain : List UInt8) (ts : List (List UInt8)) : unBoth (secretU s) (kboxU (pointU s) seed plain ts) = boxBoth (pointU s) seed := by
 rw [← both_meet]
 unfold unBoth
 rw [kboxU_take, List.take_of_length_le (by rw [pointU_len]; omega)]
theorem unKey_box (s seed plain : List UInt8) (ts : List (List UInt8)) : unKey (secretU s) (kboxU (pointU s) seed plain ts) = boxKey (pointU s) seed := by
 unfold unKey boxKey
 rw [unBoth_box, kboxU_take]
 rfl
theorem meet_both (a b : List UInt8) : mltK (secretU a) (pointU b) = mltK (secretU b) (pointU a) := by
 unfold pointU
 exact mltK_turns (secretU_len _) (secretU_len _)
end Go.Proofs.YtbiijdboolpaeaaDoor
