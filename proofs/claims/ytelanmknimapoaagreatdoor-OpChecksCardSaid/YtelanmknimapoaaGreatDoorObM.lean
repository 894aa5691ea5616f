/- Lines of operations: what is written, and how it falls apart again. No run in this file. -/
import Derived.Test.YtelanmknimapoaaGreatDoorMgf
import Derived.Test.YtelanmknimapoaaGreatDoorRectF
import Derived.Test.YtelanmknimapoaaGreatDoorRectC
import Derived.Test.YtelanmknimapoaaGreatDoorRectCut
import Derived.Test.YtelanmknimapoaaGreatDoorAddrC
import Derived.Test.YtelanmknimapoaaGreatDoorAddrRefB
import Derived.Test.YtelanmknimapoaaGreatDoorGlyphF
import Derived.Test.YtelanmknimapoaaGreatDoorObJ
import Derived.Lib.AtoiAllCases
import Derived.Lib.ItoaLen
namespace Go.Proofs.YtelanmknimapoaaGreatDoor.Ob
open Go Go.RowKit Gf Re Re.AM
/-! Numbers -/
/-! Words -/
def wordS : Nat → By
  | 1 => [108, 111, 103, 105, 110]
  | 2 => [108, 111, 103, 111, 117, 116]
  | 3 => [115, 101, 116]
  | 4 => [99, 108, 101, 97, 114]
  | 5 => [114, 101, 97, 100]
  | 6 => [102, 111, 114, 109, 117, 108, 97]
  | 7 => [114, 117, 108, 101]
  | 8 => [103, 114, 97, 110, 116]
  | 9 => [114, 101, 118, 111, 107, 101]
  | 10 => [97, 117, 100, 105, 116]
  | _ => []
def areaS (a b c d : Int) : By := if ckB a b c d then fmtR a b c d else Lib.join [Lib.itoa a, Lib.itoa b, Lib.itoa c, Lib.itoa d] [44]
def tailS (g : OV) : List By := match g.kd with
  | 3 => [Gl.quoS g.inp.data.toList]
  | 7 => [fmtS g.rd, fmtS g.wr, fmtS g.ow]
  | 8 => [Lib.itoa (g.fns : Int), fmtS g.tos]
  | 9 => [Lib.itoa g.idx]
  | _ => []
def tgtB (k : Nat) : Bool := decide (3 ≤ k ∧ k ≤ 8)
def partsO (g : OV) : List By := wordS g.kd :: Lib.itoa g.us :: ((if tgtB g.kd then [areaS g.c1 g.r1 g.c2 g.r2] else []) ++ tailS g)
/-- The line of an operation. -/
def fmtO (g : OV) : By := Lib.join (partsO g) [32]
/-! A word is cut off -/
theorem join_one (a s : By) : Lib.join [a] s = a := by simp [Lib.join]
/-! Letters of the words -/
end Go.Proofs.YtelanmknimapoaaGreatDoor.Ob
