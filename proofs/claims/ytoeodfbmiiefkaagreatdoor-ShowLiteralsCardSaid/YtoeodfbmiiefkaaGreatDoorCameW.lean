/- Values that came in. -/
import Derived.Test.YtoeodfbmiiefkaaGreatDoorProg
import Derived.Test.YtoeodfbmiiefkaaGreatDoorRows
import Derived.Below
import Derived.KernelRfl
import Derived.ChangeArms
import Derived.DataShut
namespace Go.Proofs.YtoeodfbmiiefkaaGreatDoor.Va
open Go Go.RowKit
/-- A value of a cell, of any kind. -/
structure VV where
  kd : Nat
  num : Int
  txt : ByteArray
  lo : -9223372036854775808 ≤ num
  hi : num ≤ 9223372036854775807
  ml : txt.size ≤ maxLen
  kb : kd < 256
def cells3 (v : VV) : List Value := [.int .u8 (v.kd : Int), .int .i64 v.num, .string v.txt]
theorem cells3_len (v : VV) : (cells3 v).length = 3 := rfl
section
variable {H : Type} {enc : TypeId × Value → H} {w : World} {base : Nat} {spare : Nat → Bool} {held : Bool} {fuel : Nat} {cs : List Value} {y : DataW H × List MemPlace}
theorem cl_u8 : Tryz.prog.cellsOf 5 = 1 := by kernel_rfl
theorem cl_i64 : Tryz.prog.cellsOf 2 = 1 := by kernel_rfl
theorem cl_str : Tryz.prog.cellsOf 9 = 1 := by kernel_rfl
set_option maxRecDepth 100000 in
theorem val_came (h : DataW.trod enc Tryz.prog w base spare held fuel 23 cs = some y) : ∃ r : VV, cs = cells3 r := by
  obtain ⟨xs, n, _, _, hl, hlen, hf⟩ := DataW.trod_struct Tryz.underlying23 h
  have hl' : cs.length = 3 := hl.trans (by kernel_rfl)
  match cs, hl' with
  | [c0, c1, c2], _ =>
    have hx : ∀ i, i < 3 → ∃ x, xs[i]? = some x := fun i hi => ⟨_, List.getElem?_eq_getElem (by rw [hlen]; exact hi)⟩
    obtain ⟨x0, e0⟩ := hx 0 (by decide)
    obtain ⟨x1, e1⟩ := hx 1 (by decide)
    obtain ⟨x2, e2⟩ := hx 2 (by decide)
    obtain ⟨u0, q0, g0⟩ := DataW.trod_int Tryz.underlying5 ((hf 0 _ rfl).trans e0)
    obtain ⟨u1, q1, g1⟩ := DataW.trod_int Tryz.underlying2 ((hf 1 _ rfl).trans e1)
    obtain ⟨s, q2, _, g2⟩ := DataW.trod_string Tryz.underlying9 ((hf 2 _ rfl).trans e2)
    simp [cl_u8, cl_i64, cl_str] at q0 q1 q2
    have w0 := g0.2
    have w1 := g1.2
    rw [Lit.wf_int_iff] at w0 w1
    simp [IntKind.min, IntKind.max, IntKind.signed, IntKind.bits] at w0 w1
    refine ⟨⟨u0.toNat, u1, s, by omega, by omega, g2, by omega⟩, ?_⟩
    rw [q0, q1, q2]
    unfold cells3
    dsimp only
    rw [show ((u0.toNat : Nat) : Int) = u0 by omega]
end
end Go.Proofs.YtoeodfbmiiefkaaGreatDoor.Va
