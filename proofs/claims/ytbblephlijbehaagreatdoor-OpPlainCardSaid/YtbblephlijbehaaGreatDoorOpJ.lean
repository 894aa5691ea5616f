/- Operations that came in: their fields. -/
import Derived.Test.YtbblephlijbehaaGreatDoorProg
import Derived.Test.YtbblephlijbehaaGreatDoorRows
import Derived.Below
import Derived.ChangeArms
import Derived.DataShut
import Derived.KernelRfl
namespace Go.Proofs.YtbblephlijbehaaGreatDoor.Re
open Go.RowKit
set_option linter.unusedSimpArgs false
set_option linter.unusedVariables false
structure OP where
  kd : Nat
  us : Int
  c1 : Int
  r1 : Int
  c2 : Int
  r2 : Int
  inp : ByteArray
  rd : Int
  wr : Int
  ow : Int
  fns : Nat
  tos : Int
  idx : Int
def cellsOP (r : OP) : List Value := [.int .u8 (r.kd : Int), .int .i64 r.us, .int .i64 r.c1, .int .i64 r.r1, .int .i64 r.c2, .int .i64 r.r2, .string r.inp, .int .u64 r.rd, .int .u64 r.wr, .int .u64 r.ow, .int .u8 (r.fns : Int), .int .u64 r.tos, .int .i64 r.idx]
theorem cellsOP_len (r : OP) : (cellsOP r).length = 13 := rfl
section
variable {H : Type} {enc : TypeId × Value → H} {w : World} {base : Nat} {spare : Nat → Bool} {held : Bool} {fuel : Nat} {cs : List Value} {y : DataW H × List MemPlace}
theorem cl_int : Tryz.prog.cellsOf 3 = 1 := by kernel_rfl
theorem cl_u64 : Tryz.prog.cellsOf 54 = 1 := by kernel_rfl
theorem cl_u8 : Tryz.prog.cellsOf 5 = 1 := by kernel_rfl
theorem cl_str : Tryz.prog.cellsOf 9 = 1 := by kernel_rfl
theorem cl_rect : Tryz.prog.cellsOf 52 = 4 := by kernel_rfl
theorem cl_rights : Tryz.prog.cellsOf 56 = 3 := by kernel_rfl
theorem u8_nat {n : Int} (h : (Lit.int .u8 n).wf = true) : ∃ x : Nat, n = (x : Int) := by
  rw [Lit.wf_int_iff] at h
  simp [IntKind.min, IntKind.max, IntKind.signed, IntKind.bits] at h
  exact Int.eq_ofNat_of_zero_le h.1
set_option maxRecDepth 100000 in
theorem rect_came (h : DataW.trod enc Tryz.prog w base spare held fuel 52 cs = some y) : ∃ a b c d : Int, cs = [.int .i64 a, .int .i64 b, .int .i64 c, .int .i64 d] := by
  obtain ⟨xs, n, _, _, hl, hlen, hf⟩ := DataW.trod_struct Tryz.underlying52 h
  have hl' : cs.length = 4 := hl.trans cl_rect
  match cs, hl' with
  | [c0, c1, c2, c3], _ =>
    have hx : ∀ i, i < 4 → ∃ x, xs[i]? = some x := fun i hi => ⟨_, List.getElem?_eq_getElem (by rw [hlen]; exact hi)⟩
    obtain ⟨x0, e0⟩ := hx 0 (by decide)
    obtain ⟨x1, e1⟩ := hx 1 (by decide)
    obtain ⟨x2, e2⟩ := hx 2 (by decide)
    obtain ⟨x3, e3⟩ := hx 3 (by decide)
    obtain ⟨u0, q0, _⟩ := DataW.trod_int Tryz.underlying3 ((hf 0 _ rfl).trans e0)
    obtain ⟨u1, q1, _⟩ := DataW.trod_int Tryz.underlying3 ((hf 1 _ rfl).trans e1)
    obtain ⟨u2, q2, _⟩ := DataW.trod_int Tryz.underlying3 ((hf 2 _ rfl).trans e2)
    obtain ⟨u3, q3, _⟩ := DataW.trod_int Tryz.underlying3 ((hf 3 _ rfl).trans e3)
    simp [cl_int] at q0 q1 q2 q3
    exact ⟨u0, u1, u2, u3, by rw [q0, q1, q2, q3]⟩
set_option maxRecDepth 100000 in
theorem rights_came (h : DataW.trod enc Tryz.prog w base spare held fuel 56 cs = some y) : ∃ a b c : Int, cs = [.int .u64 a, .int .u64 b, .int .u64 c] := by
  obtain ⟨xs, n, _, _, hl, hlen, hf⟩ := DataW.trod_struct Tryz.underlying56 h
  have hl' : cs.length = 3 := hl.trans cl_rights
  match cs, hl' with
  | [c0, c1, c2], _ =>
    have hx : ∀ i, i < 3 → ∃ x, xs[i]? = some x := fun i hi => ⟨_, List.getElem?_eq_getElem (by rw [hlen]; exact hi)⟩
    obtain ⟨x0, e0⟩ := hx 0 (by decide)
    obtain ⟨x1, e1⟩ := hx 1 (by decide)
    obtain ⟨x2, e2⟩ := hx 2 (by decide)
    obtain ⟨u0, q0, g0⟩ := DataW.trod_int Tryz.underlying54 ((hf 0 _ rfl).trans e0)
    obtain ⟨u1, q1, g1⟩ := DataW.trod_int Tryz.underlying54 ((hf 1 _ rfl).trans e1)
    obtain ⟨u2, q2, g2⟩ := DataW.trod_int Tryz.underlying54 ((hf 2 _ rfl).trans e2)
    simp [cl_u64] at q0 q1 q2
    exact ⟨u0, u1, u2, by rw [q0, q1, q2]⟩
set_option maxRecDepth 100000 in
theorem op_came (h : DataW.trod enc Tryz.prog w base spare held fuel 58 cs = some y) : ∃ r : OP, cs = cellsOP r := by
  obtain ⟨xs, n, _, _, hl, hlen, hf⟩ := DataW.trod_struct Tryz.underlying58 h
  have hl' : cs.length = 13 := hl.trans (by kernel_rfl)
  match cs, hl' with
  | [c0, c1, c2, c3, c4, c5, c6, c7, c8, c9, c10, c11, c12], _ =>
    have hx : ∀ i, i < 8 → ∃ x, xs[i]? = some x := fun i hi => ⟨_, List.getElem?_eq_getElem (by rw [hlen]; exact hi)⟩
    obtain ⟨x0, e0⟩ := hx 0 (by decide)
    obtain ⟨x1, e1⟩ := hx 1 (by decide)
    obtain ⟨x2, e2⟩ := hx 2 (by decide)
    obtain ⟨x3, e3⟩ := hx 3 (by decide)
    obtain ⟨x4, e4⟩ := hx 4 (by decide)
    obtain ⟨x5, e5⟩ := hx 5 (by decide)
    obtain ⟨x6, e6⟩ := hx 6 (by decide)
    obtain ⟨x7, e7⟩ := hx 7 (by decide)
    obtain ⟨u0, q0, g0⟩ := DataW.trod_int Tryz.underlying5 ((hf 0 _ rfl).trans e0)
    obtain ⟨u1, q1, g1⟩ := DataW.trod_int Tryz.underlying3 ((hf 1 _ rfl).trans e1)
    obtain ⟨a2, b2, d2, f2, q2⟩ := rect_came ((hf 2 _ rfl).trans e2)
    obtain ⟨u3, q3, _, g3⟩ := DataW.trod_string Tryz.underlying9 ((hf 3 _ rfl).trans e3)
    obtain ⟨p4, v4, z4, q4⟩ := rights_came ((hf 4 _ rfl).trans e4)
    obtain ⟨u5, q5, g5⟩ := DataW.trod_int Tryz.underlying5 ((hf 5 _ rfl).trans e5)
    obtain ⟨u6, q6, g6⟩ := DataW.trod_int Tryz.underlying54 ((hf 6 _ rfl).trans e6)
    obtain ⟨u7, q7, g7⟩ := DataW.trod_int Tryz.underlying3 ((hf 7 _ rfl).trans e7)
    simp [cl_rect, cl_u8, cl_u64, cl_int, cl_str, cl_rights] at q0 q1 q2 q3 q4 q5 q6 q7
    obtain ⟨m0, rfl⟩ := u8_nat g0.2
    obtain ⟨m5, rfl⟩ := u8_nat g5.2
    obtain ⟨r20, r21, r22, r23⟩ := q2
    obtain ⟨r40, r41, r42⟩ := q4
    exact ⟨⟨m0, u1, a2, b2, d2, f2, u3, p4, v4, z4, m5, u6, u7⟩, by rw [q0, q1, r20, r21, r22, r23, q3, r40, r41, r42, q5, q6, q7]; rfl⟩
end
end Go.Proofs.YtbblephlijbehaaGreatDoor.Re
