/- Operations that came in: their fields, with bounds. -/
import Derived.Test.YtelanmknimapoaaGreatDoorBitA
import Derived.Test.YtelanmknimapoaaGreatDoorRows
import Derived.Below
import Derived.ChangeArms
import Derived.DataShut
import Derived.KernelRfl
namespace Go.Proofs.YtelanmknimapoaaGreatDoor.Re
open Go.RowKit
set_option linter.unusedSimpArgs false
set_option linter.unusedVariables false
def Ii (n : Int) : Prop := -9223372036854775808 ≤ n ∧ n ≤ 9223372036854775807
structure OV where
 kd : Nat
 us : Int
 c1 : Int
 r1 : Int
 c2 : Int
 r2 : Int
 inp : ByteArray
 rd : W64
 wr : W64
 ow : W64
 fns : Nat
 tos : W64
 idx : Int
structure OkV (g : OV) : Prop where
 kd : g.kd < 256
 us : Ii g.us
 c1 : Ii g.c1
 r1 : Ii g.r1
 c2 : Ii g.c2
 r2 : Ii g.r2
 fns : g.fns < 256
 idx : Ii g.idx
def cellsOV (r : OV) : List Value := [.int .u8 (r.kd : Int), .int .i64 r.us, .int .i64 r.c1, .int .i64 r.r1, .int .i64 r.c2, .int .i64 r.r2, .string r.inp, .int .u64 (r.rd.toNat : Int), .int .u64 (r.wr.toNat : Int), .int .u64 (r.ow.toNat : Int), .int .u8 (r.fns : Int), .int .u64 (r.tos.toNat : Int), .int .i64 r.idx]
abbrev OP := { g : OV // OkV g }
def cellsOP (r : OP) : List Value := cellsOV r.1
section
variable {H : Type} {enc : TypeId × Value → H} {w : World} {base : Nat} {spare : Nat → Bool} {held : Bool} {fuel : Nat} {cs : List Value} {y : DataW H × List MemPlace}
theorem ybj : Tryz.prog.cellsOf 3 = 1 := by kernel_rfl
theorem ybi : Tryz.prog.cellsOf 24 = 1 := by kernel_rfl
theorem yh3 : Tryz.prog.cellsOf 5 = 1 := by kernel_rfl
theorem yg9 : Tryz.prog.cellsOf 9 = 1 := by kernel_rfl
theorem zwy : Tryz.prog.cellsOf 23 = 4 := by kernel_rfl
theorem zog : Tryz.prog.cellsOf 26 = 3 := by kernel_rfl
theorem u8_nat {n : Int} (h : (Lit.int .u8 n).wf = true) : ∃ x : Nat, n = (x : Int) ∧ x < 256 := by
 rw [Lit.wf_int_iff] at h
 simp [IntKind.min, IntKind.max, IntKind.signed, IntKind.bits] at h
 obtain ⟨x, rfl⟩ := Int.eq_ofNat_of_zero_le h.1
 exact ⟨x, rfl, by omega⟩
theorem zlc {n : Int} (h : (Lit.int .i64 n).wf = true) : Ii n := by
 rw [Lit.wf_int_iff] at h
 simp [IntKind.min, IntKind.max, IntKind.signed, IntKind.bits] at h
 exact h
theorem zh0 {n : Int} (h : (Lit.int .u64 n).wf = true) : ∃ x : W64, n = (x.toNat : Int) := by
 rw [Lit.wf_int_iff] at h
 simp [IntKind.min, IntKind.max, IntKind.signed, IntKind.bits] at h
 refine ⟨BitVec.ofInt 64 n, ?_⟩
 rw [BitVec.toNat_ofInt]
 omega
set_option maxRecDepth 100000 in
theorem zu0 (h : DataW.trod enc Tryz.prog w base spare held fuel 23 cs = some y) : ∃ a b c d : Int, cs = [.int .i64 a, .int .i64 b, .int .i64 c, .int .i64 d] ∧ Ii a ∧ Ii b ∧ Ii c ∧ Ii d := by
 obtain ⟨xs, n, _, _, hl, hlen, hf⟩ := DataW.trod_struct Tryz.underlying23 h
 have hl' : cs.length = 4 := hl.trans zwy
 match cs, hl' with
 | [c0, c1, c2, c3], _ =>
  have hx : ∀ i, i < 4 → ∃ x, xs[i]? = some x := fun i hi => ⟨_, List.getElem?_eq_getElem (by rw [hlen]; exact hi)⟩
  obtain ⟨x0, e0⟩ := hx 0 (by decide)
  obtain ⟨x1, e1⟩ := hx 1 (by decide)
  obtain ⟨x2, e2⟩ := hx 2 (by decide)
  obtain ⟨x3, e3⟩ := hx 3 (by decide)
  obtain ⟨u0, q0, g0⟩ := DataW.trod_int Tryz.underlying3 ((hf 0 _ rfl).trans e0)
  obtain ⟨u1, q1, g1⟩ := DataW.trod_int Tryz.underlying3 ((hf 1 _ rfl).trans e1)
  obtain ⟨u2, q2, g2⟩ := DataW.trod_int Tryz.underlying3 ((hf 2 _ rfl).trans e2)
  obtain ⟨u3, q3, g3⟩ := DataW.trod_int Tryz.underlying3 ((hf 3 _ rfl).trans e3)
  simp [ybj] at q0 q1 q2 q3
  exact ⟨u0, u1, u2, u3, by rw [q0, q1, q2, q3], zlc g0.2, zlc g1.2, zlc g2.2, zlc g3.2⟩
set_option maxRecDepth 100000 in
theorem zo8 (h : DataW.trod enc Tryz.prog w base spare held fuel 26 cs = some y) : ∃ a b c : W64, cs = [.int .u64 (a.toNat : Int), .int .u64 (b.toNat : Int), .int .u64 (c.toNat : Int)] := by
 obtain ⟨xs, n, _, _, hl, hlen, hf⟩ := DataW.trod_struct Tryz.underlying26 h
 have hl' : cs.length = 3 := hl.trans zog
 match cs, hl' with
 | [c0, c1, c2], _ =>
  have hx : ∀ i, i < 3 → ∃ x, xs[i]? = some x := fun i hi => ⟨_, List.getElem?_eq_getElem (by rw [hlen]; exact hi)⟩
  obtain ⟨x0, e0⟩ := hx 0 (by decide)
  obtain ⟨x1, e1⟩ := hx 1 (by decide)
  obtain ⟨x2, e2⟩ := hx 2 (by decide)
  obtain ⟨u0, q0, g0⟩ := DataW.trod_int Tryz.underlying24 ((hf 0 _ rfl).trans e0)
  obtain ⟨u1, q1, g1⟩ := DataW.trod_int Tryz.underlying24 ((hf 1 _ rfl).trans e1)
  obtain ⟨u2, q2, g2⟩ := DataW.trod_int Tryz.underlying24 ((hf 2 _ rfl).trans e2)
  simp [ybi] at q0 q1 q2
  obtain ⟨w0, rfl⟩ := zh0 g0.2
  obtain ⟨w1, rfl⟩ := zh0 g1.2
  obtain ⟨w2, rfl⟩ := zh0 g2.2
  exact ⟨w0, w1, w2, by rw [q0, q1, q2]⟩
set_option maxRecDepth 100000 in
theorem op_came (h : DataW.trod enc Tryz.prog w base spare held fuel 28 cs = some y) : ∃ r : OP, cs = cellsOP r := by
 obtain ⟨xs, n, _, _, hl, hlen, hf⟩ := DataW.trod_struct Tryz.underlying28 h
 have hl' : cs.length = 13 := hl.trans (by kernel_rfl)
 match cs, hl' with
 | [c0, c1, c2, c3, c4, c5, c6, c7, c8, c9, c10, c11, c12], _ =>
  have hx : ∀ i, i < 8 → ∃ x, xs[i]? = some x := fun i hi => ⟨_, List.getElem?_eq_getElem (by rw [hlen]; exact hi)⟩
  obtain ⟨x0, e0⟩ := hx 0 (by decide)
  obtain ⟨x1, e1⟩ := hx 1 (by decide)
  obtain ⟨x2, e2⟩ := hx 2 (by decide)
  obtain ⟨x3, e3⟩ := hx 3 (by decide)
  obtain ⟨x4, e4⟩ := hx 4 (by decide)
  obtain ⟨x5, e5⟩ := hx 5 (by decide)
  obtain ⟨x6, e6⟩ := hx 6 (by decide)
  obtain ⟨x7, e7⟩ := hx 7 (by decide)
  obtain ⟨u0, q0, g0⟩ := DataW.trod_int Tryz.underlying5 ((hf 0 _ rfl).trans e0)
  obtain ⟨u1, q1, g1⟩ := DataW.trod_int Tryz.underlying3 ((hf 1 _ rfl).trans e1)
  obtain ⟨a2, b2, d2, f2, q2, ha2, hb2, hd2, hf2⟩ := zu0 ((hf 2 _ rfl).trans e2)
  obtain ⟨u3, q3, _, g3⟩ := DataW.trod_string Tryz.underlying9 ((hf 3 _ rfl).trans e3)
  obtain ⟨p4, v4, z4, q4⟩ := zo8 ((hf 4 _ rfl).trans e4)
  obtain ⟨u5, q5, g5⟩ := DataW.trod_int Tryz.underlying5 ((hf 5 _ rfl).trans e5)
  obtain ⟨u6, q6, g6⟩ := DataW.trod_int Tryz.underlying24 ((hf 6 _ rfl).trans e6)
  obtain ⟨u7, q7, g7⟩ := DataW.trod_int Tryz.underlying3 ((hf 7 _ rfl).trans e7)
  simp [zwy, yh3, ybi, ybj, yg9, zog] at q0 q1 q2 q3 q4 q5 q6 q7
  obtain ⟨m0, rfl, b0⟩ := u8_nat g0.2
  obtain ⟨m5, rfl, b5⟩ := u8_nat g5.2
  obtain ⟨m6, rfl⟩ := zh0 g6.2
  obtain ⟨r20, r21, r22, r23⟩ := q2
  obtain ⟨r40, r41, r42⟩ := q4
  exact ⟨⟨⟨m0, u1, a2, b2, d2, f2, u3, p4, v4, z4, m5, m6, u7⟩, ⟨b0, zlc g1.2, ha2, hb2, hd2, hf2, b5, zlc g7.2⟩⟩, by rw [q0, q1, r20, r21, r22, r23, q3, r40, r41, r42, q5, q6, q7]; rfl⟩
end
end Go.Proofs.YtelanmknimapoaaGreatDoor.Re
