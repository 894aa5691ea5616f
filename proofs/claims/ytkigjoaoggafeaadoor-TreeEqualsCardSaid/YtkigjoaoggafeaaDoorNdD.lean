/- Nodes that came in. -/
import Derived.Test.YtkigjoaoggafeaaDoorNdA
import Derived.ChangeArms
import Derived.DataShut
namespace Go.Proofs.YtkigjoaoggafeaaDoor.Nd
open Go Go.RowKit
set_option linter.unusedSimpArgs false
set_option linter.unusedVariables false
def InR (z : Int) : Prop := -9223372036854775808 ≤ z ∧ z ≤ 9223372036854775807
structure OkN (r : ND) : Prop where
  kd : r.kd < 256
  vk : r.vk < 256
  vn : InR r.vn
  vt : r.vt.size ≤ maxLen
  c1 : InR r.c1
  r1 : InR r.r1
  c2 : InR r.c2
  r2 : InR r.r2
  op : InR r.op
  fn : r.fn < 256
  n : InR r.n
/-- A node whose fields are of their types. -/
abbrev NDV := { r : ND // OkN r }
def cellsNV (r : NDV) : List Value := cellsND r.1
theorem cellsNV_len (r : NDV) : (cellsNV r).length = 11 := rfl
section
variable {H : Type} {enc : TypeId × Value → H} {w : World} {base : Nat} {spare : Nat → Bool} {held : Bool} {fuel : Nat} {cs : List Value} {y : DataW H × List MemPlace}
theorem cl_int : Tryd.prog.cellsOf 3 = 1 := by kernel_rfl
theorem cl_i64 : Tryd.prog.cellsOf 2 = 1 := by kernel_rfl
theorem cl_u8 : Tryd.prog.cellsOf 5 = 1 := by kernel_rfl
theorem cl_str : Tryd.prog.cellsOf 9 = 1 := by kernel_rfl
theorem cl_rect : Tryd.prog.cellsOf 38 = 4 := by kernel_rfl
theorem cl_val : Tryd.prog.cellsOf 36 = 3 := by kernel_rfl
theorem i64_in {n : Int} (h : (Lit.int .i64 n).wf = true) : InR n := by
  rw [Lit.wf_int_iff] at h
  simp [IntKind.min, IntKind.max, IntKind.signed, IntKind.bits] at h
  exact ⟨by omega, by omega⟩
theorem u8_in {n : Int} (h : (Lit.int .u8 n).wf = true) : ∃ x : Nat, n = (x : Int) ∧ x < 256 := by
  rw [Lit.wf_int_iff] at h
  simp [IntKind.min, IntKind.max, IntKind.signed, IntKind.bits] at h
  obtain ⟨x, hx⟩ := Int.eq_ofNat_of_zero_le h.1
  exact ⟨x, hx, by omega⟩
set_option maxRecDepth 100000 in
theorem rectN_came (h : DataW.trod enc Tryd.prog w base spare held fuel 38 cs = some y) : ∃ a b c d : Int, cs = [.int .i64 a, .int .i64 b, .int .i64 c, .int .i64 d] ∧ InR a ∧ InR b ∧ InR c ∧ InR d := by
  obtain ⟨xs, n, _, _, hl, hlen, hf⟩ := DataW.trod_struct Tryd.underlying38 h
  have hl' : cs.length = 4 := hl.trans cl_rect
  match cs, hl' with
  | [c0, c1, c2, c3], _ =>
    have hx : ∀ i, i < 4 → ∃ x, xs[i]? = some x := fun i hi => ⟨_, List.getElem?_eq_getElem (by rw [hlen]; exact hi)⟩
    obtain ⟨x0, e0⟩ := hx 0 (by decide)
    obtain ⟨x1, e1⟩ := hx 1 (by decide)
    obtain ⟨x2, e2⟩ := hx 2 (by decide)
    obtain ⟨x3, e3⟩ := hx 3 (by decide)
    obtain ⟨u0, q0, g0⟩ := DataW.trod_int Tryd.underlying3 ((hf 0 _ rfl).trans e0)
    obtain ⟨u1, q1, g1⟩ := DataW.trod_int Tryd.underlying3 ((hf 1 _ rfl).trans e1)
    obtain ⟨u2, q2, g2⟩ := DataW.trod_int Tryd.underlying3 ((hf 2 _ rfl).trans e2)
    obtain ⟨u3, q3, g3⟩ := DataW.trod_int Tryd.underlying3 ((hf 3 _ rfl).trans e3)
    simp [cl_int] at q0 q1 q2 q3
    exact ⟨u0, u1, u2, u3, by rw [q0, q1, q2, q3], i64_in g0.2, i64_in g1.2, i64_in g2.2, i64_in g3.2⟩
set_option maxRecDepth 100000 in
theorem valN_came (h : DataW.trod enc Tryd.prog w base spare held fuel 36 cs = some y) : ∃ (a : Nat) (b : Int) (s : ByteArray), cs = [.int .u8 (a : Int), .int .i64 b, .string s] ∧ a < 256 ∧ InR b ∧ s.size ≤ maxLen := by
  obtain ⟨xs, n, _, _, hl, hlen, hf⟩ := DataW.trod_struct Tryd.underlying36 h
  have hl' : cs.length = 3 := hl.trans cl_val
  match cs, hl' with
  | [c0, c1, c2], _ =>
    have hx : ∀ i, i < 3 → ∃ x, xs[i]? = some x := fun i hi => ⟨_, List.getElem?_eq_getElem (by rw [hlen]; exact hi)⟩
    obtain ⟨x0, e0⟩ := hx 0 (by decide)
    obtain ⟨x1, e1⟩ := hx 1 (by decide)
    obtain ⟨x2, e2⟩ := hx 2 (by decide)
    obtain ⟨u0, q0, g0⟩ := DataW.trod_int Tryd.underlying5 ((hf 0 _ rfl).trans e0)
    obtain ⟨u1, q1, g1⟩ := DataW.trod_int Tryd.underlying2 ((hf 1 _ rfl).trans e1)
    obtain ⟨s, q2, _, g2⟩ := DataW.trod_string Tryd.underlying9 ((hf 2 _ rfl).trans e2)
    simp [cl_u8, cl_i64, cl_str] at q0 q1 q2
    obtain ⟨m0, rfl, h0⟩ := u8_in g0.2
    exact ⟨m0, u1, s, by rw [q0, q1, q2], h0, i64_in g1.2, g2⟩
set_option maxRecDepth 100000 in
theorem node_came (h : DataW.trod enc Tryd.prog w base spare held fuel 40 cs = some y) : ∃ r : NDV, cs = cellsNV r := by
  obtain ⟨xs, n, _, _, hl, hlen, hf⟩ := DataW.trod_struct Tryd.underlying40 h
  have hl' : cs.length = 11 := hl.trans (by kernel_rfl)
  match cs, hl' with
  | [c0, c1, c2, c3, c4, c5, c6, c7, c8, c9, c10], _ =>
    have hx : ∀ i, i < 6 → ∃ x, xs[i]? = some x := fun i hi => ⟨_, List.getElem?_eq_getElem (by rw [hlen]; exact hi)⟩
    obtain ⟨x0, e0⟩ := hx 0 (by decide)
    obtain ⟨x1, e1⟩ := hx 1 (by decide)
    obtain ⟨x2, e2⟩ := hx 2 (by decide)
    obtain ⟨x3, e3⟩ := hx 3 (by decide)
    obtain ⟨x4, e4⟩ := hx 4 (by decide)
    obtain ⟨x5, e5⟩ := hx 5 (by decide)
    obtain ⟨u0, q0, g0⟩ := DataW.trod_int Tryd.underlying5 ((hf 0 _ rfl).trans e0)
    obtain ⟨v1, v2, v3, q1, hv1, hv2, hv3⟩ := valN_came ((hf 1 _ rfl).trans e1)
    obtain ⟨a2, b2, d2, f2, q2, h21, h22, h23, h24⟩ := rectN_came ((hf 2 _ rfl).trans e2)
    obtain ⟨u3, q3, g3⟩ := DataW.trod_int Tryd.underlying2 ((hf 3 _ rfl).trans e3)
    obtain ⟨u4, q4, g4⟩ := DataW.trod_int Tryd.underlying5 ((hf 4 _ rfl).trans e4)
    obtain ⟨u5, q5, g5⟩ := DataW.trod_int Tryd.underlying3 ((hf 5 _ rfl).trans e5)
    simp [cl_rect, cl_u8, cl_i64, cl_int, cl_str, cl_val] at q0 q1 q2 q3 q4 q5
    obtain ⟨m0, rfl, h0⟩ := u8_in g0.2
    obtain ⟨m4, rfl, h4⟩ := u8_in g4.2
    obtain ⟨r10, r11, r12⟩ := q1
    obtain ⟨r20, r21, r22, r23⟩ := q2
    refine ⟨⟨⟨m0, v1, v2, v3, a2, b2, d2, f2, u3, m4, u5⟩, ⟨h0, hv1, hv2, hv3, h21, h22, h23, h24, i64_in g3.2, h4, i64_in g5.2⟩⟩, ?_⟩
    rw [q0, r10, r11, r12, r20, r21, r22, r23, q3, q4, q5]
    rfl
end
/-- The nodes alone. -/
def ndL (L : List NDV) : List ND := L.map (·.1)
theorem isN_of {w : World} {a : Option Addr} {n : Nat} {L : List NDV} (h : IsOf cellsNV 11 w a n L) : IsND w a n (ndL L) := by
  refine ⟨by unfold ndL; rw [List.length_map]; exact h.1, fun h0 => ?_⟩
  obtain ⟨b, off, ha, hr⟩ := h.2 h0
  refine ⟨b, off, ha, hr.1, fun i hi j u hu => ?_⟩
  unfold ndL at hi hu
  rw [List.length_map] at hi
  rw [List.getElem_map] at hu
  exact hr.2 i hi j u hu
theorem ndL_ok {L : List NDV} {v : ND} (h : v ∈ ndL L) : OkN v := by
  unfold ndL at h
  obtain ⟨u, _, rfl⟩ := List.mem_map.1 h
  exact u.2
end Go.Proofs.YtkigjoaoggafeaaDoor.Nd
