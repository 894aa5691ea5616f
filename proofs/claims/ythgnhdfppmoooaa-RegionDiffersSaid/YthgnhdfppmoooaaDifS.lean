/- The specification's Readers. -/
import Derived.Test.YthgnhdfppmoooaaDifN
import Derived.Test.YthgnhdfppmoooaaMpt
namespace Go.Proofs.Ythgnhdfppmoooaa.Re
open Go.RowKit AM
set_option linter.unusedVariables false
set_option linter.unusedSimpArgs false
set_option maxRecDepth 100000 in
set_option maxHeartbeats 3200000 in
theorem readers_any (p q : Int) (a : Option Addr) (len cap : Nat) (L : List RV) (hl : len ≤ 100000) (h0 : 0 < len) (w : World) (hL : IsL w a len L) :
    Calls Try.prog 16 #[.agg #[.int .i64 p, .int .i64 q], .slice a len cap] w fun e w' => e = .returned (.int .u64 ((ruleAt L (lastI L p q L.length)).rd.toNat : Int)) ∧ Below w.heap.size w w' := by
  have HL := Lib.hid hL
  have HLL := Lib.hid hL.1
  have HB := Lib.hid (below_alloc w (.cells #[.int .i64 p, .int .i64 q] 52))
  have hjl : lastI L p q L.length < len := by rw [← hL.1]; exact lastI_lt L p q L.length (by rw [hL.1]; exact h0)
  have HJ := Lib.hid hjl
  obtain ⟨RD, hRD⟩ : ∃ RD, RD = (ruleAt L (lastI L p q L.length)).rd := ⟨_, rfl⟩
  rw [← hRD]
  have HRD := Lib.hid hRD
  clear hL hjl hRD
  go_enter Try.func16, Try.ntmps16
  go_wp2_with fail
  refine (slast_any p q a len cap L hl _ (HL.out.later HB.out)).mono ?_
  rintro e w1 ⟨rfl, hB⟩
  have HB1 := Lib.hid (Below.next HB.out hB)
  clear hB
  generalize lastI L p q L.length = j at *
  have hjl := HJ.out
  have hjL : j < L.length := by rw [HLL.out]; exact hjl
  obtain ⟨b, off, rfl, hrow⟩ := (HL.out.later HB1.out).2 h0
  have s := RowOf.seven hrow j hjL
  have hbl := hrow.1
  have HRA : Hid (ruleAt L j = L[j]) := ruleAt_get hjL
  clear hrow
  have HRE : Hid (RD = L[j].rd) := by unfold Hid; rw [HRD.out, HRA.out]
  clear HRD HRA
  generalize L[j] = R at *
  obtain ⟨x1, x2, x3, x4, x5, x6, x7⟩ := R
  obtain ⟨_, _, _, _, s5, s6, s7⟩ := s
  dsimp only at *
  go_wp2_with fail
  go_ret
  exact ⟨(by rw [HRE.out]; rfl), HB1.out⟩
end Go.Proofs.Ythgnhdfppmoooaa.Re
