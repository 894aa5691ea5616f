/- Operations: those that mutate; both sides. -/
import Derived.Test.YtndijajaddkbhaaAclD
namespace Go.Proofs.Ytndijajaddkbhaa.Re
open Go.RowKit AM
structure OP where
  kd : BitVec 8
  us : Int
  c1 : Int
  r1 : Int
  c2 : Int
  r2 : Int
  inp : ByteArray
  rd : W64
  wr : W64
  ow : W64
  fns : BitVec 8
  tos : W64
  idx : Int
def cellsOP (r : OP) : List Value := [.int .u8 (r.kd.toNat : Int), .int .i64 r.us, .int .i64 r.c1, .int .i64 r.r1, .int .i64 r.c2, .int .i64 r.r2, .string r.inp, .int .u64 (r.rd.toNat : Int), .int .u64 (r.wr.toNat : Int), .int .u64 (r.ow.toNat : Int), .int .u8 (r.fns.toNat : Int), .int .u64 (r.tos.toNat : Int), .int .i64 r.idx]
theorem cellsOP_len (r : OP) : (cellsOP r).length = 13 := rfl
theorem cellsOP_one (r : OP) : ∀ u ∈ cellsOP r, u.oneCell' = true := by
  intro u hu; simp [cellsOP] at hu; rcases hu with rfl | rfl | rfl | rfl | rfl | rfl | rfl | rfl | rfl | rfl | rfl | rfl | rfl <;> rfl
def AtOP (w : World) (b off : Nat) (r : OP) : Prop :=
  w.cell? ⟨b, off, none⟩ = some (.int .u8 (r.kd.toNat : Int)) ∧ w.cell? ⟨b, off + 1, none⟩ = some (.int .i64 r.us) ∧ w.cell? ⟨b, off + 2, none⟩ = some (.int .i64 r.c1) ∧ w.cell? ⟨b, off + 3, none⟩ = some (.int .i64 r.r1) ∧ w.cell? ⟨b, off + 4, none⟩ = some (.int .i64 r.c2) ∧ w.cell? ⟨b, off + 5, none⟩ = some (.int .i64 r.r2) ∧ w.cell? ⟨b, off + 6, none⟩ = some (.string r.inp) ∧ w.cell? ⟨b, off + 7, none⟩ = some (.int .u64 (r.rd.toNat : Int)) ∧ w.cell? ⟨b, off + 8, none⟩ = some (.int .u64 (r.wr.toNat : Int)) ∧ w.cell? ⟨b, off + 9, none⟩ = some (.int .u64 (r.ow.toNat : Int)) ∧ w.cell? ⟨b, off + 10, none⟩ = some (.int .u8 (r.fns.toNat : Int)) ∧ w.cell? ⟨b, off + 11, none⟩ = some (.int .u64 (r.tos.toNat : Int)) ∧ w.cell? ⟨b, off + 12, none⟩ = some (.int .i64 r.idx)
/-- One in a block of its own. -/
def BoxOP (w : World) (p : Nat) (r : OP) : Prop := p < w.heap.size ∧ AtOP w p 0 r
theorem BoxOP.later {w w' : World} {p : Nat} {r : OP} (h : BoxOP w p r) (hB : Below w.heap.size w w') : BoxOP w' p r := by
  obtain ⟨h0, h1, h2, h3, h4, h5, h6, h7, h8, h9, h10, h11, h12, h13⟩ := h
  have hc := (bcell hB).1
  exact ⟨Nat.lt_of_lt_of_le h0 hB.size, by rw [hc _ _ h0]; exact h1, by rw [hc _ _ h0]; exact h2, by rw [hc _ _ h0]; exact h3, by rw [hc _ _ h0]; exact h4, by rw [hc _ _ h0]; exact h5, by rw [hc _ _ h0]; exact h6, by rw [hc _ _ h0]; exact h7, by rw [hc _ _ h0]; exact h8, by rw [hc _ _ h0]; exact h9, by rw [hc _ _ h0]; exact h10, by rw [hc _ _ h0]; exact h11, by rw [hc _ _ h0]; exact h12, by rw [hc _ _ h0]; exact h13⟩
theorem BoxOP.start (w : World) (r : OP) (t : TypeId) : BoxOP (w.alloc (.cells (cellsOP r).toArray t)) w.heap.size r := by
  refine ⟨by simp, ?_, ?_, ?_, ?_, ?_, ?_, ?_, ?_, ?_, ?_, ?_, ?_, ?_⟩ <;> simp [cellsOP]

def mutB (k : Nat) : Bool := decide (k = 3 ∨ k = 4 ∨ k = 7 ∨ k = 8 ∨ k = 9)
set_option maxHeartbeats 1600000 in
theorem pmut_any (g : OP) (w : World) : Calls Try.prog 101 #[.agg (cellsOP g).toArray] w fun e w' => e = .returned (.bool (mutB g.kd.toNat)) ∧ Below w.heap.size w w' := by
  have HB := Lib.hid (below_alloc w (.cells (cellsOP g).toArray 91))
  obtain ⟨x1, x2, x3, x4, x5, x6, x7, x8, x9, x10, x11, x12, x13⟩ := g
  unfold cellsOP at *
  dsimp only at *
  have hlt : x1.toNat < 256 := x1.isLt
  generalize x1.toNat = f at *
  rcases (show f = 3 ∨ f = 4 ∨ f = 7 ∨ f = 8 ∨ f = 9 ∨ (¬ f = 3 ∧ ¬ f = 4 ∧ ¬ f = 7 ∧ ¬ f = 8 ∧ ¬ f = 9) by omega) with rfl | rfl | rfl | rfl | rfl | ⟨q1, q2, q3, q4, q5⟩
  rotate_right
  · have HM : Hid (mutB f = false) := decide_eq_false (by omega)
    have b1 : ((f : Int) == 3) = false := by simp; omega
    have b2 : ((f : Int) == 4) = false := by simp; omega
    have b3 : ((f : Int) == 7) = false := by simp; omega
    have b4 : ((f : Int) == 8) = false := by simp; omega
    have b5 : ((f : Int) == 9) = false := by simp; omega
    go_enter Try.func101, Try.ntmps101
    go_wp2_with fail
    go_ret
    exact ⟨retB HM.out.symm, HB.out⟩
  all_goals
    go_enter Try.func101, Try.ntmps101
    go_wp2_with fail
    go_ret
    exact ⟨rfl, HB.out⟩
set_option maxHeartbeats 1600000 in
theorem smut_any (g : OP) (w : World) : Calls Try.prog 53 #[.agg (cellsOP g).toArray] w fun e w' => e = .returned (.bool (mutB g.kd.toNat)) ∧ Below w.heap.size w w' := by
  have HB := Lib.hid (below_alloc w (.cells (cellsOP g).toArray 91))
  obtain ⟨x1, x2, x3, x4, x5, x6, x7, x8, x9, x10, x11, x12, x13⟩ := g
  unfold cellsOP at *
  dsimp only at *
  have hlt : x1.toNat < 256 := x1.isLt
  generalize x1.toNat = f at *
  rcases (show f = 3 ∨ f = 4 ∨ f = 7 ∨ f = 8 ∨ f = 9 ∨ (¬ f = 3 ∧ ¬ f = 4 ∧ ¬ f = 7 ∧ ¬ f = 8 ∧ ¬ f = 9) by omega) with rfl | rfl | rfl | rfl | rfl | ⟨q1, q2, q3, q4, q5⟩
  rotate_right
  · have HM : Hid (mutB f = false) := decide_eq_false (by omega)
    have b1 : ((f : Int) == 3) = false := by simp; omega
    have b2 : ((f : Int) == 4) = false := by simp; omega
    have b3 : ((f : Int) == 7) = false := by simp; omega
    have b4 : ((f : Int) == 8) = false := by simp; omega
    have b5 : ((f : Int) == 9) = false := by simp; omega
    go_enter Try.func53, Try.ntmps53
    go_wp2_with fail
    go_ret
    exact ⟨retB HM.out.symm, HB.out⟩
  all_goals
    go_enter Try.func53, Try.ntmps53
    go_wp2_with fail
    go_ret
    exact ⟨rfl, HB.out⟩
end Go.Proofs.Ytndijajaddkbhaa.Re
