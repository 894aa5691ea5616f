/- The laws' rules: one for the whole sheet, and others. -/
import Derived.Test.YtndijajaddkbhaaAclD
import Derived.Test.YtndijajaddkbhaaCame
import Derived.Deep.RegionLaw
namespace Go.Proofs.Ytndijajaddkbhaa.Re
open Go.RowKit AM
/-- Rights in a block of their own. -/
def Box3w (w : World) (p : Nat) (x y z : Int) : Prop := p < w.heap.size ∧ w.cell? ⟨p, 0, none⟩ = some (.int .u64 x) ∧ w.cell? ⟨p, 1, none⟩ = some (.int .u64 y) ∧ w.cell? ⟨p, 2, none⟩ = some (.int .u64 z)
theorem Box3w.later {w w' : World} {p : Nat} {x y z : Int} (h : Box3w w p x y z) (hB : Below w.heap.size w w') : Box3w w' p x y z := by
  obtain ⟨h0, h1, h2, h3⟩ := h
  have hc := (bcell hB).1
  exact ⟨Nat.lt_of_lt_of_le h0 hB.size, by rw [hc _ _ h0]; exact h1, by rw [hc _ _ h0]; exact h2, by rw [hc _ _ h0]; exact h3⟩
theorem Box3w.start (w : World) (x y z : Int) (t : TypeId) : Box3w (w.alloc (.cells #[.int .u64 x, .int .u64 y, .int .u64 z] t)) w.heap.size x y z := ⟨by simp, by simp, by simp, by simp⟩
set_option maxHeartbeats 1600000 in
theorem whole_any (x5 x6 x7 : W64) (a : Option Addr) (len cap : Nat) (L : List RV) (hl : (1 + len) * 56 ≤ 140737488355328) (w : World) (hL : IsL w a len L) :
    Calls Try.prog 18 #[.agg #[.int .u64 (x5.toNat : Int), .int .u64 (x6.toNat : Int), .int .u64 (x7.toNat : Int)], .slice a len cap] w fun e w' => (∃ v, e = .returned v ∧ OwnL w.heap.size w' v (⟨1, 1, 1024, 1024, x5, x6, x7⟩ :: L)) ∧ Below w.heap.size w w' := by
  have HL := Lib.hid hL
  clear hL
  have HBX := Lib.hid (Box3w.start w (x5.toNat : Int) (x6.toNat : Int) (x7.toNat : Int) 33)
  have HB0 := Lib.hid (below_alloc w (.cells #[.int .u64 (x5.toNat : Int), .int .u64 (x6.toNat : Int), .int .u64 (x7.toNat : Int)] 33))
  have HH := Lib.hid hl
  clear hl
  go_enter Try.func18, Try.ntmps18
  go_wp2_with fail
  generalize w.alloc (.cells #[.int .u64 (x5.toNat : Int), .int .u64 (x6.toNat : Int), .int .u64 (x7.toNat : Int)] 33) = w0 at *
  obtain ⟨_, t0, t1, t2⟩ := HBX.out
  go_region_law (first
    | (go_simp; refine (ssheet_any _).mono ?_; rintro e w1 ⟨rfl, hB1⟩; obtain ⟨_, t0, t1, t2⟩ := Box3w.later (w := w0.drew) HBX.out hB1; have HB1 := Lib.hid (Below.next (w1 := w0.drew) HB0.out.drew hB1); clear hB1)
    | (refine step_appOf rfl (.tmp 8) (.tmp 9) 22 rfl Try.underlying22 _ 56 infoRule zero7 (by decide) (by decide) cells7_len cells7_one w.heap.size _ [⟨1, 1, 1024, 1024, x5, x6, x7⟩] rfl (OwnOf.one cells7_len _ HB1.out.size _) a len cap L rfl ((HL.out.later HB1.out).later (below_alloc _ _)) HH.out (by have := HB1.out.size; simp; omega) ?_; intro v' w2 ho hb2))
  all_goals
    have HO := Lib.hid ho
    have HB2 := Lib.hid ((HB1.out.alloc HB1.out.size _).trans hb2)
    clear ho hb2
    go_wp2_with fail
    go_ret
    exact ⟨⟨_, rfl, HO.out⟩, HB2.out⟩
end Go.Proofs.Ytndijajaddkbhaa.Re
