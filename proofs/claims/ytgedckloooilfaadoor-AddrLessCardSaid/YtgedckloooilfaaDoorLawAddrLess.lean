/- AddrLess: Less returns what the specification returns. -/
import Derived.Test.YtgedckloooilfaaDoorAddrC
import Derived.Test.YtgedckloooilfaaDoorAddrRefL
import Derived.Deep.RegionHeld3
import Derived.Deep.RegionWith
namespace Go.Proofs.YtgedckloooilfaaDoor
open Go.RowKit AM
theorem two_keep {w W w' : World} {a b c d : Int} (h : w.heap.size + 1 < W.heap.size ∧ Below w.heap.size w W ∧ W.cell? ⟨w.heap.size, 0, none⟩ = some (.int .i64 a) ∧ W.cell? ⟨w.heap.size, 1, none⟩ = some (.int .i64 b) ∧
    W.cell? ⟨w.heap.size + 1, 0, none⟩ = some (.int .i64 c) ∧ W.cell? ⟨w.heap.size + 1, 1, none⟩ = some (.int .i64 d)) (hB : Below W.heap.size W w') :
    w.heap.size + 1 < w'.heap.size ∧ Below w.heap.size w w' ∧ w'.cell? ⟨w.heap.size, 0, none⟩ = some (.int .i64 a) ∧ w'.cell? ⟨w.heap.size, 1, none⟩ = some (.int .i64 b) ∧
      w'.cell? ⟨w.heap.size + 1, 0, none⟩ = some (.int .i64 c) ∧ w'.cell? ⟨w.heap.size + 1, 1, none⟩ = some (.int .i64 d) := by
  obtain ⟨h0, h1, h2, h3, h4, h5⟩ := h
  obtain ⟨hc, _⟩ := bcell hB
  have hz := hB.size
  refine ⟨by omega, h1.trans (hB.mono (by omega)), ?_, ?_, ?_, ?_⟩
  · rw [hc _ _ (by omega)]; exact h2
  · rw [hc _ _ (by omega)]; exact h3
  · rw [hc _ _ (by omega)]; exact h4
  · rw [hc _ _ (by omega)]; exact h5
set_option maxRecDepth 100000 in
set_option maxHeartbeats 1600000 in
theorem addrLess_any (a b c d : Int) (w : World) :
    Calls Tryd.prog 8 #[.agg #[.int .i64 a, .int .i64 b], .agg #[.int .i64 c, .int .i64 d]] w fun e w' => e = .returned (.bool true) ∧ Below w.heap.size w w' := by
  go_enter Tryd.func8, Tryd.ntmps8
  go_wp2_with fail
  generalize lessB a b c d = x at *
  go_region_held3 (fun x => w.heap.size + 1 < x.heap.size ∧ Below w.heap.size w x ∧ x.cell? ⟨w.heap.size, 0, none⟩ = some (.int .i64 a) ∧ x.cell? ⟨w.heap.size, 1, none⟩ = some (.int .i64 b) ∧
      x.cell? ⟨w.heap.size + 1, 0, none⟩ = some (.int .i64 c) ∧ x.cell? ⟨w.heap.size + 1, 1, none⟩ = some (.int .i64 d))
    (first
      | assumption
      | (refine ⟨by simp, (((Below.refl _ _).alloc (Nat.le_refl _) _).alloc (by simp) _).drew, by simp, by simp, by simp, by simp⟩))
    (first
      | (go_at_call 48; refine (alless_any _ _ _ _ _).mono ?_; rintro e w' ⟨rfl, hB⟩; have hS' := two_keep (by assumption) hB)
      | (go_at_call 49; refine (rlless_any _ _ _ _ _).mono ?_; rintro e w' ⟨rfl, hB⟩; have hS' := two_keep (by assumption) hB)
      | (go_at_call 33; refine (knownA_any _).mono ?_; rintro e w' ⟨rfl, hB⟩; have hS' := two_keep (by assumption) hB))
  go_split_ands
  go_wp2_with fail
  go_ret
  exact ⟨rfl, by assumption⟩
end Go.Proofs.YtgedckloooilfaaDoor
