/- AddrOrder: Less is a strict order of all addresses. -/
import Derived.Test.YtgedckloooilfaaDoorAddrC
import Derived.Deep.RegionHeld3
import Derived.Deep.RegionWith
namespace Go.Proofs.YtgedckloooilfaaDoor
open Go.RowKit AM
theorem three_keep {w W w' : World} {a b c d p q : Int} (h : w.heap.size + 1 + 1 < W.heap.size ∧ Below w.heap.size w W ∧ W.cell? ⟨w.heap.size, 0, none⟩ = some (.int .i64 a) ∧ W.cell? ⟨w.heap.size, 1, none⟩ = some (.int .i64 b) ∧
    W.cell? ⟨w.heap.size + 1, 0, none⟩ = some (.int .i64 c) ∧ W.cell? ⟨w.heap.size + 1, 1, none⟩ = some (.int .i64 d) ∧
    W.cell? ⟨w.heap.size + 1 + 1, 0, none⟩ = some (.int .i64 p) ∧ W.cell? ⟨w.heap.size + 1 + 1, 1, none⟩ = some (.int .i64 q)) (hB : Below W.heap.size W w') :
    w.heap.size + 1 + 1 < w'.heap.size ∧ Below w.heap.size w w' ∧ w'.cell? ⟨w.heap.size, 0, none⟩ = some (.int .i64 a) ∧ w'.cell? ⟨w.heap.size, 1, none⟩ = some (.int .i64 b) ∧
      w'.cell? ⟨w.heap.size + 1, 0, none⟩ = some (.int .i64 c) ∧ w'.cell? ⟨w.heap.size + 1, 1, none⟩ = some (.int .i64 d) ∧
      w'.cell? ⟨w.heap.size + 1 + 1, 0, none⟩ = some (.int .i64 p) ∧ w'.cell? ⟨w.heap.size + 1 + 1, 1, none⟩ = some (.int .i64 q) := by
  obtain ⟨h0, h1, h2, h3, h4, h5, h6, h7⟩ := h
  obtain ⟨hc, _⟩ := bcell hB
  have hz := hB.size
  refine ⟨by omega, h1.trans (hB.mono (by omega)), ?_, ?_, ?_, ?_, ?_, ?_⟩
  · rw [hc _ _ (by omega)]; exact h2
  · rw [hc _ _ (by omega)]; exact h3
  · rw [hc _ _ (by omega)]; exact h4
  · rw [hc _ _ (by omega)]; exact h5
  · rw [hc _ _ (by omega)]; exact h6
  · rw [hc _ _ (by omega)]; exact h7
/-- The four answers fit together. -/
def OrdOK (ab ba bc ac : Bool) (e0 e1 : Bool) : Prop := (ab && ba) = false ∧ (ab || ba) = !(e0 && e1) ∧ (!ab || !bc || ac) = true
theorem beq_dec (x y : Int) : (x == y) = decide (x = y) := by by_cases h : x = y <;> simp [h]
theorem ord_ok (a0 a1 b0 b1 c0 c1 : Int) : OrdOK (lessB a0 a1 b0 b1) (lessB b0 b1 a0 a1) (lessB b0 b1 c0 c1) (lessB a0 a1 c0 c1) (a0 == b0) (a1 == b1) := by
  unfold OrdOK lessB
  rw [beq_dec, beq_dec]
  refine ⟨?_, ?_, ?_⟩
  · rw [Bool.and_eq_false_iff, decide_eq_false_iff_not, decide_eq_false_iff_not]; omega
  · rw [Bool.eq_iff_iff, Bool.or_eq_true, Bool.not_eq_true', Bool.and_eq_false_iff, decide_eq_true_eq, decide_eq_true_eq, decide_eq_false_iff_not, decide_eq_false_iff_not]; omega
  · rw [Bool.or_eq_true, Bool.or_eq_true, Bool.not_eq_true', Bool.not_eq_true', decide_eq_true_eq, decide_eq_false_iff_not, decide_eq_false_iff_not]; omega
set_option maxRecDepth 100000 in
set_option maxHeartbeats 3200000 in
theorem addrOrder_any (a0 a1 b0 b1 c0 c1 : Int) (w : World) :
    Calls Tryd.prog 12 #[.agg #[.int .i64 a0, .int .i64 a1], .agg #[.int .i64 b0, .int .i64 b1], .agg #[.int .i64 c0, .int .i64 c1]] w fun e w' => e = .returned (.bool true) ∧ Below w.heap.size w w' := by
  have hok := ord_ok a0 a1 b0 b1 c0 c1
  have HO := Lib.hid hok
  clear hok
  go_enter Tryd.func12, Tryd.ntmps12
  go_wp2_with fail
  go_region_held3 (fun x => w.heap.size + 1 + 1 < x.heap.size ∧ Below w.heap.size w x ∧ x.cell? ⟨w.heap.size, 0, none⟩ = some (.int .i64 a0) ∧ x.cell? ⟨w.heap.size, 1, none⟩ = some (.int .i64 a1) ∧
      x.cell? ⟨w.heap.size + 1, 0, none⟩ = some (.int .i64 b0) ∧ x.cell? ⟨w.heap.size + 1, 1, none⟩ = some (.int .i64 b1) ∧
      x.cell? ⟨w.heap.size + 1 + 1, 0, none⟩ = some (.int .i64 c0) ∧ x.cell? ⟨w.heap.size + 1 + 1, 1, none⟩ = some (.int .i64 c1))
    (first
      | assumption
      | (refine ⟨by simp, ((((Below.refl _ _).alloc (Nat.le_refl _) _).alloc (by simp) _).alloc (by simp; omega) _).drew, by go_simp, by go_simp, by go_simp, by go_simp, by go_simp, by go_simp⟩))
    (first
      | (go_at_call 48; refine (alless_any _ _ _ _ _).mono ?_; rintro e w' ⟨rfl, hB⟩; have hS' := three_keep (by assumption) hB))
  go_split_ands
  have hok := HO.out
  unfold OrdOK at hok
  generalize lessB a0 a1 b0 b1 = ab at *
  generalize lessB b0 b1 a0 a1 = ba at *
  generalize lessB b0 b1 c0 c1 = bc at *
  generalize lessB a0 a1 c0 c1 = ac at *
  clear HO
  cases ab <;> cases ba <;> cases bc <;> cases ac <;> cases h0 : (a0 == b0) <;> cases h1 : (a1 == b1) <;> simp [h0, h1] at hok
  all_goals clear hok
  all_goals
    go_wp2_with fail
    refine (knownA_any _).mono ?_
    rintro e w9 ⟨rfl, hB9⟩
    go_wp2_with fail
    go_ret
    exact ⟨rfl, Below.next (by assumption) hB9⟩
end Go.Proofs.YtgedckloooilfaaDoor
