/- An executor of closed runs: tables that lie in memory beforehand. -/
import Derived.Test.YtjdkfdhfodmbeaaDoorAxZi
namespace Go.Proofs.YtjdkfdhfodmbeaaDoor.Ax
open Go Go.RowKit
variable {P : Program} {G : Nat}

/-- A table: the variable's number, what kind of integers, and these. -/
abbrev Tab := Nat × IntKind × List Int
noncomputable def tabVals (x : Tab) : List Value := x.2.2.map fun z => .int x.2.1 z
noncomputable def tabsT : List Tab → T AObj
  | [] => .leaf
  | x :: l => (tabsT l).set x.1 (some (.ro (T.setList (tabVals x) .leaf 0)))
noncomputable def tabsHp (G : Nat) (l : List Tab) : Hp := ⟨tabsT l, G, [], [], G⟩
def rhoG (G : Nat) : Rho := ⟨fun n => n < G, fun n => n, fun _ => 0, fun _ => 0, fun _ => 0⟩

theorem tabsT_get : ∀ (l : List Tab) (n : Nat) (o : AObj), (tabsT l).get n = some o → ∃ x ∈ l, x.1 = n ∧ o = .ro (T.setList (tabVals x) .leaf 0)
  | [], n, o, h => by cases h
  | x :: l, n, o, h => by
    unfold tabsT at h
    rw [T.get_set] at h
    by_cases e : n = x.1
    · rw [if_pos e] at h; cases h; exact ⟨x, .head _, e.symm, rfl⟩
    · rw [if_neg e] at h
      obtain ⟨y, h1, h2⟩ := tabsT_get l n o h
      exact ⟨y, .tail _ h1, h2⟩

/-- The memory with these tables beside a world that has them. -/
theorem ctx_tabs (l : List Tab) {w : World} (hlt : ∀ x ∈ l, x.1 < G ∧ 0 < x.2.2.length) (h : ∀ x ∈ l, ∀ i, i < x.2.2.length → w.cell? ⟨x.1, i, none⟩ = some (.int x.2.1 (x.2.2.getD i 0))) :
    CtxA P G (tabsHp G l) (rhoG G) w := by
  have hv : ∀ n o, (tabsHp G l).vis n = some o → (tabsT l).get n = some o := fun n o h => (Hp.vis_some h).2
  refine ⟨⟨fun n o hn => ?_, fun n m o o' _ _ e => e, fun n o hn => ?_, Nat.le_refl _, fun g hg => ⟨hg, rfl, rfl⟩⟩, fun n hn h => absurd h (Nat.not_lt.2 hn)⟩
  · obtain ⟨x, hx, rfl, rfl⟩ := tabsT_get l n o (hv n o hn)
    obtain ⟨h1, h2⟩ := hlt x hx
    refine ⟨h1, ?_, fun i v hi => ?_⟩
    · have := h x hx 0 h2
      show x.1 < w.heap.size
      by_cases hs : x.1 < w.heap.size
      · exact hs
      · have e : w.heap[x.1]? = none := Array.getElem?_eq_none (by omega)
        simp [World.cell?, e] at this
    · rw [T.get_setList] at hi
      by_cases hin : 0 ≤ i ∧ i < 0 + (tabVals x).length
      · rw [if_pos hin] at hi
        have hlen : (tabVals x).length = x.2.2.length := by simp [tabVals]
        have hi2 : i < x.2.2.length := by omega
        have : (tabVals x)[i - 0]? = some (.int x.2.1 (x.2.2.getD i 0)) := by
          rw [Nat.sub_zero]
          simp [tabVals, hi2, List.getD]
        rw [this] at hi
        cases hi
        refine ⟨rfl, _, ?_, .int _ _⟩
        show w.cell? ⟨x.1, 0 + i, none⟩ = _
        rw [Nat.zero_add]
        exact h x hx i hi2
      · rw [if_neg hin] at hi; cases hi
  · obtain ⟨x, hx, rfl, rfl⟩ := tabsT_get l n o hn
    exact (hlt x hx).1

/-- The integers of a table as a row lists it. -/
def intsOf {H : Type} : DataW H → List Int
  | .agg l => l.map fun d => match d with | .lit (.int _ z) => z | _ => 0
  | _ => []
end Go.Proofs.YtjdkfdhfodmbeaaDoor.Ax
