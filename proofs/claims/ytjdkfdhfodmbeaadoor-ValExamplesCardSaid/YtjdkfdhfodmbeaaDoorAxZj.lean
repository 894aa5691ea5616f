/- An executor of closed runs: tables that lie in memory beforehand. -/
import Derived.Test.YtjdkfdhfodmbeaaDoorAxZi
import Derived.Lib.LaidTab
namespace Go.Proofs.YtjdkfdhfodmbeaaDoor.Ax
open Go Go.RowKit
variable {P : Program} {G : Nat}

/-- A table: the variable's number, and its cells, integers or strings. -/
abbrev Tab := Nat × List Value
noncomputable def tabsT : List Tab → T AObj
  | [] => .leaf
  | x :: l => (tabsT l).set x.1 (some (.ro (T.setList x.2 .leaf 0)))
noncomputable def tabsHp (G : Nat) (l : List Tab) : Hp := ⟨tabsT l, G, [], [], G⟩
def rhoG (G : Nat) : Rho := ⟨fun n => n < G, fun n => n, fun _ => 0, fun _ => 0, fun _ => 0⟩

theorem tabsT_get : ∀ (l : List Tab) (n : Nat) (o : AObj), (tabsT l).get n = some o → ∃ x ∈ l, x.1 = n ∧ o = .ro (T.setList x.2 .leaf 0)
  | [], n, o, h => by cases h
  | x :: l, n, o, h => by
    unfold tabsT at h
    rw [T.get_set] at h
    by_cases e : n = x.1
    · rw [if_pos e] at h; cases h; exact ⟨x, .head _, e.symm, rfl⟩
    · rw [if_neg e] at h
      obtain ⟨y, h1, h2⟩ := tabsT_get l n o h
      exact ⟨y, .tail _ h1, h2⟩

/-- The memory with these tables beside a world that has them. -/
theorem ctx_tabs (l : List Tab) {w : World} (hlt : ∀ x ∈ l, x.1 < G ∧ 0 < x.2.length ∧ all1 x.2 = true) (h : ∀ x ∈ l, ∀ (i : Nat) (v : Value), x.2[i]? = some v → w.cell? ⟨x.1, i, none⟩ = some v) :
    CtxA P G (tabsHp G l) (rhoG G) w := by
  have hv : ∀ n o, (tabsHp G l).vis n = some o → (tabsT l).get n = some o := fun n o h => (Hp.vis_some h).2
  refine ⟨⟨fun n o hn => ?_, fun n m o o' _ _ e => e, fun n o hn => ?_, Nat.le_refl _, fun g hg => ⟨hg, rfl, rfl⟩⟩, fun n hn h => absurd h (Nat.not_lt.2 hn)⟩
  · obtain ⟨x, hx, rfl, rfl⟩ := tabsT_get l n o (hv n o hn)
    obtain ⟨h1, h2, h3⟩ := hlt x hx
    refine ⟨h1, ?_, fun i v hi => ?_⟩
    · have := h x hx 0 _ (List.getElem?_eq_getElem h2)
      show x.1 < w.heap.size
      by_cases hs : x.1 < w.heap.size
      · exact hs
      · have e : w.heap[x.1]? = none := Array.getElem?_eq_none (by omega)
        simp [World.cell?, e] at this
    · rw [T.get_setList] at hi
      by_cases hin : 0 ≤ i ∧ i < 0 + x.2.length
      · rw [if_pos hin, Nat.sub_zero] at hi
        have hp := all1_mem h3 v (List.mem_of_getElem? hi)
        refine ⟨pl1_one hp, v, ?_, pl1_vr hp⟩
        show w.cell? ⟨x.1, 0 + i, none⟩ = _
        rw [Nat.zero_add]
        exact h x hx i v hi
      · rw [if_neg hin] at hi; cases hi
  · obtain ⟨x, hx, rfl, rfl⟩ := tabsT_get l n o hn
    exact (hlt x hx).1

/-- The cells of a table as a row lists it. -/
def litV {H : Type} : DataW H → Value
  | .lit (.int k z) => .int k z
  | .lit (.string b) => .string ⟨⟨b⟩⟩
  | _ => undef
def litsOf {H : Type} : DataW H → List Value
  | .agg l => l.map litV
  | _ => []

open Go.Lib in
/-- An array of integers or strings that reads as the table holds the table's cells. -/
theorem cells_lits {H : Type} {enc : TypeId × Value → H} {w : World} {base : Nat} {sp : Nat → Bool} {held : Bool} {fuel : Nat} {t e : TypeId} {n : Nat} {d : TypeDesc} {cs : List Value} {xs : List (DataW H)} {p : List MemPlace}
    (ht : P.underlying t = some (.array n e)) (he : P.underlying e = some d) (hd : (∃ k, d = .int k) ∨ d = .string) (hce : P.cellsOf e = 1) (hct : P.cellsOf t = n)
    (h : DataW.trod enc P w base sp held fuel t cs = some (.agg xs, p)) : cs = xs.map litV := by
  cases fuel with
  | zero => simp [DataW.trod] at h
  | succ fuel =>
    simp only [DataW.trod, ht, hce, hct, Nat.mul_one] at h
    split at h
    · rename_i hl
      obtain ⟨ys, hm, hx⟩ := Option.map_eq_some_iff.1 h
      have hxs : ys.map (·.1) = xs := by
        have := congrArg Prod.fst hx
        simpa using this
      have hxl : ys.length = n := by simpa using mapM_length hm
      have hzl : xs.length = n := by rw [← hxs]; simpa using hxl
      apply List.ext_getElem?
      intro i
      by_cases hi : i < n
      · obtain ⟨b, hb, hf⟩ := mapM_at hm i i (by simp [hi])
        have h2 : xs[i]? = some b.1 := by rw [← hxs]; simp [hb]
        have h3 : ∃ v, cs[i]? = some v ∧ litV b.1 = v := by
          rcases hd with ⟨k, rfl⟩ | rfl
          · obtain ⟨z, hc, rfl, _⟩ := DataW.trod_int he hf
            have := congrArg (·[0]?) hc
            exact ⟨.int k z, by simpa [List.getElem?_take, List.getElem?_drop] using this, rfl⟩
          · obtain ⟨z, hc, rfl, _⟩ := DataW.trod_string he hf
            have := congrArg (·[0]?) hc
            exact ⟨.string z, by simpa [List.getElem?_take, List.getElem?_drop] using this, rfl⟩
        obtain ⟨v, h4, h5⟩ := h3
        rw [h4, List.getElem?_map, h2]
        simp [h5]
      · rw [List.getElem?_eq_none (by omega), List.getElem?_eq_none (by simp; omega)]
    · cases h

/-- From a row's condition to the cells: the table stands first on the list. -/
theorem lits_head {w : World} {name : String} {data : DataW Unit} {xs : List (DataW Unit)} {rest : List (String × DataW Unit)} {g : Nat} {t e : TypeId} {n : Nat} {d : TypeDesc} (hdata : data = .agg xs)
    (hg : P.globalNamed name = some g) (hty : (P.globals[g]?).map (·.type) = some t) (ht : P.underlying t = some (.array n e)) (he : P.underlying e = some d) (hd : (∃ k, d = .int k) ∨ d = .string) (hce : P.cellsOf e = 1) (hct : P.cellsOf t = n)
    (h : laidMet P ((name, data) :: rest) w) : ∀ (i : Nat) (v : Value), (litsOf data)[i]? = some v → w.cell? ⟨g, i, none⟩ = some v := by
  subst hdata
  obtain ⟨ps, ⟨g', t', cs, fuel, p, q, hg', ht', hvar, hd', _, _⟩, _⟩ := h
  obtain rfl := Option.some.inj (hg.symm.trans hg')
  obtain rfl := Option.some.inj (hty.symm.trans ht')
  have e1 := cells_lits ht he hd hce hct hd'
  intro i v hi
  have h1 := World.var?_cell hg hvar i
  have h2 : cs[i]? = cs.toList[i]? := by simp
  rw [h1, h2, e1]
  exact hi
end Go.Proofs.YtjdkfdhfodmbeaaDoor.Ax
