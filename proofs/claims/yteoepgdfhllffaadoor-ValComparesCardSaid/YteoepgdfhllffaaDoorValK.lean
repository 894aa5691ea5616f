/- The table of the names of errors, and the closed helper of the laws about values. -/
import Derived.Test.YteoepgdfhllffaaDoorAxZj
import Derived.Test.YteoepgdfhllffaaDoorProg
import Derived.Test.YteoepgdfhllffaaDoorRows
import Derived.KernelRfl
import Derived.Lib.LaidTab
import Derived.MakeChecks
import Derived.LaidMore
import Derived.Stop.LaidErr
import Derived.Below
namespace Go.Proofs.YteoepgdfhllffaaDoor.Va
open Go Go.RowKit Ax Go.Lib
def Nm (w : World) : Prop := ∀ (i : Nat) (v : Value), (litsOf (H := Unit) Rows.laid_louvre_val_names)[i]? = some v → w.cell? ⟨0, i, none⟩ = some v
theorem Nm.later {w w' : World} (h : Nm w) (hB : Below w.heap.size w w') : Nm w' := fun i v hv => by
  have h1 := h i v hv
  have hlt : 0 < w.heap.size := by
    rcases Nat.lt_or_ge 0 w.heap.size with h2 | h2
    · exact h2
    · simp only [World.cell?] at h1
      rw [Array.getElem?_eq_none h2] at h1
      cases h1
  rw [hB.cell (p := ⟨0, i, none⟩) hlt]
  exact h1
theorem nm_head {rest : List (String × DataW Unit)} {w : World} (h : laidMet Tryd.prog (("louvre/val.names", Rows.laid_louvre_val_names) :: rest) w) : Nm w :=
  lits_head (name := "louvre/val.names") (data := Rows.laid_louvre_val_names) (g := 0) (t := 72) (e := 9) (n := 8) (d := .string) (rest := rest) rfl (by kernel_rfl) (by kernel_rfl) (by kernel_rfl) (by kernel_rfl) (.inr rfl) (by kernel_rfl) (by kernel_rfl) h
theorem nm_fifth {a b c d : String × DataW Unit} {rest : List (String × DataW Unit)} {w : World}
    (hp : laidMetH Tryd.prog (a :: b :: c :: d :: ("louvre/val.names", Rows.laid_louvre_val_names) :: rest) w = laidMet Tryd.prog (a :: b :: c :: d :: ("louvre/val.names", Rows.laid_louvre_val_names) :: rest) w)
    (h : laidMetH Tryd.prog (a :: b :: c :: d :: ("louvre/val.names", Rows.laid_louvre_val_names) :: rest) w) : Nm w := by
  rw [hp] at h
  exact nm_head h.tail.tail.tail.tail
noncomputable def nmTabs : List Tab := [(0, litsOf (H := Unit) Rows.laid_louvre_val_names)]
theorem nm_ctx (w : World) (h : Nm w) : CtxA Tryd.prog 9 (tabsHp 9 nmTabs) (rhoG 9) w := by
  refine ctx_tabs nmTabs (fun x hx => ?_) (fun x hx => ?_)
  all_goals
    simp only [nmTabs, List.mem_cons, List.not_mem_nil, or_false] at hx
    rcases hx with rfl
  · exact ⟨of_decide_eq_true (by kernel_rfl), of_decide_eq_true (by kernel_rfl), by kernel_rfl⟩
  · exact h
theorem known05 (w : World) (h : Nm w) : Calls Tryd.prog 15 #[] w fun e w' => e = .returned (.bool true) ∧ Below w.heap.size w w' :=
  xmain_ok (regOk (by kernel_rfl)) (hp := tabsHp 9 nmTabs) (fuel := 10000000) rfl (by kernel_rfl) (nm_ctx w h)
end Go.Proofs.YteoepgdfhllffaaDoor.Va
