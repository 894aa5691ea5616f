/- The table of the functions' names, beside later worlds; calls by the executor. -/
import Derived.Test.YtkigjoaoggafeaaDoorSxZj
import Derived.Test.YtkigjoaoggafeaaDoorTab
import Derived.Test.YtkigjoaoggafeaaDoorProg
import Derived.Test.YtkigjoaoggafeaaDoorRows
import Derived.KernelRfl
namespace Go.Proofs.YtkigjoaoggafeaaDoor.Tr
open Go Go.RowKit Sx Go.Lib
def Tb (w : World) : Prop := ∀ (i : Nat) (v : Value), (litsOf (H := Unit) Rows.laid_louvre_tree_names)[i]? = some v → w.cell? ⟨0, i, none⟩ = some v
theorem Tb.lt {w : World} (h : Tb w) : 0 < w.heap.size := by
  have h1 := h 0 _ (by kernel_rfl : (litsOf (H := Unit) Rows.laid_louvre_tree_names)[0]? = some (.string ⟨⟨[]⟩⟩))
  rcases Nat.lt_or_ge 0 w.heap.size with h2 | h2
  · exact h2
  · simp only [World.cell?] at h1
    rw [Array.getElem?_eq_none h2] at h1
    cases h1
theorem Tb.at1 {w W : World} (h : Tb w) (e : W.heap[0]? = w.heap[0]?) : Tb W := fun i v hv => by
  have h1 := h i v hv
  simp only [World.cell?] at h1 ⊢
  rw [e]; exact h1
theorem Tb.later {w w' : World} (h : Tb w) (hB : Below w.heap.size w w') : Tb w' := h.at1 (hB.block _ h.lt)
theorem tb_head {rest : List (String × DataW Unit)} {w : World} (h : laidMet Tryd.prog (("louvre/tree.names", Rows.laid_louvre_tree_names) :: rest) w) : Tb w :=
  lits_head (name := "louvre/tree.names") (data := Rows.laid_louvre_tree_names) (g := 0) (t := 86) (e := 9) (n := 51) (d := .string) (rest := rest) rfl (by kernel_rfl) (by kernel_rfl) (by kernel_rfl) (by kernel_rfl) (.inr rfl) (by kernel_rfl) (by kernel_rfl) h
theorem tb_of {l : List (String × DataW Unit)} {w : World} (hp : laidMetH Tryd.prog l w = laidMet Tryd.prog l w) (h : laidMetH Tryd.prog l w) {rest : List (String × DataW Unit)} (hl : l = ("louvre/tree.names", Rows.laid_louvre_tree_names) :: rest := by rfl) : Tb w := by
  subst hl
  rw [hp] at h
  exact tb_head h
noncomputable def nmL : List Tab := [(0, litsOf (H := Unit) Rows.laid_louvre_tree_names)]
abbrev nmNeed : List Nat := [0]
theorem Tb.at {w W : World} (h : Tb w) (hW : ∀ n ∈ nmNeed, n < w.heap.size → W.heap[n]? = w.heap[n]?) : Tb W := h.at1 (hW _ (.head _) h.lt)
theorem in0_lits {σ : Nat → Value} {l : List Value} (h : all1 l = true) {i : Nat} {v : Value} (hv : l[i]? = some v) : in0 σ v = v := by
  have := all1_mem h v (List.mem_of_getElem? hv)
  unfold in0
  split
  · exact absurd this Bool.false_ne_true
  · rfl
theorem nm_l {w : World} (h : Tb w) : ∀ x ∈ nmL, x.1 < 40 ∧ x.1 < w.heap.size ∧ spL0 x.2 = true := by
  intro x hx
  simp only [nmL, List.mem_cons, List.not_mem_nil, or_false] at hx
  rcases hx with rfl
  exact ⟨of_decide_eq_true (by kernel_rfl), h.lt, by kernel_rfl⟩
theorem nm_c {w : World} (h : Tb w) {σ : Nat → Value} : ∀ x ∈ nmL, ∀ (i : Nat) (v : Value), x.2[i]? = some v → w.cell? ⟨x.1, i, none⟩ = some (in0 σ v) := by
  intro x hx i v hv
  simp only [nmL, List.mem_cons, List.not_mem_nil, or_false] at hx
  rcases hx with rfl
  rw [in0_lits (by kernel_rfl) hv]; exact h i v hv
/-- **A call with symbols**, where the table lies. -/
theorem va_call {facts : List OFact} {tab : List (FuncId × List Value × Value)} {σ : Nat → Value} (one : ∀ i, oneC (σ i) = true) {w : World} (hT : Tb w)
    (h1 : ∀ F ∈ facts, FOk Tryd.prog σ (fun W => ∀ n ∈ nmNeed, n < w.heap.size → W.heap[n]? = w.heap[n]?) F) (h2 : ∀ x ∈ tab, TOk Tryd.prog σ (fun W => ∀ n ∈ nmNeed, n < w.heap.size → W.heap[n]? = w.heap[n]?) x)
    {f : FuncId} {args : List Value} {v : Value} (h : gives (xfun Tryd.prog ⟨40, nmNeed, facts, tab, fun _ => none⟩ 10000000 f args (tabsHp 40 nmL)) v = true) (ha : spL1 args = true) (hv : sp2 v = true) :
    Calls Tryd.prog f ⟨args.map (in1 σ)⟩ w fun e w' => e = .returned (in2 σ v) ∧ Below w.heap.size w w' :=
  sym_call (by kernel_rfl) one (nm_l hT) (nm_c hT) (by decide) h1 h2 h ha hv
theorem awake08 (w : World) (h : Tb w) : Calls Tryd.prog 19 #[] w fun e w' => e = .returned (.bool true) ∧ Below w.heap.size w w' :=
  va_call (facts := []) (tab := []) (σ := symOf []) (symOf_one rfl) h foks_nil toks_nil (args := []) (v := .bool true) (by kernel_rfl) rfl rfl
end Go.Proofs.YtkigjoaoggafeaaDoor.Tr
