/- What the world is known to hold: tables, and the library's variables. -/
import Derived.Test.YtelanmknimapoaaGreatDoorTabO
import Derived.Test.YtelanmknimapoaaGreatDoorGfD
import Derived.Test.YtelanmknimapoaaGreatDoorRectE
import Derived.Test.YtelanmknimapoaaGreatDoorObJ
import Derived.Test.YtelanmknimapoaaGreatDoorGlyphE
namespace Go.Proofs.YtelanmknimapoaaGreatDoor.Ob
open Go Go.RowKit Sx Gf Re Re.AM
set_option linter.unusedVariables false
structure Wo (v0 v1 v2 : Value) (w : World) : Prop where
  tb : Tb v0 v1 v2 w
  pw : Re.Pow w
  gl : Gf.Gl w
  ml : Gl.ML w
theorem Wo.later {v0 v1 v2 : Value} {w w' : World} (h : Wo v0 v1 v2 w) (hB : Below w.heap.size w w') : Wo v0 v1 v2 w' :=
  ⟨h.tb.later hB, h.pw.later hB, h.gl.later hB, h.ml.later hB⟩
theorem pow_at {w W : World} (h : Re.Pow w) (e : w.heap.size > 1 → W.heap[1]? = w.heap[1]?) : Re.Pow W := by
  unfold Re.Pow Lib.TabIs World.var? at *
  have hg : Tryz.prog.globalNamed "internal/strconv.uint64pow10" = some 1 := by kernel_rfl
  simp only [hg, Option.bind_some] at h ⊢
  have hlt : 1 < w.heap.size := by
    rcases Nat.lt_or_ge 1 w.heap.size with hx | hx
    · exact hx
    · rw [Array.getElem?_eq_none hx] at h; simp at h
  rw [e hlt]
  exact h
theorem Wo.at {v0 v1 v2 : Value} {w W : World} (h : Wo v0 v1 v2 w) (hW : ∀ n ∈ nmNeed, n < w.heap.size → W.heap[n]? = w.heap[n]?) : Wo v0 v1 v2 W := by
  have hT := h.tb.at hW
  obtain ⟨h0, ⟨m, h1⟩, ⟨t, p, h2⟩, ⟨t2, p2, h3⟩⟩ := h.gl
  have c1 := cell_at h1 (hW _ (by decide) (cell_lt h1))
  have c2 := cell_at h2 (hW _ (by decide) (cell_lt h2))
  have c3 := cell_at h3 (hW _ (by decide) (cell_lt h3))
  have l1 := cell_lt c2
  exact ⟨hT, pow_at h.pw (fun hlt => hW _ (by decide) hlt), ⟨by omega, ⟨m, c1⟩, ⟨t, p, c2⟩, ⟨t2, p2, c3⟩⟩, cell_lt c1, m, c1⟩
theorem itoa_any {n : Int} (h : Ii n) {w : World} (hp : Re.Pow w) : Calls Tryz.prog 20 #[.int .i64 n] w fun e w' => e = .returned (.string ⟨(Lib.itoa n).toArray⟩) ∧ Below w.heap.size w w' :=
  (Tryz.strconv_Itoa n h.1 h.2 w hp).mono fun e w' ⟨he, k, os, hw⟩ => ⟨he, by rw [hw]; exact below_grow w k os⟩
theorem fmtC_any {a b : Int} (h : okR a b = true) {w : World} (hp : Re.Pow w) : FmtC w a b := fun W hB => format_yes a b h W (hp.later hB)
theorem join_le (B : Nat) (s : UInt8) : ∀ (L : List By), (∀ w ∈ L, w.length ≤ B) → (Lib.join L [s]).length ≤ (B + 1) * L.length
  | [], _ => by simp [Lib.join]
  | [w], h => by
    have := h w (.head _)
    simp [Lib.join]; omega
  | w :: y :: L, h => by
    have h1 := h w (.head _)
    have h2 := join_le B s (y :: L) (fun w hw => h w (.tail _ hw))
    rw [join_cons2]
    simp only [List.length_append, List.length_cons, List.length_nil, Nat.mul_add] at *
    omega
noncomputable abbrev knJ (E : List (List Value × Value × Value)) : FuncId → Option (List Value → Hp → R) := fun f => if f = 24 then some (joinS E) else none
theorem joinSaid : JoinSaid Tryz.prog 24 := fun bk o c xs sep w h1 h2 h3 h4 h5 => Tryz.strings_Join bk o c xs sep w h1 h2 h3 h4 h5
theorem knJ_ok {G : Env} {σ : Nat → Value} {E : List (List Value × Value × Value)} (hE : ∀ x ∈ E, JOk σ x) {wd : World → Prop} (f : FuncId) (kf : List Value → Hp → R) (hf : knJ E f = some kf) : KnOkS Tryz.prog G σ wd f kf := by
  replace hf : (if f = 24 then some (joinS E) else none) = some kf := hf
  by_cases e : f = 24
  · subst e; rw [if_pos rfl] at hf; cases hf; exact joinS_known joinSaid hE
  · rw [if_neg e] at hf; cases hf
theorem jok {σ : Nat → Value} {a : List Value} {s r : Value} (xs : List ByteArray) (sep : ByteArray) (L : List By) (p1 : spL0 a = true) (p2 : sp0 s = true) (p3 : sp0 r = true) (h1 : a.map (in0 σ) = xs.map .string) (h2 : in0 σ s = .string sep) (h3 : in0 σ r = .string ⟨(Lib.join L sep.data.toList).toArray⟩)
    (hL : xs.map (·.data.toList) = L) (h4 : (Lib.join L sep.data.toList).length ≤ 140737488355328) : ∀ x ∈ [(a, s, r)], JOk σ x := by
  intro x hx
  rw [List.mem_singleton] at hx
  subst hx hL
  exact ⟨p1, p2, p3, xs, sep, h1, h2, h3, h4⟩
end Go.Proofs.YtelanmknimapoaaGreatDoor.Ob
