/- What the world is known to hold: tables, and the library's variables. -/
import Derived.Test.YtelanmknimapoaaGreatDoorTabO
import Derived.Test.YtelanmknimapoaaGreatDoorMge
import Derived.Test.YtelanmknimapoaaGreatDoorMgg
import Derived.Test.YtelanmknimapoaaGreatDoorObJ
import Derived.Test.YtelanmknimapoaaGreatDoorGlyphE
namespace Go.Proofs.YtelanmknimapoaaGreatDoor.Ob
open Go Go.RowKit Sx Gf Re Re.AM
set_option linter.unusedVariables false
structure Wo (v0 v1 v2 : Value) (w : World) : Prop where
 tb : Tb v0 v1 v2 w
 pw : Re.Pow w
 gl : Gf.Gl w
 ml : Gl.ML w
theorem Wo.later {v0 v1 v2 : Value} {w w' : World} (h : Wo v0 v1 v2 w) (hB : Below w.heap.size w w') : Wo v0 v1 v2 w' :=
 ⟨h.tb.later hB, h.pw.later hB, h.gl.later hB, h.ml.later hB⟩
theorem yfg {w W : World} (h : Re.Pow w) (e : w.heap.size > 1 → W.heap[1]? = w.heap[1]?) : Re.Pow W := by
 unfold Re.Pow Lib.TabIs World.var? at *
 have hg : Tryz.prog.globalNamed "internal/strconv.uint64pow10" = some 1 := by kernel_rfl
 simp only [hg, Option.bind_some] at h ⊢
 have hlt : 1 < w.heap.size := by
  rcases Nat.lt_or_ge 1 w.heap.size with hx | hx
  · exact hx
  · rw [Array.getElem?_eq_none hx] at h; simp at h
 rw [e hlt]
 exact h
theorem Wo.at {v0 v1 v2 : Value} {w W : World} (h : Wo v0 v1 v2 w) (hW : ∀ n ∈ nmNeed, n < w.heap.size → W.heap[n]? = w.heap[n]?) : Wo v0 v1 v2 W := by
 have hT := h.tb.at hW
 obtain ⟨h0, ⟨m, h1⟩, ⟨t, p, h2⟩, ⟨t2, p2, h3⟩⟩ := h.gl
 have c1 := zbh h1 (hW _ (by decide) (cell_lt h1))
 have c2 := zbh h2 (hW _ (by decide) (cell_lt h2))
 have c3 := zbh h3 (hW _ (by decide) (cell_lt h3))
 have l1 := cell_lt c2
 exact ⟨hT, yfg h.pw (fun hlt => hW _ (by decide) hlt), ⟨by omega, ⟨m, c1⟩, ⟨t, p, c2⟩, ⟨t2, p2, c3⟩⟩, cell_lt c1, m, c1⟩
theorem zbi {n : Int} (h : Ii n) {w : World} (hp : Re.Pow w) : Calls Tryz.prog 20 #[.int .i64 n] w fun e w' => e = .returned (.string ⟨(Lib.itoa n).toArray⟩) ∧ Below w.heap.size w w' :=
 (Tryz.strconv_Itoa n h.1 h.2 w hp).mono fun e w' ⟨he, k, os, hw⟩ => ⟨he, by rw [hw]; exact below_grow w k os⟩
theorem zrp {a b : Int} (h : okR a b = true) {w : World} (hp : Re.Pow w) : FmtC w a b := fun W hB => ztc a b h W (hp.later hB)
theorem zpk (B : Nat) (s : UInt8) : ∀ (L : List By), (∀ w ∈ L, w.length ≤ B) → (Lib.join L [s]).length ≤ (B + 1) * L.length
 | [], _ => by simp [Lib.join]
 | [w], h => by
  have := h w (.head _)
  simp [Lib.join]; omega
 | w :: y :: L, h => by
  have h1 := h w (.head _)
  have h2 := zpk B s (y :: L) (fun w hw => h w (.tail _ hw))
  rw [za3]
  simp only [List.length_append, List.length_cons, List.length_nil, Nat.mul_add] at *
  omega
noncomputable abbrev knJ (E : List (List Value × Value × Value)) : FuncId → Option (List Value → Hp → R) := fun f => if f = 24 then some (zza E) else none
theorem zrl : zm0 Tryz.prog 24 := fun bk o c xs sep w h1 h2 h3 h4 h5 => Tryz.strings_Join bk o c xs sep w h1 h2 h3 h4 h5
theorem zem {G : Env} {σ : Nat → Value} {E : List (List Value × Value × Value)} (hE : ∀ x ∈ E, JOk σ x) {wd : World → Prop} (f : FuncId) (kf : List Value → Hp → R) (hf : knJ E f = some kf) : zqe Tryz.prog G σ wd f kf := by
 replace hf : (if f = 24 then some (zza E) else none) = some kf := hf
 by_cases e : f = 24
 · subst e; rw [if_pos rfl] at hf; cases hf; exact zpl zrl hE
 · rw [if_neg e] at hf; cases hf
noncomputable abbrev knR (E : List (List Value × List Value)) : FuncId → Option (List Value → Hp → R) := fun f => if f = 87 then some (rowS 9 nmNeed E) else none
theorem ygj {g : Nat} {F : List OFact} {tb : List (FuncId × List Value × Value)} {k : FuncId → Option (List Value → Hp → R)} {σ : Nat → Value} {E : List (List Value × List Value)} {wd : World → Prop}
 (hE : ∀ x ∈ E, spL1 x.1 = true ∧ spL0 x.2 = true ∧ ∀ w, wd w → Calls Tryz.prog 87 ⟨x.1.map (in1 σ)⟩ w fun r w' => r = .returned (.slice (some ⟨w.heap.size, 0, none⟩) x.2.length x.2.length) ∧ w' = World.more w (.cells (x.2.map (in0 σ)).toArray 9))
 (f : FuncId) (kf : List Value → Hp → R) (hf : knR E f = some kf) : zqe Tryz.prog ⟨g, nmNeed, F, tb, k⟩ σ wd f kf := by
 replace hf : (if f = 87 then some (rowS 9 nmNeed E) else none) = some kf := hf
 by_cases e : f = 87
 · subst e; rw [if_pos rfl] at hf; cases hf; exact zso hE
 · rw [if_neg e] at hf; cases hf
theorem yay (s : ByteArray) (hs : s.size ≤ 1000000000) (A B C D : By) (h : wsOf s.data.toList = [A, B, C, D]) (w : World) (hG : Gf.Gl w) : Calls Tryz.prog 87 #[.string s, .string ⟨⟨[44]⟩⟩] w fun r w' => r = .returned (.slice (some ⟨w.heap.size, 0, none⟩) 4 4) ∧ w' = World.more w (.cells #[.string ⟨A.toArray⟩, .string ⟨B.toArray⟩, .string ⟨C.toArray⟩, .string ⟨D.toArray⟩] 9) := by
 obtain ⟨h0, ⟨m, h1⟩, _⟩ := hG
 refine (Tryz.strings_Split s ⟨#[44]⟩ m w (by omega) h1 (by decide)).mono ?_
 rintro e w' ⟨rfl, rfl⟩
 have hd := Lib.splitB_data ⟨#[44]⟩ 0 (Lib.countB s ⟨#[44]⟩) s
 have hl := Lib.splitB_all ⟨#[44]⟩ (by decide) 0 _ s rfl
 have hw : wsOf s.data.toList = (Lib.splitB ⟨#[44]⟩ 0 (Lib.countB s ⟨#[44]⟩) s).map (·.data.toList) := hd.symm
 generalize Lib.splitB ⟨#[44]⟩ 0 (Lib.countB s ⟨#[44]⟩) s = L at *
 rw [h] at hw
 match L, hw with
 | [a, b, c, d], hw =>
  simp only [List.map_cons, List.map_nil, List.cons.injEq, and_true] at hw
  obtain ⟨rfl, rfl, rfl, rfl⟩ := hw
  rw [← hl]
  exact ⟨rfl, rfl⟩
theorem jok {σ : Nat → Value} {a : List Value} {s r : Value} (xs : List ByteArray) (sep : ByteArray) (L : List By) (p1 : spL0 a = true) (p2 : sp0 s = true) (p3 : sp0 r = true) (h1 : a.map (in0 σ) = xs.map .string) (h2 : in0 σ s = .string sep) (h3 : in0 σ r = .string ⟨(Lib.join L sep.data.toList).toArray⟩)
 (hL : xs.map (·.data.toList) = L) (h4 : (Lib.join L sep.data.toList).length ≤ 140737488355328) : ∀ x ∈ [(a, s, r)], JOk σ x := by
 intro x hx
 rw [List.mem_singleton] at hx
 subst hx hL
 exact ⟨p1, p2, p3, xs, sep, h1, h2, h3, h4⟩
end Go.Proofs.YtelanmknimapoaaGreatDoor.Ob
