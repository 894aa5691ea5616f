/- The contracts of read and Parse. -/
import Derived.Test.YtbkbikkieabcmaaDoorGfC
import Derived.Lib.SplitLaws
import Derived.Lib.AtoiAllMem
namespace Go.Proofs.YtbkbikkieabcmaaDoor.Gf
open Go Go.RowKit
set_option linter.unusedVariables false
set_option linter.unusedSimpArgs false
/-- The variables of the library that are read. -/
def Gl (w : World) : Prop := 3 ≤ w.heap.size ∧ (∃ m, w.cell? ⟨0, 0, none⟩ = some (.int .i64 m)) ∧ (∃ t p, w.cell? ⟨1, 0, none⟩ = some (.iface t p)) ∧ (∃ t p, w.cell? ⟨2, 0, none⟩ = some (.iface t p))
theorem Gl.later {w w' : World} (h : Gl w) (hB : Below w.heap.size w w') : Gl w' := by
  obtain ⟨h0, ⟨m, h1⟩, ⟨t, p, h2⟩, ⟨t2, p2, h3⟩⟩ := h
  exact ⟨Nat.le_trans h0 hB.size, ⟨m, (hB.cell (p := ⟨0, 0, none⟩) (by show 0 < _; omega)).trans h1⟩, ⟨t, p, (hB.cell (p := ⟨1, 0, none⟩) (by show 1 < _; omega)).trans h2⟩, ⟨t2, p2, (hB.cell (p := ⟨2, 0, none⟩) (by show 2 < _; omega)).trans h3⟩⟩
/-- What a text's words say. -/
def rdW (w : By) : Option (Nat × Nat) :=
  match Lib.atoiAll (Lib.cut w [45]).1 with
  | .ok f => match (if (Lib.cut w [45]).2.2 then Lib.atoiAll (Lib.cut w [45]).2.1 else .ok f) with
    | .ok l => if vld f && vld l then some (f.toNat, l.toNat) else none
    | _ => none
  | _ => none
def rngW (s : W64) (f n : Nat) : W64 := (List.range' f n).foldl (fun s u => s ||| bitW u) s
def rdL : W64 → List By → Option W64
  | s, [] => some s
  | s, w :: r => match rdW w with
    | some (f, l) => rdL (rngW s f (l + 1 - f)) r
    | none => none
def wsOf (s : By) : List By := Lib.splitK [44] 0 (Lib.count s [44]) s
def rdS (s : By) : Option W64 := if s = [45] then some 0#64 else if s = [42] then some (BitVec.allOnes 64) else rdL 0#64 (wsOf s)
theorem rngW_succ (s : W64) (f n : Nat) : rngW s f (n + 1) = rngW s f n ||| bitW (f + n) := by
  unfold rngW
  rw [List.range'_concat, List.foldl_append]
  simp
/-! The library's -/
def AtoiOk (A : By) (e : Ending) : Prop := match Lib.atoiAll A with
  | .ok v => e = .returned (.tuple #[.int .i64 v, .nilIface])
  | _ => ∃ v t p, e = .returned (.tuple #[.int .i64 v, .iface t (.pointer p)])
theorem atoi_any (A : By) (hA : A.length ≤ 1000000000) (w : World) (h : Gl w) : Calls Tryd.prog 47 #[.string ⟨A.toArray⟩] w fun e w' => AtoiOk A e ∧ Below w.heap.size w w' := by
  have hz : (⟨A.toArray⟩ : ByteArray).size = A.length := by simp [ByteArray.size]
  obtain ⟨h0, ⟨m, h1⟩, ⟨t, p, h2⟩, ⟨t2, p2, h3⟩⟩ := h
  unfold AtoiOk
  cases hc : Lib.atoiAll A
  case ok v =>
    refine (Tryd.strconv_Atoi_ok ⟨A.toArray⟩ (by omega) v hc w).mono ?_
    rintro e w' ⟨rfl, hw⟩
    refine ⟨rfl, ?_⟩
    rcases hw with rfl | ⟨t, rfl⟩
    · exact Below.refl _ _
    · exact Lib.bytesWorld_below _ _ _
  case range =>
    refine (Tryd.strconv_Atoi_range ⟨A.toArray⟩ (by omega) hc _ w h3 (.inr ⟨_, _, rfl⟩)).mono ?_
    rintro e w' ⟨N, rfl, _, _, hB⟩
    exact ⟨⟨_, _, _, rfl⟩, hB⟩
  · refine (Tryd.strconv_Atoi_syntax ⟨A.toArray⟩ (by omega) hc _ w h2 (.inr ⟨_, _, rfl⟩)).mono ?_
    rintro e w' ⟨N, rfl, _, _, hB⟩
    exact ⟨⟨_, _, _, rfl⟩, hB⟩
theorem cut_any (A : By) (hA : A.length ≤ 1000000000) (w : World) (h : Gl w) : Calls Tryd.prog 46 #[.string ⟨A.toArray⟩, .string ⟨#[45]⟩] w fun e w' => e = .returned (.tuple #[.string ⟨(Lib.cut A [45]).1.toArray⟩, .string ⟨(Lib.cut A [45]).2.1.toArray⟩, .bool (Lib.cut A [45]).2.2]) ∧ Below w.heap.size w w' := by
  have hz : (⟨A.toArray⟩ : ByteArray).size = A.length := by simp [ByteArray.size]
  obtain ⟨h0, ⟨m, h1⟩, _⟩ := h
  refine (Tryd.strings_Cut ⟨A.toArray⟩ ⟨#[45]⟩ m w (by omega) h1).mono ?_
  rintro e w' ⟨rfl, n, rfl⟩
  exact ⟨rfl, ⟨rfl, rfl, rfl, Nat.le_refl _, fun _ _ => rfl⟩⟩
theorem cut_len (A : By) : (Lib.cut A [45]).1.length ≤ A.length ∧ (Lib.cut A [45]).2.1.length ≤ A.length := by
  unfold Lib.cut
  split
  · simp; omega
  · simp
theorem splitK_words (c : UInt8) : ∀ (k : Nat) (s : By), ∀ w ∈ Lib.splitK [c] 0 k s, w.length ≤ s.length
  | 0, s, w, h => by simp [Lib.splitK] at h; subst h; exact Nat.le_refl _
  | k + 1, s, w, h => by
    unfold Lib.splitK at h
    split at h
    · simp at h; subst h; exact Nat.le_refl _
    · rcases List.mem_cons.1 h with rfl | h
      · simp; omega
      · have := splitK_words c k _ w h
        simp at this; omega
theorem split_any (s : ByteArray) (hs : s.size ≤ 1000000000) (w : World) (h : Gl w) : Calls Tryd.prog 45 #[.string s, .string ⟨#[44]⟩] w fun e w' => (∃ a cap, e = .returned (.slice a (wsOf s.data.toList).length cap) ∧ IsOf cellsS 1 w' a (wsOf s.data.toList).length (wsOf s.data.toList)) ∧ Below w.heap.size w w' := by
  obtain ⟨h0, ⟨m, h1⟩, _⟩ := h
  refine (Tryd.strings_Split s ⟨#[44]⟩ m w (by omega) h1 (by decide)).mono ?_
  rintro e w' ⟨rfl, rfl⟩
  have hd := Lib.splitB_data ⟨#[44]⟩ 0 (Lib.countB s ⟨#[44]⟩) s
  have hl := Lib.splitB_all ⟨#[44]⟩ (by decide) 0 _ s rfl
  have hw : wsOf s.data.toList = (Lib.splitB ⟨#[44]⟩ 0 (Lib.countB s ⟨#[44]⟩) s).map (·.data.toList) := hd.symm
  generalize Lib.splitB ⟨#[44]⟩ 0 (Lib.countB s ⟨#[44]⟩) s = B at *
  rw [hw, List.length_map, ← hl]
  refine ⟨⟨_, _, rfl, by rw [List.length_map], fun _ => ⟨w.heap.size, 0, rfl, by simp, fun k hk j v hv => ?_⟩⟩, below_alloc _ _⟩
  rw [List.length_map] at hk
  have hj : j = 0 := by
    have := (List.getElem?_eq_some_iff.1 hv).1
    rw [cellsS_len] at this; omega
  subst hj
  rw [List.getElem_map] at hv
  simp [cellsS] at hv
  subst hv
  simp [hk]
end Go.Proofs.YtbkbikkieabcmaaDoor.Gf
