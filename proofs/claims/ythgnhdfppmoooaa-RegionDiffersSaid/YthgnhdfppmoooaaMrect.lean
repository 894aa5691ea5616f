/- Merged: AddrMath AddrA AddrB RectA RectB RectC AddrRefA RectRef RectRefB RectL RectM RectN. -/
import Derived.Test.YthgnhdfppmoooaaProg
import Derived.WalkKit
import Derived.WalkSpells
import Derived.WalkLawsBesides
import Derived.Lib.Hide
import Derived.BigQuiet
import Derived.Deep.QuietTactic
import Derived.Outline
import Derived.Laws.BytesArg
import Derived.RegionTactic
import Derived.BigRegion
import Derived.ChangeAlike
import Derived.Lib.MinMax
import Derived.Deep.RegionHeld3
import Derived.OwnWalk
import Derived.Laws.OwnMore
/- Addresses as lists of bytes: what is read, the letters of a column, the digits of a row. Plain mathematics. -/
namespace Go.Proofs.Ythgnhdfppmoooaa.Re.AM
/-- The kind of a byte: 1 a letter, 2 a digit, 0 another one. -/
def kd (c : Int) : Int := if 97 ≤ c ∧ c ≤ 122 then 1 else if 65 ≤ c ∧ c ≤ 90 then 1 else if 48 ≤ c ∧ c ≤ 57 then 2 else 0
/-- The number that a byte stands for. -/
def nm (c : Int) : Int := if 97 ≤ c ∧ c ≤ 122 then c - 96 else if 65 ≤ c ∧ c ≤ 90 then c - 64 else if 48 ≤ c ∧ c ≤ 57 then c - 48 else 0
theorem kd_cases (c : Int) : (kd c = 1 ∧ 1 ≤ nm c ∧ nm c ≤ 26) ∨ (kd c = 2 ∧ 0 ≤ nm c ∧ nm c ≤ 9) ∨ (kd c = 0 ∧ nm c = 0) := by
  unfold kd nm; split
  · left; omega
  · split
    · left; omega
    · split
      · right; left; omega
      · right; right; omega
theorem snocInd {P : List UInt8 → Prop} (h0 : P []) (h1 : ∀ l a, P l → P (l ++ [a])) (l : List UInt8) : P l := by
  have : ∀ r : List UInt8, P r.reverse := by
    intro r
    induction r with
    | nil => exact h0
    | cons a t ih => rw [List.reverse_cons]; exact h1 _ _ ih
  have h := this l.reverse
  rwa [List.reverse_reverse] at h
structure St where
  last : Int
  n1 : Int
  n2 : Int
  v1 : Int
  v2 : Int
def cut (x : Int) : Int := min x 1048576
theorem cut_f (x : Int) : (if 1048576 < x then 1048576 else x) = cut x := by unfold cut; split <;> omega
def step (s : St) (c : Int) : Option St :=
  if kd c < s.last ∨ (kd c = 2 ∧ nm c = 0 ∧ s.n2 = 0) then none
  else if kd c = 1 then some ⟨1, s.n1 + 1, s.n2, cut (s.v1 * 26 + nm c), s.v2⟩
  else some ⟨2, s.n1, s.n2 + 1, s.v1, cut (s.v2 * 10 + nm c)⟩
def s0 : St := ⟨1, 0, 0, 0, 0⟩
def rd (l : List UInt8) : Option St := l.foldl (fun o c => o.bind (step · (c.toNat : Int))) (some s0)
theorem rd_snoc (l : List UInt8) (c : UInt8) : rd (l ++ [c]) = (rd l).bind (step · (c.toNat : Int)) := by
  unfold rd; rw [List.foldl_append]; rfl
theorem rd_next {l : List UInt8} {t t' : St} (c : UInt8) (h : rd l = some t) (e : step t (c.toNat : Int) = some t') : rd (l ++ [c]) = some t' := by
  rw [rd_snoc, h]; exact e
theorem rd_stop {l : List UInt8} {t : St} (c : UInt8) (h : rd l = some t) (e : step t (c.toNat : Int) = none) : rd (l ++ [c]) = none := by
  rw [rd_snoc, h]; exact e
theorem rd_none (l m : List UInt8) (h : rd l = none) : rd (l ++ m) = none := by
  unfold rd at *; rw [List.foldl_append, h]
  clear h
  induction m with
  | nil => rfl
  | cons a t ih => exact ih
/-- What holds of every state. -/
def Ok (n : Int) (s : St) : Prop := (s.last = 1 ∧ s.n2 = 0 ∧ s.v2 = 0 ∨ s.last = 2 ∧ 1 ≤ s.n2 ∧ 1 ≤ s.v2) ∧ 0 ≤ s.n1 ∧ 0 ≤ s.n2 ∧ s.n1 + s.n2 = n ∧ 0 ≤ s.v1 ∧ s.v1 ≤ 1048576 ∧ 0 ≤ s.v2 ∧ s.v2 ≤ 1048576 ∧ (s.n1 = 0 ∧ s.v1 = 0 ∨ 1 ≤ s.n1 ∧ 1 ≤ s.v1)
theorem Ok.step {n : Int} {s t : St} {c : Int} (h : Ok n s) (e : step s c = some t) : Ok (n + 1) t := by
  unfold AM.step cut at e
  unfold Ok at *
  obtain ⟨last, n1, n2, v1, v2⟩ := s
  have hk := kd_cases c
  generalize kd c = k at *
  generalize nm c = m at *
  simp only at *
  split at e
  · simp at e
  · rename_i hn
    split at e
    · simp only [Option.some.injEq] at e; subst e; dsimp only; omega
    · rename_i h1
      simp only [Option.some.injEq] at e; subst e; dsimp only; omega
theorem rd_ok (l : List UInt8) : ∀ s, rd l = some s → Ok l.length s := by
  refine snocInd (P := fun l => ∀ s, rd l = some s → Ok l.length s) ?_ ?_ l
  · intro s h; simp [rd] at h; subst h; simp [Ok, s0]
  · intro l c ih s h
    rw [rd_snoc] at h
    cases hr : rd l with
    | none => rw [hr] at h; simp at h
    | some t => rw [hr] at h; simp only [Option.bind_some] at h; rw [List.length_append]; exact (ih t hr).step h
/-! The parts of an address -/
def AL (l : List UInt8) : Prop := ∀ c ∈ l, kd (c.toNat : Int) = 1
def AD (l : List UInt8) : Prop := ∀ c ∈ l, kd (c.toNat : Int) = 2
def v26 (M : Int) (l : List UInt8) : Int := l.foldl (fun v c => min (v * 26 + nm (c.toNat : Int)) M) 0
def v10 (M : Int) (l : List UInt8) : Int := l.foldl (fun v c => min (v * 10 + nm (c.toNat : Int)) M) 0
theorem v26_snoc (M : Int) (l : List UInt8) (c : UInt8) : v26 M (l ++ [c]) = min (v26 M l * 26 + nm (c.toNat : Int)) M := by
  unfold v26; rw [List.foldl_append]; rfl
theorem v10_snoc (M : Int) (l : List UInt8) (c : UInt8) : v10 M (l ++ [c]) = min (v10 M l * 10 + nm (c.toNat : Int)) M := by
  unfold v10; rw [List.foldl_append]; rfl
theorem AL.snoc {l : List UInt8} {c : UInt8} (h : AL (l ++ [c])) : AL l ∧ kd (c.toNat : Int) = 1 :=
  ⟨fun x hx => h x (by simp [hx]), h c (by simp)⟩
theorem AD.snoc {l : List UInt8} {c : UInt8} (h : AD (l ++ [c])) : AD l ∧ kd (c.toNat : Int) = 2 :=
  ⟨fun x hx => h x (by simp [hx]), h c (by simp)⟩
theorem AL.add {l : List UInt8} {c : UInt8} (h : AL l) (hc : kd (c.toNat : Int) = 1) : AL (l ++ [c]) := by
  intro x hx; simp at hx; rcases hx with hx | hx
  · exact h x hx
  · subst hx; exact hc
theorem AD.add {l : List UInt8} {c : UInt8} (h : AD l) (hc : kd (c.toNat : Int) = 2) : AD (l ++ [c]) := by
  intro x hx; simp at hx; rcases hx with hx | hx
  · exact h x hx
  · subst hx; exact hc
theorem rd_letters (a : List UInt8) : AL a → rd a = some ⟨1, a.length, 0, v26 1048576 a, 0⟩ := by
  refine snocInd (P := fun a => AL a → rd a = some ⟨1, a.length, 0, v26 1048576 a, 0⟩) ?_ ?_ a
  · intro _; rfl
  · intro l c ih h
    obtain ⟨h1, h2⟩ := h.snoc
    rw [rd_snoc, ih h1, v26_snoc]
    simp [step, h2, cut]
/-- The digits do not begin with 0. -/
def Lead (b : List UInt8) : Prop := ∃ c t, b = c :: t ∧ kd (c.toNat : Int) = 2 ∧ nm (c.toNat : Int) ≠ 0
theorem rd_digits (a b : List UInt8) (ha : AL a) (hb : Lead b) : AD b → rd (a ++ b) = some ⟨2, a.length, b.length, v26 1048576 a, v10 1048576 b⟩ := by
  obtain ⟨c, t, rfl, hc, hn⟩ := hb
  refine snocInd (P := fun t => AD (c :: t) → rd (a ++ c :: t) = some ⟨2, a.length, (c :: t).length, v26 1048576 a, v10 1048576 (c :: t)⟩) ?_ ?_ t
  · intro _
    rw [rd_snoc, rd_letters a ha]
    simp [step, hc, hn, cut, v10]
  · intro l d ih h
    have h' : AD ((c :: l) ++ [d]) := by simpa using h
    obtain ⟨h1, h2⟩ := h'.snoc
    have e : a ++ c :: (l ++ [d]) = (a ++ c :: l) ++ [d] := by simp
    have e2 : c :: (l ++ [d]) = (c :: l) ++ [d] := by simp
    rw [e, rd_snoc, ih h1, e2, v10_snoc]
    have hz : ¬ ((c :: l).length : Int) = 0 := by simp; omega
    simp only [Option.bind_some, step, h2, cut]
    rw [if_neg (by rw [not_or]; refine ⟨by decide, ?_⟩; rintro ⟨_, _, h⟩; exact hz h), if_neg (by decide)]
    simp
theorem rd_split (l : List UInt8) : ∀ s, rd l = some s → ∃ a b, l = a ++ b ∧ AL a ∧ AD b ∧ (b = [] ∨ Lead b) := by
  refine snocInd (P := fun l => ∀ s, rd l = some s → ∃ a b, l = a ++ b ∧ AL a ∧ AD b ∧ (b = [] ∨ Lead b)) ?_ ?_ l
  · intro s _; exact ⟨[], [], rfl, fun _ h => by simp at h, fun _ h => by simp at h, Or.inl rfl⟩
  · intro l c ih s h
    rw [rd_snoc] at h
    cases hr : rd l with
    | none => rw [hr] at h; simp at h
    | some t =>
      rw [hr, Option.bind_some] at h
      obtain ⟨a, b, rfl, ha, hb, hl⟩ := ih t hr
      rcases hl with rfl | hl
      · rw [List.append_nil] at hr
        rw [rd_letters a ha, Option.some.injEq] at hr
        subst hr
        unfold step at h
        split at h
        · simp at h
        · rename_i hn
          split at h
          · rename_i h1
            exact ⟨a ++ [c], [], by simp, ha.add h1, hb, Or.inl rfl⟩
          · rename_i h1
            have hk := kd_cases (c.toNat : Int)
            have h2 : kd (c.toNat : Int) = 2 := by dsimp only at hn; omega
            exact ⟨a, [c], by simp, ha, fun x hx => by simp at hx; subst hx; exact h2, Or.inr ⟨c, [], rfl, h2, fun h0 => hn (Or.inr ⟨h2, h0, rfl⟩)⟩⟩
      · rw [rd_digits a b ha hl hb, Option.some.injEq] at hr
        subst hr
        unfold step at h
        split at h
        · simp at h
        · rename_i hn
          split at h
          · rename_i h1; dsimp only at hn; omega
          · rename_i h1
            have hk := kd_cases (c.toNat : Int)
            have h2 : kd (c.toNat : Int) = 2 := by dsimp only at hn; omega
            obtain ⟨d, t, rfl, hd⟩ := hl
            exact ⟨a, d :: t ++ [c], by simp, ha, hb.add h2, Or.inr ⟨d, t ++ [c], rfl, hd⟩⟩
/-! What Parse and Column say -/
def okR (c r : Int) : Bool := decide (1 ≤ c ∧ c ≤ 1024 ∧ 1 ≤ r ∧ r ≤ 1024)
def PZ (l : List UInt8) : Int × Int × Int :=
  match rd l with
  | none => (0, 0, 4)
  | some s => if s.n1 = 0 ∨ s.n2 = 0 then (0, 0, 4) else if okR s.v1 s.v2 then (s.v1, s.v2, 0) else (0, 0, 3)
def CZ (l : List UInt8) : Int × Int :=
  match rd l with
  | none => (0, 4)
  | some s => if s.n1 = 0 ∨ s.n2 ≠ 0 then (0, 4) else if 1024 < s.v1 then (0, 3) else (s.v1, 0)
theorem PZ_bd (l : List UInt8) : 0 ≤ (PZ l).1 ∧ (PZ l).1 ≤ 1024 ∧ 0 ≤ (PZ l).2.1 ∧ (PZ l).2.1 ≤ 1024 ∧ 0 ≤ (PZ l).2.2 ∧ (PZ l).2.2 ≤ 4 := by
  unfold PZ
  split
  · decide
  · split
    · decide
    · split
      · rename_i h; simp only [okR, decide_eq_true_eq] at h; dsimp only; omega
      · decide
/-! The reference's bounds -/
theorem v26_cap (M N : Int) (h0 : 0 ≤ M) (h : M ≤ N) (l : List UInt8) : v26 M l = min (v26 N l) M ∧ 0 ≤ v26 N l := by
  refine snocInd (P := fun l => v26 M l = min (v26 N l) M ∧ 0 ≤ v26 N l) ?_ ?_ l
  · simp [v26]; omega
  · intro l c ih
    rw [v26_snoc, v26_snoc]
    have hk := kd_cases (c.toNat : Int)
    omega
theorem v10_cap (M N : Int) (h0 : 0 ≤ M) (h : M ≤ N) (l : List UInt8) : v10 M l = min (v10 N l) M ∧ 0 ≤ v10 N l := by
  refine snocInd (P := fun l => v10 M l = min (v10 N l) M ∧ 0 ≤ v10 N l) ?_ ?_ l
  · simp [v10]; omega
  · intro l c ih
    rw [v10_snoc, v10_snoc]
    have hk := kd_cases (c.toNat : Int)
    omega
theorem v26_pos (M : Int) (hM : 1 ≤ M) (a : List UInt8) (ha : AL a) (h : a ≠ []) : 1 ≤ v26 M a := by
  revert ha h
  refine snocInd (P := fun a => AL a → a ≠ [] → 1 ≤ v26 M a) ?_ ?_ a
  · intro _ h; exact absurd rfl h
  · intro l c _ ha _
    rw [v26_snoc]
    have := (v26_cap M M (by omega) (Int.le_refl _) l).2
    have hk := kd_cases (c.toNat : Int)
    have := ha.snoc.2
    omega
theorem v10_pos (M : Int) (hM : 1 ≤ M) (b : List UInt8) (hb : AD b) (h : Lead b) : 1 ≤ v10 M b := by
  obtain ⟨c, t, rfl, hc, hn⟩ := h
  have hk := kd_cases (c.toNat : Int)
  revert hb
  refine snocInd (P := fun t => AD (c :: t) → 1 ≤ v10 M (c :: t)) ?_ ?_ t
  · intro _; simp [v10]; omega
  · intro l d ih hb
    have e2 : c :: (l ++ [d]) = (c :: l) ++ [d] := by simp
    rw [e2] at hb ⊢
    rw [v10_snoc]
    have := ih hb.snoc.1
    have hk := kd_cases (d.toNat : Int)
    omega
/-! The letters of a column -/
def letsN (n : Int) : List Int :=
  if n ≤ 26 then [65 + (n - 1) % 26]
  else if n ≤ 702 then [65 + ((n - 1) / 26 - 1) % 26, 65 + (n - 1) % 26]
  else [65 + (((n - 1) / 26 - 1) / 26 - 1) % 26, 65 + ((n - 1) / 26 - 1) % 26, 65 + (n - 1) % 26]
def lets (n : Int) : List UInt8 := (letsN n).map fun x => UInt8.ofNat x.toNat
end Go.Proofs.Ythgnhdfppmoooaa.Re.AM
/- Contracts of addr: the kinds of bytes, and what is read of an address. -/
namespace Go.Proofs.Ythgnhdfppmoooaa.Re
open Go.RowKit AM

theorem ret2I {a b c d : Int} {k : IntKind} (h : a = c) (h' : b = d) : Ending.returned (.tuple #[.int k a, .int k b]) = .returned (.tuple #[.int k c, .int k d]) := by rw [h, h']

end Go.Proofs.Ythgnhdfppmoooaa.Re
/- Contracts of addr's small functions. -/
namespace Go.Proofs.Ythgnhdfppmoooaa.Re
open Go.RowKit AM
theorem bcell {W w1 : World} (hb : Below W.heap.size W w1) : (∀ b o, b < W.heap.size → w1.cell? ⟨b, o, none⟩ = W.cell? ⟨b, o, none⟩) ∧ (∀ b o, b < W.heap.size → w1.frozen? ⟨b, o, none⟩ = W.frozen? ⟨b, o, none⟩) :=
  ⟨fun b o h => hb.cell (p := ⟨b, o, none⟩) h, fun b o h => hb.frozen (p := ⟨b, o, none⟩) h⟩
theorem Below.next {W w1 w2 : World} (h : Below W.heap.size W w1) (k : Below w1.heap.size w1 w2) : Below W.heap.size W w2 := h.trans (k.mono h.size)
theorem retB {a b : Bool} (h : a = b) : Ending.returned (.bool a) = .returned (.bool b) := by rw [h]
theorem okR_t {c r : Int} (h : 1 ≤ c ∧ c ≤ 1024 ∧ 1 ≤ r ∧ r ≤ 1024) : okR c r = true := by unfold okR; exact decide_eq_true h
theorem okR_f {c r : Int} (h : ¬ (1 ≤ c ∧ c ≤ 1024 ∧ 1 ≤ r ∧ r ≤ 1024)) : okR c r = false := by unfold okR; exact decide_eq_false h
theorem okR_i {c r : Int} (h : okR c r = true) : 1 ≤ c ∧ c ≤ 1024 ∧ 1 ≤ r ∧ r ≤ 1024 := by unfold okR at h; exact of_decide_eq_true h
theorem okR_n {c r : Int} (h : okR c r = false) : ¬ (1 ≤ c ∧ c ≤ 1024 ∧ 1 ≤ r ∧ r ≤ 1024) := by unfold okR at h; exact of_decide_eq_false h

set_option maxHeartbeats 400000 in
theorem valid_any (c r : Int) (w : World) :
    Calls Try.prog 36 #[.agg #[.int .i64 c, .int .i64 r]] w fun e w' => e = .returned (.bool (okR c r)) ∧ Below w.heap.size w w' := by
  rcases Int.lt_or_le c 1 with h1 | h1
  · have hk := Lib.hid (okR_f (c := c) (r := r) (by omega))
    go_enter Try.func36, Try.ntmps36
    go_wp2
    go_ret
    exact ⟨retB hk.out.symm, (Below.refl _ _).alloc (Nat.le_refl _) _⟩
  · rcases Int.lt_or_le 1024 c with h2 | h2
    · have hk := Lib.hid (okR_f (c := c) (r := r) (by omega))
      go_enter Try.func36, Try.ntmps36
      go_wp2
      go_ret
      exact ⟨retB hk.out.symm, (Below.refl _ _).alloc (Nat.le_refl _) _⟩
    · rcases Int.lt_or_le r 1 with h3 | h3
      · have hk := Lib.hid (okR_f (c := c) (r := r) (by omega))
        go_enter Try.func36, Try.ntmps36
        go_wp2
        go_ret
        exact ⟨retB hk.out.symm, (Below.refl _ _).alloc (Nat.le_refl _) _⟩
      · rcases Int.lt_or_le 1024 r with h4 | h4
        · have hk := Lib.hid (okR_f (c := c) (r := r) (by omega))
          go_enter Try.func36, Try.ntmps36
          go_wp2
          go_ret
          exact ⟨retB ((decide_eq_false (by omega)).trans hk.out.symm), (Below.refl _ _).alloc (Nat.le_refl _) _⟩
        · have hk := Lib.hid (okR_t (c := c) (r := r) (by omega))
          go_enter Try.func36, Try.ntmps36
          go_wp2
          go_ret
          exact ⟨retB hk.out.symm, (Below.refl _ _).alloc (Nat.le_refl _) _⟩

theorem letsN_1 {n : Int} (h : n ≤ 26) : letsN n = [65 + (n - 1) % 26] := by unfold letsN; rw [if_pos h]
theorem letsN_2 {n : Int} (h : 26 < n) (h' : n ≤ 702) : letsN n = [65 + ((n - 1) / 26 - 1) % 26, 65 + (n - 1) % 26] := by unfold letsN; rw [if_neg (by omega), if_pos h']
theorem letsN_3 {n : Int} (h : 702 < n) : letsN n = [65 + (((n - 1) / 26 - 1) / 26 - 1) % 26, 65 + ((n - 1) / 26 - 1) % 26, 65 + (n - 1) % 26] := by unfold letsN; rw [if_neg (by omega), if_neg (by omega)]
theorem ret_s0 {a b : List Int} (h : a = b) : Ending.returned (.tuple #[.string (strOfNums a), .int .i64 0]) = .returned (.tuple #[.string (strOfNums b), .int .i64 0]) := by rw [h]
end Go.Proofs.Ythgnhdfppmoooaa.Re
/- Contracts of rect's small functions. -/
namespace Go.Proofs.Ythgnhdfppmoooaa.Re
open Go.RowKit AM
theorem rcorners_any (a b c d : Int) (w : World) :
    Calls Try.prog 35 #[.agg #[.int .i64 a, .int .i64 b, .int .i64 c, .int .i64 d]] w fun e w' =>
      e = .returned (.tuple #[.agg #[.int .i64 a, .int .i64 b], .agg #[.int .i64 c, .int .i64 d]]) ∧ Below w.heap.size w w' := by
  go_enter Try.func35, Try.ntmps35
  go_wp2_with fail
  go_region
  go_wp2_with fail
  exact bodyPost_ret (v := .tuple #[.agg #[_, _], .agg #[_, _]]) (by simp [results, Try.results35, go_sem]) rfl ⟨rfl, ((((Below.refl _ _).alloc (Nat.le_refl _) _).alloc (by simp) _).alloc (by simp; omega) _).drew⟩
theorem retI' {k : IntKind} {a b : Int} (h : a = b) : Ending.returned (.int k a) = .returned (.int k b) := by rw [h]
def emB (a b c d : Int) : Bool := decide (c < a ∨ d < b)
theorem emB_t {a b c d : Int} (h : c < a ∨ d < b) : emB a b c d = true := by unfold emB; exact decide_eq_true h
theorem emB_f {a b c d : Int} (h : ¬ (c < a ∨ d < b)) : emB a b c d = false := by unfold emB; exact decide_eq_false h
theorem rempty_any (a b c d : Int) (w : World) :
    Calls Try.prog 37 #[.agg #[.int .i64 a, .int .i64 b, .int .i64 c, .int .i64 d]] w fun e w' => e = .returned (.bool (emB a b c d)) ∧ Below w.heap.size w w' := by
  rcases Int.lt_or_le c a with h | h
  · have hk := Lib.hid (emB_t (b := b) (d := d) (Or.inl h))
    go_enter Try.func37, Try.ntmps37
    go_wp2
    go_ret
    exact ⟨retB hk.out.symm, (Below.refl _ _).alloc (Nat.le_refl _) _⟩
  · rcases Int.lt_or_le d b with h2 | h2
    · have hk := Lib.hid (emB_t (a := a) (c := c) (Or.inr h2))
      go_enter Try.func37, Try.ntmps37
      go_wp2
      go_ret
      exact ⟨retB hk.out.symm, (Below.refl _ _).alloc (Nat.le_refl _) _⟩
    · have hk := Lib.hid (emB_f (a := a) (b := b) (c := c) (d := d) (by omega))
      go_enter Try.func37, Try.ntmps37
      go_wp2
      go_ret
      exact ⟨retB (by rw [decide_eq_false (show ¬ c < a by omega), decide_eq_false (show ¬ d < b by omega)]; exact hk.out.symm), (Below.refl _ _).alloc (Nat.le_refl _) _⟩
/-! A range is valid -/
def ckB (a b c d : Int) : Bool := okR a b && (okR c d && !emB a b c d)
def ckE (a b c d : Int) : Int := if ckB a b c d = true then 0 else 3
theorem ckB_iff {a b c d : Int} : ckB a b c d = true ↔ (1 ≤ a ∧ a ≤ 1024 ∧ 1 ≤ b ∧ b ≤ 1024) ∧ (1 ≤ c ∧ c ≤ 1024 ∧ 1 ≤ d ∧ d ≤ 1024) ∧ a ≤ c ∧ b ≤ d := by
  unfold ckB okR emB
  rw [Bool.and_eq_true, Bool.and_eq_true, decide_eq_true_eq, decide_eq_true_eq, Bool.not_eq_true', decide_eq_false_iff_not]
  omega
theorem ckE_t {a b c d : Int} (h : ckB a b c d = true) : ckE a b c d = 0 := by unfold ckE; rw [if_pos h]
theorem ckE_f {a b c d : Int} (h : ckB a b c d = false) : ckE a b c d = 3 := by unfold ckE; rw [if_neg (by rw [h]; decide)]
/-- Four integers lie in block p. -/
def Four (w : World) (p : Nat) (a b c d : Int) : Prop :=
  p < w.heap.size ∧ w.cell? ⟨p, 0, none⟩ = some (.int .i64 a) ∧ w.cell? ⟨p, 1, none⟩ = some (.int .i64 b) ∧ w.cell? ⟨p, 2, none⟩ = some (.int .i64 c) ∧ w.cell? ⟨p, 3, none⟩ = some (.int .i64 d)
theorem Four.later {w w' : World} {p : Nat} {a b c d : Int} (h : Four w p a b c d) (hB : Below w.heap.size w w') : Four w' p a b c d := by
  obtain ⟨h0, h1, h2, h3, h4⟩ := h
  obtain ⟨hc, _⟩ := bcell hB
  have hz := hB.size
  exact ⟨by omega, by rw [hc _ _ h0]; exact h1, by rw [hc _ _ h0]; exact h2, by rw [hc _ _ h0]; exact h3, by rw [hc _ _ h0]; exact h4⟩
theorem Four.start (w : World) (a b c d : Int) (t : TypeId) : Four (w.alloc (.cells #[.int .i64 a, .int .i64 b, .int .i64 c, .int .i64 d] t)) w.heap.size a b c d :=
  ⟨by simp, by simp, by simp, by simp, by simp⟩
def Two' (w : World) (p : Nat) (a b : Int) : Prop := p < w.heap.size ∧ w.cell? ⟨p, 0, none⟩ = some (.int .i64 a) ∧ w.cell? ⟨p, 1, none⟩ = some (.int .i64 b)
theorem Two'.later {w w' : World} {p : Nat} {a b : Int} (h : Two' w p a b) (hB : Below w.heap.size w w') : Two' w' p a b := by
  obtain ⟨h0, h1, h2⟩ := h
  obtain ⟨hc, _⟩ := bcell hB
  have hz := hB.size
  exact ⟨by omega, by rw [hc _ _ h0]; exact h1, by rw [hc _ _ h0]; exact h2⟩
theorem Two'.start (w : World) (a b : Int) (t : TypeId) : Two' (w.alloc (.cells #[.int .i64 a, .int .i64 b] t)) w.heap.size a b := ⟨by simp, by simp, by simp⟩
theorem below_alloc (w : World) (o : Obj) : Below w.heap.size w (w.alloc o) := (Below.refl _ _).alloc (Nat.le_refl _) _
set_option maxHeartbeats 800000 in
theorem rcheck_any (a b c d : Int) (w : World) :
    Calls Try.prog 21 #[.agg #[.int .i64 a, .int .i64 b, .int .i64 c, .int .i64 d]] w fun e w' => e = .returned (.int .i64 (ckE a b c d)) ∧ Below w.heap.size w w' := by
  have HE : Hid (ckE a b c d = if okR a b = true then (if okR c d = true then (if emB a b c d = true then 3 else 0) else 3) else 3) := by
    unfold Hid ckE ckB
    cases okR a b <;> cases okR c d <;> cases emB a b c d <;> rfl
  go_enter Try.func21, Try.ntmps21
  go_wp2_with fail
  refine (rcorners_any a b c d _).mono ?_
  rintro e w1 ⟨rfl, hB1⟩
  have F1 := Lib.hid ((Four.start w a b c d 23).later hB1)
  have B1 := Lib.hid (Below.next (below_alloc w _) hB1)
  have T1 := Lib.hid (Two'.start w1 a b 52)
  have T2 := Lib.hid (Two'.start (w1.alloc (.cells #[.int .i64 a, .int .i64 b] 52)) c d 52)
  have T1' := Lib.hid (T1.out.later (below_alloc _ (.cells #[.int .i64 c, .int .i64 d] 52)))
  have F1' := Lib.hid ((F1.out.later (below_alloc _ (.cells #[.int .i64 a, .int .i64 b] 52))).later (below_alloc _ (.cells #[.int .i64 c, .int .i64 d] 52)))
  have B1' := Lib.hid (Below.next (Below.next B1.out (below_alloc _ (.cells #[.int .i64 a, .int .i64 b] 52))) (below_alloc _ (.cells #[.int .i64 c, .int .i64 d] 52)))
  go_wp2_with fail
  refine (valid_any a b _).mono ?_
  rintro e w2 ⟨rfl, hB2⟩
  simp at T2
  have F2 := Lib.hid (F1'.out.later hB2)
  have T2' := Lib.hid (T2.out.later hB2)
  have B2 := Lib.hid (Below.next B1'.out hB2)
  obtain ⟨_, t1, t2⟩ := T2'.out
  obtain ⟨_, f1, f2, f3, f4⟩ := F2.out
  cases h1 : okR a b
  · have E : Hid (ckE a b c d = 3) := by unfold Hid; rw [HE.out, h1]; rfl
    clear h1
    go_wp2_with fail
    go_ret
    exact ⟨retI' E.out.symm, B2.out⟩
  · have H1 := Lib.hid h1
    clear h1
    go_wp2_with fail
    refine (valid_any c d _).mono ?_
    rintro e w3 ⟨rfl, hB3⟩
    have F3 := Lib.hid (F2.out.later hB3)
    have B3 := Lib.hid (Below.next B2.out hB3)
    obtain ⟨_, f1, f2, f3, f4⟩ := F3.out
    cases h2 : okR c d
    · have E : Hid (ckE a b c d = 3) := by unfold Hid; rw [HE.out, H1.out, h2]; rfl
      clear h2
      go_wp2_with fail
      go_ret
      exact ⟨retI' E.out.symm, B3.out⟩
    · have H2 := Lib.hid h2
      clear h2
      go_wp2_with fail
      refine (rempty_any a b c d _).mono ?_
      rintro e w4 ⟨rfl, hB4⟩
      have B4 := Lib.hid (Below.next B3.out hB4)
      cases h3 : emB a b c d
      · have E : Hid (ckE a b c d = 0) := by unfold Hid; rw [HE.out, H1.out, H2.out, h3]; rfl
        clear h3
        go_wp2_with fail
        go_ret
        exact ⟨retI' E.out.symm, B4.out⟩
      · have E : Hid (ckE a b c d = 3) := by unfold Hid; rw [HE.out, H1.out, H2.out, h3]; rfl
        clear h3
        go_wp2_with fail
        go_ret
        exact ⟨retI' E.out.symm, B4.out⟩
end Go.Proofs.Ythgnhdfppmoooaa.Re
/- Contracts of rect.One, Has, check, Meet and Inside. -/
namespace Go.Proofs.Ythgnhdfppmoooaa.Re
open Go.RowKit AM
def rhB (a b c d p q : Int) : Bool := decide (a ≤ p ∧ p ≤ c ∧ b ≤ q ∧ q ≤ d)
theorem rhB_t {a b c d p q : Int} (h : a ≤ p ∧ p ≤ c ∧ b ≤ q ∧ q ≤ d) : rhB a b c d p q = true := by unfold rhB; exact decide_eq_true h
theorem rhB_f {a b c d p q : Int} (h : ¬ (a ≤ p ∧ p ≤ c ∧ b ≤ q ∧ q ≤ d)) : rhB a b c d p q = false := by unfold rhB; exact decide_eq_false h
/-! Ranges in memory -/
structure R4 where
  c1 : Int
  r1 : Int
  c2 : Int
  r2 : Int
def R4.ck (r : R4) : Bool := ckB r.c1 r.r1 r.c2 r.r2
/-- Block b holds ranges from off on. -/
def RRow (w : World) (b off : Nat) (l : List R4) : Prop :=
  b < w.heap.size ∧ ∀ k (h : k < l.length), w.cell? ⟨b, off + k * 4, none⟩ = some (.int .i64 l[k].c1) ∧ w.cell? ⟨b, off + k * 4 + 1, none⟩ = some (.int .i64 l[k].r1) ∧
    w.cell? ⟨b, off + k * 4 + 2, none⟩ = some (.int .i64 l[k].c2) ∧ w.cell? ⟨b, off + k * 4 + 3, none⟩ = some (.int .i64 l[k].r2)
theorem RRow.later {w w' : World} {b off : Nat} {l : List R4} (h : RRow w b off l) (hB : Below w.heap.size w w') : RRow w' b off l := by
  obtain ⟨h0, h1⟩ := h
  obtain ⟨hc, _⟩ := bcell hB
  have hz := hB.size
  refine ⟨by omega, fun k hk => ?_⟩
  rw [hc _ _ h0, hc _ _ h0, hc _ _ h0, hc _ _ h0]
  exact h1 k hk
def cksE (l : List R4) : Int := if l.all R4.ck = true then 0 else 3
theorem all_snoc (l : List R4) (k : Nat) (h : k < l.length) (ha : (l.take k).all R4.ck = true) (hc : l[k].ck = true) : (l.take (k + 1)).all R4.ck = true := by
  rw [List.take_succ_eq_append_getElem h, List.all_append, ha]; simp [hc]
theorem all_stop (l : List R4) (k : Nat) (h : k < l.length) (hc : l[k].ck = false) : cksE l = 3 := by
  unfold cksE
  rw [if_neg]
  intro ha
  have := List.all_eq_true.1 ha l[k] (List.getElem_mem h)
  rw [hc] at this; cases this
set_option maxHeartbeats 800000 in
theorem rchecks_any (b off cap : Nat) (l : List R4) (hl : l.length ≤ 1000000) (w : World) (hr : RRow w b off l) :
    Calls Try.prog 39 #[.slice (some ⟨b, off, none⟩) l.length cap] w fun e w' => e = .returned (.int .i64 (cksE l)) ∧ Below w.heap.size w w' := by
  have HR := Lib.hid hr
  clear hr
  go_enter Try.func39, Try.ntmps39
  go_wp2_with fail
  go_loopw [8] (fun i wr => ∃ k : Nat, k ≤ l.length ∧ i = .int .i64 k ∧ (l.take k).all R4.ck = true ∧ RRow wr b off l ∧ Below w.heap.size w wr) (fun i _ => l.length - (intOf i).toNat)
  case atStart => exact ⟨0, Nat.zero_le _, rfl, rfl, HR.out, Below.refl _ _⟩
  case round =>
    obtain ⟨k, hk, rfl, ha, hr, hB⟩ := hrel
    have HA := Lib.hid ha
    have HR := Lib.hid hr
    have HB := Lib.hid hB
    clear ha hr hB
    by_cases hlt : k < l.length
    · obtain ⟨c1, c2, c3, c4⟩ := HR.out.2 k hlt
      have HS := Lib.hid (all_snoc l k hlt HA.out)
      have HX := Lib.hid (all_stop l k hlt)
      have HZ := Lib.hid HB.out.size
      unfold R4.ck at HS HX
      generalize l[k] = r at *
      obtain ⟨x1, x2, x3, x4⟩ := r
      dsimp only at *
      go_wp2_with fail
      refine (rcheck_any x1 x2 x3 x4 _).mono ?_
      rintro e w1 ⟨rfl, hB1⟩
      have HR1 := Lib.hid ((HR.out.later (below_alloc _ _)).later hB1)
      have HB1 := Lib.hid (Below.next (HB.out.alloc HZ.out _) hB1)
      cases hc : ckB x1 x2 x3 x4
      · have HE := Lib.hid (ckE_f hc)
        have HE' := Lib.hid (HX.out hc)
        clear hc
        rw [HE.out]
        go_wp2_with fail
        go_ret
        exact ⟨retI' HE'.out.symm, HB1.out⟩
      · have HE := Lib.hid (ckE_t hc)
        have HE' := Lib.hid (HS.out hc)
        clear hc
        rw [HE.out]
        go_wp2_with fail
        go_roundw
        case rel => exact ⟨k + 1, by omega, by go_num, HE'.out, HR1.out, HB1.out⟩
        case measure => simp [intOf]; omega
    · have HE : Hid (cksE l = 0) := by
        unfold Hid cksE; have := HA.out; rw [List.take_of_length_le (by omega)] at this; rw [if_pos this]
      go_wp2_with fail
      go_ret
      exact ⟨retI' HE.out.symm, HB.out⟩
end Go.Proofs.Ythgnhdfppmoooaa.Re
/- Contracts of rect.Meet and rect.Inside. -/
namespace Go.Proofs.Ythgnhdfppmoooaa.Re
open Go.RowKit AM
/-- Two ranges have addresses in common. -/
def mtB (a1 a2 a3 a4 b1 b2 b3 b4 : Int) : Bool := !emB (max a1 b1) (max a2 b2) (min a3 b3) (min a4 b4) && (ckB a1 a2 a3 a4 && ckB b1 b2 b3 b4)
def bv (b : Bool) (x : Int) : Int := if b = true then x else 0
theorem bv_t (x : Int) : bv true x = x := rfl
theorem bv_f (x : Int) : bv false x = 0 := rfl
theorem cks_two (a1 a2 a3 a4 b1 b2 b3 b4 : Int) : cksE [⟨a1, a2, a3, a4⟩, ⟨b1, b2, b3, b4⟩] = if (ckB a1 a2 a3 a4 && ckB b1 b2 b3 b4) = true then 0 else 3 := by
  unfold cksE; simp only [List.all_cons, List.all_nil, Bool.and_true]; rfl
theorem RRow.two (w : World) (a1 a2 a3 a4 b1 b2 b3 b4 : Int) (t : TypeId) : RRow (w.alloc (.cells #[.int .i64 a1, .int .i64 a2, .int .i64 a3, .int .i64 a4, .int .i64 b1, .int .i64 b2, .int .i64 b3, .int .i64 b4] t)) w.heap.size 0 [⟨a1, a2, a3, a4⟩, ⟨b1, b2, b3, b4⟩] := by
  refine ⟨by simp, fun k hk => ?_⟩
  match k, hk with
  | 0, _ => exact ⟨by simp, by simp, by simp, by simp⟩
  | 1, _ => exact ⟨by simp, by simp, by simp, by simp⟩
theorem alloc_size (w : World) (o : Obj) : (w.alloc o).heap.size = w.heap.size + 1 := by simp
/-- Block p may be written. -/
def Open' (w : World) (p : Nat) : Prop := p < w.heap.size ∧ ∀ o, w.frozen? ⟨p, o, none⟩ = false
theorem Open'.later {w w' : World} {p : Nat} (h : Open' w p) (hB : Below w.heap.size w w') : Open' w' p := by
  obtain ⟨h0, h1⟩ := h
  obtain ⟨_, hf⟩ := bcell hB
  have hz := hB.size
  exact ⟨by omega, fun o => by rw [hf _ _ h0]; exact h1 o⟩
theorem Open'.start (w : World) (c : Array Value) (t : TypeId) : Open' (w.alloc (.cells c t)) w.heap.size := ⟨by simp, fun o => by simp⟩
theorem four_blocks (w : World) (a1 a2 a3 a4 b1 b2 b3 b4 z1 z2 z3 z4 m1 m2 m3 m4 : Int) (t : TypeId) :
    let W := (((w.alloc (.cells #[.int .i64 a1, .int .i64 a2, .int .i64 a3, .int .i64 a4] t)).alloc (.cells #[.int .i64 b1, .int .i64 b2, .int .i64 b3, .int .i64 b4] t)).alloc (.cells #[.int .i64 z1, .int .i64 z2, .int .i64 z3, .int .i64 z4] t)).alloc (.cells #[.int .i64 m1, .int .i64 m2, .int .i64 m3, .int .i64 m4] t)
    Four W w.heap.size a1 a2 a3 a4 ∧ Four W (w.heap.size + 1) b1 b2 b3 b4 ∧ Four W (w.heap.size + 1 + 1) z1 z2 z3 z4 ∧ Four W (w.heap.size + 1 + 1 + 1) m1 m2 m3 m4 ∧ Open' W (w.heap.size + 1 + 1) ∧ Below w.heap.size w W := by
  dsimp only
  have f1 := Four.start w a1 a2 a3 a4 t
  have l1 := below_alloc w (.cells #[.int .i64 a1, .int .i64 a2, .int .i64 a3, .int .i64 a4] t)
  have s1 := alloc_size w (.cells #[.int .i64 a1, .int .i64 a2, .int .i64 a3, .int .i64 a4] t)
  generalize w.alloc (.cells #[.int .i64 a1, .int .i64 a2, .int .i64 a3, .int .i64 a4] t) = W1 at *
  have f2 := Four.start W1 b1 b2 b3 b4 t
  have l2 := below_alloc W1 (.cells #[.int .i64 b1, .int .i64 b2, .int .i64 b3, .int .i64 b4] t)
  have s2 := alloc_size W1 (.cells #[.int .i64 b1, .int .i64 b2, .int .i64 b3, .int .i64 b4] t)
  generalize W1.alloc (.cells #[.int .i64 b1, .int .i64 b2, .int .i64 b3, .int .i64 b4] t) = W2 at *
  have f3 := Four.start W2 z1 z2 z3 z4 t
  have o3 := Open'.start W2 #[.int .i64 z1, .int .i64 z2, .int .i64 z3, .int .i64 z4] t
  have l3 := below_alloc W2 (.cells #[.int .i64 z1, .int .i64 z2, .int .i64 z3, .int .i64 z4] t)
  have s3 := alloc_size W2 (.cells #[.int .i64 z1, .int .i64 z2, .int .i64 z3, .int .i64 z4] t)
  generalize W2.alloc (.cells #[.int .i64 z1, .int .i64 z2, .int .i64 z3, .int .i64 z4] t) = W3 at *
  have f4 := Four.start W3 m1 m2 m3 m4 t
  have l4 := below_alloc W3 (.cells #[.int .i64 m1, .int .i64 m2, .int .i64 m3, .int .i64 m4] t)
  rw [s1] at f2
  rw [s2, s1] at f3 o3
  rw [s3, s2, s1] at f4
  exact ⟨((f1.later l2).later l3).later l4, (f2.later l3).later l4, f3.later l4, f4, o3.later l4, Below.next (Below.next (Below.next l1 l2) l3) l4⟩
theorem retM {x1 x2 x3 x4 y1 y2 y3 y4 : Int} {b b' : Bool} (h1 : x1 = y1) (h2 : x2 = y2) (h3 : x3 = y3) (h4 : x4 = y4) (h : b = b') :
    Ending.returned (.tuple #[.agg #[.int .i64 x1, .int .i64 x2, .int .i64 x3, .int .i64 x4], .bool b]) = .returned (.tuple #[.agg #[.int .i64 y1, .int .i64 y2, .int .i64 y3, .int .i64 y4], .bool b']) := by rw [h1, h2, h3, h4, h]
set_option maxHeartbeats 1600000 in
theorem rmeet_any (a1 a2 a3 a4 b1 b2 b3 b4 : Int) (w : World) :
    Calls Try.prog 24 #[.agg #[.int .i64 a1, .int .i64 a2, .int .i64 a3, .int .i64 a4], .agg #[.int .i64 b1, .int .i64 b2, .int .i64 b3, .int .i64 b4]] w fun e w' =>
      e = .returned (.tuple #[.agg #[.int .i64 (bv (mtB a1 a2 a3 a4 b1 b2 b3 b4) (max a1 b1)), .int .i64 (bv (mtB a1 a2 a3 a4 b1 b2 b3 b4) (max a2 b2)), .int .i64 (bv (mtB a1 a2 a3 a4 b1 b2 b3 b4) (min a3 b3)), .int .i64 (bv (mtB a1 a2 a3 a4 b1 b2 b3 b4) (min a4 b4))], .bool (mtB a1 a2 a3 a4 b1 b2 b3 b4)]) ∧ Below w.heap.size w w' := by
  have HM : Hid (mtB a1 a2 a3 a4 b1 b2 b3 b4 = (!emB (max a1 b1) (max a2 b2) (min a3 b3) (min a4 b4) && (ckB a1 a2 a3 a4 && ckB b1 b2 b3 b4))) := rfl
  generalize mtB a1 a2 a3 a4 b1 b2 b3 b4 = mt at *
  go_enter Try.func24, Try.ntmps24
  go_wp2_with fail
  generalize hm1 : max a1 b1 = m1 at *
  have E1 := Lib.hid hm1
  clear hm1
  generalize hm2 : max a2 b2 = m2 at *
  have E2 := Lib.hid hm2
  clear hm2
  generalize hm3 : min a3 b3 = m3 at *
  have E3 := Lib.hid hm3
  clear hm3
  generalize hm4 : min a4 b4 = m4 at *
  have E4 := Lib.hid hm4
  clear hm4
  refine (rempty_any _ _ _ _ _).mono ?_
  rintro e w1 ⟨rfl, hB1⟩
  have hF := four_blocks w a1 a2 a3 a4 b1 b2 b3 b4 0 0 0 0 m1 m2 m3 m4 23
  dsimp only at hF
  obtain ⟨fa, fb, fz, fm, fo, fB⟩ := hF
  have FA := Lib.hid (fa.later hB1)
  have FB := Lib.hid (fb.later hB1)
  have FZ := Lib.hid (fz.later hB1)
  have FM := Lib.hid (fm.later hB1)
  have FO := Lib.hid (fo.later hB1)
  have B1 := Lib.hid (Below.next fB hB1)
  clear fa fb fz fm fo fB hB1
  obtain ⟨_, z1, z2, z3, z4⟩ := FZ.out
  have zo := FO.out.2
  cases he : emB m1 m2 m3 m4
  · obtain ⟨_, p1, p2, p3, p4⟩ := FA.out
    obtain ⟨_, q1, q2, q3, q4⟩ := FB.out
    have HE := Lib.hid he
    clear he
    go_wp2_with fail
    refine (rchecks_any w1.heap.size 0 2 [⟨a1, a2, a3, a4⟩, ⟨b1, b2, b3, b4⟩] (by simp) _ (RRow.two w1 a1 a2 a3 a4 b1 b2 b3 b4 _)).mono ?_
    rintro e w2 ⟨rfl, hB2⟩
    have hz1 := below_alloc w1 (.cells #[.int .i64 a1, .int .i64 a2, .int .i64 a3, .int .i64 a4, .int .i64 b1, .int .i64 b2, .int .i64 b3, .int .i64 b4] 23)
    have FZ2 := Lib.hid ((FZ.out.later hz1).later hB2)
    have FM2 := Lib.hid ((FM.out.later hz1).later hB2)
    have FO2 := Lib.hid ((FO.out.later hz1).later hB2)
    have B2 := Lib.hid (Below.next (Below.next B1.out hz1) hB2)
    clear p1 p2 p3 p4 q1 q2 q3 q4 z1 z2 z3 z4 zo hz1 hB2
    obtain ⟨hzl, z1, z2, z3, z4⟩ := FZ2.out
    obtain ⟨_, n1, n2, n3, n4⟩ := FM2.out
    have zo := FO2.out.2
    rw [cks_two]
    cases hc : (ckB a1 a2 a3 a4 && ckB b1 b2 b3 b4)
    · have hmt : Hid (mt = false) := by unfold Hid; rw [HM.out, HE.out, hc]; rfl
      simp only [Bool.false_eq_true, if_false]
      go_wp2_with fail
      exact bodyPost_ret (v := .tuple #[.agg #[.int .i64 0, .int .i64 0, .int .i64 0, .int .i64 0], .bool false]) (by simp [results, Try.results24, go_sem, z1, z2, z3, z4]) rfl
        ⟨retM (by rw [hmt.out]; rfl) (by rw [hmt.out]; rfl) (by rw [hmt.out]; rfl) (by rw [hmt.out]; rfl) hmt.out.symm, (((B2.out.setCell (by simp; omega) _).setCell (by simp; omega) _).setCell (by simp; omega) _).setCell (by simp; omega) _⟩
    · have hmt : Hid (mt = true) := by unfold Hid; rw [HM.out, HE.out, hc]; rfl
      simp only [if_true]
      go_wp2_with fail
      exact bodyPost_ret (v := .tuple #[.agg #[.int .i64 m1, .int .i64 m2, .int .i64 m3, .int .i64 m4], .bool true]) (by simp [results, Try.results24, go_sem, z1, z2, z3, z4]) rfl
        ⟨retM (by rw [hmt.out, E1.out]; rfl) (by rw [hmt.out, E2.out]; rfl) (by rw [hmt.out, E3.out]; rfl) (by rw [hmt.out, E4.out]; rfl) hmt.out.symm, (((B2.out.setCell (by simp; omega) _).setCell (by simp; omega) _).setCell (by simp; omega) _).setCell (by simp; omega) _⟩
  · have hmt : Hid (mt = false) := by unfold Hid; rw [HM.out, he]; rfl
    clear he
    go_wp2_with fail
    exact bodyPost_ret (v := .tuple #[.agg #[.int .i64 0, .int .i64 0, .int .i64 0, .int .i64 0], .bool false]) (by simp [results, Try.results24, go_sem, z1, z2, z3, z4]) rfl
      ⟨retM (by rw [hmt.out]; rfl) (by rw [hmt.out]; rfl) (by rw [hmt.out]; rfl) (by rw [hmt.out]; rfl) hmt.out.symm, (((B1.out.setCell (by simp; omega) _).setCell (by simp; omega) _).setCell (by simp; omega) _).setCell (by simp; omega) _⟩
/-! Inside -/
def insB (a1 a2 a3 a4 b1 b2 b3 b4 : Int) : Bool := mtB a1 a2 a3 a4 b1 b2 b3 b4 && (max a1 b1 == a1 && (max a2 b2 == a2 && (min a3 b3 == a3 && min a4 b4 == a4)))
end Go.Proofs.Ythgnhdfppmoooaa.Re
/- Contracts of the specification's small functions of addresses. -/
namespace Go.Proofs.Ythgnhdfppmoooaa.Re
open Go.RowKit AM
end Go.Proofs.Ythgnhdfppmoooaa.Re
/- Contracts of the specification's functions of ranges. -/
namespace Go.Proofs.Ythgnhdfppmoooaa.Re
open Go.RowKit AM
/-- What two valid ranges have in common is valid unless it is empty. -/
theorem mtB_eq (a1 a2 a3 a4 b1 b2 b3 b4 : Int) : mtB a1 a2 a3 a4 b1 b2 b3 b4 = (ckB a1 a2 a3 a4 && (ckB b1 b2 b3 b4 && ckB (max a1 b1) (max a2 b2) (min a3 b3) (min a4 b4))) := by
  unfold mtB
  rw [Bool.eq_iff_iff, Bool.and_eq_true, Bool.and_eq_true, Bool.and_eq_true, Bool.and_eq_true, ckB_iff, ckB_iff, ckB_iff, Bool.not_eq_true']
  unfold emB
  rw [decide_eq_false_iff_not]
  omega
theorem insB_eq (a1 a2 a3 a4 b1 b2 b3 b4 : Int) : insB a1 a2 a3 a4 b1 b2 b3 b4 = (ckB a1 a2 a3 a4 && (ckB b1 b2 b3 b4 && (rhB b1 b2 b3 b4 a1 a2 && rhB b1 b2 b3 b4 a3 a4))) := by
  unfold insB rhB
  rw [mtB_eq, Bool.eq_iff_iff]
  simp only [Bool.and_eq_true, ckB_iff, decide_eq_true_eq, beq_iff_eq]
  omega
end Go.Proofs.Ythgnhdfppmoooaa.Re
/- The contract of the specification's Meet. -/
namespace Go.Proofs.Ythgnhdfppmoooaa.Re
open Go.RowKit AM
theorem eight_keep {w W w' : World} {a1 a2 a3 a4 b1 b2 b3 b4 : Int} (h : w.heap.size + 1 < W.heap.size ∧ Below w.heap.size w W ∧
      W.cell? ⟨w.heap.size, 0, none⟩ = some (.int .i64 a1) ∧ W.cell? ⟨w.heap.size, 1, none⟩ = some (.int .i64 a2) ∧ W.cell? ⟨w.heap.size, 2, none⟩ = some (.int .i64 a3) ∧ W.cell? ⟨w.heap.size, 3, none⟩ = some (.int .i64 a4) ∧
      W.cell? ⟨w.heap.size + 1, 0, none⟩ = some (.int .i64 b1) ∧ W.cell? ⟨w.heap.size + 1, 1, none⟩ = some (.int .i64 b2) ∧ W.cell? ⟨w.heap.size + 1, 2, none⟩ = some (.int .i64 b3) ∧ W.cell? ⟨w.heap.size + 1, 3, none⟩ = some (.int .i64 b4))
    (hB : Below W.heap.size W w') : w.heap.size + 1 < w'.heap.size ∧ Below w.heap.size w w' ∧
      w'.cell? ⟨w.heap.size, 0, none⟩ = some (.int .i64 a1) ∧ w'.cell? ⟨w.heap.size, 1, none⟩ = some (.int .i64 a2) ∧ w'.cell? ⟨w.heap.size, 2, none⟩ = some (.int .i64 a3) ∧ w'.cell? ⟨w.heap.size, 3, none⟩ = some (.int .i64 a4) ∧
      w'.cell? ⟨w.heap.size + 1, 0, none⟩ = some (.int .i64 b1) ∧ w'.cell? ⟨w.heap.size + 1, 1, none⟩ = some (.int .i64 b2) ∧ w'.cell? ⟨w.heap.size + 1, 2, none⟩ = some (.int .i64 b3) ∧ w'.cell? ⟨w.heap.size + 1, 3, none⟩ = some (.int .i64 b4) := by
  obtain ⟨h0, h1, h2, h3, h4, h5, h6, h7, h8, h9⟩ := h
  obtain ⟨hc, _⟩ := bcell hB
  have hz := hB.size
  refine ⟨by omega, h1.trans (hB.mono (by omega)), ?_, ?_, ?_, ?_, ?_, ?_, ?_, ?_⟩
  all_goals (rw [hc _ _ (by omega)]; assumption)
def Eight (w W : World) (a1 a2 a3 a4 b1 b2 b3 b4 : Int) : Prop := w.heap.size + 1 < W.heap.size ∧ Below w.heap.size w W ∧
      W.cell? ⟨w.heap.size, 0, none⟩ = some (.int .i64 a1) ∧ W.cell? ⟨w.heap.size, 1, none⟩ = some (.int .i64 a2) ∧ W.cell? ⟨w.heap.size, 2, none⟩ = some (.int .i64 a3) ∧ W.cell? ⟨w.heap.size, 3, none⟩ = some (.int .i64 a4) ∧
      W.cell? ⟨w.heap.size + 1, 0, none⟩ = some (.int .i64 b1) ∧ W.cell? ⟨w.heap.size + 1, 1, none⟩ = some (.int .i64 b2) ∧ W.cell? ⟨w.heap.size + 1, 2, none⟩ = some (.int .i64 b3) ∧ W.cell? ⟨w.heap.size + 1, 3, none⟩ = some (.int .i64 b4)
theorem Eight.keep {w W V w' : World} {a1 a2 a3 a4 b1 b2 b3 b4 : Int} (h : Eight w W a1 a2 a3 a4 b1 b2 b3 b4) (hB : Below V.heap.size V w') (hV : V.heap = W.heap ∧ V.os = W.os ∧ V.tape = W.tape ∧ V.output = W.output := by exact ⟨rfl, rfl, rfl, rfl⟩) : Eight w w' a1 a2 a3 a4 b1 b2 b3 b4 := by
  obtain ⟨e1, e2, e3, e4⟩ := hV
  have hB' : Below W.heap.size W w' := ⟨hB.os.trans e2, hB.tape.trans e3, hB.output.trans e4, by rw [← e1]; exact hB.size, fun k hk => by rw [← e1] at hk ⊢; exact hB.block k hk⟩
  exact eight_keep h hB'
end Go.Proofs.Ythgnhdfppmoooaa.Re
/- Lists of ranges that a call makes; the contracts of present and EqualRects. -/
namespace Go.Proofs.Ythgnhdfppmoooaa.Re
open Go.RowKit AM
theorem infoRect : (Try.prog.info? 23).map (fun i => (i.zero, i.size, i.bytes)) = some (some (.agg #[.int .i64 0, .int .i64 0, .int .i64 0, .int .i64 0]), 4, 32) := by kernel_rfl
def cells4 (r : R4) : List Value := [.int .i64 r.c1, .int .i64 r.r1, .int .i64 r.c2, .int .i64 r.r2]
def cellsR (l : List R4) : List Value := l.flatMap cells4
theorem cellsR_length (l : List R4) : (cellsR l).length = l.length * 4 := by
  induction l with
  | nil => rfl
  | cons x l ih => unfold cellsR at *; rw [List.flatMap_cons, List.length_append, ih]; simp [cells4]; omega
theorem cellsR_snoc (l : List R4) (r : R4) : cellsR l ++ cells4 r = cellsR (l ++ [r]) := by
  unfold cellsR; rw [List.flatMap_append]; simp
theorem cellsR_at : ∀ (l : List R4) (i : Nat) (h : i < l.length), (cellsR l)[i * 4]? = some (.int .i64 l[i].c1) ∧ (cellsR l)[i * 4 + 1]? = some (.int .i64 l[i].r1) ∧ (cellsR l)[i * 4 + 2]? = some (.int .i64 l[i].c2) ∧ (cellsR l)[i * 4 + 3]? = some (.int .i64 l[i].r2) := by
  intro l
  induction l with
  | nil => intro i h; cases h
  | cons x l ih =>
    intro i h
    have e : cellsR (x :: l) = .int .i64 x.c1 :: .int .i64 x.r1 :: .int .i64 x.c2 :: .int .i64 x.r2 :: cellsR l := rfl
    rw [e]
    cases i with
    | zero => exact ⟨rfl, rfl, rfl, rfl⟩
    | succ i =>
      have := ih i (by simpa using h)
      rw [show (i + 1) * 4 = i * 4 + 1 + 1 + 1 + 1 by omega]
      simpa using this
/-- A list of ranges of the call's own. -/
def OwnR (B : Nat) (w : World) (v : Value) (l : List R4) : Prop := w.ownsRow B 23 4 v l.length (cellsR l)
theorem OwnR.nil (B : Nat) (w : World) : OwnR B w (.slice none 0 0) [] := World.ownsRow_nil _ _ _ _
theorem OwnR.alloc {B : Nat} {w : World} {v : Value} {l : List R4} (h : OwnR B w v l) (o : Obj) : OwnR B (w.alloc o) v l := World.ownsRow.alloc h o
theorem OwnR.later {w w1 : World} {v : Value} {l : List R4} {B : Nat} (h : OwnR B w v l) (hb : Below w.heap.size w w1) : OwnR B w1 v l := by
  obtain ⟨h1, h2⟩ := h
  refine ⟨h1, ?_⟩
  rcases h2 with h2 | ⟨g, cap, cur, rfl, hg, hh, hrest⟩
  · exact .inl h2
  · refine .inr ⟨g, cap, cur, rfl, hg, ?_, hrest⟩
    rw [hb.block g (Array.getElem?_eq_some_iff.1 hh).1]; exact hh
theorem OwnR.one {B : Nat} (w : World) (hB : B ≤ w.heap.size) (a b c d : Int) : OwnR B (w.alloc (.cells #[.int .i64 a, .int .i64 b, .int .i64 c, .int .i64 d] 23)) (.slice (some ⟨w.heap.size, 0, none⟩) 1 1) [⟨a, b, c, d⟩] :=
  ⟨rfl, .inr ⟨w.heap.size, 1, #[.int .i64 a, .int .i64 b, .int .i64 c, .int .i64 d], rfl, hB, heap_alloc_new w _, Nat.le_refl _, by decide, rfl, rfl⟩⟩
/-- A slice that reads as a list of ranges. -/
def IsR (w : World) (a : Option Addr) (n : Nat) (l : List R4) : Prop := l.length = n ∧ (0 < n → ∃ b off, a = some ⟨b, off, none⟩ ∧ RRow w b off l)
theorem IsR.later {w w' : World} {a : Option Addr} {n : Nat} {l : List R4} (h : IsR w a n l) (hB : Below w.heap.size w w') : IsR w' a n l :=
  ⟨h.1, fun h0 => by obtain ⟨b, off, hb, hr⟩ := h.2 h0; exact ⟨b, off, hb, hr.later hB⟩⟩
theorem OwnR.isR {B : Nat} {w : World} {v : Value} {l : List R4} (h : OwnR B w v l) : ∃ a cap, v = .slice a l.length cap ∧ IsR w a l.length l := by
  have h' := h
  rcases h.2 with ⟨rfl, h0⟩ | ⟨g, cap, cur, rfl, _, hh, hc, _⟩
  · exact ⟨none, 0, by rw [h0], rfl, fun h => by omega⟩
  · refine ⟨_, cap, rfl, rfl, fun _ => ⟨g, 0, rfl, (Array.getElem?_eq_some_iff.1 hh).1, fun i hi => ?_⟩⟩
    have h3 := cellsR_at l i hi
    have key : ∀ j, j < l.length * 4 → w.cell? ⟨g, j, none⟩ = (cellsR l)[j]? := fun j hj => World.ownsRow.cellAt h' j hj
    refine ⟨?_, ?_, ?_, ?_⟩
    · rw [Nat.zero_add, key _ (by omega)]; exact h3.1
    · rw [Nat.zero_add, key _ (by omega)]; exact h3.2.1
    · rw [Nat.zero_add, key _ (by omega)]; exact h3.2.2.1
    · rw [Nat.zero_add, key _ (by omega)]; exact h3.2.2.2
theorem wpList_appR {ops : Array Oper} {rest : List Oper} {o : Oper} {a : Act} {w : World} {Q : Exit → Act → World → Prop} (hgd : o.guard = none) (s x : Operand)
    (ho : o.op = .call { callee := .builtin .append, args := #[s, x], argTypes := #[27, 27] }) (B : Nat) (v : Value) (l : List R4) (hs : a.eval s = v) (hown : OwnR B w v l)
    (g : Nat) (r : R4) (hx : a.eval x = .slice (some ⟨g, 0, none⟩) 1 1) (hc : w.cell? ⟨g, 0, none⟩ = some (.int .i64 r.c1) ∧ w.cell? ⟨g, 1, none⟩ = some (.int .i64 r.r1) ∧ w.cell? ⟨g, 2, none⟩ = some (.int .i64 r.c2) ∧ w.cell? ⟨g, 3, none⟩ = some (.int .i64 r.r2)) (hl : l.length ≤ 1000000) (hB : B ≤ w.heap.size)
    (h : ∀ v' w', OwnR B w' v' (l ++ [r]) → Below B w w' → wpList Try.prog ops Q rest (a.put o.dst v') w') : wpList Try.prog ops Q (o :: rest) a w := by
  obtain ⟨i0, hi, hz0, hz1, hz2⟩ := info_parts infoRect
  refine wpList_append_own w hgd s x 27 ho B 23 i0 (.agg #[.int .i64 0, .int .i64 0, .int .i64 0, .int .i64 0]) 4 32 Try.underlying27 hi hz0 hz1 hz2 rfl (by decide) v l.length (cellsR l) hs hown ⟨g, 0, none⟩ 1 1 (cells4 r) hx rfl ?_ ?_ ?_ ?_ hB ?_
  · intro j u hj
    obtain ⟨c0, c1, c2, c3⟩ := hc
    match j, hj with
    | 0, hj => simp [cells4] at hj; subst hj; exact c0
    | 1, hj => simp [cells4] at hj; subst hj; exact c1
    | 2, hj => simp [cells4] at hj; subst hj; exact c2
    | 3, hj => simp [cells4] at hj; subst hj; exact c3
  · intro u hu; simp [cells4] at hu; rcases hu with rfl | rfl | rfl | rfl <;> rfl
  · unfold maxLen; omega
  · omega
  · intro v' w' ho' hg _
    refine h v' w' ?_ ((Below.refl _ _).grown hg hB (fun k hk => (World.ownsRow.lt hown k hk).1))
    unfold OwnR
    rw [List.length_append, ← cellsR_snoc]; exact ho'
def R4.em (r : R4) : Bool := emB r.c1 r.r1 r.c2 r.r2
/-- Those that are not empty. -/
def some4 (l : List R4) : List R4 := l.filter fun r => !r.em
theorem some4_snoc (l : List R4) (k : Nat) (h : k < l.length) : some4 (l.take (k + 1)) = some4 (l.take k) ++ (if l[k].em then [] else [l[k]]) := by
  unfold some4
  rw [List.take_succ_eq_append_getElem h, List.filter_append]
  cases hb : l[k].em <;> simp [hb]
theorem some4_len (l : List R4) : (some4 l).length ≤ l.length := List.length_filter_le _ _
set_option maxHeartbeats 1600000 in
theorem present_any (b off cap : Nat) (l : List R4) (hl : l.length ≤ 1000) (w : World) (hr : RRow w b off l) :
    Calls Try.prog 40 #[.slice (some ⟨b, off, none⟩) l.length cap] w fun e w' => (∃ v, e = .returned v ∧ OwnR w.heap.size w' v (some4 l)) ∧ Below w.heap.size w w' := by
  have HR := Lib.hid hr
  clear hr
  go_enter Try.func40, Try.ntmps40
  go_wp2_with fail
  go_loopw [3, 8] (fun v i wr => ∃ k : Nat, k ≤ l.length ∧ i = .int .i64 k ∧ OwnR w.heap.size wr v (some4 (l.take k)) ∧ Below w.heap.size w wr) (fun _ i _ => l.length - (intOf i).toNat)
  case atStart => exact ⟨0, Nat.zero_le _, rfl, OwnR.nil _ _, Below.refl _ _⟩
  case round =>
    obtain ⟨k, hk, rfl, ho, hB⟩ := hrel
    have HO := Lib.hid ho
    have HB := Lib.hid hB
    clear ho hB
    have HL := Lib.hid (some4_len (l.take k))
    have HL2 : Hid ((some4 (l.take k)).length ≤ 1000000) := by have := HL.out; simp at this; unfold Hid; omega
    by_cases hlt : k < l.length
    · obtain ⟨c1, c2, c3, c4⟩ := (HR.out.later HB.out).2 k hlt
      have HZ := Lib.hid HB.out.size
      have HS := Lib.hid (some4_snoc l k hlt)
      unfold R4.em at HS
      generalize l[k] = r at *
      obtain ⟨x1, x2, x3, x4⟩ := r
      dsimp only at *
      go_wp2_with fail
      refine (rempty_any x1 x2 x3 x4 _).mono ?_
      rintro e w1 ⟨rfl, hB1⟩
      have HF : Hid (Four w1 wr.heap.size x1 x2 x3 x4) := (Four.start wr x1 x2 x3 x4 _).later hB1
      have HO1 := Lib.hid ((HO.out.alloc (.cells #[.int .i64 x1, .int .i64 x2, .int .i64 x3, .int .i64 x4] 23)).later hB1)
      have HB1 := Lib.hid (Below.next (HB.out.alloc HZ.out _) hB1)
      have hz1 := HB1.out.size
      clear hB1
      obtain ⟨_, f1, f2, f3, f4⟩ := HF.out
      cases hc : emB x1 x2 x3 x4
      · have HE : Hid (some4 (l.take (k + 1)) = some4 (l.take k) ++ [⟨x1, x2, x3, x4⟩]) := by unfold Hid; rw [HS.out, hc]; rfl
        clear hc
        go_wp2_with (at_builtin; refine wpList_appR rfl (.tmp 15) _ rfl w.heap.size _ _ rfl (HO1.out.alloc _) w1.heap.size ⟨x1, x2, x3, x4⟩ rfl ⟨by simp, by simp, by simp, by simp⟩ HL2.out (by simp; omega) ?_)
        intro v' w2 ho' hb'
        have HO2 := Lib.hid ho'
        have HB2 := Lib.hid ((HB1.out.alloc hz1 _).trans hb')
        clear ho' hb'
        go_wp2_with fail
        go_roundw
        case rel => exact ⟨k + 1, by omega, by go_num, by rw [HE.out]; exact HO2.out, HB2.out⟩
        case measure => simp [intOf]; omega
      · have HE : Hid (some4 (l.take (k + 1)) = some4 (l.take k)) := by unfold Hid; rw [HS.out, hc]; simp
        clear hc
        go_wp2_with fail
        go_roundw
        case rel => exact ⟨k + 1, by omega, by go_num, by rw [HE.out]; exact HO1.out, HB1.out⟩
        case measure => simp [intOf]; omega
    · have HT : Hid (l.take k = l) := List.take_of_length_le (by omega)
      rw [HT.out] at HO
      go_wp2_with fail
      go_ret
      exact ⟨⟨_, rfl, HO.out⟩, HB.out⟩
end Go.Proofs.Ythgnhdfppmoooaa.Re
/- The contract of rect.Minus. -/
namespace Go.Proofs.Ythgnhdfppmoooaa.Re
open Go.RowKit AM
def mt4 (a b : R4) : Bool := mtB a.c1 a.r1 a.c2 a.r2 b.c1 b.r1 b.c2 b.r2
/-- What is left of a behind b, where they meet. -/
def cut4 (a b : R4) : List R4 :=
  [⟨a.c1, a.r1, a.c2, max a.r1 b.r1 - 1⟩, ⟨a.c1, max a.r1 b.r1, max a.c1 b.c1 - 1, min a.r2 b.r2⟩, ⟨min a.c2 b.c2 + 1, max a.r1 b.r1, a.c2, min a.r2 b.r2⟩, ⟨a.c1, min a.r2 b.r2 + 1, a.c2, a.r2⟩]
def mnL (a b : R4) : List R4 := if (a.ck && b.ck) = true then (if mt4 a b = true then some4 (cut4 a b) else [a]) else []
def mnE (a b : R4) : Int := if (a.ck && b.ck) = true then 0 else 3
theorem mtB_ck {a1 a2 a3 a4 b1 b2 b3 b4 : Int} (h : mtB a1 a2 a3 a4 b1 b2 b3 b4 = true) : ckB a1 a2 a3 a4 = true ∧ ckB b1 b2 b3 b4 = true := by
  have : mtB a1 a2 a3 a4 b1 b2 b3 b4 = (!emB (max a1 b1) (max a2 b2) (min a3 b3) (min a4 b4) && (ckB a1 a2 a3 a4 && ckB b1 b2 b3 b4)) := rfl
  rw [this] at h
  simp only [Bool.and_eq_true] at h
  exact ⟨h.2.1, h.2.2⟩
theorem four4 (w : World) (x1 x2 x3 x4 y1 y2 y3 y4 z1 z2 z3 z4 u1 u2 u3 u4 : Int) (t : TypeId) :
    RRow (w.alloc (.cells #[.int .i64 x1, .int .i64 x2, .int .i64 x3, .int .i64 x4, .int .i64 y1, .int .i64 y2, .int .i64 y3, .int .i64 y4, .int .i64 z1, .int .i64 z2, .int .i64 z3, .int .i64 z4, .int .i64 u1, .int .i64 u2, .int .i64 u3, .int .i64 u4] t)) w.heap.size 0 [⟨x1, x2, x3, x4⟩, ⟨y1, y2, y3, y4⟩, ⟨z1, z2, z3, z4⟩, ⟨u1, u2, u3, u4⟩] := by
  refine ⟨by simp, fun k hk => ?_⟩
  match k, hk with
  | 0, _ => simp
  | 1, _ => simp
  | 2, _ => simp
  | 3, _ => simp
theorem three_blocks (w : World) (a1 a2 a3 a4 b1 b2 b3 b4 : Int) (t : TypeId) :
    let W := ((w.alloc (.cells #[.int .i64 a1, .int .i64 a2, .int .i64 a3, .int .i64 a4] t)).alloc (.cells #[.int .i64 b1, .int .i64 b2, .int .i64 b3, .int .i64 b4] t)).alloc (.cells #[.int .i64 a1, .int .i64 a2, .int .i64 a3, .int .i64 a4, .int .i64 b1, .int .i64 b2, .int .i64 b3, .int .i64 b4] t)
    Four W w.heap.size a1 a2 a3 a4 ∧ Four W (w.heap.size + 1) b1 b2 b3 b4 ∧ RRow W (w.heap.size + 1 + 1) 0 [⟨a1, a2, a3, a4⟩, ⟨b1, b2, b3, b4⟩] ∧ Below w.heap.size w W := by
  dsimp only
  have l1 := below_alloc w (.cells #[.int .i64 a1, .int .i64 a2, .int .i64 a3, .int .i64 a4] t)
  have l2 := below_alloc (w.alloc (.cells #[.int .i64 a1, .int .i64 a2, .int .i64 a3, .int .i64 a4] t)) (.cells #[.int .i64 b1, .int .i64 b2, .int .i64 b3, .int .i64 b4] t)
  have l3 := below_alloc ((w.alloc (.cells #[.int .i64 a1, .int .i64 a2, .int .i64 a3, .int .i64 a4] t)).alloc (.cells #[.int .i64 b1, .int .i64 b2, .int .i64 b3, .int .i64 b4] t)) (.cells #[.int .i64 a1, .int .i64 a2, .int .i64 a3, .int .i64 a4, .int .i64 b1, .int .i64 b2, .int .i64 b3, .int .i64 b4] t)
  have f1 := ((Four.start w a1 a2 a3 a4 t).later l2).later l3
  have f2 := (Four.start (w.alloc (.cells #[.int .i64 a1, .int .i64 a2, .int .i64 a3, .int .i64 a4] t)) b1 b2 b3 b4 t).later l3
  have r := RRow.two ((w.alloc (.cells #[.int .i64 a1, .int .i64 a2, .int .i64 a3, .int .i64 a4] t)).alloc (.cells #[.int .i64 b1, .int .i64 b2, .int .i64 b3, .int .i64 b4] t)) a1 a2 a3 a4 b1 b2 b3 b4 t
  rw [alloc_size] at f2
  rw [alloc_size, alloc_size] at r
  exact ⟨f1, f2, r, Below.next (Below.next l1 l2) l3⟩
theorem OwnR.lower {w : World} {B B' : Nat} {v : Value} {l : List R4} (h : OwnR B w v l) (hB : B' ≤ B) : OwnR B' w v l := by
  obtain ⟨h1, h2⟩ := h
  refine ⟨h1, ?_⟩
  rcases h2 with h2 | ⟨g, cap, cur, rfl, hg, hrest⟩
  · exact .inl h2
  · exact .inr ⟨g, cap, cur, rfl, by omega, hrest⟩
theorem ret2V {v : Value} {a b : Int} (h : a = b) : Ending.returned (.tuple #[v, .int .i64 a]) = .returned (.tuple #[v, .int .i64 b]) := by rw [h]
set_option maxRecDepth 100000 in
set_option maxHeartbeats 3200000 in
theorem minus_any (a1 a2 a3 a4 b1 b2 b3 b4 : Int) (w : World) :
    Calls Try.prog 25 #[.agg #[.int .i64 a1, .int .i64 a2, .int .i64 a3, .int .i64 a4], .agg #[.int .i64 b1, .int .i64 b2, .int .i64 b3, .int .i64 b4]] w fun e w' =>
      (∃ v, e = .returned (.tuple #[v, .int .i64 (mnE ⟨a1, a2, a3, a4⟩ ⟨b1, b2, b3, b4⟩)]) ∧ OwnR w.heap.size w' v (mnL ⟨a1, a2, a3, a4⟩ ⟨b1, b2, b3, b4⟩)) ∧ Below w.heap.size w w' := by
  have HE : Hid (mnE ⟨a1, a2, a3, a4⟩ ⟨b1, b2, b3, b4⟩ = if (ckB a1 a2 a3 a4 && ckB b1 b2 b3 b4) = true then 0 else 3) := rfl
  have HL : Hid (mnL ⟨a1, a2, a3, a4⟩ ⟨b1, b2, b3, b4⟩ = if (ckB a1 a2 a3 a4 && ckB b1 b2 b3 b4) = true then (if mtB a1 a2 a3 a4 b1 b2 b3 b4 = true then some4 (cut4 ⟨a1, a2, a3, a4⟩ ⟨b1, b2, b3, b4⟩) else [⟨a1, a2, a3, a4⟩]) else []) := rfl
  have HCT : Hid (cut4 ⟨a1, a2, a3, a4⟩ ⟨b1, b2, b3, b4⟩ = [⟨a1, a2, a3, max a2 b2 - 1⟩, ⟨a1, max a2 b2, max a1 b1 - 1, min a4 b4⟩, ⟨min a3 b3 + 1, max a2 b2, a3, min a4 b4⟩, ⟨a1, min a4 b4 + 1, a3, a4⟩]) := rfl
  generalize mnE ⟨a1, a2, a3, a4⟩ ⟨b1, b2, b3, b4⟩ = E at *
  generalize mnL ⟨a1, a2, a3, a4⟩ ⟨b1, b2, b3, b4⟩ = L at *
  go_enter Try.func25, Try.ntmps25
  go_wp2_with fail
  have hW := three_blocks w a1 a2 a3 a4 b1 b2 b3 b4 23
  dsimp only at hW
  generalize (((w.alloc (.cells #[.int .i64 a1, .int .i64 a2, .int .i64 a3, .int .i64 a4] 23)).alloc (.cells #[.int .i64 b1, .int .i64 b2, .int .i64 b3, .int .i64 b4] 23)).alloc (.cells #[.int .i64 a1, .int .i64 a2, .int .i64 a3, .int .i64 a4, .int .i64 b1, .int .i64 b2, .int .i64 b3, .int .i64 b4] 23)) = W0 at *
  obtain ⟨fa, fb, r0, b0⟩ := hW
  refine (rchecks_any (w.heap.size + 1 + 1) 0 2 [⟨a1, a2, a3, a4⟩, ⟨b1, b2, b3, b4⟩] (by simp) W0 r0).mono ?_
  rintro e w1 ⟨rfl, hB1⟩
  rw [cks_two]
  have FA := Lib.hid (fa.later hB1)
  have FB := Lib.hid (fb.later hB1)
  have HB1 := Lib.hid (Below.next b0 hB1)
  clear hB1 fa fb r0 b0
  cases hc : (ckB a1 a2 a3 a4 && ckB b1 b2 b3 b4)
  · have HC := Lib.hid hc
    clear hc
    simp only [Bool.false_eq_true, if_false]
    go_wp2_with fail
    go_ret2
    exact ⟨⟨_, ret2V (by rw [HE.out, HC.out]; rfl), by rw [HL.out, HC.out]; exact OwnR.nil _ _⟩, HB1.out⟩
  · have HC := Lib.hid hc
    clear hc
    simp only [if_true]
    obtain ⟨_, p1, p2, p3, p4⟩ := FA.out
    obtain ⟨_, q1, q2, q3, q4⟩ := FB.out
    go_wp2_with fail
    refine (rmeet_any a1 a2 a3 a4 b1 b2 b3 b4 _).mono ?_
    rintro e w2 ⟨rfl, hB2⟩
    clear p1 p2 p3 p4 q1 q2 q3 q4
    have FA2 := Lib.hid (FA.out.later hB2)
    have HB2 := Lib.hid (Below.next HB1.out hB2)
    clear hB2
    have hz2 := HB2.out.size
    cases hm : mtB a1 a2 a3 a4 b1 b2 b3 b4
    · have HM := Lib.hid hm
      clear hm
      simp only [bv_f]
      obtain ⟨_, p1, p2, p3, p4⟩ := FA2.out
      go_wp2_with fail
      go_ret2
      refine ⟨⟨_, ret2V (by rw [HE.out, HC.out]; rfl), ?_⟩, (HB2.out.alloc hz2 _).alloc (by simp; omega) _⟩
      rw [HL.out, HC.out, HM.out]
      have h1 := OwnR.one (B := w.heap.size) (w2.alloc (.cells #[.int .i64 0, .int .i64 0, .int .i64 0, .int .i64 0] 23)) (by simp; omega) a1 a2 a3 a4
      rw [alloc_size] at h1
      exact h1
    · have HM := Lib.hid hm
      obtain ⟨k1, k2⟩ := mtB_ck hm
      rw [ckB_iff] at k1 k2
      clear hm
      simp only [bv_t]
      have g1 : 1 ≤ max a1 b1 ∧ max a1 b1 ≤ 1024 := by omega
      have g2 : 1 ≤ max a2 b2 ∧ max a2 b2 ≤ 1024 := by omega
      have g3 : 1 ≤ min a3 b3 ∧ min a3 b3 ≤ 1024 := by omega
      have g4 : 1 ≤ min a4 b4 ∧ min a4 b4 ≤ 1024 := by omega
      generalize max a1 b1 = m1 at *
      generalize max a2 b2 = m2 at *
      generalize min a3 b3 = m3 at *
      generalize min a4 b4 = m4 at *
      obtain ⟨g1, g1'⟩ := g1
      obtain ⟨g2, g2'⟩ := g2
      obtain ⟨g3, g3'⟩ := g3
      obtain ⟨g4, g4'⟩ := g4
      obtain ⟨hzl, p1, p2, p3, p4⟩ := FA2.out
      clear k1 k2
      have hR := four4 (w2.alloc (.cells #[.int .i64 m1, .int .i64 m2, .int .i64 m3, .int .i64 m4] 23)) a1 a2 a3 (m2 - 1) a1 m2 (m1 - 1) m4 (m3 + 1) m2 a3 m4 a1 (m4 + 1) a3 a4 23
      rw [alloc_size] at hR
      have HR := Lib.hid hR
      clear hR
      go_wp2_with fail
      refine (present_any (w2.heap.size + 1) 0 4 [⟨a1, a2, a3, m2 - 1⟩, ⟨a1, m2, m1 - 1, m4⟩, ⟨m3 + 1, m2, a3, m4⟩, ⟨a1, m4 + 1, a3, a4⟩] (by simp) _ HR.out).mono ?_
      rintro e w3 ⟨⟨v, rfl, hO⟩, hB3⟩
      have HO := Lib.hid (hO.lower (B' := w.heap.size) (by simp; omega))
      have HB3 := Lib.hid (Below.next (Below.next (Below.next HB2.out (below_alloc _ _)) (below_alloc _ _)) hB3)
      clear hO hB3
      go_wp2_with fail
      go_ret2
      refine ⟨⟨_, ret2V (by rw [HE.out, HC.out]; rfl), ?_⟩, HB3.out⟩
      rw [HL.out, HC.out, HM.out, HCT.out]
      exact HO.out
end Go.Proofs.Ythgnhdfppmoooaa.Re
/- The contract of the specification's Minus. -/
namespace Go.Proofs.Ythgnhdfppmoooaa.Re
open Go.RowKit AM
theorem two_blocks (w : World) (a1 a2 a3 a4 b1 b2 b3 b4 : Int) (t : TypeId) :
    let W := (w.alloc (.cells #[.int .i64 a1, .int .i64 a2, .int .i64 a3, .int .i64 a4] t)).alloc (.cells #[.int .i64 b1, .int .i64 b2, .int .i64 b3, .int .i64 b4] t)
    Four W w.heap.size a1 a2 a3 a4 ∧ Four W (w.heap.size + 1) b1 b2 b3 b4 ∧ Below w.heap.size w W := by
  dsimp only
  have l1 := below_alloc w (.cells #[.int .i64 a1, .int .i64 a2, .int .i64 a3, .int .i64 a4] t)
  have l2 := below_alloc (w.alloc (.cells #[.int .i64 a1, .int .i64 a2, .int .i64 a3, .int .i64 a4] t)) (.cells #[.int .i64 b1, .int .i64 b2, .int .i64 b3, .int .i64 b4] t)
  have f1 := (Four.start w a1 a2 a3 a4 t).later l2
  have f2 := Four.start (w.alloc (.cells #[.int .i64 a1, .int .i64 a2, .int .i64 a3, .int .i64 a4] t)) b1 b2 b3 b4 t
  rw [alloc_size] at f2
  exact ⟨f1, f2, Below.next l1 l2⟩
theorem drewN_below {B : Nat} {a w : World} (h : Below B a w) (n : Nat) : Below B a (w.drewN n) := ⟨h.os, h.tape, h.output, h.size, h.block⟩
theorem OwnR.drewN {B : Nat} {w : World} {v : Value} {l : List R4} (h : OwnR B w v l) (n : Nat) : OwnR B (w.drewN n) v l := h
end Go.Proofs.Ythgnhdfppmoooaa.Re
