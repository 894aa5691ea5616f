/- Addresses as lists of bytes: what is read, the letters of a column, the digits of a row. Plain mathematics. -/
namespace Go.Proofs.YtelanmknimapoaaGreatDoor.Re.AM
def kd (c : Int) : Int := if 97 ≤ c ∧ c ≤ 122 then 1 else if 65 ≤ c ∧ c ≤ 90 then 1 else if 48 ≤ c ∧ c ≤ 57 then 2 else 0
def nm (c : Int) : Int := if 97 ≤ c ∧ c ≤ 122 then c - 96 else if 65 ≤ c ∧ c ≤ 90 then c - 64 else if 48 ≤ c ∧ c ≤ 57 then c - 48 else 0
theorem zb5 (c : Int) : (kd c = 1 ∧ 1 ≤ nm c ∧ nm c ≤ 26) ∨ (kd c = 2 ∧ 0 ≤ nm c ∧ nm c ≤ 9) ∨ (kd c = 0 ∧ nm c = 0) := by
 unfold kd nm; split
 · left; omega
 · split
   · left; omega
   · split
     · right; left; omega
     · right; right; omega
theorem zdt {P : List UInt8 → Prop} (h0 : P []) (h1 : ∀ l a, P l → P (l ++ [a])) (l : List UInt8) : P l := by
 have : ∀ r : List UInt8, P r.reverse := by
  intro r
  induction r with
  | nil => exact h0
  | cons a t ih => rw [List.reverse_cons]; exact h1 _ _ ih
 have h := this l.reverse
 rwa [List.reverse_reverse] at h
structure St where
 last : Int
 n1 : Int
 n2 : Int
 v1 : Int
 v2 : Int
def cut (x : Int) : Int := min x 1048576
theorem yd7 (x : Int) : (if 1048576 < x then 1048576 else x) = cut x := by unfold cut; split <;> omega
def step (s : St) (c : Int) : Option St :=
 if kd c < s.last ∨ (kd c = 2 ∧ nm c = 0 ∧ s.n2 = 0) then none
 else if kd c = 1 then some ⟨1, s.n1 + 1, s.n2, cut (s.v1 * 26 + nm c), s.v2⟩
 else some ⟨2, s.n1, s.n2 + 1, s.v1, cut (s.v2 * 10 + nm c)⟩
def s0 : St := ⟨1, 0, 0, 0, 0⟩
def rd (l : List UInt8) : Option St := l.foldl (fun o c => o.bind (step · (c.toNat : Int))) (some s0)
theorem zfg (l : List UInt8) (c : UInt8) : rd (l ++ [c]) = (rd l).bind (step · (c.toNat : Int)) := by
 unfold rd; rw [List.foldl_append]; rfl
theorem ych {l : List UInt8} {t t' : St} (c : UInt8) (h : rd l = some t) (e : step t (c.toNat : Int) = some t') : rd (l ++ [c]) = some t' := by
 rw [zfg, h]; exact e
theorem ycf {l : List UInt8} {t : St} (c : UInt8) (h : rd l = some t) (e : step t (c.toNat : Int) = none) : rd (l ++ [c]) = none := by
 rw [zfg, h]; exact e
theorem ycg (l m : List UInt8) (h : rd l = none) : rd (l ++ m) = none := by
 unfold rd at *; rw [List.foldl_append, h]
 clear h
 induction m with
 | nil => rfl
 | cons a t ih => exact ih
def Ok (n : Int) (s : St) : Prop := (s.last = 1 ∧ s.n2 = 0 ∧ s.v2 = 0 ∨ s.last = 2 ∧ 1 ≤ s.n2 ∧ 1 ≤ s.v2) ∧ 0 ≤ s.n1 ∧ 0 ≤ s.n2 ∧ s.n1 + s.n2 = n ∧ 0 ≤ s.v1 ∧ s.v1 ≤ 1048576 ∧ 0 ≤ s.v2 ∧ s.v2 ≤ 1048576 ∧ (s.n1 = 0 ∧ s.v1 = 0 ∨ 1 ≤ s.n1 ∧ 1 ≤ s.v1)
theorem Ok.step {n : Int} {s t : St} {c : Int} (h : Ok n s) (e : step s c = some t) : Ok (n + 1) t := by
 unfold AM.step cut at e
 unfold Ok at *
 obtain ⟨last, n1, n2, v1, v2⟩ := s
 have hk := zb5 c
 generalize kd c = k at *
 generalize nm c = m at *
 simp only at *
 split at e
 · simp at e
 · rename_i hn
   split at e
   · simp only [Option.some.injEq] at e; subst e; dsimp only; omega
   · rename_i h1
     simp only [Option.some.injEq] at e; subst e; dsimp only; omega
theorem yhq (l : List UInt8) : ∀ s, rd l = some s → Ok l.length s := by
 refine zdt (P := fun l => ∀ s, rd l = some s → Ok l.length s) ?_ ?_ l
 · intro s h; simp [rd] at h; subst h; simp [Ok, s0]
 · intro l c ih s h
   rw [zfg] at h
   cases hr : rd l with
   | none => rw [hr] at h; simp at h
   | some t => rw [hr] at h; simp only [Option.bind_some] at h; rw [List.length_append]; exact (ih t hr).step h
/-! The parts of an address -/
def AL (l : List UInt8) : Prop := ∀ c ∈ l, kd (c.toNat : Int) = 1
def AD (l : List UInt8) : Prop := ∀ c ∈ l, kd (c.toNat : Int) = 2
def v26 (M : Int) (l : List UInt8) : Int := l.foldl (fun v c => min (v * 26 + nm (c.toNat : Int)) M) 0
def v10 (M : Int) (l : List UInt8) : Int := l.foldl (fun v c => min (v * 10 + nm (c.toNat : Int)) M) 0
theorem zfv (M : Int) (l : List UInt8) (c : UInt8) : v26 M (l ++ [c]) = min (v26 M l * 26 + nm (c.toNat : Int)) M := by
 unfold v26; rw [List.foldl_append]; rfl
theorem zlu (M : Int) (l : List UInt8) (c : UInt8) : v10 M (l ++ [c]) = min (v10 M l * 10 + nm (c.toNat : Int)) M := by
 unfold v10; rw [List.foldl_append]; rfl
theorem AL.snoc {l : List UInt8} {c : UInt8} (h : AL (l ++ [c])) : AL l ∧ kd (c.toNat : Int) = 1 :=
 ⟨fun x hx => h x (by simp [hx]), h c (by simp)⟩
theorem AD.snoc {l : List UInt8} {c : UInt8} (h : AD (l ++ [c])) : AD l ∧ kd (c.toNat : Int) = 2 :=
 ⟨fun x hx => h x (by simp [hx]), h c (by simp)⟩
theorem AL.add {l : List UInt8} {c : UInt8} (h : AL l) (hc : kd (c.toNat : Int) = 1) : AL (l ++ [c]) := by
 intro x hx; simp at hx; rcases hx with hx | hx
 · exact h x hx
 · subst hx; exact hc
theorem AD.add {l : List UInt8} {c : UInt8} (h : AD l) (hc : kd (c.toNat : Int) = 2) : AD (l ++ [c]) := by
 intro x hx; simp at hx; rcases hx with hx | hx
 · exact h x hx
 · subst hx; exact hc
theorem zgy (a : List UInt8) : AL a → rd a = some ⟨1, a.length, 0, v26 1048576 a, 0⟩ := by
 refine zdt (P := fun a => AL a → rd a = some ⟨1, a.length, 0, v26 1048576 a, 0⟩) ?_ ?_ a
 · intro _; rfl
 · intro l c ih h
   obtain ⟨h1, h2⟩ := h.snoc
   rw [zfg, ih h1, zfv]
   simp [step, h2, cut]
def Lead (b : List UInt8) : Prop := ∃ c t, b = c :: t ∧ kd (c.toNat : Int) = 2 ∧ nm (c.toNat : Int) ≠ 0
theorem zi1 (a b : List UInt8) (ha : AL a) (hb : Lead b) : AD b → rd (a ++ b) = some ⟨2, a.length, b.length, v26 1048576 a, v10 1048576 b⟩ := by
 obtain ⟨c, t, rfl, hc, hn⟩ := hb
 refine zdt (P := fun t => AD (c :: t) → rd (a ++ c :: t) = some ⟨2, a.length, (c :: t).length, v26 1048576 a, v10 1048576 (c :: t)⟩) ?_ ?_ t
 · intro _
   rw [zfg, zgy a ha]
   simp [step, hc, hn, cut, v10]
 · intro l d ih h
   have h' : AD ((c :: l) ++ [d]) := by simpa using h
   obtain ⟨h1, h2⟩ := h'.snoc
   have e : a ++ c :: (l ++ [d]) = (a ++ c :: l) ++ [d] := by simp
   have e2 : c :: (l ++ [d]) = (c :: l) ++ [d] := by simp
   rw [e, zfg, ih h1, e2, zlu]
   have hz : ¬ ((c :: l).length : Int) = 0 := by simp; omega
   simp only [Option.bind_some, step, h2, cut]
   rw [if_neg (by rw [not_or]; refine ⟨by decide, ?_⟩; rintro ⟨_, _, h⟩; exact hz h), if_neg (by decide)]
   simp
theorem zq0 (l : List UInt8) : ∀ s, rd l = some s → ∃ a b, l = a ++ b ∧ AL a ∧ AD b ∧ (b = [] ∨ Lead b) := by
 refine zdt (P := fun l => ∀ s, rd l = some s → ∃ a b, l = a ++ b ∧ AL a ∧ AD b ∧ (b = [] ∨ Lead b)) ?_ ?_ l
 · intro s _; exact ⟨[], [], rfl, fun _ h => by simp at h, fun _ h => by simp at h, Or.inl rfl⟩
 · intro l c ih s h
   rw [zfg] at h
   cases hr : rd l with
   | none => rw [hr] at h; simp at h
   | some t =>
    rw [hr, Option.bind_some] at h
    obtain ⟨a, b, rfl, ha, hb, hl⟩ := ih t hr
    rcases hl with rfl | hl
    · rw [List.append_nil] at hr
      rw [zgy a ha, Option.some.injEq] at hr
      subst hr
      unfold step at h
      split at h
      · simp at h
      · rename_i hn
        split at h
        · rename_i h1
          exact ⟨a ++ [c], [], by simp, ha.add h1, hb, Or.inl rfl⟩
        · rename_i h1
          have hk := zb5 (c.toNat : Int)
          have h2 : kd (c.toNat : Int) = 2 := by dsimp only at hn; omega
          exact ⟨a, [c], by simp, ha, fun x hx => by simp at hx; subst hx; exact h2, Or.inr ⟨c, [], rfl, h2, fun h0 => hn (Or.inr ⟨h2, h0, rfl⟩)⟩⟩
    · rw [zi1 a b ha hl hb, Option.some.injEq] at hr
      subst hr
      unfold step at h
      split at h
      · simp at h
      · rename_i hn
        split at h
        · rename_i h1; dsimp only at hn; omega
        · rename_i h1
          have hk := zb5 (c.toNat : Int)
          have h2 : kd (c.toNat : Int) = 2 := by dsimp only at hn; omega
          obtain ⟨d, t, rfl, hd⟩ := hl
          exact ⟨a, d :: t ++ [c], by simp, ha, hb.add h2, Or.inr ⟨d, t ++ [c], rfl, hd⟩⟩
/-! What Parse and Column say -/
def okR (c r : Int) : Bool := decide (1 ≤ c ∧ c ≤ 1024 ∧ 1 ≤ r ∧ r ≤ 1024)
def PZ (l : List UInt8) : Int × Int × Int :=
 match rd l with
 | none => (0, 0, 4)
 | some s => if s.n1 = 0 ∨ s.n2 = 0 then (0, 0, 4) else if okR s.v1 s.v2 then (s.v1, s.v2, 0) else (0, 0, 3)
/-! The reference's bounds -/
theorem zue (M N : Int) (h0 : 0 ≤ M) (h : M ≤ N) (l : List UInt8) : v26 M l = min (v26 N l) M ∧ 0 ≤ v26 N l := by
 refine zdt (P := fun l => v26 M l = min (v26 N l) M ∧ 0 ≤ v26 N l) ?_ ?_ l
 · simp [v26]; omega
 · intro l c ih
   rw [zfv, zfv]
   have hk := zb5 (c.toNat : Int)
   omega
theorem ybv (M : Int) (hM : 1 ≤ M) (a : List UInt8) (ha : AL a) (h : a ≠ []) : 1 ≤ v26 M a := by
 revert ha h
 refine zdt (P := fun a => AL a → a ≠ [] → 1 ≤ v26 M a) ?_ ?_ a
 · intro _ h; exact absurd rfl h
 · intro l c _ ha _
   rw [zfv]
   have := (zue M M (by omega) (Int.le_refl _) l).2
   have hk := zb5 (c.toNat : Int)
   have := ha.snoc.2
   omega
theorem ybw (M : Int) (hM : 1 ≤ M) (b : List UInt8) (hb : AD b) (h : Lead b) : 1 ≤ v10 M b := by
 obtain ⟨c, t, rfl, hc, hn⟩ := h
 have hk := zb5 (c.toNat : Int)
 revert hb
 refine zdt (P := fun t => AD (c :: t) → 1 ≤ v10 M (c :: t)) ?_ ?_ t
 · intro _; simp [v10]; omega
 · intro l d ih hb
   have e2 : c :: (l ++ [d]) = (c :: l) ++ [d] := by simp
   rw [e2] at hb ⊢
   rw [zlu]
   have := ih hb.snoc.1
   have hk := zb5 (d.toNat : Int)
   omega
/-! The letters of a column -/
def ze8 (n : Int) : List Int :=
 if n ≤ 26 then [65 + (n - 1) % 26]
 else if n ≤ 702 then [65 + ((n - 1) / 26 - 1) % 26, 65 + (n - 1) % 26]
 else [65 + (((n - 1) / 26 - 1) / 26 - 1) % 26, 65 + ((n - 1) / 26 - 1) % 26, 65 + (n - 1) % 26]
def lets (n : Int) : List UInt8 := (ze8 n).map fun x => UInt8.ofNat x.toNat
end Go.Proofs.YtelanmknimapoaaGreatDoor.Re.AM
