/- Decimal texts: the mathematics of reading. -/
import Derived.RowKit
namespace Go.Proofs.YtoeodfbmiiefkaaGreatDoor.Tx
def isDg (c : UInt8) : Bool := decide (48 ≤ c.toNat ∧ c.toNat ≤ 57)
def dgv (c : UInt8) : Int := (c.toNat : Int) - 48
theorem dgv_bd {c : UInt8} (h : isDg c = true) : 0 ≤ dgv c ∧ dgv c ≤ 9 := by
  unfold isDg at h
  have := of_decide_eq_true h
  unfold dgv
  omega
theorem rev_ind {p : List UInt8 → Prop} (h0 : p []) (hs : ∀ l c, p l → p (l ++ [c])) (l : List UInt8) : p l := by
  have key : ∀ r : List UInt8, p r.reverse := by
    intro r
    induction r with
    | nil => exact h0
    | cons c r ih => rw [List.reverse_cons]; exact hs _ _ ih
  have := key l.reverse
  rwa [List.reverse_reverse] at this
theorem takeW_all : ∀ {l : List UInt8}, (∀ c ∈ l, isDg c = true) → l.takeWhile isDg = l ∧ l.dropWhile isDg = []
  | [], _ => ⟨rfl, rfl⟩
  | c :: l, h => by
    have h1 := h c (List.mem_cons_self ..)
    obtain ⟨h2, h3⟩ := takeW_all (l := l) fun x hx => h x (List.mem_cons_of_mem _ hx)
    rw [List.takeWhile_cons_of_pos h1, List.dropWhile_cons_of_pos h1, h2, h3]
    exact ⟨rfl, rfl⟩
theorem dropW_nil : ∀ {l : List UInt8}, l.dropWhile isDg = [] → ∀ c ∈ l, isDg c = true
  | [], _ => fun c hc => by cases hc
  | c :: l, h => by
    by_cases h1 : isDg c = true
    · rw [List.dropWhile_cons_of_pos h1] at h
      intro x hx
      rcases List.mem_cons.1 hx with rfl | hx
      · exact h1
      · exact dropW_nil h x hx
    · rw [List.dropWhile_cons_of_neg h1] at h
      cases h
def numL (l : List UInt8) : Int := l.foldl (fun n c => n * 10 + dgv c) 0
theorem numL_snoc (l : List UInt8) (c : UInt8) : numL (l ++ [c]) = numL l * 10 + dgv c := by unfold numL; simp
theorem numL_nil : numL [] = 0 := rfl
theorem numL_pos : ∀ l : List UInt8, (∀ c ∈ l, isDg c = true) → 0 ≤ numL l := by
  refine rev_ind (fun _ => by decide) fun l c ih h => ?_
  have h1 := ih fun x hx => h x (List.mem_append_left _ hx)
  have h2 := dgv_bd (h c (List.mem_append_right _ (List.mem_singleton.2 rfl)))
  rw [numL_snoc]
  omega
theorem numL_take {l : List UInt8} (h : ∀ c ∈ l, isDg c = true) : ∀ d k, k + d = l.length → numL (l.take k) ≤ numL l := by
  intro d
  induction d with
  | zero => intro k hk; rw [List.take_of_length_le (by omega)]; exact Int.le_refl _
  | succ d ih =>
    intro k hk
    have h1 := ih (k + 1) (by omega)
    have hkl : k < l.length := by omega
    rw [List.take_succ_eq_append_getElem hkl, numL_snoc] at h1
    have h2 := dgv_bd (h l[k] (List.getElem_mem hkl))
    have h3 := numL_pos (l.take k) fun x hx => h x (List.mem_of_mem_take hx)
    omega
theorem numL_step {l : List UInt8} (k : Nat) (h : k < l.length) : numL (l.take (k + 1)) = numL (l.take k) * 10 + dgv l[k] := by
  rw [List.take_succ_eq_append_getElem h, numL_snoc]
/-- The four places behind the point. -/
def p4 (p : List UInt8) : List UInt8 := (p ++ [48, 48, 48, 48]).take 4
theorem p4_len (p : List UInt8) : (p4 p).length = 4 := by unfold p4; simp
def dAt (p : List UInt8) (i : Nat) : Int := match p[i]? with | some c => dgv c | none => 0
theorem p4_at (p : List UInt8) (i : Nat) (h : i < 4) : dgv ((p4 p)[i]'(by rw [p4_len]; exact h)) = dAt p i := by
  unfold dAt p4
  rw [List.getElem_take]
  by_cases hi : i < p.length
  · rw [List.getElem_append_left hi, List.getElem?_eq_getElem hi]
  · rw [List.getElem_append_right (by omega), List.getElem?_eq_none (by omega)]
    have key : ∀ j (h : j < 4), dgv (([48, 48, 48, 48] : List UInt8)[j]'h) = 0 := by decide
    exact key (i - p.length) (by omega)
theorem p4_dg {p : List UInt8} (h : ∀ c ∈ p, isDg c = true) : ∀ c ∈ p4 p, isDg c = true := by
  intro c hc
  have := List.mem_of_mem_take hc
  rcases List.mem_append.1 this with h1 | h1
  · exact h c h1
  · simp at h1; subst h1; rfl
/-- What is added by rounding. -/
def upL (p : List UInt8) : Int := if 5 ≤ dAt p 4 then 1 else 0
def digsL (w p : List UInt8) : List UInt8 := w ++ p4 p
def valL (w p : List UInt8) : Int := numL (digsL w p) + upL p
theorem upL_bd (p : List UInt8) : 0 ≤ upL p ∧ upL p ≤ 1 := by unfold upL; split <;> omega
def formL (b : List UInt8) : Option (List UInt8 × List UInt8) :=
  match b.dropWhile isDg with
  | [] => if (b.takeWhile isDg).isEmpty then none else some (b.takeWhile isDg, [])
  | c :: p => if c = 46 ∧ (b.takeWhile isDg).isEmpty = false ∧ p.isEmpty = false ∧ p.all isDg = true then some (b.takeWhile isDg, p) else none
def negL (l : List UInt8) : Bool := l.head? == some 45
def bodyL (l : List UInt8) : List UInt8 := if negL l = true then l.tail else l
def mostI : Int := 9223372036854775807
def parV (l : List UInt8) : Int := match formL (bodyL l) with | none => 0 | some x => if valL x.1 x.2 ≤ mostI then (if negL l = true then -valL x.1 x.2 else valL x.1 x.2) else 0
def parE (l : List UInt8) : Int := match formL (bodyL l) with | none => 4 | some x => if valL x.1 x.2 ≤ mostI then 0 else 3
/-- One digit or more, and nothing else. -/
def allB (l : List UInt8) : Bool := l.all isDg && !l.isEmpty
theorem span_all {l : List UInt8} (h : l.all isDg = true) : l.takeWhile isDg = l ∧ l.dropWhile isDg = [] := by
  rw [List.all_eq_true] at h
  exact takeW_all h
theorem span_app {w : List UInt8} (h : w.all isDg = true) (r : List UInt8) (c : UInt8) (hc : isDg c = false) : (w ++ c :: r).takeWhile isDg = w ∧ (w ++ c :: r).dropWhile isDg = c :: r := by
  rw [List.all_eq_true] at h
  constructor
  · rw [List.takeWhile_append_of_pos h, List.takeWhile_cons_of_neg (by simp [hc]), List.append_nil]
  · rw [List.dropWhile_append_of_pos h, List.dropWhile_cons_of_neg (by simp [hc])]
/-- A text without a point. -/
theorem form_no {l : List UInt8} (h : ∀ c ∈ l, c ≠ 46) : formL l = if allB l = true then some (l, []) else none := by
  unfold formL allB
  by_cases ha : l.all isDg = true
  · obtain ⟨h1, h2⟩ := span_all ha
    rw [h1, h2, ha]
    cases l <;> rfl
  · have hd : l.dropWhile isDg ≠ [] := fun hd => ha (List.all_eq_true.2 (dropW_nil hd))
    have haf : l.all isDg = false := by simpa using ha
    rw [haf]
    simp only [Bool.false_and, Bool.false_eq_true, if_false]
    cases hq : l.dropWhile isDg with
    | nil => exact absurd hq hd
    | cons c p =>
      have hm : c ∈ l := (List.dropWhile_sublist isDg).mem (by rw [hq]; exact List.mem_cons_self ..)
      dsimp only
      rw [if_neg (fun hh => h c hm hh.1)]
/-- A text with a point. -/
theorem form_at {w p : List UInt8} (h : ∀ c ∈ w, c ≠ 46) : formL (w ++ 46 :: p) = if (allB w && allB p) = true then some (w, p) else none := by
  unfold formL allB
  by_cases ha : w.all isDg = true
  · obtain ⟨h1, h2⟩ := span_app ha p 46 (by decide)
    rw [h1, h2, ha]
    dsimp only
    cases hw : w.isEmpty <;> cases hp : p.isEmpty <;> cases hq : p.all isDg <;> simp
  · have haf : w.all isDg = false := by simpa using ha
    rw [haf]
    simp only [Bool.false_and, Bool.false_eq_true, if_false]
    have hd : w.dropWhile isDg ≠ [] := fun hd => ha (List.all_eq_true.2 (dropW_nil hd))
    rw [List.dropWhile_append]
    cases hq : w.dropWhile isDg with
    | nil => exact absurd hq hd
    | cons c q =>
      have hm : c ∈ w := (List.dropWhile_sublist isDg).mem (by rw [hq]; exact List.mem_cons_self ..)
      simp only [List.isEmpty_cons, Bool.false_eq_true, if_false, List.cons_append]
      rw [if_neg (fun hh => h c hm hh.1)]
end Go.Proofs.YtoeodfbmiiefkaaGreatDoor.Tx
