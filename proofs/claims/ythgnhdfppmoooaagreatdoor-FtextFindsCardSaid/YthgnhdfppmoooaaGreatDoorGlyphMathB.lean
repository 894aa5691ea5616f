/- The order of texts. No run in this file. -/
import Derived.Test.YthgnhdfppmoooaaGreatDoorGlyphMath
import GoSem.Op.String
namespace Go.Proofs.YthgnhdfppmoooaaGreatDoor.GM
open Go
theorem cb_eq : ∀ (a b : List UInt8), Lib.compareBytes a b = if Op.bytesLess a b then -1 else if a = b then 0 else 1
  | [], [] => by simp [Lib.compareBytes, Op.bytesLess]
  | [], _ :: _ => by simp [Lib.compareBytes, Op.bytesLess]
  | _ :: _, [] => by simp [Lib.compareBytes, Op.bytesLess]
  | x :: a, y :: b => by
    have ih := cb_eq a b
    unfold Lib.compareBytes Op.bytesLess
    by_cases h : x < y
    · simp [h]
    · by_cases h2 : y < x
      · have hne : x ≠ y := fun e => by subst e; exact h h2
        simp [h, h2, hne]
      · have he : x = y := UInt8.le_antisymm (UInt8.not_lt.1 h2) (UInt8.not_lt.1 h)
        subst he
        simp [h, ih]
theorem cb_range (a b : List UInt8) : -1 ≤ Lib.compareBytes a b ∧ Lib.compareBytes a b ≤ 1 := by
  rw [cb_eq]; split <;> (try split) <;> omega
theorem cb_zero (a b : List UInt8) : Lib.compareBytes a b = 0 ↔ a = b := by
  induction a generalizing b with
  | nil => cases b <;> simp [Lib.compareBytes]
  | cons x a ih =>
    cases b with
    | nil => simp [Lib.compareBytes]
    | cons y b =>
      unfold Lib.compareBytes
      by_cases h : x < y
      · have hne : x ≠ y := fun e => by subst e; exact UInt8.lt_irrefl _ h
        simp [h, hne]
      · by_cases h2 : y < x
        · have hne : x ≠ y := fun e => by subst e; exact h h2
          simp [h, h2, hne]
        · have he : x = y := UInt8.le_antisymm (UInt8.not_lt.1 h2) (UInt8.not_lt.1 h)
          subst he
          simp [h, ih]
theorem cb_anti (a b : List UInt8) : Lib.compareBytes a b = - Lib.compareBytes b a := by
  induction a generalizing b with
  | nil => cases b <;> simp [Lib.compareBytes]
  | cons x a ih =>
    cases b with
    | nil => simp [Lib.compareBytes]
    | cons y b =>
      unfold Lib.compareBytes
      by_cases h : x < y
      · have h2 : ¬ y < x := fun h2 => UInt8.lt_irrefl _ (UInt8.lt_trans h h2)
        simp [h, h2]
      · by_cases h2 : y < x
        · simp [h, h2]
        · simp [h, h2, ih b]
theorem cb_trans (a b c : List UInt8) (h1 : Lib.compareBytes a b ≤ 0) (h2 : Lib.compareBytes b c ≤ 0) : Lib.compareBytes a c ≤ 0 ∧ (Lib.compareBytes a c = 0 → Lib.compareBytes a b = 0 ∧ Lib.compareBytes b c = 0) := by
  induction a generalizing b c with
  | nil =>
    cases c with
    | nil =>
      cases b with
      | nil => simp [Lib.compareBytes]
      | cons y b => simp [Lib.compareBytes] at h2
    | cons z c => simp [Lib.compareBytes]
  | cons x a ih =>
    cases b with
    | nil => simp [Lib.compareBytes] at h1
    | cons y b =>
      cases c with
      | nil => simp [Lib.compareBytes] at h2
      | cons z c =>
        unfold Lib.compareBytes at h1 h2 ⊢
        by_cases hxy : x < y
        · by_cases hyz : y < z
          · simp [UInt8.lt_trans hxy hyz]
          · by_cases hzy : z < y
            · simp [hyz, hzy] at h2
            · have he : y = z := UInt8.le_antisymm (UInt8.not_lt.1 hzy) (UInt8.not_lt.1 hyz)
              subst he
              simp [hxy]
        · by_cases hyx : y < x
          · simp [hxy, hyx] at h1
          · have he : x = y := UInt8.le_antisymm (UInt8.not_lt.1 hyx) (UInt8.not_lt.1 hxy)
            subst he
            by_cases hyz : x < z
            · simp [hyz]
            · by_cases hzy : z < x
              · simp [hyz, hzy] at h2
              · simp [hxy] at h1
                simp [hyz, hzy] at h2
                have := ih b c h1 h2
                simp [hyz, hzy, hxy]
                exact this
theorem cb_pre (a b : List UInt8) : Lib.compareBytes a (a ++ b) ≤ 0 := by
  induction a with
  | nil => cases b <;> simp [Lib.compareBytes]
  | cons x a ih =>
    have h : ¬ x < x := UInt8.lt_irrefl _
    rw [List.cons_append, Lib.compareBytes]
    simp [h, ih]
def cmpS (a b : List UInt8) : Int := Lib.compareBytes (a.map up) (b.map up)
theorem map_up_up (l : List UInt8) : (l.map up).map up = l.map up := by rw [List.map_map]; exact List.map_congr_left fun c _ => up_up c
theorem map_lo_lo (l : List UInt8) : (l.map lo).map lo = l.map lo := by rw [List.map_map]; exact List.map_congr_left fun c _ => lo_lo c
theorem map_up_lo (l : List UInt8) : (l.map lo).map up = l.map up := by rw [List.map_map]; exact List.map_congr_left fun c _ => up_lo c
theorem map_lo_up (l : List UInt8) : (l.map up).map lo = l.map lo := by rw [List.map_map]; exact List.map_congr_left fun c _ => lo_up c
theorem cmpS_lu (a b : List UInt8) : cmpS (a.map lo) (b.map up) = cmpS a b := by unfold cmpS; rw [map_up_lo, map_up_up]
theorem cmpS_pre (a b : List UInt8) : cmpS a (a ++ b) ≤ 0 := by unfold cmpS; rw [List.map_append]; exact cb_pre _ _
theorem cmpS_self (a : List UInt8) : cmpS a a = 0 := (cb_zero _ _).2 rfl
end Go.Proofs.YthgnhdfppmoooaaGreatDoor.GM
