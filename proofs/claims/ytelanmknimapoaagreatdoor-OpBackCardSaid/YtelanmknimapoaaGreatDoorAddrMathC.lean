/- Addresses as lists of bytes, third part: what is written is read again, and the other way round. Plain mathematics. -/
import Derived.Test.YtelanmknimapoaaGreatDoorAddrMathB
import Derived.Lib.ItoaNum
import Derived.Lib.ItoaMem
namespace Go.Proofs.YtelanmknimapoaaGreatDoor.Re.AM
def capI (c : Int) : Int := if 97 ≤ c ∧ c ≤ 122 then c - 32 else c
def yag (l : List UInt8) : List Int := l.map fun c => capI (c.toNat : Int)
def caps (l : List UInt8) : List UInt8 := (yag l).map fun x => UInt8.ofNat x.toNat
theorem zoj (l : List UInt8) (c : UInt8) : caps (l ++ [c]) = caps l ++ [UInt8.ofNat (capI (c.toNat : Int)).toNat] := by simp [caps, yag]
theorem yaf (a b : List UInt8) : caps (a ++ b) = caps a ++ caps b := by simp [caps, yag]
theorem zy4 {n : Int} (h0 : 1 ≤ n) (h1 : n ≤ 26) : lets n = [UInt8.ofNat (64 + n).toNat] := by
 unfold lets ze8; rw [if_pos h1, show 65 + (n - 1) % 26 = 64 + n by omega]; rfl
theorem zvw {v n : Int} (h0 : 1 ≤ v) (h1 : 1 ≤ n) (h2 : n ≤ 26) (h3 : 26 * v + n ≤ 1024) : lets (26 * v + n) = lets v ++ [UInt8.ofNat (64 + n).toNat] := by
 unfold lets ze8
 rw [if_neg (by omega), show (26 * v + n - 1) / 26 = v by omega, show 65 + (26 * v + n - 1) % 26 = 64 + n by omega]
 by_cases hv : v ≤ 26
 · rw [if_pos (by omega), if_pos hv]; rfl
 · rw [if_neg (by omega), if_neg hv, if_pos (by omega), show (v - 1) / 26 = 1 by omega, show ((1 : Int) - 1) % 26 = 0 by omega]; rfl
theorem ztm {c : Int} (h : kd c = 1) : capI c = 64 + nm c := by
 unfold kd at h; unfold capI nm
 by_cases q1 : 97 ≤ c ∧ c ≤ 122
 · rw [if_pos q1, if_pos q1]; omega
 · by_cases q2 : 65 ≤ c ∧ c ≤ 90
   · rw [if_neg q1, if_neg q1, if_pos q2]; omega
   · rw [if_neg q1, if_neg q2] at h; split at h <;> omega
theorem zok {c : Int} (h : kd c = 2) : capI c = 48 + nm c ∧ capI c = c := by
 unfold kd at h; unfold capI nm
 by_cases q1 : 97 ≤ c ∧ c ≤ 122
 · rw [if_pos q1] at h; omega
 · by_cases q2 : 65 ≤ c ∧ c ≤ 90
   · rw [if_neg q1, if_pos q2] at h; omega
   · by_cases q3 : 48 ≤ c ∧ c ≤ 57
     · rw [if_neg q1, if_neg q1, if_neg q2, if_pos q3]; omega
     · rw [if_neg q1, if_neg q2, if_neg q3] at h; omega
theorem zvx (a : List UInt8) : AL a → a ≠ [] → v26 1048576 a ≤ 1024 → lets (v26 1048576 a) = caps a := by
 refine zdt (P := fun a => AL a → a ≠ [] → v26 1048576 a ≤ 1024 → lets (v26 1048576 a) = caps a) ?_ ?_ a
 · intro _ h; exact absurd rfl h
 · intro l c ih ha _ hv
   obtain ⟨h1, h2⟩ := ha.snoc
   have hn := zb5 (c.toNat : Int)
   have hc := zue 1048576 1048576 (by omega) (Int.le_refl _) l
   rw [zfv] at hv ⊢
   rw [zoj, ztm h2, show min (v26 1048576 l * 26 + nm (c.toNat : Int)) 1048576 = 26 * v26 1048576 l + nm (c.toNat : Int) by omega]
   by_cases hl : l = []
   · subst hl
     rw [show v26 1048576 [] = 0 from rfl, show 26 * (0 : Int) + nm (c.toNat : Int) = nm (c.toNat : Int) by omega, zy4 (by omega) (by omega)]
     rfl
   · have hp := ybv 1048576 (by omega) l h1 hl
     rw [zvw (by omega) (by omega) (by omega) (by omega), ih h1 hl (by omega)]
theorem zti {n : Nat} (h : n < 10) : Lib.decDigits n = [UInt8.ofNat (48 + n)] := by rw [Lib.decDigits, dif_pos h]
theorem zpy {v n : Nat} (h0 : 1 ≤ v) (h1 : n < 10) : Lib.decDigits (10 * v + n) = Lib.decDigits v ++ [UInt8.ofNat (48 + n)] := by
 rw [Lib.decDigits, dif_neg (by omega), show (10 * v + n) / 10 = v by omega, show (10 * v + n) % 10 = n by omega]
theorem zpz (t : List UInt8) (c : UInt8) (hc : kd (c.toNat : Int) = 2) (hn : nm (c.toNat : Int) ≠ 0) :
 AD (c :: t) → v10 1048576 (c :: t) ≤ 1024 → Lib.decDigits (v10 1048576 (c :: t)).toNat = caps (c :: t) := by
 have hk := zb5 (c.toNat : Int)
 refine zdt (P := fun t => AD (c :: t) → v10 1048576 (c :: t) ≤ 1024 → Lib.decDigits (v10 1048576 (c :: t)).toNat = caps (c :: t)) ?_ ?_ t
 · intro _ _
   have e : v10 1048576 [c] = nm (c.toNat : Int) := by simp [v10]; omega
   rw [e, zti (by omega)]
   have := (zok hc).1
   simp only [caps, yag, List.map_cons, List.map_nil]
   rw [this]; congr 2; omega
 · intro l d ih hb hv
   have e2 : c :: (l ++ [d]) = (c :: l) ++ [d] := by simp
   rw [e2] at hb hv ⊢
   obtain ⟨h1, h2⟩ := hb.snoc
   have hd := zb5 (d.toNat : Int)
   have hp := ybw 1048576 (by omega) (c :: l) h1 ⟨c, l, rfl, hc, hn⟩
   rw [zlu] at hv ⊢
   rw [zoj, (zok h2).1, show (min (v10 1048576 (c :: l) * 10 + nm (d.toNat : Int)) 1048576).toNat = 10 * (v10 1048576 (c :: l)).toNat + (nm (d.toNat : Int)).toNat by omega,
    zpy (by omega) (by omega), ih h1 (by omega)]
   congr 3; omega
theorem zxo {l : List UInt8} {c r : Int} (h : PZ l = (c, r, 0)) : okR c r = true ∧ lets c ++ Lib.itoa r = caps l := by
 unfold PZ at h
 cases hr : rd l with
 | none => rw [hr] at h; simp at h
 | some s =>
  rw [hr] at h
  simp only at h
  split at h
  · simp at h
  · rename_i hn
    split at h
    · rename_i hk
      simp only [Prod.mk.injEq, and_true] at h
      obtain ⟨e1, e2⟩ := h
      rw [← e1, ← e2]
      refine ⟨hk, ?_⟩
      have hb : 1 ≤ s.v1 ∧ s.v1 ≤ 1024 ∧ 1 ≤ s.v2 ∧ s.v2 ≤ 1024 := by unfold okR at hk; exact of_decide_eq_true hk
      obtain ⟨a, b, rfl, ha, hbd, hl⟩ := zq0 l s hr
      rcases hl with rfl | hl
      · rw [List.append_nil, zgy a ha, Option.some.injEq] at hr
        subst hr; simp at hn
      · rw [zi1 a b ha hl hbd, Option.some.injEq] at hr
        subst hr
        simp only at hb hn ⊢
        have hne : a ≠ [] := by intro h; subst h; simp at hn
        rw [yaf, zvx a ha hne (by omega)]
        obtain ⟨c0, t, rfl, hc0, hn0⟩ := hl
        obtain ⟨n, hn⟩ := Int.eq_ofNat_of_zero_le (show 0 ≤ v10 1048576 (c0 :: t) by omega)
        have := zpz t c0 hc0 hn0 hbd (by omega)
        rw [hn] at this ⊢
        rw [Lib.itoa_nonneg]
        exact congrArg (caps a ++ ·) this
    · simp at h
/-! What is written is read again -/
theorem zy5 : ∀ n : Nat, n < 1025 → 1 ≤ n → ((lets n).all fun c => kd (c.toNat : Int) == 1) = true ∧ v26 1048576 (lets n) = n ∧ (lets n).length ≠ 0 := by decide +kernel
theorem zz7 : ∀ n : Nat, n < 1025 → 1 ≤ n → ((Lib.decDigits n).all fun c => kd (c.toNat : Int) == 2) = true ∧ v10 1048576 (Lib.decDigits n) = n ∧
 ((Lib.decDigits n).head?.map fun c => nm (c.toNat : Int) == 0) = some false := by decide +kernel
theorem ybm {c r : Int} (h : okR c r = true) : PZ (lets c ++ Lib.itoa r) = (c, r, 0) := by
 have hb : 1 ≤ c ∧ c ≤ 1024 ∧ 1 ≤ r ∧ r ≤ 1024 := by unfold okR at h; exact of_decide_eq_true h
 obtain ⟨m, rfl⟩ := Int.eq_ofNat_of_zero_le (show 0 ≤ c by omega)
 obtain ⟨n, rfl⟩ := Int.eq_ofNat_of_zero_le (show 0 ≤ r by omega)
 obtain ⟨f1, f2, f3⟩ := zy5 m (by omega) (by omega)
 obtain ⟨g1, g2, g3⟩ := zz7 n (by omega) (by omega)
 rw [Lib.itoa_nonneg]
 generalize lets (m : Int) = a at *
 generalize Lib.decDigits n = b at *
 have ha : AL a := fun x hx => by simpa using List.all_eq_true.1 f1 x hx
 have hbd : AD b := fun x hx => by simpa using List.all_eq_true.1 g1 x hx
 have hl : Lead b := by
  cases b with
  | nil => simp at g3
  | cons x t => exact ⟨x, t, rfl, hbd x (by simp), by simpa using g3⟩
 have hr := zi1 a b ha hl hbd
 have hbl : (b.length : Int) ≠ 0 := by obtain ⟨x, t, rfl, _⟩ := hl; simp; omega
 unfold PZ
 rw [hr]
 simp only
 rw [if_neg (by rw [not_or]; exact ⟨by omega, hbl⟩), f2, g2, if_pos h]
end Go.Proofs.YtelanmknimapoaaGreatDoor.Re.AM
