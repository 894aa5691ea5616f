/- Addresses as lists of bytes, second part: what the specification's two loops say of them. Plain mathematics. -/
import Derived.Test.YtelanmknimapoaaGreatDoorAddrMath
namespace Go.Proofs.YtelanmknimapoaaGreatDoor.Re.AM
theorem zq1 {l : List UInt8} {s : St} (h : rd l = some s) : (∀ i (hi : i < l.length), kd (l[i].toNat : Int) = 1 ∨ kd (l[i].toNat : Int) = 2) ∧
 (∀ i j (hi : i < l.length) (hj : j < l.length), i < j → kd (l[i].toNat : Int) = 2 → kd (l[j].toNat : Int) = 2) := by
 obtain ⟨a, b, rfl, ha, hb, _⟩ := zq0 l s h
 have g1 : ∀ i (hi : i < (a ++ b).length), i < a.length → kd ((a ++ b)[i].toNat : Int) = 1 := fun i hi h => by
  rw [List.getElem_append_left h]; exact ha _ (List.getElem_mem h)
 have g2 : ∀ i (hi : i < (a ++ b).length), ¬ i < a.length → kd ((a ++ b)[i].toNat : Int) = 2 := fun i hi h => by
  rw [List.getElem_append_right (by omega)]; exact hb _ (List.getElem_mem _)
 constructor
 · intro i hi
   by_cases h : i < a.length
   · exact Or.inl (g1 i hi h)
   · exact Or.inr (g2 i hi h)
 · intro i j hi hj hij hk
   by_cases h : i < a.length
   · have := g1 i hi h; omega
   · exact g2 j hj (by omega)
end Go.Proofs.YtelanmknimapoaaGreatDoor.Re.AM
