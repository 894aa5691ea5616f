/- Texts as lists of bytes: capitals, small letters, blanks, literals. No run in this file. -/
import Derived.Lib.Replace
import Derived.Lib.TrimByte
import Derived.Lib.Bytealg
import Derived.Lib.Hide
namespace Go.Proofs.YtelanmknimapoaaGreatDoor.Gl.GM
open Go
def up (c : UInt8) : UInt8 := if 97 ≤ c.toNat ∧ c.toNat ≤ 122 then UInt8.ofNat (c.toNat - 32) else c
def lo (c : UInt8) : UInt8 := if 65 ≤ c.toNat ∧ c.toNat ≤ 90 then UInt8.ofNat (c.toNat + 32) else c
def str (l : List UInt8) : ByteArray := ⟨l.toArray⟩
theorem zqr (l : List UInt8) : (str l).size = l.length := by simp [str, ByteArray.size]
theorem str_of (s : ByteArray) : str s.data.toList = s := by cases s; simp [str]
def plain (l : List UInt8) : Bool := l.all fun c => 32 ≤ c.toNat && c.toNat ≤ 126
def chk (l : List UInt8) : Int := if 256 < l.length then 5 else if plain l then 0 else 4
def quo : List UInt8 → List UInt8
 | [] => []
 | c :: l => if c = 34 then 34 :: 34 :: quo l else c :: quo l
def unq : List UInt8 → Option (List UInt8)
 | [] => some []
 | [c] => if c = 34 then none else some [c]
 | c :: d :: l => if c = 34 then (if d = 34 then (unq l).map (34 :: ·) else none) else (unq (d :: l)).map (c :: ·)
theorem zqo (c : UInt8) (l : List UInt8) (h : c ≠ 34) : unq (c :: l) = (unq l).map (c :: ·) := by
 cases l with
 | nil => simp [unq, h]
 | cons d l => simp [unq, h]
theorem zuf (l : List UInt8) : unq (34 :: 34 :: l) = (unq l).map (34 :: ·) := by simp [unq]
theorem yby (l : List UInt8) : unq (quo l) = some l := by
 induction l with
 | nil => rfl
 | cons c l ih =>
  unfold quo
  split
  · rename_i h; rw [zuf, ih, h]; rfl
  · rename_i h; rw [zqo _ _ h, ih]; rfl
theorem plain_cons (c : UInt8) (l : List UInt8) : plain (c :: l) = ((32 ≤ c.toNat && c.toNat ≤ 126) && plain l) := rfl
theorem plain_quo (l : List UInt8) : plain (quo l) = plain l := by
 induction l with
 | nil => rfl
 | cons c l ih =>
  rw [quo]
  split
  · rename_i h; subst h; rw [plain_cons, plain_cons, plain_cons, ih]; simp
  · rw [plain_cons, plain_cons, ih]
theorem quo_len (l : List UInt8) : l.length ≤ (quo l).length ∧ (quo l).length ≤ 2 * l.length := by
 induction l with
 | nil => simp [quo]
 | cons c l ih => unfold quo; split <;> simp <;> omega
theorem ydn (l : List UInt8) : Lib.replaceK [34] [34, 34] (Lib.count l [34]) l = quo l := by
 have key : ∀ (n : Nat) (l : List UInt8), l.length ≤ n → Lib.replaceK [34] [34, 34] (Lib.count l [34]) l = quo l := by
  intro n
  induction n with
  | zero =>
   intro l hl
   obtain rfl : l = [] := List.length_eq_zero_iff.1 (by omega)
   rw [Lib.count_miss (by rfl)]
   rfl
  | succ n ih =>
   intro l hl
   rcases Int.lt_or_le (Lib.index l [34]) 0 with hm | hm
   · have hmi : Lib.index l [34] = -1 := by have := Lib.index_ge l [34]; omega
     rw [Lib.count_miss hmi, Lib.replaceK]
     have : ∀ (l : List UInt8), Lib.index l [34] = -1 → quo l = l := by
      intro l
      induction l with
      | nil => intro _; rfl
      | cons c l ih =>
       intro h
       unfold Lib.index at h
       split at h
       · cases h
       · rename_i hp
         have hc : ¬ c = 34 := fun e => hp (by subst e; simp [List.isPrefixOf])
         split at h
         · rename_i h2
           rw [quo, if_neg hc, ih (by simpa using h2)]
         · rename_i h2
           have := Lib.index_ge l [34]
           have h3 : ¬ Lib.index l [34] = -1 := by simpa using h2
           omega
     rw [this l hmi]
   · obtain ⟨i, hi⟩ : ∃ i : Nat, Lib.index l [34] = i := ⟨(Lib.index l [34]).toNat, by omega⟩
     rw [Lib.count_hit (by simp) hi, Nat.add_comm, Lib.replaceK_hit _ _ _ _ _ hi]
     have hd : ∀ (l : List UInt8) (i : Nat), Lib.index l [34] = i → i < l.length ∧ quo l = l.take i ++ [34, 34] ++ quo (l.drop (i + 1)) := by
      intro l
      induction l with
      | nil => intro i h; simp [Lib.index] at h
      | cons c l ih =>
       intro i h
       unfold Lib.index at h
       split at h
       · rename_i hp
         have h0 : i = 0 := by omega
         subst h0
         have hc : c = 34 := by simp [List.isPrefixOf] at hp; exact hp.symm
         subst hc
         simp [quo]
       · rename_i hp
         have hc : ¬ c = 34 := fun e => hp (by subst e; simp [List.isPrefixOf])
         split at h
         · omega
         · rename_i h2
           have h3 : ¬ Lib.index l [34] = -1 := by simpa using h2
           obtain ⟨j, hj⟩ : ∃ j : Nat, i = j + 1 := ⟨i - 1, by have := Lib.index_ge l [34]; omega⟩
           subst hj
           obtain ⟨h1, h2⟩ := ih j (by omega)
           refine ⟨by simp; omega, ?_⟩
           rw [quo, if_neg hc, h2]
           simp
     obtain ⟨h1, h2⟩ := hd l i hi
     rw [h2]
     have := ih (l.drop (i + 1)) (by simp; omega)
     simp only [List.length_cons, List.length_nil, Nat.zero_add]
     rw [this]
 exact key _ l (Nat.le_refl _)
theorem zuz (l : List UInt8) : Lib.replaceAll l [34] [34, 34] = quo l := by
 unfold Lib.replaceAll Lib.replace Lib.replaceNum
 rw [if_neg (by decide), if_pos (.inl (by decide)), ydn]
end Go.Proofs.YtelanmknimapoaaGreatDoor.Gl.GM
