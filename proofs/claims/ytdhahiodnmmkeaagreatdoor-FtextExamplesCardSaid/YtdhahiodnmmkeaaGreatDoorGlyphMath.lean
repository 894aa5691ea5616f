/- Texts as lists of bytes: capitals, small letters, blanks, literals. No run in this file. -/
import Derived.Lib.Replace
import Derived.Lib.TrimByte
import Derived.Lib.Bytealg
import Derived.Lib.Hide
namespace Go.Proofs.YtdhahiodnmmkeaaGreatDoor.GM
open Go
def up (c : UInt8) : UInt8 := if 97 ≤ c.toNat ∧ c.toNat ≤ 122 then UInt8.ofNat (c.toNat - 32) else c
def lo (c : UInt8) : UInt8 := if 65 ≤ c.toNat ∧ c.toNat ≤ 90 then UInt8.ofNat (c.toNat + 32) else c
theorem yfq (c : UInt8) : (up c).toNat = if 97 ≤ c.toNat ∧ c.toNat ≤ 122 then c.toNat - 32 else c.toNat := by
 have := c.toNat_lt
 unfold up; split
 · rw [UInt8.toNat_ofNat']; omega
 · rfl
theorem ygf (c : UInt8) : (lo c).toNat = if 65 ≤ c.toNat ∧ c.toNat ≤ 90 then c.toNat + 32 else c.toNat := by
 have := c.toNat_lt
 unfold lo; split
 · rw [UInt8.toNat_ofNat']; omega
 · rfl
def str (l : List UInt8) : ByteArray := ⟨l.toArray⟩
theorem zxr (l : List UInt8) : (str l).data.toList = l := by simp [str]
theorem zly (l : List UInt8) : (str l).size = l.length := by simp [str, ByteArray.size]
def plain (l : List UInt8) : Bool := l.all fun c => 32 ≤ c.toNat && c.toNat ≤ 126
def chk (l : List UInt8) : Int := if 256 < l.length then 5 else if plain l then 0 else 4
def tr : Bool → Bool → List UInt8 → List UInt8
 | _, _, [] => []
 | e, p, c :: l => if c = 32 then tr e true l else if e && p then 32 :: c :: tr true false l else c :: tr true false l
def kp : Bool → List UInt8 → List UInt8
 | _, [] => []
 | n, c :: l => if c = 32 then (if n then 32 :: kp false l else kp false l) else c :: kp true l
theorem zgx (c : UInt8) (l : List UInt8) (h : c ≠ 32) : Lib.trimRightB (c :: l) 32 = c :: Lib.trimRightB l 32 := by
 unfold Lib.trimRightB
 rw [List.reverse_cons, List.dropWhile_append]
 split
 · rename_i he
   have he' : List.dropWhile (fun x => x == 32) l.reverse = [] := by simpa using he
   rw [he']; simp [h]
 · simp
theorem zoy (l : List UInt8) : Lib.trimRightB (32 :: l) 32 = if Lib.trimRightB l 32 = [] then [] else 32 :: Lib.trimRightB l 32 := by
 unfold Lib.trimRightB
 rw [List.reverse_cons, List.dropWhile_append]
 split
 · rename_i he
   have he' : List.dropWhile (fun x => x == 32) l.reverse = [] := by simpa using he
   rw [he']; simp
 · rename_i he
   have he' : ¬ List.dropWhile (fun x => x == 32) l.reverse = [] := by simpa using he
   rw [if_neg (by simpa using he')]; simp
theorem yhy (l : List UInt8) : Lib.trimRightB (kp true l) 32 = tr true false l ∧
 (Lib.trimRightB (32 :: kp false l) 32 = tr true true l) ∧ ∀ p, Lib.trimRightB (kp false l) 32 = tr false p l := by
 induction l with
 | nil => refine ⟨by simp [kp, tr, Lib.trimRightB], by simp [kp, tr, Lib.trimRightB], fun p => by simp [kp, tr, Lib.trimRightB]⟩
 | cons c l ih =>
  obtain ⟨h1, h2, h3⟩ := ih
  by_cases hc : c = 32
  · subst hc
    refine ⟨?_, ?_, fun p => ?_⟩
    · simp only [kp, tr, if_true]; exact h2
    · simp only [kp, tr, if_true]; exact h2
    · simp only [kp, tr, if_true]; exact h3 true
  · refine ⟨?_, ?_, fun p => ?_⟩
    · simp only [kp, tr, if_neg hc]; rw [zgx _ _ hc, h1]; simp
    · simp only [kp, tr, if_neg hc]
      rw [zoy, zgx _ _ hc, h1]; simp
    · simp only [kp, tr, if_neg hc]; rw [zgx _ _ hc, h1]; simp
theorem yc0 (e p : Bool) (l : List UInt8) (h : e = false ∨ p = false) : Lib.trimLeftB (tr e p l) 32 = tr e p l ∨ e = true := by
 cases e with
 | true => exact .inr rfl
 | false =>
  left
  induction l generalizing p with
  | nil => simp [tr, Lib.trimLeftB]
  | cons c l ih =>
   unfold tr
   split
   · exact ih true (.inl rfl)
   · rename_i hc; simp [Lib.trimLeftB, hc]
def trim (l : List UInt8) : List UInt8 := tr false false l
theorem ycx (l : List UInt8) : Lib.trimB (kp false l) 32 = trim l := by
 unfold Lib.trimB trim
 rw [(yhy l).2.2 false]
 rcases yc0 false false l (.inl rfl) with h | h
 · exact h
 · cases h
def quo : List UInt8 → List UInt8
 | [] => []
 | c :: l => if c = 34 then 34 :: 34 :: quo l else c :: quo l
def unq : List UInt8 → Option (List UInt8)
 | [] => some []
 | [c] => if c = 34 then none else some [c]
 | c :: d :: l => if c = 34 then (if d = 34 then (unq l).map (34 :: ·) else none) else (unq (d :: l)).map (c :: ·)
theorem zxo (c : UInt8) (l : List UInt8) (h : c ≠ 34) : unq (c :: l) = (unq l).map (c :: ·) := by
 cases l with
 | nil => simp [unq, h]
 | cons d l => simp [unq, h]
theorem ycw (l : List UInt8) : unq (34 :: 34 :: l) = (unq l).map (34 :: ·) := by simp [unq]
def zcz : Bool → List UInt8 → Bool
 | n, [] => n
 | _, c :: l => zcz (c != 32) l
theorem zlc (n : Bool) (l : List UInt8) (c : UInt8) : zcz n (l ++ [c]) = (c != 32) := by
 induction l generalizing n with
 | nil => rfl
 | cons d l ih => exact ih _
theorem yd3 (n : Bool) (l : List UInt8) (c : UInt8) : kp n (l ++ [c]) = kp n l ++ (if c = 32 then (if zcz n l then [32] else []) else [c]) := by
 induction l generalizing n with
 | nil => by_cases hc : c = 32 <;> cases n <;> simp [kp, zcz, hc]
 | cons d l ih =>
  by_cases hd : d = 32
  · rw [show zcz n (d :: l) = zcz false l by rw [zcz, hd]; rfl]
    subst hd
    simp only [List.cons_append, kp, if_true, ih false]
    cases n <;> simp
  · rw [show zcz n (d :: l) = zcz true l by rw [zcz, show (d != 32) = true by simpa using hd]]
    simp only [List.cons_append, kp, if_neg hd, ih true]
theorem ya7 (n : Bool) (l : List UInt8) : (kp n l).length ≤ l.length := by
 induction l generalizing n with
 | nil => simp [kp]
 | cons c l ih =>
  have h1 := ih false
  have h2 := ih true
  unfold kp
  split
  · split <;> simp <;> omega
  · simp; omega
theorem ycy (e p : Bool) (l : List UInt8) (c : UInt8) : tr e p (l ++ [c]) = tr e p l ++ (if c = 32 then [] else if (e || !(tr e p l).isEmpty) && !(zcz (!p) l) then [32, c] else [c]) := by
 induction l generalizing e p with
 | nil =>
  simp only [List.nil_append, tr, zcz]
  by_cases hc : c = 32
  · simp [hc]
  · simp only [if_neg hc]; cases e <;> cases p <;> simp
 | cons d l ih =>
  by_cases hd : d = 32
  · rw [show zcz (!p) (d :: l) = zcz false l by rw [zcz, hd]; rfl]
    subst hd
    simp only [List.cons_append, tr, if_true, ih e true]
    simp
  · rw [show zcz (!p) (d :: l) = zcz true l by rw [zcz, show (d != 32) = true by simpa using hd]]
    simp only [List.cons_append, tr, if_neg hd, ih true false]
    cases e <;> cases p <;> simp
theorem yfs (e p : Bool) (l : List UInt8) : (tr e p l).length ≤ 2 * l.length := by
 induction l generalizing e p with
 | nil => simp [tr]
 | cons c l ih =>
  have h1 := ih true false
  have h2 := ih e true
  unfold tr
  split
  · simp; omega
  · split <;> simp <;> omega
end Go.Proofs.YtdhahiodnmmkeaaGreatDoor.GM
