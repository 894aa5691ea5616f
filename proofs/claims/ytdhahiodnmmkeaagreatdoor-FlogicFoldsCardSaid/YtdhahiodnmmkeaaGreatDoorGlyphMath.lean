/- Texts as lists of bytes: capitals, small letters, blanks, literals. No run in this file. -/
import Derived.Lib.Replace
import Derived.Lib.TrimByte
import Derived.Lib.Bytealg
import Derived.Lib.Hide
namespace Go.Proofs.YtdhahiodnmmkeaaGreatDoor.GM
open Go
def up (c : UInt8) : UInt8 := if 97 ≤ c.toNat ∧ c.toNat ≤ 122 then UInt8.ofNat (c.toNat - 32) else c
def lo (c : UInt8) : UInt8 := if 65 ≤ c.toNat ∧ c.toNat ≤ 90 then UInt8.ofNat (c.toNat + 32) else c
theorem up_nat (c : UInt8) : (up c).toNat = if 97 ≤ c.toNat ∧ c.toNat ≤ 122 then c.toNat - 32 else c.toNat := by
  have := c.toNat_lt
  unfold up; split
  · rw [UInt8.toNat_ofNat']; omega
  · rfl
/-- A text as a string. -/
def str (l : List UInt8) : ByteArray := ⟨l.toArray⟩
theorem str_data (l : List UInt8) : (str l).data.toList = l := by simp [str]
theorem str_size (l : List UInt8) : (str l).size = l.length := by simp [str, ByteArray.size]
/-- Printable. -/
def plain (l : List UInt8) : Bool := l.all fun c => 32 ≤ c.toNat && c.toNat ≤ 126
def chk (l : List UInt8) : Int := if 256 < l.length then 5 else if plain l then 0 else 4
/-- Without blanks at the ends, and with single ones within: e: something was written; p: a blank was read last. -/
def tr : Bool → Bool → List UInt8 → List UInt8
  | _, _, [] => []
  | e, p, c :: l => if c = 32 then tr e true l else if e && p then 32 :: c :: tr true false l else c :: tr true false l
/-- The bytes that are no blanks, or follow one that is none. -/
def kp : Bool → List UInt8 → List UInt8
  | _, [] => []
  | n, c :: l => if c = 32 then (if n then 32 :: kp false l else kp false l) else c :: kp true l
theorem trimR_cons (c : UInt8) (l : List UInt8) (h : c ≠ 32) : Lib.trimRightB (c :: l) 32 = c :: Lib.trimRightB l 32 := by
  unfold Lib.trimRightB
  rw [List.reverse_cons, List.dropWhile_append]
  split
  · rename_i he
    have he' : List.dropWhile (fun x => x == 32) l.reverse = [] := by simpa using he
    rw [he']; simp [h]
  · simp
theorem trimR_blank (l : List UInt8) : Lib.trimRightB (32 :: l) 32 = if Lib.trimRightB l 32 = [] then [] else 32 :: Lib.trimRightB l 32 := by
  unfold Lib.trimRightB
  rw [List.reverse_cons, List.dropWhile_append]
  split
  · rename_i he
    have he' : List.dropWhile (fun x => x == 32) l.reverse = [] := by simpa using he
    rw [he']; simp
  · rename_i he
    have he' : ¬ List.dropWhile (fun x => x == 32) l.reverse = [] := by simpa using he
    rw [if_neg (by simpa using he')]; simp
theorem kp_tr (l : List UInt8) : Lib.trimRightB (kp true l) 32 = tr true false l ∧
    (Lib.trimRightB (32 :: kp false l) 32 = tr true true l) ∧ ∀ p, Lib.trimRightB (kp false l) 32 = tr false p l := by
  induction l with
  | nil => refine ⟨by simp [kp, tr, Lib.trimRightB], by simp [kp, tr, Lib.trimRightB], fun p => by simp [kp, tr, Lib.trimRightB]⟩
  | cons c l ih =>
    obtain ⟨h1, h2, h3⟩ := ih
    by_cases hc : c = 32
    · subst hc
      refine ⟨?_, ?_, fun p => ?_⟩
      · simp only [kp, tr, if_true]; exact h2
      · simp only [kp, tr, if_true]; exact h2
      · simp only [kp, tr, if_true]; exact h3 true
    · refine ⟨?_, ?_, fun p => ?_⟩
      · simp only [kp, tr, if_neg hc]; rw [trimR_cons _ _ hc, h1]; simp
      · simp only [kp, tr, if_neg hc]
        rw [trimR_blank, trimR_cons _ _ hc, h1]; simp
      · simp only [kp, tr, if_neg hc]; rw [trimR_cons _ _ hc, h1]; simp
theorem tr_head (e p : Bool) (l : List UInt8) (h : e = false ∨ p = false) : Lib.trimLeftB (tr e p l) 32 = tr e p l ∨ e = true := by
  cases e with
  | true => exact .inr rfl
  | false =>
    left
    induction l generalizing p with
    | nil => simp [tr, Lib.trimLeftB]
    | cons c l ih =>
      unfold tr
      split
      · exact ih true (.inl rfl)
      · rename_i hc; simp [Lib.trimLeftB, hc]
/-- What Trim returns. -/
def trim (l : List UInt8) : List UInt8 := tr false false l
theorem trim_kp (l : List UInt8) : Lib.trimB (kp false l) 32 = trim l := by
  unfold Lib.trimB trim
  rw [(kp_tr l).2.2 false]
  rcases tr_head false false l (.inl rfl) with h | h
  · exact h
  · cases h
/-- A literal's body. -/
def quo : List UInt8 → List UInt8
  | [] => []
  | c :: l => if c = 34 then 34 :: 34 :: quo l else c :: quo l
/-- What a literal's body says: none: a quote stands alone. -/
def unq : List UInt8 → Option (List UInt8)
  | [] => some []
  | [c] => if c = 34 then none else some [c]
  | c :: d :: l => if c = 34 then (if d = 34 then (unq l).map (34 :: ·) else none) else (unq (d :: l)).map (c :: ·)
theorem unq_cons (c : UInt8) (l : List UInt8) (h : c ≠ 34) : unq (c :: l) = (unq l).map (c :: ·) := by
  cases l with
  | nil => simp [unq, h]
  | cons d l => simp [unq, h]
theorem unq_two (l : List UInt8) : unq (34 :: 34 :: l) = (unq l).map (34 :: ·) := by simp [unq]
/-- The last byte is no blank (n: what is said of the empty text). -/
def lastN : Bool → List UInt8 → Bool
  | n, [] => n
  | _, c :: l => lastN (c != 32) l
theorem lastN_snoc (n : Bool) (l : List UInt8) (c : UInt8) : lastN n (l ++ [c]) = (c != 32) := by
  induction l generalizing n with
  | nil => rfl
  | cons d l ih => exact ih _
theorem kp_snoc (n : Bool) (l : List UInt8) (c : UInt8) : kp n (l ++ [c]) = kp n l ++ (if c = 32 then (if lastN n l then [32] else []) else [c]) := by
  induction l generalizing n with
  | nil => by_cases hc : c = 32 <;> cases n <;> simp [kp, lastN, hc]
  | cons d l ih =>
    by_cases hd : d = 32
    · rw [show lastN n (d :: l) = lastN false l by rw [lastN, hd]; rfl]
      subst hd
      simp only [List.cons_append, kp, if_true, ih false]
      cases n <;> simp
    · rw [show lastN n (d :: l) = lastN true l by rw [lastN, show (d != 32) = true by simpa using hd]]
      simp only [List.cons_append, kp, if_neg hd, ih true]
theorem kp_len (n : Bool) (l : List UInt8) : (kp n l).length ≤ l.length := by
  induction l generalizing n with
  | nil => simp [kp]
  | cons c l ih =>
    have h1 := ih false
    have h2 := ih true
    unfold kp
    split
    · split <;> simp <;> omega
    · simp; omega
end Go.Proofs.YtdhahiodnmmkeaaGreatDoor.GM
