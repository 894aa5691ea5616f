/- Texts as lists of bytes: capitals, small letters, blanks, literals. No run in this file. -/
import Derived.Lib.Replace
import Derived.Lib.TrimByte
import Derived.Lib.Bytealg
import Derived.Lib.Hide
namespace Go.Proofs.YtoeodfbmiiefkaaGreatDoor.GM
open Go
def up (c : UInt8) : UInt8 := if 97 ≤ c.toNat ∧ c.toNat ≤ 122 then UInt8.ofNat (c.toNat - 32) else c
def lo (c : UInt8) : UInt8 := if 65 ≤ c.toNat ∧ c.toNat ≤ 90 then UInt8.ofNat (c.toNat + 32) else c
theorem up_nat (c : UInt8) : (up c).toNat = if 97 ≤ c.toNat ∧ c.toNat ≤ 122 then c.toNat - 32 else c.toNat := by
  have := c.toNat_lt
  unfold up; split
  · rw [UInt8.toNat_ofNat']; omega
  · rfl
theorem lo_nat (c : UInt8) : (lo c).toNat = if 65 ≤ c.toNat ∧ c.toNat ≤ 90 then c.toNat + 32 else c.toNat := by
  have := c.toNat_lt
  unfold lo; split
  · rw [UInt8.toNat_ofNat']; omega
  · rfl
theorem up_up (c : UInt8) : up (up c) = up c := by apply UInt8.toNat_inj.1; rw [up_nat (up c), up_nat]; split <;> (try split) <;> omega
theorem lo_lo (c : UInt8) : lo (lo c) = lo c := by apply UInt8.toNat_inj.1; rw [lo_nat (lo c), lo_nat]; split <;> (try split) <;> omega
theorem up_lo (c : UInt8) : up (lo c) = up c := by apply UInt8.toNat_inj.1; rw [up_nat (lo c), lo_nat, up_nat]; split <;> split <;> (try split) <;> omega
theorem lo_up (c : UInt8) : lo (up c) = lo c := by apply UInt8.toNat_inj.1; rw [lo_nat (up c), lo_nat, up_nat]; split <;> split <;> (try split) <;> omega
theorem up_32 (c : UInt8) : up c = 32 ↔ c = 32 := by
  rw [← UInt8.toNat_inj, ← UInt8.toNat_inj, up_nat]
  have : (32 : UInt8).toNat = 32 := rfl
  split <;> omega
/-- A text as a string. -/
def str (l : List UInt8) : ByteArray := ⟨l.toArray⟩
theorem str_data (l : List UInt8) : (str l).data.toList = l := by simp [str]
theorem str_size (l : List UInt8) : (str l).size = l.length := by simp [str, ByteArray.size]
theorem str_of (s : ByteArray) : str s.data.toList = s := by cases s; simp [str]
theorem str_inj {a b : List UInt8} : str a = str b ↔ a = b := by
  constructor
  · intro h; rw [← str_data a, h, str_data]
  · rintro rfl; rfl
/-- Printable. -/
def plain (l : List UInt8) : Bool := l.all fun c => 32 ≤ c.toNat && c.toNat ≤ 126
def chk (l : List UInt8) : Int := if 256 < l.length then 5 else if plain l then 0 else 4
/-- Without blanks at the ends, and with single ones within: e: something was written; p: a blank was read last. -/
def tr : Bool → Bool → List UInt8 → List UInt8
  | _, _, [] => []
  | e, p, c :: l => if c = 32 then tr e true l else if e && p then 32 :: c :: tr true false l else c :: tr true false l
/-- The bytes that are no blanks, or follow one that is none. -/
def kp : Bool → List UInt8 → List UInt8
  | _, [] => []
  | n, c :: l => if c = 32 then (if n then 32 :: kp false l else kp false l) else c :: kp true l
theorem trimR_cons (c : UInt8) (l : List UInt8) (h : c ≠ 32) : Lib.trimRightB (c :: l) 32 = c :: Lib.trimRightB l 32 := by
  unfold Lib.trimRightB
  rw [List.reverse_cons, List.dropWhile_append]
  split
  · rename_i he
    have he' : List.dropWhile (fun x => x == 32) l.reverse = [] := by simpa using he
    rw [he']; simp [h]
  · simp
theorem trimR_blank (l : List UInt8) : Lib.trimRightB (32 :: l) 32 = if Lib.trimRightB l 32 = [] then [] else 32 :: Lib.trimRightB l 32 := by
  unfold Lib.trimRightB
  rw [List.reverse_cons, List.dropWhile_append]
  split
  · rename_i he
    have he' : List.dropWhile (fun x => x == 32) l.reverse = [] := by simpa using he
    rw [he']; simp
  · rename_i he
    have he' : ¬ List.dropWhile (fun x => x == 32) l.reverse = [] := by simpa using he
    rw [if_neg (by simpa using he')]; simp
theorem tr_nil (p : Bool) (l : List UInt8) : tr true p l = [] ↔ tr false p l = [] := by
  induction l generalizing p with
  | nil => simp [tr]
  | cons c l ih =>
    unfold tr
    split
    · exact ih true
    · cases p <;> simp
theorem kp_tr (l : List UInt8) : Lib.trimRightB (kp true l) 32 = tr true false l ∧
    (Lib.trimRightB (32 :: kp false l) 32 = tr true true l) ∧ ∀ p, Lib.trimRightB (kp false l) 32 = tr false p l := by
  induction l with
  | nil => refine ⟨by simp [kp, tr, Lib.trimRightB], by simp [kp, tr, Lib.trimRightB], fun p => by simp [kp, tr, Lib.trimRightB]⟩
  | cons c l ih =>
    obtain ⟨h1, h2, h3⟩ := ih
    by_cases hc : c = 32
    · subst hc
      refine ⟨?_, ?_, fun p => ?_⟩
      · simp only [kp, tr, if_true]; exact h2
      · simp only [kp, tr, if_true]; exact h2
      · simp only [kp, tr, if_true]; exact h3 true
    · refine ⟨?_, ?_, fun p => ?_⟩
      · simp only [kp, tr, if_neg hc]; rw [trimR_cons _ _ hc, h1]; simp
      · simp only [kp, tr, if_neg hc]
        rw [trimR_blank, trimR_cons _ _ hc, h1]; simp
      · simp only [kp, tr, if_neg hc]; rw [trimR_cons _ _ hc, h1]; simp
theorem tr_head (e p : Bool) (l : List UInt8) (h : e = false ∨ p = false) : Lib.trimLeftB (tr e p l) 32 = tr e p l ∨ e = true := by
  cases e with
  | true => exact .inr rfl
  | false =>
    left
    induction l generalizing p with
    | nil => simp [tr, Lib.trimLeftB]
    | cons c l ih =>
      unfold tr
      split
      · exact ih true (.inl rfl)
      · rename_i hc; simp [Lib.trimLeftB, hc]
/-- What Trim returns. -/
def trim (l : List UInt8) : List UInt8 := tr false false l
theorem trim_kp (l : List UInt8) : Lib.trimB (kp false l) 32 = trim l := by
  unfold Lib.trimB trim
  rw [(kp_tr l).2.2 false]
  rcases tr_head false false l (.inl rfl) with h | h
  · exact h
  · cases h
/-- A literal's body. -/
def quo : List UInt8 → List UInt8
  | [] => []
  | c :: l => if c = 34 then 34 :: 34 :: quo l else c :: quo l
/-- What a literal's body says: none: a quote stands alone. -/
def unq : List UInt8 → Option (List UInt8)
  | [] => some []
  | [c] => if c = 34 then none else some [c]
  | c :: d :: l => if c = 34 then (if d = 34 then (unq l).map (34 :: ·) else none) else (unq (d :: l)).map (c :: ·)
theorem unq_cons (c : UInt8) (l : List UInt8) (h : c ≠ 34) : unq (c :: l) = (unq l).map (c :: ·) := by
  cases l with
  | nil => simp [unq, h]
  | cons d l => simp [unq, h]
theorem unq_two (l : List UInt8) : unq (34 :: 34 :: l) = (unq l).map (34 :: ·) := by simp [unq]
theorem unq_quo (l : List UInt8) : unq (quo l) = some l := by
  induction l with
  | nil => rfl
  | cons c l ih =>
    unfold quo
    split
    · rename_i h; rw [unq_two, ih, h]; rfl
    · rename_i h; rw [unq_cons _ _ h, ih]; rfl
theorem quo_unq : ∀ (n : Nat) (l u : List UInt8), l.length ≤ n → unq l = some u → quo u = l := by
  intro n
  induction n with
  | zero =>
    intro l u hl h
    obtain rfl : l = [] := List.length_eq_zero_iff.1 (by omega)
    simp [unq] at h; subst h; rfl
  | succ n ih =>
    intro l u hl h
    cases l with
    | nil => simp [unq] at h; subst h; rfl
    | cons c l =>
      by_cases hc : c = 34
      · subst hc
        cases l with
        | nil => simp [unq] at h
        | cons d l =>
          by_cases hd : d = 34
          · subst hd
            rw [unq_two] at h
            cases hu : unq l with
            | none => simp [hu] at h
            | some v =>
              simp [hu] at h; subst h
              have := ih l v (by simp at hl; omega) hu
              simp [quo, this]
          · simp [unq, hd] at h
      · rw [unq_cons _ _ hc] at h
        cases hu : unq l with
        | none => simp [hu] at h
        | some v =>
          simp [hu] at h; subst h
          have := ih l v (by simp at hl; omega) hu
          simp [quo, hc, this]
theorem plain_cons (c : UInt8) (l : List UInt8) : plain (c :: l) = ((32 ≤ c.toNat && c.toNat ≤ 126) && plain l) := rfl
theorem plain_quo (l : List UInt8) : plain (quo l) = plain l := by
  induction l with
  | nil => rfl
  | cons c l ih =>
    rw [quo]
    split
    · rename_i h; subst h; rw [plain_cons, plain_cons, plain_cons, ih]; simp
    · rw [plain_cons, plain_cons, ih]
theorem quo_len (l : List UInt8) : l.length ≤ (quo l).length ∧ (quo l).length ≤ 2 * l.length := by
  induction l with
  | nil => simp [quo]
  | cons c l ih => unfold quo; split <;> simp <;> omega
theorem unq_len (l u : List UInt8) (h : unq l = some u) : u.length ≤ l.length ∧ l.length ≤ 2 * u.length := by
  have := quo_len u
  rw [quo_unq _ l u (Nat.le_refl _) h] at this; exact this
/-- The last byte is no blank (n: what is said of the empty text). -/
def lastN : Bool → List UInt8 → Bool
  | n, [] => n
  | _, c :: l => lastN (c != 32) l
theorem lastN_snoc (n : Bool) (l : List UInt8) (c : UInt8) : lastN n (l ++ [c]) = (c != 32) := by
  induction l generalizing n with
  | nil => rfl
  | cons d l ih => exact ih _
theorem kp_snoc (n : Bool) (l : List UInt8) (c : UInt8) : kp n (l ++ [c]) = kp n l ++ (if c = 32 then (if lastN n l then [32] else []) else [c]) := by
  induction l generalizing n with
  | nil => by_cases hc : c = 32 <;> cases n <;> simp [kp, lastN, hc]
  | cons d l ih =>
    by_cases hd : d = 32
    · rw [show lastN n (d :: l) = lastN false l by rw [lastN, hd]; rfl]
      subst hd
      simp only [List.cons_append, kp, if_true, ih false]
      cases n <;> simp
    · rw [show lastN n (d :: l) = lastN true l by rw [lastN, show (d != 32) = true by simpa using hd]]
      simp only [List.cons_append, kp, if_neg hd, ih true]
theorem kp_len (n : Bool) (l : List UInt8) : (kp n l).length ≤ l.length := by
  induction l generalizing n with
  | nil => simp [kp]
  | cons c l ih =>
    have h1 := ih false
    have h2 := ih true
    unfold kp
    split
    · split <;> simp <;> omega
    · simp; omega
theorem tr_snoc (e p : Bool) (l : List UInt8) (c : UInt8) : tr e p (l ++ [c]) = tr e p l ++ (if c = 32 then [] else if (e || !(tr e p l).isEmpty) && !(lastN (!p) l) then [32, c] else [c]) := by
  induction l generalizing e p with
  | nil =>
    simp only [List.nil_append, tr, lastN]
    by_cases hc : c = 32
    · simp [hc]
    · simp only [if_neg hc]; cases e <;> cases p <;> simp
  | cons d l ih =>
    by_cases hd : d = 32
    · rw [show lastN (!p) (d :: l) = lastN false l by rw [lastN, hd]; rfl]
      subst hd
      simp only [List.cons_append, tr, if_true, ih e true]
      simp
    · rw [show lastN (!p) (d :: l) = lastN true l by rw [lastN, show (d != 32) = true by simpa using hd]]
      simp only [List.cons_append, tr, if_neg hd, ih true false]
      cases e <;> cases p <;> simp
theorem tr_len (e p : Bool) (l : List UInt8) : (tr e p l).length ≤ 2 * l.length := by
  induction l generalizing e p with
  | nil => simp [tr]
  | cons c l ih =>
    have h1 := ih true false
    have h2 := ih e true
    unfold tr
    split
    · simp; omega
    · split <;> simp <;> omega
theorem quo_app (l m : List UInt8) : quo (l ++ m) = quo l ++ quo m := by
  induction l with
  | nil => rfl
  | cons c l ih =>
    rw [List.cons_append, quo, quo, ih]
    split <;> simp
theorem index_q (l : List UInt8) : Lib.replaceK [34] [34, 34] (Lib.count l [34]) l = quo l := by
  have key : ∀ (n : Nat) (l : List UInt8), l.length ≤ n → Lib.replaceK [34] [34, 34] (Lib.count l [34]) l = quo l := by
    intro n
    induction n with
    | zero =>
      intro l hl
      obtain rfl : l = [] := List.length_eq_zero_iff.1 (by omega)
      rw [Lib.count_miss (by rfl)]
      rfl
    | succ n ih =>
      intro l hl
      rcases Int.lt_or_le (Lib.index l [34]) 0 with hm | hm
      · have hmi : Lib.index l [34] = -1 := by have := Lib.index_ge l [34]; omega
        rw [Lib.count_miss hmi, Lib.replaceK]
        have : ∀ (l : List UInt8), Lib.index l [34] = -1 → quo l = l := by
          intro l
          induction l with
          | nil => intro _; rfl
          | cons c l ih =>
            intro h
            unfold Lib.index at h
            split at h
            · cases h
            · rename_i hp
              have hc : ¬ c = 34 := fun e => hp (by subst e; simp [List.isPrefixOf])
              split at h
              · rename_i h2
                rw [quo, if_neg hc, ih (by simpa using h2)]
              · rename_i h2
                have := Lib.index_ge l [34]
                have h3 : ¬ Lib.index l [34] = -1 := by simpa using h2
                omega
        rw [this l hmi]
      · obtain ⟨i, hi⟩ : ∃ i : Nat, Lib.index l [34] = i := ⟨(Lib.index l [34]).toNat, by omega⟩
        rw [Lib.count_hit (by simp) hi, Nat.add_comm, Lib.replaceK_hit _ _ _ _ _ hi]
        have hd : ∀ (l : List UInt8) (i : Nat), Lib.index l [34] = i → i < l.length ∧ quo l = l.take i ++ [34, 34] ++ quo (l.drop (i + 1)) := by
          intro l
          induction l with
          | nil => intro i h; simp [Lib.index] at h
          | cons c l ih =>
            intro i h
            unfold Lib.index at h
            split at h
            · rename_i hp
              have h0 : i = 0 := by omega
              subst h0
              have hc : c = 34 := by simp [List.isPrefixOf] at hp; exact hp.symm
              subst hc
              simp [quo]
            · rename_i hp
              have hc : ¬ c = 34 := fun e => hp (by subst e; simp [List.isPrefixOf])
              split at h
              · omega
              · rename_i h2
                have h3 : ¬ Lib.index l [34] = -1 := by simpa using h2
                obtain ⟨j, hj⟩ : ∃ j : Nat, i = j + 1 := ⟨i - 1, by have := Lib.index_ge l [34]; omega⟩
                subst hj
                obtain ⟨h1, h2⟩ := ih j (by omega)
                refine ⟨by simp; omega, ?_⟩
                rw [quo, if_neg hc, h2]
                simp
        obtain ⟨h1, h2⟩ := hd l i hi
        rw [h2]
        have := ih (l.drop (i + 1)) (by simp; omega)
        simp only [List.length_cons, List.length_nil, Nat.zero_add]
        rw [this]
  exact key _ l (Nat.le_refl _)
theorem replace_q (l : List UInt8) : Lib.replaceAll l [34] [34, 34] = quo l := by
  unfold Lib.replaceAll Lib.replace Lib.replaceNum
  rw [if_neg (by decide), if_pos (.inl (by decide)), index_q]
end Go.Proofs.YtoeodfbmiiefkaaGreatDoor.GM
