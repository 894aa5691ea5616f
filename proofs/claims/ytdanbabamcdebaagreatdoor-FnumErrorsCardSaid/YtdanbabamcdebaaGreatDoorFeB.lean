/- Contracts for the law FnumErrors: what is returned is valid. -/
import Derived.Test.YtdanbabamcdebaaGreatDoorFeA
import Derived.Test.YtdanbabamcdebaaGreatDoorP1
import Derived.Test.YtdanbabamcdebaaGreatDoorE1
namespace Go.Proofs.YtdanbabamcdebaaGreatDoor.Va
open Go Go.RowKit GM Sx
set_option linter.unusedVariables false
theorem pow_strict {a n : Int} (h : powB a n = true) : -9223372036854775808 < powV a n := by
  have up : ∀ k : Nat, pwB a k = true → -9223372036854775808 < pwV a k := fun k hk => by
    cases hz : powZ a k with
    | none => rw [(pw_none hz).2] at hk; cases hk
    | some p =>
      rw [(pw_some hz).1]
      cases k with
      | zero => simp [powZ] at hz; omega
      | succ k =>
        unfold powZ at hz
        cases hq : powZ a k with
        | none => rw [hq] at hz; simp at hz
        | some q =>
          rw [hq] at hz
          simp at hz
          have := (resB_in hz.1).2.1
          omega
  unfold powB at h
  unfold powV
  split at h
  · cases h
  · split at h
    · rename_i h1 h2
      rw [if_neg h1, if_pos h2]; exact up _ h
    · rename_i h1 h2
      rw [if_neg h1, if_neg h2]
      split at h
      · rename_i h3
        rw [if_pos h3]
        obtain ⟨e, k, _⟩ := resB_in h
        rw [e]; exact k
      · cases h
/-- A value that is valid. -/
def Vd (k : Nat) (n : Int) (s : ByteArray) : Prop := vE k n s.data.toList = 0 ∧ s.size ≤ 2000 ∧ leastI ≤ n
def Res (f : FuncId) (a : Array Value) : Prop := ∃ (k : Nat) (n : Int) (s : ByteArray), Rt f a (Vg (k : Int) n s) ∧ Vd k n s
theorem vd_err {n : Int} (h : 1 ≤ n ∧ n ≤ 6) : Vd 4 n ⟨#[]⟩ := ⟨vE_err h, by decide, by unfold leastI; omega⟩
theorem vd_num {n : Int} (h : -9223372036854775808 < n) : Vd 1 n ⟨#[]⟩ := ⟨vE_num (by unfold leastI; omega), by decide, by unfold leastI; omega⟩
theorem vd_bool {b : Bool} : Vd 2 (b2i b) ⟨#[]⟩ := ⟨vE_bool (by cases b <;> decide), by decide, by cases b <;> decide⟩
theorem nu_f (r : Int)  : Rt 36 #[.int .i64 r, .bool false] (.agg #[.int .u8 4, .int .i64 3, .string ⟨#[]⟩]) := fun w hT =>
  va_call (facts := []) (tab := []) (σ := symOf [.int .i64 r]) (symOf_one rfl) hT (foks_nil) (toks_nil) (args := [(symV 0), .bool false]) (v := .agg #[.int .u8 4, .int .i64 3, .string ⟨#[]⟩]) (by kernel_rfl) rfl rfl
theorem nu_t (r : Int) (h : -9223372036854775808 < r) : Rt 36 #[.int .i64 r, .bool true] (.agg #[.int .u8 1, .int .i64 r, .string ⟨#[]⟩]) := fun w hT =>
  va_call (facts := [⟨isBin .eql 2, [(symV 0), .int .i64 (-9223372036854775808)], .bool false, false⟩]) (tab := []) (σ := symOf [.int .i64 r]) (symOf_one rfl) hT (foks_cons (fok_cmp rfl rfl rfl (by simp [cmpI]; omega)) (foks_nil)) (toks_nil) (args := [(symV 0), .bool true]) (v := .agg #[.int .u8 1, (symV 0), .string ⟨#[]⟩]) (by kernel_rfl) rfl rfl
theorem mk_t (r : Int) (h : -9223372036854775808 < r) : Rt 59 #[.int .i64 r] (.agg #[.int .u8 1, .int .i64 r, .string ⟨#[]⟩]) := fun w hT =>
  va_call (facts := [⟨isBin .eql 2, [(symV 0), .int .i64 (-9223372036854775808)], .bool false, false⟩]) (tab := []) (σ := symOf [.int .i64 r]) (symOf_one rfl) hT (foks_cons (fok_cmp rfl rfl rfl (by simp [cmpI]; omega)) (foks_nil)) (toks_nil) (args := [(symV 0)]) (v := .agg #[.int .u8 1, (symV 0), .string ⟨#[]⟩]) (by kernel_rfl) rfl rfl
theorem num_ok (r : Int) (ok : Bool) (h : ok = true → -9223372036854775808 < r) : Res 36 #[.int .i64 r, .bool ok] := by
  cases ok with
  | true => exact ⟨1, r, ⟨#[]⟩, nu_t r (h rfl), vd_num (h rfl)⟩
  | false => exact ⟨4, 3, ⟨#[]⟩, nu_f r, vd_err (by decide)⟩
theorem mk_ok (r : Int) (h : -9223372036854775808 < r) : Res 59 #[.int .i64 r] := ⟨1, r, ⟨#[]⟩, mk_t r h, vd_num h⟩
theorem resV_lo {z : Int} (h : resB z = true) : -9223372036854775808 < resV z := by
  obtain ⟨e, b, _⟩ := resB_in h
  rw [e]; exact b
theorem qu_z (x : Int)  : Rt 74 #[.int .i64 x, .int .i64 0] (.agg #[.int .u8 4, .int .i64 1, .string ⟨#[]⟩]) := fun w hT =>
  va_call (facts := []) (tab := []) (σ := symOf [.int .i64 x]) (symOf_one rfl) hT (foks_nil) (toks_nil) (args := [(symV 0), .int .i64 0]) (v := .agg #[.int .u8 4, .int .i64 1, .string ⟨#[]⟩]) (by kernel_rfl) rfl rfl
theorem qu_n (x y r : Int) (ok : Bool) (k : Nat) (m : Int) (s : ByteArray) (hy : y ≠ 0) (hd : Rt 41 #[.int .i64 x, .int .i64 y] (.tuple #[.int .i64 r, .bool ok])) (hn : Rt 36 #[.int .i64 r, .bool ok] (.agg #[.int .u8 (k : Int), .int .i64 m, .string s])) : Rt 74 #[.int .i64 x, .int .i64 y] (.agg #[.int .u8 (k : Int), .int .i64 m, .string s]) := fun w hT =>
  va_call (facts := [⟨isBin .eql 2, [(symV 1), .int .i64 0], .bool false, false⟩]) (tab := [(41, [(symV 0), (symV 1)], .tuple #[(symV 2), (symV 3)]), (36, [(symV 2), (symV 3)], .agg #[(symV 4), (symV 5), (symV 6)])]) (σ := symOf [.int .i64 x, .int .i64 y, .int .i64 r, .bool ok, .int .u8 (k : Int), .int .i64 m, .string s]) (symOf_one rfl) hT (foks_cons (fok_cmp rfl rfl rfl (by simp [cmpI]; omega)) (foks_nil)) (toks_cons (Sx.tok rfl rfl rfl rfl (up hT hd)) (toks_cons (Sx.tok rfl rfl rfl rfl (up hT hn)) (toks_nil))) (args := [(symV 0), (symV 1)]) (v := .agg #[(symV 4), (symV 5), (symV 6)]) (by kernel_rfl) rfl rfl
theorem quot_ok (x y : Int) (hx : InI x) (hy : InI y) : Res 74 #[.int .i64 x, .int .i64 y] := by
  by_cases h : y = 0
  · subst h; exact ⟨4, 1, ⟨#[]⟩, qu_z x, vd_err (by decide)⟩
  · obtain ⟨k, m, s, hn, hv⟩ := num_ok (resV (quoZ x y)) (resB (quoZ x y)) resV_lo
    exact ⟨k, m, s, qu_n x y _ _ k m s h (drewB fun W => quo_any x y hx hy h W) hn, hv⟩
theorem pw_f (x y t : Int) (r : Int) (ok : Bool) (k : Nat) (m : Int) (s : ByteArray) (ht : Rt 62 #[.int .i64 y] (.int .i64 t)) (h1 : t ≠ y) : Rt 66 #[.int .i64 x, .int .i64 y] (.agg #[.int .u8 4, .int .i64 3, .string ⟨#[]⟩]) := fun w hT =>
  va_call (facts := [⟨isBin .neq 2, [(symV 2), (symV 1)], .bool true, false⟩]) (tab := [(62, [(symV 1)], (symV 2))]) (σ := symOf [.int .i64 x, .int .i64 y, .int .i64 t, .int .i64 (y.tdiv 10000), .int .u8 (k : Int), .int .i64 m, .string s, .int .i64 r, .bool ok]) (symOf_one rfl) hT (foks_cons (fok_cmp rfl rfl rfl (by simp [cmpI]; omega)) (foks_nil)) (toks_cons (Sx.tok rfl rfl rfl rfl (up hT ht)) (toks_nil)) (args := [(symV 0), (symV 1)]) (v := .agg #[.int .u8 4, .int .i64 3, .string ⟨#[]⟩]) (by kernel_rfl) rfl rfl
theorem pw_z (x y t : Int) (r : Int) (ok : Bool) (k : Nat) (m : Int) (s : ByteArray) (ht : Rt 62 #[.int .i64 y] (.int .i64 t)) (h1 : t = y) (hx : x = 0) (hy : y < 0) : Rt 66 #[.int .i64 x, .int .i64 y] (.agg #[.int .u8 4, .int .i64 1, .string ⟨#[]⟩]) := fun w hT =>
  va_call (facts := [⟨isBin .neq 2, [(symV 2), (symV 1)], .bool false, false⟩, ⟨isBin .eql 2, [(symV 0), .int .i64 0], .bool true, false⟩, ⟨isBin .lss 2, [(symV 1), .int .i64 0], .bool true, false⟩]) (tab := [(62, [(symV 1)], (symV 2))]) (σ := symOf [.int .i64 x, .int .i64 y, .int .i64 t, .int .i64 (y.tdiv 10000), .int .u8 (k : Int), .int .i64 m, .string s, .int .i64 r, .bool ok]) (symOf_one rfl) hT (foks_cons (fok_cmp rfl rfl rfl (by simp [cmpI]; omega)) (foks_cons (fok_cmp rfl rfl rfl (by simp [cmpI]; omega)) (foks_cons (fok_cmp rfl rfl rfl (by simp [cmpI]; omega)) (foks_nil)))) (toks_cons (Sx.tok rfl rfl rfl rfl (up hT ht)) (toks_nil)) (args := [(symV 0), (symV 1)]) (v := .agg #[.int .u8 4, .int .i64 1, .string ⟨#[]⟩]) (by kernel_rfl) rfl rfl
theorem pw_a (x y t : Int) (r : Int) (ok : Bool) (k : Nat) (m : Int) (s : ByteArray) (ht : Rt 62 #[.int .i64 y] (.int .i64 t)) (h1 : t = y) (hx : x ≠ 0) (hq : -922337203685478 ≤ y.tdiv 10000 ∧ y.tdiv 10000 ≤ 922337203685478) (hd : Rt 115 #[.int .i64 x, .int .i64 (y.tdiv 10000)] (.tuple #[.int .i64 r, .bool ok])) (hn : Rt 36 #[.int .i64 r, .bool ok] (.agg #[.int .u8 (k : Int), .int .i64 m, .string s])) : Rt 66 #[.int .i64 x, .int .i64 y] (.agg #[.int .u8 (k : Int), .int .i64 m, .string s]) := fun w hT =>
  va_call (facts := [⟨isBin .neq 2, [(symV 2), (symV 1)], .bool false, false⟩, ⟨isBin .eql 2, [(symV 0), .int .i64 0], .bool false, false⟩, ⟨isBin .quo 2, [(symV 1), .int .i64 10000], (symV 3), false⟩]) (tab := [(62, [(symV 1)], (symV 2)), (115, [(symV 0), (symV 3)], .tuple #[(symV 7), (symV 8)]), (36, [(symV 7), (symV 8)], .agg #[(symV 4), (symV 5), (symV 6)])]) (σ := symOf [.int .i64 x, .int .i64 y, .int .i64 t, .int .i64 (y.tdiv 10000), .int .u8 (k : Int), .int .i64 m, .string s, .int .i64 r, .bool ok]) (symOf_one rfl) hT (foks_cons (fok_cmp rfl rfl rfl (by simp [cmpI]; omega)) (foks_cons (fok_cmp rfl rfl rfl (by simp [cmpI]; omega)) (foks_cons (fok_div rfl rfl rfl rfl rfl (by decide) (.inr ⟨rfl, wrap64 (by omega) (by omega)⟩)) (foks_nil)))) (toks_cons (Sx.tok rfl rfl rfl rfl (up hT ht)) (toks_cons (Sx.tok rfl rfl rfl rfl (up hT hd)) (toks_cons (Sx.tok rfl rfl rfl rfl (up hT hn)) (toks_nil)))) (args := [(symV 0), (symV 1)]) (v := .agg #[(symV 4), (symV 5), (symV 6)]) (by kernel_rfl) rfl rfl
theorem pw_b (x y t : Int) (r : Int) (ok : Bool) (k : Nat) (m : Int) (s : ByteArray) (ht : Rt 62 #[.int .i64 y] (.int .i64 t)) (h1 : t = y) (hx : x = 0) (hy : 0 ≤ y) (hq : -922337203685478 ≤ y.tdiv 10000 ∧ y.tdiv 10000 ≤ 922337203685478) (hd : Rt 115 #[.int .i64 x, .int .i64 (y.tdiv 10000)] (.tuple #[.int .i64 r, .bool ok])) (hn : Rt 36 #[.int .i64 r, .bool ok] (.agg #[.int .u8 (k : Int), .int .i64 m, .string s])) : Rt 66 #[.int .i64 x, .int .i64 y] (.agg #[.int .u8 (k : Int), .int .i64 m, .string s]) := fun w hT =>
  va_call (facts := [⟨isBin .neq 2, [(symV 2), (symV 1)], .bool false, false⟩, ⟨isBin .eql 2, [(symV 0), .int .i64 0], .bool true, false⟩, ⟨isBin .lss 2, [(symV 1), .int .i64 0], .bool false, false⟩, ⟨isBin .quo 2, [(symV 1), .int .i64 10000], (symV 3), false⟩]) (tab := [(62, [(symV 1)], (symV 2)), (115, [(symV 0), (symV 3)], .tuple #[(symV 7), (symV 8)]), (36, [(symV 7), (symV 8)], .agg #[(symV 4), (symV 5), (symV 6)])]) (σ := symOf [.int .i64 x, .int .i64 y, .int .i64 t, .int .i64 (y.tdiv 10000), .int .u8 (k : Int), .int .i64 m, .string s, .int .i64 r, .bool ok]) (symOf_one rfl) hT (foks_cons (fok_cmp rfl rfl rfl (by simp [cmpI]; omega)) (foks_cons (fok_cmp rfl rfl rfl (by simp [cmpI]; omega)) (foks_cons (fok_cmp rfl rfl rfl (by simp [cmpI]; omega)) (foks_cons (fok_div rfl rfl rfl rfl rfl (by decide) (.inr ⟨rfl, wrap64 (by omega) (by omega)⟩)) (foks_nil))))) (toks_cons (Sx.tok rfl rfl rfl rfl (up hT ht)) (toks_cons (Sx.tok rfl rfl rfl rfl (up hT hd)) (toks_cons (Sx.tok rfl rfl rfl rfl (up hT hn)) (toks_nil)))) (args := [(symV 0), (symV 1)]) (v := .agg #[(symV 4), (symV 5), (symV 6)]) (by kernel_rfl) rfl rfl
theorem tdiv_rng {y : Int} (h : InI y) : -922337203685478 ≤ y.tdiv 10000 ∧ y.tdiv 10000 ≤ 922337203685478 := by
  unfold InI at h
  rcases Int.le_total 0 y with h0 | h0
  · rw [Int.tdiv_eq_ediv_of_nonneg h0]; omega
  · obtain ⟨b, hb⟩ : ∃ b, y = -b := ⟨-y, by omega⟩
    subst hb
    rw [Int.neg_tdiv, Int.tdiv_eq_ediv_of_nonneg (by omega)]; omega
theorem powr_ok (x y : Int) (hx : InI x) (hy : InI y) : Res 66 #[.int .i64 x, .int .i64 y] := by
  have ht := pureB fun W => trunc_any y hy W
  by_cases h1 : truncZ y = y
  · have q := tdiv_rng hy
    obtain ⟨k, m, s, hn, hv⟩ := num_ok (powV x (y.tdiv 10000)) (powB x (y.tdiv 10000)) pow_strict
    have hd := drewB fun W => power_any x (y.tdiv 10000) hx (by omega) W
    by_cases h0 : x = 0
    · by_cases hs : y < 0
      · exact ⟨4, 1, ⟨#[]⟩, pw_z x y _ 0 false 0 0 ⟨#[]⟩ ht h1 h0 hs, vd_err (by decide)⟩
      · exact ⟨k, m, s, pw_b x y _ _ _ k m s ht h1 h0 (by omega) q hd hn, hv⟩
    · exact ⟨k, m, s, pw_a x y _ _ _ k m s ht h1 h0 q hd hn, hv⟩
  · exact ⟨4, 3, ⟨#[]⟩, pw_f x y _ 0 false 0 0 ⟨#[]⟩ ht h1, vd_err (by decide)⟩
theorem mo_z (x : Int)  : Rt 65 #[.int .i64 x, .int .i64 0] (.agg #[.int .u8 4, .int .i64 1, .string ⟨#[]⟩]) := fun w hT =>
  va_call (facts := []) (tab := []) (σ := symOf [.int .i64 x]) (symOf_one rfl) hT (foks_nil) (toks_nil) (args := [(symV 0), .int .i64 0]) (v := .agg #[.int .u8 4, .int .i64 1, .string ⟨#[]⟩]) (by kernel_rfl) rfl rfl
theorem mo_0 (x y : Int) (k : Nat) (m : Int) (s : ByteArray) (hy : y ≠ 0) (hr : x.tmod y = 0) (hm : Rt 59 #[.int .i64 (x.tmod y)] (.agg #[.int .u8 (k : Int), .int .i64 m, .string s])) : Rt 65 #[.int .i64 x, .int .i64 y] (.agg #[.int .u8 (k : Int), .int .i64 m, .string s]) := fun w hT =>
  va_call (facts := [⟨isBin .eql 2, [(symV 1), .int .i64 0], .bool false, false⟩, ⟨isBin .rem 2, [(symV 0), (symV 1)], (symV 2), false⟩, ⟨isBin .neq 2, [(symV 2), .int .i64 0], .bool false, false⟩]) (tab := [(59, [(symV 2)], .agg #[(symV 4), (symV 5), (symV 6)])]) (σ := symOf [.int .i64 x, .int .i64 y, .int .i64 (x.tmod y), .int .i64 (x.tmod y + y), .int .u8 (k : Int), .int .i64 m, .string s]) (symOf_one rfl) hT (foks_cons (fok_cmp rfl rfl rfl (by simp [cmpI]; omega)) (foks_cons (fok_div rfl rfl rfl rfl rfl (by omega) (.inl ⟨rfl, rfl⟩)) (foks_cons (fok_cmp rfl rfl rfl (by simp [cmpI]; omega)) (foks_nil)))) (toks_cons (Sx.tok rfl rfl rfl rfl (up hT hm)) (toks_nil)) (args := [(symV 0), (symV 1)]) (v := .agg #[(symV 4), (symV 5), (symV 6)]) (by kernel_rfl) rfl rfl
theorem mo_nn (x y : Int) (k : Nat) (m : Int) (s : ByteArray) (hy : y ≠ 0) (hr : x.tmod y < 0) (hs : y < 0) (hm : Rt 59 #[.int .i64 (x.tmod y)] (.agg #[.int .u8 (k : Int), .int .i64 m, .string s])) : Rt 65 #[.int .i64 x, .int .i64 y] (.agg #[.int .u8 (k : Int), .int .i64 m, .string s]) := fun w hT =>
  va_call (facts := [⟨isBin .eql 2, [(symV 1), .int .i64 0], .bool false, false⟩, ⟨isBin .rem 2, [(symV 0), (symV 1)], (symV 2), false⟩, ⟨isBin .neq 2, [(symV 2), .int .i64 0], .bool true, false⟩, ⟨isBin .lss 2, [(symV 2), .int .i64 0], .bool true, false⟩, ⟨isBin .lss 2, [(symV 1), .int .i64 0], .bool true, false⟩, ⟨isBin .eql 2, [(symV 2), .int .i64 0], .bool false, false⟩]) (tab := [(59, [(symV 2)], .agg #[(symV 4), (symV 5), (symV 6)])]) (σ := symOf [.int .i64 x, .int .i64 y, .int .i64 (x.tmod y), .int .i64 (x.tmod y + y), .int .u8 (k : Int), .int .i64 m, .string s]) (symOf_one rfl) hT (foks_cons (fok_cmp rfl rfl rfl (by simp [cmpI]; omega)) (foks_cons (fok_div rfl rfl rfl rfl rfl (by omega) (.inl ⟨rfl, rfl⟩)) (foks_cons (fok_cmp rfl rfl rfl (by simp [cmpI]; omega)) (foks_cons (fok_cmp rfl rfl rfl (by simp [cmpI]; omega)) (foks_cons (fok_cmp rfl rfl rfl (by simp [cmpI]; omega)) (foks_cons (fok_cmp rfl rfl rfl (by simp [cmpI]; omega)) (foks_nil))))))) (toks_cons (Sx.tok rfl rfl rfl rfl (up hT hm)) (toks_nil)) (args := [(symV 0), (symV 1)]) (v := .agg #[(symV 4), (symV 5), (symV 6)]) (by kernel_rfl) rfl rfl
theorem mo_np (x y : Int) (k : Nat) (m : Int) (s : ByteArray) (hy : y ≠ 0) (hr : x.tmod y < 0) (hs : 0 < y) (hb : -9223372036854775808 ≤ x.tmod y + y ∧ x.tmod y + y ≤ 9223372036854775807) (hm : Rt 59 #[.int .i64 (x.tmod y + y)] (.agg #[.int .u8 (k : Int), .int .i64 m, .string s])) : Rt 65 #[.int .i64 x, .int .i64 y] (.agg #[.int .u8 (k : Int), .int .i64 m, .string s]) := fun w hT =>
  va_call (facts := [⟨isBin .eql 2, [(symV 1), .int .i64 0], .bool false, false⟩, ⟨isBin .rem 2, [(symV 0), (symV 1)], (symV 2), false⟩, ⟨isBin .neq 2, [(symV 2), .int .i64 0], .bool true, false⟩, ⟨isBin .lss 2, [(symV 2), .int .i64 0], .bool true, false⟩, ⟨isBin .lss 2, [(symV 1), .int .i64 0], .bool false, false⟩, ⟨isBin .eql 2, [(symV 2), .int .i64 0], .bool false, false⟩, ⟨isBin .add 2, [(symV 2), (symV 1)], (symV 3), false⟩]) (tab := [(59, [(symV 3)], .agg #[(symV 4), (symV 5), (symV 6)])]) (σ := symOf [.int .i64 x, .int .i64 y, .int .i64 (x.tmod y), .int .i64 (x.tmod y + y), .int .u8 (k : Int), .int .i64 m, .string s]) (symOf_one rfl) hT (foks_cons (fok_cmp rfl rfl rfl (by simp [cmpI]; omega)) (foks_cons (fok_div rfl rfl rfl rfl rfl (by omega) (.inl ⟨rfl, rfl⟩)) (foks_cons (fok_cmp rfl rfl rfl (by simp [cmpI]; omega)) (foks_cons (fok_cmp rfl rfl rfl (by simp [cmpI]; omega)) (foks_cons (fok_cmp rfl rfl rfl (by simp [cmpI]; omega)) (foks_cons (fok_cmp rfl rfl rfl (by simp [cmpI]; omega)) (foks_cons (fok_arith rfl rfl rfl rfl rfl (.inl ⟨rfl, wrap64 (by omega) (by omega)⟩)) (foks_nil)))))))) (toks_cons (Sx.tok rfl rfl rfl rfl (up hT hm)) (toks_nil)) (args := [(symV 0), (symV 1)]) (v := .agg #[(symV 4), (symV 5), (symV 6)]) (by kernel_rfl) rfl rfl
theorem mo_pn (x y : Int) (k : Nat) (m : Int) (s : ByteArray) (hy : y ≠ 0) (hr : 0 < x.tmod y) (hs : y < 0) (hb : -9223372036854775808 ≤ x.tmod y + y ∧ x.tmod y + y ≤ 9223372036854775807) (hm : Rt 59 #[.int .i64 (x.tmod y + y)] (.agg #[.int .u8 (k : Int), .int .i64 m, .string s])) : Rt 65 #[.int .i64 x, .int .i64 y] (.agg #[.int .u8 (k : Int), .int .i64 m, .string s]) := fun w hT =>
  va_call (facts := [⟨isBin .eql 2, [(symV 1), .int .i64 0], .bool false, false⟩, ⟨isBin .rem 2, [(symV 0), (symV 1)], (symV 2), false⟩, ⟨isBin .neq 2, [(symV 2), .int .i64 0], .bool true, false⟩, ⟨isBin .lss 2, [(symV 2), .int .i64 0], .bool false, false⟩, ⟨isBin .lss 2, [(symV 1), .int .i64 0], .bool true, false⟩, ⟨isBin .eql 2, [(symV 2), .int .i64 0], .bool false, false⟩, ⟨isBin .add 2, [(symV 2), (symV 1)], (symV 3), false⟩]) (tab := [(59, [(symV 3)], .agg #[(symV 4), (symV 5), (symV 6)])]) (σ := symOf [.int .i64 x, .int .i64 y, .int .i64 (x.tmod y), .int .i64 (x.tmod y + y), .int .u8 (k : Int), .int .i64 m, .string s]) (symOf_one rfl) hT (foks_cons (fok_cmp rfl rfl rfl (by simp [cmpI]; omega)) (foks_cons (fok_div rfl rfl rfl rfl rfl (by omega) (.inl ⟨rfl, rfl⟩)) (foks_cons (fok_cmp rfl rfl rfl (by simp [cmpI]; omega)) (foks_cons (fok_cmp rfl rfl rfl (by simp [cmpI]; omega)) (foks_cons (fok_cmp rfl rfl rfl (by simp [cmpI]; omega)) (foks_cons (fok_cmp rfl rfl rfl (by simp [cmpI]; omega)) (foks_cons (fok_arith rfl rfl rfl rfl rfl (.inl ⟨rfl, wrap64 (by omega) (by omega)⟩)) (foks_nil)))))))) (toks_cons (Sx.tok rfl rfl rfl rfl (up hT hm)) (toks_nil)) (args := [(symV 0), (symV 1)]) (v := .agg #[(symV 4), (symV 5), (symV 6)]) (by kernel_rfl) rfl rfl
theorem mo_pp (x y : Int) (k : Nat) (m : Int) (s : ByteArray) (hy : y ≠ 0) (hr : 0 < x.tmod y) (hs : 0 < y) (hm : Rt 59 #[.int .i64 (x.tmod y)] (.agg #[.int .u8 (k : Int), .int .i64 m, .string s])) : Rt 65 #[.int .i64 x, .int .i64 y] (.agg #[.int .u8 (k : Int), .int .i64 m, .string s]) := fun w hT =>
  va_call (facts := [⟨isBin .eql 2, [(symV 1), .int .i64 0], .bool false, false⟩, ⟨isBin .rem 2, [(symV 0), (symV 1)], (symV 2), false⟩, ⟨isBin .neq 2, [(symV 2), .int .i64 0], .bool true, false⟩, ⟨isBin .lss 2, [(symV 2), .int .i64 0], .bool false, false⟩, ⟨isBin .lss 2, [(symV 1), .int .i64 0], .bool false, false⟩, ⟨isBin .eql 2, [(symV 2), .int .i64 0], .bool false, false⟩]) (tab := [(59, [(symV 2)], .agg #[(symV 4), (symV 5), (symV 6)])]) (σ := symOf [.int .i64 x, .int .i64 y, .int .i64 (x.tmod y), .int .i64 (x.tmod y + y), .int .u8 (k : Int), .int .i64 m, .string s]) (symOf_one rfl) hT (foks_cons (fok_cmp rfl rfl rfl (by simp [cmpI]; omega)) (foks_cons (fok_div rfl rfl rfl rfl rfl (by omega) (.inl ⟨rfl, rfl⟩)) (foks_cons (fok_cmp rfl rfl rfl (by simp [cmpI]; omega)) (foks_cons (fok_cmp rfl rfl rfl (by simp [cmpI]; omega)) (foks_cons (fok_cmp rfl rfl rfl (by simp [cmpI]; omega)) (foks_cons (fok_cmp rfl rfl rfl (by simp [cmpI]; omega)) (foks_nil))))))) (toks_cons (Sx.tok rfl rfl rfl rfl (up hT hm)) (toks_nil)) (args := [(symV 0), (symV 1)]) (v := .agg #[(symV 4), (symV 5), (symV 6)]) (by kernel_rfl) rfl rfl
theorem modl_ok (x y : Int) (hx : InI x) (hy : InI y) : Res 65 #[.int .i64 x, .int .i64 y] := by
  by_cases h : y = 0
  · subst h; exact ⟨4, 1, ⟨#[]⟩, mo_z x, vd_err (by decide)⟩
  have hp : 0 < y → -y < x.tmod y ∧ x.tmod y < y := fun h => tmod_rng x h
  have hn : y < 0 → y < x.tmod y ∧ x.tmod y < -y := fun h => by
    have := tmod_rng x (show 0 < -y by omega)
    rw [Int.tmod_neg] at this
    omega
  unfold InI at hx hy
  by_cases hr : x.tmod y = 0
  · obtain ⟨k, m, s, hm, hv⟩ := mk_ok (x.tmod y) (by omega)
    exact ⟨k, m, s, mo_0 x y k m s h hr hm, hv⟩
  by_cases hr1 : x.tmod y < 0
  · by_cases hs : y < 0
    · have := hn hs
      obtain ⟨k, m, s, hm, hv⟩ := mk_ok (x.tmod y) (by omega)
      exact ⟨k, m, s, mo_nn x y k m s h hr1 hs hm, hv⟩
    · have := hp (by omega)
      obtain ⟨k, m, s, hm, hv⟩ := mk_ok (x.tmod y + y) (by omega)
      exact ⟨k, m, s, mo_np x y k m s h hr1 (by omega) (by omega) hm, hv⟩
  · by_cases hs : y < 0
    · have := hn hs
      obtain ⟨k, m, s, hm, hv⟩ := mk_ok (x.tmod y + y) (by omega)
      exact ⟨k, m, s, mo_pn x y k m s h (by omega) hs (by omega) hm, hv⟩
    · have := hp (by omega)
      obtain ⟨k, m, s, hm, hv⟩ := mk_ok (x.tmod y) (by omega)
      exact ⟨k, m, s, mo_pp x y k m s h (by omega) (by omega) hm, hv⟩
theorem ng_e (k0 : Nat) (n0 : Int) (s0 : ByteArray) (x : Int) (t : ByteArray) (tn : Rt 23 #[.agg #[.int .u8 (k0 : Int), .int .i64 n0, .string s0]] (.agg #[.int .u8 4, .int .i64 x, .string t])) : Rt 16 #[.agg #[.int .u8 (k0 : Int), .int .i64 n0, .string s0]] (.agg #[.int .u8 4, .int .i64 x, .string t]) := fun w hT =>
  va_call (facts := []) (tab := [(23, [.agg #[(symV 0), (symV 1), (symV 2)]], .agg #[.int .u8 4, (symV 3), (symV 4)])]) (σ := symOf [.int .u8 (k0 : Int), .int .i64 n0, .string s0, .int .i64 x, .string t]) (symOf_one rfl) hT (foks_nil) (toks_cons (Sx.tok rfl rfl rfl rfl (up hT tn)) (toks_nil)) (args := [.agg #[(symV 0), (symV 1), (symV 2)]]) (v := .agg #[.int .u8 4, (symV 3), (symV 4)]) (by kernel_rfl) rfl rfl
theorem ng_n (k0 : Nat) (n0 : Int) (s0 : ByteArray) (x r : Int) (ok : Bool) (k : Nat) (m : Int) (s : ByteArray) (tn : Rt 23 #[.agg #[.int .u8 (k0 : Int), .int .i64 n0, .string s0]] (.agg #[.int .u8 1, .int .i64 x, .string ⟨#[]⟩])) (hd : Rt 37 #[.int .i64 x] (.tuple #[.int .i64 r, .bool ok])) (hn : Rt 36 #[.int .i64 r, .bool ok] (.agg #[.int .u8 (k : Int), .int .i64 m, .string s])) : Rt 16 #[.agg #[.int .u8 (k0 : Int), .int .i64 n0, .string s0]] (.agg #[.int .u8 (k : Int), .int .i64 m, .string s]) := fun w hT =>
  va_call (facts := []) (tab := [(23, [.agg #[(symV 0), (symV 1), (symV 2)]], .agg #[.int .u8 1, (symV 3), .string ⟨#[]⟩]), (37, [(symV 3)], .tuple #[(symV 7), (symV 8)]), (36, [(symV 7), (symV 8)], .agg #[(symV 4), (symV 5), (symV 6)])]) (σ := symOf [.int .u8 (k0 : Int), .int .i64 n0, .string s0, .int .i64 x, .int .u8 (k : Int), .int .i64 m, .string s, .int .i64 r, .bool ok]) (symOf_one rfl) hT (foks_nil) (toks_cons (Sx.tok rfl rfl rfl rfl (up hT tn)) (toks_cons (Sx.tok rfl rfl rfl rfl (up hT hd)) (toks_cons (Sx.tok rfl rfl rfl rfl (up hT hn)) (toks_nil)))) (args := [.agg #[(symV 0), (symV 1), (symV 2)]]) (v := .agg #[(symV 4), (symV 5), (symV 6)]) (by kernel_rfl) rfl rfl
theorem pc_e (k0 : Nat) (n0 : Int) (s0 : ByteArray) (x : Int) (t : ByteArray) (tn : Rt 23 #[.agg #[.int .u8 (k0 : Int), .int .i64 n0, .string s0]] (.agg #[.int .u8 4, .int .i64 x, .string t])) : Rt 18 #[.agg #[.int .u8 (k0 : Int), .int .i64 n0, .string s0]] (.agg #[.int .u8 4, .int .i64 x, .string t]) := fun w hT =>
  va_call (facts := []) (tab := [(23, [.agg #[(symV 0), (symV 1), (symV 2)]], .agg #[.int .u8 4, (symV 3), (symV 4)])]) (σ := symOf [.int .u8 (k0 : Int), .int .i64 n0, .string s0, .int .i64 x, .string t]) (symOf_one rfl) hT (foks_nil) (toks_cons (Sx.tok rfl rfl rfl rfl (up hT tn)) (toks_nil)) (args := [.agg #[(symV 0), (symV 1), (symV 2)]]) (v := .agg #[.int .u8 4, (symV 3), (symV 4)]) (by kernel_rfl) rfl rfl
theorem pc_n (k0 : Nat) (n0 : Int) (s0 : ByteArray) (x r : Int) (ok : Bool) (k : Nat) (m : Int) (s : ByteArray) (tn : Rt 23 #[.agg #[.int .u8 (k0 : Int), .int .i64 n0, .string s0]] (.agg #[.int .u8 1, .int .i64 x, .string ⟨#[]⟩])) (hd : Rt 41 #[.int .i64 x, .int .i64 1000000] (.tuple #[.int .i64 r, .bool ok])) (hn : Rt 36 #[.int .i64 r, .bool ok] (.agg #[.int .u8 (k : Int), .int .i64 m, .string s])) : Rt 18 #[.agg #[.int .u8 (k0 : Int), .int .i64 n0, .string s0]] (.agg #[.int .u8 (k : Int), .int .i64 m, .string s]) := fun w hT =>
  va_call (facts := []) (tab := [(23, [.agg #[(symV 0), (symV 1), (symV 2)]], .agg #[.int .u8 1, (symV 3), .string ⟨#[]⟩]), (41, [(symV 3), .int .i64 1000000], .tuple #[(symV 7), (symV 8)]), (36, [(symV 7), (symV 8)], .agg #[(symV 4), (symV 5), (symV 6)])]) (σ := symOf [.int .u8 (k0 : Int), .int .i64 n0, .string s0, .int .i64 x, .int .u8 (k : Int), .int .i64 m, .string s, .int .i64 r, .bool ok]) (symOf_one rfl) hT (foks_nil) (toks_cons (Sx.tok rfl rfl rfl rfl (up hT tn)) (toks_cons (Sx.tok rfl rfl rfl rfl (up hT hd)) (toks_cons (Sx.tok rfl rfl rfl rfl (up hT hn)) (toks_nil)))) (args := [.agg #[(symV 0), (symV 1), (symV 2)]]) (v := .agg #[(symV 4), (symV 5), (symV 6)]) (by kernel_rfl) rfl rfl
/-- What ToNumber makes of a valid value. -/
theorem tnum (k : Nat) (n : Int) (s : ByteArray) (hs : s.size ≤ 2000) (hi : InI n) : (∃ x, Rt 23 #[Vg (k : Int) n s] (Vg 1 x ⟨#[]⟩) ∧ InI x ∧ cvR 1 k n s = (1, x, ⟨#[]⟩)) ∨ (∃ x t, Rt 23 #[Vg (k : Int) n s] (Vg 4 x t) ∧ Vd 4 x t ∧ cvR 1 k n s = (4, x, t)) := by
  have h : Rt 23 #[Vg (k : Int) n s] (Vg ((cvR 1 k n s).1 : Int) (cvR 1 k n s).2.1 (cvR 1 k n s).2.2) := fun W hW => vto_num k n s hs hi W hW
  obtain ⟨ok, hk⟩ := cv1_ok k n s
  obtain ⟨f1, f2⟩ := cv_fit 1 k n s hs hi
  have hl : leastI ≤ (cvR 1 k n s).2.1 := by unfold InI at f2; unfold leastI; omega
  rcases hk with hk | hk
  · have he := cv1_num hk
    have e : cvR 1 k n s = (1, (cvR 1 k n s).2.1, ⟨#[]⟩) := Prod.ext hk (Prod.ext rfl he)
    rw [hk, he] at h
    exact .inl ⟨_, h, f2, e⟩
  · have e : cvR 1 k n s = (4, (cvR 1 k n s).2.1, (cvR 1 k n s).2.2) := Prod.ext hk rfl
    rw [hk] at h ok
    exact .inr ⟨_, _, h, ⟨ok, f1, hl⟩, e⟩
theorem neg_ok (k : Nat) (n : Int) (s : ByteArray) (hs : s.size ≤ 2000) (hi : InI n) : Res 16 #[Vg (k : Int) n s] := by
  rcases tnum k n s hs hi with ⟨x, h, hx, _⟩ | ⟨x, t, h, hv, _⟩
  · obtain ⟨k', m, s', hn, hv⟩ := num_ok (resV (-x)) (resB (-x)) resV_lo
    exact ⟨k', m, s', ng_n k n s x _ _ k' m s' h (pureB fun W => neg_any x hx W) hn, hv⟩
  · exact ⟨4, x, t, ng_e k n s x t h, hv⟩
theorem perc_ok (k : Nat) (n : Int) (s : ByteArray) (hs : s.size ≤ 2000) (hi : InI n) : Res 18 #[Vg (k : Int) n s] := by
  rcases tnum k n s hs hi with ⟨x, h, hx, _⟩ | ⟨x, t, h, hv, _⟩
  · obtain ⟨k', m, s', hn, hv⟩ := num_ok (resV (quoZ x 1000000)) (resB (quoZ x 1000000)) resV_lo
    exact ⟨k', m, s', pc_n k n s x _ _ k' m s' h (drewB fun W => quo_any x 1000000 hx (by unfold InI; omega) (by decide) W) hn, hv⟩
  · exact ⟨4, x, t, pc_e k n s x t h, hv⟩
end Go.Proofs.YtdanbabamcdebaaGreatDoor.Va
