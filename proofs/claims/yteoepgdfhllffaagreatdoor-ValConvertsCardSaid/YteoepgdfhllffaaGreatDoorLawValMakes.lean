/- Show and Code of both sides, and the walks of the laws ValMakes and ValConverts. -/
import Derived.Test.YteoepgdfhllffaaGreatDoorValY
import Derived.Test.YteoepgdfhllffaaGreatDoorValZ
import Derived.Test.YteoepgdfhllffaaGreatDoorCameV
namespace Go.Proofs.YteoepgdfhllffaaGreatDoor.Va
open Go Go.RowKit GM Sx
theorem eqv_f {k n : Int} {s : ByteArray} {k' n' : Int} {s' : ByteArray} (h : ¬ (k = k' ∧ n = n' ∧ s = s')) (u v : Operand) (W : World) :
    (do eqGuard .eql 23 u v (.agg #[.int .u8 k, .int .i64 n, .string s]) (.agg #[.int .u8 k', .int .i64 n', .string s']); binOp .eql 23 (.agg #[.int .u8 k, .int .i64 n, .string s]) (.agg #[.int .u8 k', .int .i64 n', .string s']) : Sem Value).run Tryz.prog W = .ok (.bool false) W :=
  ((eqv_run .eql u v k n s k' n' s' W).1 rfl).trans (by rw [decide_eq_false h])
/-- The name of an error. -/
def nameB (n : Int) : ByteArray := if n = 1 then ⟨#[35, 68, 73, 86, 47, 48, 33]⟩ else if n = 2 then ⟨#[35, 86, 65, 76, 85, 69, 33]⟩ else if n = 3 then ⟨#[35, 78, 85, 77, 33]⟩ else if n = 4 then ⟨#[35, 78, 47, 65]⟩ else if n = 5 then ⟨#[35, 82, 69, 70, 33]⟩ else if n = 6 then ⟨#[35, 67, 89, 67, 76, 69, 33]⟩ else ⟨#[35, 68, 69, 78, 73, 69, 68]⟩
/-- What Show returns. -/
def shS (k : Nat) (n : Int) (s : ByteArray) : ByteArray := if k = 4 ∧ s = ⟨#[]⟩ ∧ 1 ≤ n ∧ n ≤ 7 then nameB n else if vE k n s.data.toList = 0 then (cvR 3 k n s).2.2 else ⟨#[]⟩
/-- What Code returns. -/
def cdR (s : ByteArray) : Int × Int := if s = ⟨#[35, 68, 73, 86, 47, 48, 33]⟩ then (1, 0) else if s = ⟨#[35, 86, 65, 76, 85, 69, 33]⟩ then (2, 0) else if s = ⟨#[35, 78, 85, 77, 33]⟩ then (3, 0) else if s = ⟨#[35, 78, 47, 65]⟩ then (4, 0) else if s = ⟨#[35, 82, 69, 70, 33]⟩ then (5, 0) else if s = ⟨#[35, 67, 89, 67, 76, 69, 33]⟩ then (6, 0) else if s = ⟨#[35, 68, 69, 78, 73, 69, 68]⟩ then (7, 0) else (0, 4)
theorem vshow_1   (w : World) (hT : Tb w) : Calls Tryz.prog 17 #[.agg #[.int .u8 4, .int .i64 1, .string ⟨#[]⟩]] w fun e w' => e = .returned (.string ⟨#[35, 68, 73, 86, 47, 48, 33]⟩) ∧ Below w.heap.size w w' :=
  va_call (facts := []) (tab := []) (σ := symOf []) (symOf_one rfl) hT (foks_nil) (toks_nil) (args := [.agg #[.int .u8 4, .int .i64 1, .string ⟨#[]⟩]]) (v := .string ⟨#[35, 68, 73, 86, 47, 48, 33]⟩) (by kernel_rfl) rfl rfl
theorem vshow_2   (w : World) (hT : Tb w) : Calls Tryz.prog 17 #[.agg #[.int .u8 4, .int .i64 2, .string ⟨#[]⟩]] w fun e w' => e = .returned (.string ⟨#[35, 86, 65, 76, 85, 69, 33]⟩) ∧ Below w.heap.size w w' :=
  va_call (facts := []) (tab := []) (σ := symOf []) (symOf_one rfl) hT (foks_nil) (toks_nil) (args := [.agg #[.int .u8 4, .int .i64 2, .string ⟨#[]⟩]]) (v := .string ⟨#[35, 86, 65, 76, 85, 69, 33]⟩) (by kernel_rfl) rfl rfl
theorem vshow_3   (w : World) (hT : Tb w) : Calls Tryz.prog 17 #[.agg #[.int .u8 4, .int .i64 3, .string ⟨#[]⟩]] w fun e w' => e = .returned (.string ⟨#[35, 78, 85, 77, 33]⟩) ∧ Below w.heap.size w w' :=
  va_call (facts := []) (tab := []) (σ := symOf []) (symOf_one rfl) hT (foks_nil) (toks_nil) (args := [.agg #[.int .u8 4, .int .i64 3, .string ⟨#[]⟩]]) (v := .string ⟨#[35, 78, 85, 77, 33]⟩) (by kernel_rfl) rfl rfl
theorem vshow_4   (w : World) (hT : Tb w) : Calls Tryz.prog 17 #[.agg #[.int .u8 4, .int .i64 4, .string ⟨#[]⟩]] w fun e w' => e = .returned (.string ⟨#[35, 78, 47, 65]⟩) ∧ Below w.heap.size w w' :=
  va_call (facts := []) (tab := []) (σ := symOf []) (symOf_one rfl) hT (foks_nil) (toks_nil) (args := [.agg #[.int .u8 4, .int .i64 4, .string ⟨#[]⟩]]) (v := .string ⟨#[35, 78, 47, 65]⟩) (by kernel_rfl) rfl rfl
theorem vshow_5   (w : World) (hT : Tb w) : Calls Tryz.prog 17 #[.agg #[.int .u8 4, .int .i64 5, .string ⟨#[]⟩]] w fun e w' => e = .returned (.string ⟨#[35, 82, 69, 70, 33]⟩) ∧ Below w.heap.size w w' :=
  va_call (facts := []) (tab := []) (σ := symOf []) (symOf_one rfl) hT (foks_nil) (toks_nil) (args := [.agg #[.int .u8 4, .int .i64 5, .string ⟨#[]⟩]]) (v := .string ⟨#[35, 82, 69, 70, 33]⟩) (by kernel_rfl) rfl rfl
theorem vshow_6   (w : World) (hT : Tb w) : Calls Tryz.prog 17 #[.agg #[.int .u8 4, .int .i64 6, .string ⟨#[]⟩]] w fun e w' => e = .returned (.string ⟨#[35, 67, 89, 67, 76, 69, 33]⟩) ∧ Below w.heap.size w w' :=
  va_call (facts := []) (tab := []) (σ := symOf []) (symOf_one rfl) hT (foks_nil) (toks_nil) (args := [.agg #[.int .u8 4, .int .i64 6, .string ⟨#[]⟩]]) (v := .string ⟨#[35, 67, 89, 67, 76, 69, 33]⟩) (by kernel_rfl) rfl rfl
theorem vshow_7   (w : World) (hT : Tb w) : Calls Tryz.prog 17 #[.agg #[.int .u8 4, .int .i64 7, .string ⟨#[]⟩]] w fun e w' => e = .returned (.string ⟨#[35, 68, 69, 78, 73, 69, 68]⟩) ∧ Below w.heap.size w w' :=
  va_call (facts := []) (tab := []) (σ := symOf []) (symOf_one rfl) hT (foks_nil) (toks_nil) (args := [.agg #[.int .u8 4, .int .i64 7, .string ⟨#[]⟩]]) (v := .string ⟨#[35, 68, 69, 78, 73, 69, 68]⟩) (by kernel_rfl) rfl rfl
theorem vshow_b (n : Int) (s : ByteArray) (hc : ∀ W, Tb W → Calls Tryz.prog 9 #[.agg #[.int .u8 4, .int .i64 n, .string s]] W fun e w' => e = .returned (.int .i64 2) ∧ Below W.heap.size W w') (hne : ¬ (n = 7 ∧ s = ⟨#[]⟩)) (w : World) (hT : Tb w) : Calls Tryz.prog 17 #[.agg #[.int .u8 4, .int .i64 n, .string s]] w fun e w' => e = .returned (.string ⟨#[]⟩) ∧ Below w.heap.size w w' :=
  va_call (facts := [⟨isBin .eql 23, [.agg #[.int .u8 4, (symV 0), (symV 1)], .agg #[.int .u8 4, .int .i64 7, .string ⟨#[]⟩]], .bool false, false⟩]) (tab := [(9, [.agg #[.int .u8 4, (symV 0), (symV 1)]], .int .i64 2)]) (σ := symOf [.int .i64 n, .string s]) (symOf_one rfl) hT (foks_cons (fok_bin (a := .agg #[.int .u8 4, (.int .i64 n), (.string s)]) (b := .agg #[.int .u8 4, .int .i64 7, .string ⟨#[]⟩]) (c := .bool false) rfl rfl rfl rfl rfl (fun u v W => eqv_f (fun h => hne ⟨h.2.1, h.2.2⟩) u v W)) (foks_nil)) (toks_cons (tok rfl rfl rfl rfl (fun W hW => hc W (hT.at hW))) (toks_nil)) (args := [.agg #[.int .u8 4, (symV 0), (symV 1)]]) (v := .string ⟨#[]⟩) (by kernel_rfl) rfl rfl
theorem vshow_k0 (k : Nat) (n : Int) (s ts : ByteArray) (hc : ∀ W, Tb W → Calls Tryz.prog 9 #[.agg #[.int .u8 (k : Int), .int .i64 n, .string s]] W fun e w' => e = .returned (.int .i64 0) ∧ Below W.heap.size W w') (hk : k ≠ 4) (ht : ∀ W, Tb W → Calls Tryz.prog 21 #[.agg #[.int .u8 (k : Int), .int .i64 n, .string s]] W fun e w' => e = .returned (.agg #[.int .u8 3, .int .i64 0, .string ts]) ∧ Below W.heap.size W w') (w : World) (hT : Tb w) : Calls Tryz.prog 17 #[.agg #[.int .u8 (k : Int), .int .i64 n, .string s]] w fun e w' => e = .returned (.string ts) ∧ Below w.heap.size w w' :=
  va_call (facts := [⟨isBin .eql 23, [.agg #[(symV 0), (symV 1), (symV 2)], .agg #[.int .u8 4, .int .i64 7, .string ⟨#[]⟩]], .bool false, false⟩, ⟨isBin .eql 5, [(symV 0), .int .u8 4], .bool false, false⟩]) (tab := [(9, [.agg #[(symV 0), (symV 1), (symV 2)]], .int .i64 0), (21, [.agg #[(symV 0), (symV 1), (symV 2)]], .agg #[.int .u8 3, .int .i64 0, (symV 3)])]) (σ := symOf [.int .u8 (k : Int), .int .i64 n, .string s, .string ts]) (symOf_one rfl) hT (foks_cons (fok_bin (a := .agg #[(.int .u8 (k : Int)), (.int .i64 n), (.string s)]) (b := .agg #[.int .u8 4, .int .i64 7, .string ⟨#[]⟩]) (c := .bool false) rfl rfl rfl rfl rfl (fun u v W => eqv_f (fun h => hk (by omega)) u v W)) (foks_cons (fok_cmp rfl rfl rfl (by simp [cmpI]; omega)) (foks_nil))) (toks_cons (tok rfl rfl rfl rfl (fun W hW => hc W (hT.at hW))) (toks_cons (tok rfl rfl rfl rfl (fun W hW => ht W (hT.at hW))) (toks_nil))) (args := [.agg #[(symV 0), (symV 1), (symV 2)]]) (v := (symV 3)) (by kernel_rfl) rfl rfl
theorem vshow_k2 (k : Nat) (n : Int) (s : ByteArray) (hc : ∀ W, Tb W → Calls Tryz.prog 9 #[.agg #[.int .u8 (k : Int), .int .i64 n, .string s]] W fun e w' => e = .returned (.int .i64 2) ∧ Below W.heap.size W w') (hk : k ≠ 4) (w : World) (hT : Tb w) : Calls Tryz.prog 17 #[.agg #[.int .u8 (k : Int), .int .i64 n, .string s]] w fun e w' => e = .returned (.string ⟨#[]⟩) ∧ Below w.heap.size w w' :=
  va_call (facts := [⟨isBin .eql 23, [.agg #[(symV 0), (symV 1), (symV 2)], .agg #[.int .u8 4, .int .i64 7, .string ⟨#[]⟩]], .bool false, false⟩, ⟨isBin .eql 5, [(symV 0), .int .u8 4], .bool false, false⟩]) (tab := [(9, [.agg #[(symV 0), (symV 1), (symV 2)]], .int .i64 2)]) (σ := symOf [.int .u8 (k : Int), .int .i64 n, .string s]) (symOf_one rfl) hT (foks_cons (fok_bin (a := .agg #[(.int .u8 (k : Int)), (.int .i64 n), (.string s)]) (b := .agg #[.int .u8 4, .int .i64 7, .string ⟨#[]⟩]) (c := .bool false) rfl rfl rfl rfl rfl (fun u v W => eqv_f (fun h => hk (by omega)) u v W)) (foks_cons (fok_cmp rfl rfl rfl (by simp [cmpI]; omega)) (foks_nil))) (toks_cons (tok rfl rfl rfl rfl (fun W hW => hc W (hT.at hW))) (toks_nil)) (args := [.agg #[(symV 0), (symV 1), (symV 2)]]) (v := .string ⟨#[]⟩) (by kernel_rfl) rfl rfl
theorem vshow_any (k : Nat) (n : Int) (s : ByteArray) (hs : s.size ≤ 2000) (hi : InI n) (w : World) (hT : Tb w) : Calls Tryz.prog 17 #[.agg #[.int .u8 (k : Int), .int .i64 n, .string s]] w fun e w' => e = .returned (.string (shS k n s)) ∧ Below w.heap.size w w' := by
  have hck := fun W (_ : Tb W) => vcheck_any k n s (maxLen_of hs) hi.1 W
  by_cases hA : k = 4 ∧ s = ⟨#[]⟩ ∧ 1 ≤ n ∧ n ≤ 7
  · have e : shS k n s = nameB n := by unfold shS; rw [if_pos hA]
    rw [e]
    obtain ⟨rfl, rfl, h1, h7⟩ := hA
    have hn : n = 1 ∨ n = 2 ∨ n = 3 ∨ n = 4 ∨ n = 5 ∨ n = 6 ∨ n = 7 := by omega
    rcases hn with rfl | rfl | rfl | rfl | rfl | rfl | rfl
    · exact vshow_1 w hT
    · exact vshow_2 w hT
    · exact vshow_3 w hT
    · exact vshow_4 w hT
    · exact vshow_5 w hT
    · exact vshow_6 w hT
    · exact vshow_7 w hT
  · by_cases h0 : vE k n s.data.toList = 0
    · have e : shS k n s = (cvR 3 k n s).2.2 := by unfold shS; rw [if_neg hA, if_pos h0]
      rw [e]
      have hk : k ≠ 4 := by
        rintro rfl
        rcases vld_sort h0 with ⟨g, _⟩ | ⟨g, _⟩ | ⟨g, _⟩ | ⟨g, _⟩ | ⟨_, g, g'⟩
        · omega
        · omega
        · omega
        · omega
        · exact hA ⟨rfl, g', by omega, by omega⟩
      rw [h0] at hck
      have ht := fun W (h : Tb W) => vto_text k n s hs hi W h
      have hz : (cvR 3 k n s).1 = 3 ∧ (cvR 3 k n s).2.1 = 0 := by
        unfold cvR
        rw [if_pos h0]
        split
        · rename_i h
          rcases h with rfl | rfl
          · rcases vld_sort h0 with ⟨g, _⟩ | ⟨g, _⟩ | ⟨g, _⟩ | ⟨_, g⟩ | ⟨g, _⟩
            · omega
            · omega
            · omega
            · exact ⟨rfl, g⟩
            · omega
          · exact absurd rfl hk
        · exact ⟨rfl, rfl⟩
      rw [hz.1, hz.2] at ht
      exact vshow_k0 k n s _ hck hk ht w hT
    · have e : shS k n s = ⟨#[]⟩ := by unfold shS; rw [if_neg hA, if_neg h0]
      rw [e]
      rw [vE_two _ _ _ h0] at hck
      by_cases hk : k = 4
      · subst hk
        exact vshow_b n s hck (fun h => hA ⟨rfl, h.2, by omega, by omega⟩) w hT
      · exact vshow_k2 k n s hck hk w hT
theorem vcode_1 (s : ByteArray) (hu : ∀ W, Tb W → Calls Tryz.prog 29 #[.string s] W fun e w' => e = .returned (.string ⟨#[35, 68, 73, 86, 47, 48, 33]⟩) ∧ Below W.heap.size W w') (w : World) (hT : Tb w) : Calls Tryz.prog 7 #[.string s] w fun e w' => e = .returned (.tuple #[.int .i64 1, .int .i64 0]) ∧ Below w.heap.size w w' :=
  va_call (facts := []) (tab := [(29, [(symV 0)], .string ⟨#[35, 68, 73, 86, 47, 48, 33]⟩)]) (σ := symOf [.string s]) (symOf_one rfl) hT (foks_nil) (toks_cons (tok rfl rfl rfl rfl (fun W hW => hu W (hT.at hW))) (toks_nil)) (args := [(symV 0)]) (v := .tuple #[.int .i64 1, .int .i64 0]) (by kernel_rfl) rfl rfl
theorem vcode_2 (s : ByteArray) (hu : ∀ W, Tb W → Calls Tryz.prog 29 #[.string s] W fun e w' => e = .returned (.string ⟨#[35, 86, 65, 76, 85, 69, 33]⟩) ∧ Below W.heap.size W w') (w : World) (hT : Tb w) : Calls Tryz.prog 7 #[.string s] w fun e w' => e = .returned (.tuple #[.int .i64 2, .int .i64 0]) ∧ Below w.heap.size w w' :=
  va_call (facts := []) (tab := [(29, [(symV 0)], .string ⟨#[35, 86, 65, 76, 85, 69, 33]⟩)]) (σ := symOf [.string s]) (symOf_one rfl) hT (foks_nil) (toks_cons (tok rfl rfl rfl rfl (fun W hW => hu W (hT.at hW))) (toks_nil)) (args := [(symV 0)]) (v := .tuple #[.int .i64 2, .int .i64 0]) (by kernel_rfl) rfl rfl
theorem vcode_3 (s : ByteArray) (hu : ∀ W, Tb W → Calls Tryz.prog 29 #[.string s] W fun e w' => e = .returned (.string ⟨#[35, 78, 85, 77, 33]⟩) ∧ Below W.heap.size W w') (w : World) (hT : Tb w) : Calls Tryz.prog 7 #[.string s] w fun e w' => e = .returned (.tuple #[.int .i64 3, .int .i64 0]) ∧ Below w.heap.size w w' :=
  va_call (facts := []) (tab := [(29, [(symV 0)], .string ⟨#[35, 78, 85, 77, 33]⟩)]) (σ := symOf [.string s]) (symOf_one rfl) hT (foks_nil) (toks_cons (tok rfl rfl rfl rfl (fun W hW => hu W (hT.at hW))) (toks_nil)) (args := [(symV 0)]) (v := .tuple #[.int .i64 3, .int .i64 0]) (by kernel_rfl) rfl rfl
theorem vcode_4 (s : ByteArray) (hu : ∀ W, Tb W → Calls Tryz.prog 29 #[.string s] W fun e w' => e = .returned (.string ⟨#[35, 78, 47, 65]⟩) ∧ Below W.heap.size W w') (w : World) (hT : Tb w) : Calls Tryz.prog 7 #[.string s] w fun e w' => e = .returned (.tuple #[.int .i64 4, .int .i64 0]) ∧ Below w.heap.size w w' :=
  va_call (facts := []) (tab := [(29, [(symV 0)], .string ⟨#[35, 78, 47, 65]⟩)]) (σ := symOf [.string s]) (symOf_one rfl) hT (foks_nil) (toks_cons (tok rfl rfl rfl rfl (fun W hW => hu W (hT.at hW))) (toks_nil)) (args := [(symV 0)]) (v := .tuple #[.int .i64 4, .int .i64 0]) (by kernel_rfl) rfl rfl
theorem vcode_5 (s : ByteArray) (hu : ∀ W, Tb W → Calls Tryz.prog 29 #[.string s] W fun e w' => e = .returned (.string ⟨#[35, 82, 69, 70, 33]⟩) ∧ Below W.heap.size W w') (w : World) (hT : Tb w) : Calls Tryz.prog 7 #[.string s] w fun e w' => e = .returned (.tuple #[.int .i64 5, .int .i64 0]) ∧ Below w.heap.size w w' :=
  va_call (facts := []) (tab := [(29, [(symV 0)], .string ⟨#[35, 82, 69, 70, 33]⟩)]) (σ := symOf [.string s]) (symOf_one rfl) hT (foks_nil) (toks_cons (tok rfl rfl rfl rfl (fun W hW => hu W (hT.at hW))) (toks_nil)) (args := [(symV 0)]) (v := .tuple #[.int .i64 5, .int .i64 0]) (by kernel_rfl) rfl rfl
theorem vcode_6 (s : ByteArray) (hu : ∀ W, Tb W → Calls Tryz.prog 29 #[.string s] W fun e w' => e = .returned (.string ⟨#[35, 67, 89, 67, 76, 69, 33]⟩) ∧ Below W.heap.size W w') (w : World) (hT : Tb w) : Calls Tryz.prog 7 #[.string s] w fun e w' => e = .returned (.tuple #[.int .i64 6, .int .i64 0]) ∧ Below w.heap.size w w' :=
  va_call (facts := []) (tab := [(29, [(symV 0)], .string ⟨#[35, 67, 89, 67, 76, 69, 33]⟩)]) (σ := symOf [.string s]) (symOf_one rfl) hT (foks_nil) (toks_cons (tok rfl rfl rfl rfl (fun W hW => hu W (hT.at hW))) (toks_nil)) (args := [(symV 0)]) (v := .tuple #[.int .i64 6, .int .i64 0]) (by kernel_rfl) rfl rfl
theorem vcode_7 (s : ByteArray) (hu : ∀ W, Tb W → Calls Tryz.prog 29 #[.string s] W fun e w' => e = .returned (.string ⟨#[35, 68, 69, 78, 73, 69, 68]⟩) ∧ Below W.heap.size W w') (w : World) (hT : Tb w) : Calls Tryz.prog 7 #[.string s] w fun e w' => e = .returned (.tuple #[.int .i64 7, .int .i64 0]) ∧ Below w.heap.size w w' :=
  va_call (facts := []) (tab := [(29, [(symV 0)], .string ⟨#[35, 68, 69, 78, 73, 69, 68]⟩)]) (σ := symOf [.string s]) (symOf_one rfl) hT (foks_nil) (toks_cons (tok rfl rfl rfl rfl (fun W hW => hu W (hT.at hW))) (toks_nil)) (args := [(symV 0)]) (v := .tuple #[.int .i64 7, .int .i64 0]) (by kernel_rfl) rfl rfl
theorem vcode_e (s us : ByteArray) (hu : ∀ W, Tb W → Calls Tryz.prog 29 #[.string s] W fun e w' => e = .returned (.string us) ∧ Below W.heap.size W w') (n1 : us ≠ ⟨#[35, 68, 73, 86, 47, 48, 33]⟩) (n2 : us ≠ ⟨#[35, 86, 65, 76, 85, 69, 33]⟩) (n3 : us ≠ ⟨#[35, 78, 85, 77, 33]⟩) (n4 : us ≠ ⟨#[35, 78, 47, 65]⟩) (n5 : us ≠ ⟨#[35, 82, 69, 70, 33]⟩) (n6 : us ≠ ⟨#[35, 67, 89, 67, 76, 69, 33]⟩) (n7 : us ≠ ⟨#[35, 68, 69, 78, 73, 69, 68]⟩) (w : World) (hT : Tb w) : Calls Tryz.prog 7 #[.string s] w fun e w' => e = .returned (.tuple #[.int .i64 0, .int .i64 4]) ∧ Below w.heap.size w w' :=
  va_call (facts := [⟨isBin .eql 9, [(symV 1), .string ⟨#[35, 68, 73, 86, 47, 48, 33]⟩], .bool false, false⟩, ⟨isBin .eql 9, [(symV 1), .string ⟨#[35, 86, 65, 76, 85, 69, 33]⟩], .bool false, false⟩, ⟨isBin .eql 9, [(symV 1), .string ⟨#[35, 78, 85, 77, 33]⟩], .bool false, false⟩, ⟨isBin .eql 9, [(symV 1), .string ⟨#[35, 78, 47, 65]⟩], .bool false, false⟩, ⟨isBin .eql 9, [(symV 1), .string ⟨#[35, 82, 69, 70, 33]⟩], .bool false, false⟩, ⟨isBin .eql 9, [(symV 1), .string ⟨#[35, 67, 89, 67, 76, 69, 33]⟩], .bool false, false⟩, ⟨isBin .eql 9, [(symV 1), .string ⟨#[35, 68, 69, 78, 73, 69, 68]⟩], .bool false, false⟩]) (tab := [(29, [(symV 0)], (symV 1))]) (σ := symOf [.string s, .string us]) (symOf_one rfl) hT (foks_cons (fok_streq rfl rfl rfl (.inl ⟨rfl, by simpa using n1⟩)) (foks_cons (fok_streq rfl rfl rfl (.inl ⟨rfl, by simpa using n2⟩)) (foks_cons (fok_streq rfl rfl rfl (.inl ⟨rfl, by simpa using n3⟩)) (foks_cons (fok_streq rfl rfl rfl (.inl ⟨rfl, by simpa using n4⟩)) (foks_cons (fok_streq rfl rfl rfl (.inl ⟨rfl, by simpa using n5⟩)) (foks_cons (fok_streq rfl rfl rfl (.inl ⟨rfl, by simpa using n6⟩)) (foks_cons (fok_streq rfl rfl rfl (.inl ⟨rfl, by simpa using n7⟩)) (foks_nil)))))))) (toks_cons (tok rfl rfl rfl rfl (fun W hW => hu W (hT.at hW))) (toks_nil)) (args := [(symV 0)]) (v := .tuple #[.int .i64 0, .int .i64 4]) (by kernel_rfl) rfl rfl
theorem vcode_any (s : ByteArray) (hs : s.size ≤ maxLen) (w : World) (hT : Tb w) : Calls Tryz.prog 7 #[.string s] w fun e w' => e = .returned (.tuple #[.int .i64 (cdR (upS s)).1, .int .i64 (cdR (upS s)).2]) ∧ Below w.heap.size w w' := by
  have hu := fun W (_ : Tb W) => upper_any s hs W
  generalize upS s = us at *
  by_cases n1 : us = ⟨#[35, 68, 73, 86, 47, 48, 33]⟩
  · have e : cdR us = (1, 0) := by unfold cdR; rw [if_pos n1]
    rw [e]
    rw [n1] at hu
    exact vcode_1 s hu w hT
  by_cases n2 : us = ⟨#[35, 86, 65, 76, 85, 69, 33]⟩
  · have e : cdR us = (2, 0) := by unfold cdR; rw [if_neg n1, if_pos n2]
    rw [e]
    rw [n2] at hu
    exact vcode_2 s hu w hT
  by_cases n3 : us = ⟨#[35, 78, 85, 77, 33]⟩
  · have e : cdR us = (3, 0) := by unfold cdR; rw [if_neg n1, if_neg n2, if_pos n3]
    rw [e]
    rw [n3] at hu
    exact vcode_3 s hu w hT
  by_cases n4 : us = ⟨#[35, 78, 47, 65]⟩
  · have e : cdR us = (4, 0) := by unfold cdR; rw [if_neg n1, if_neg n2, if_neg n3, if_pos n4]
    rw [e]
    rw [n4] at hu
    exact vcode_4 s hu w hT
  by_cases n5 : us = ⟨#[35, 82, 69, 70, 33]⟩
  · have e : cdR us = (5, 0) := by unfold cdR; rw [if_neg n1, if_neg n2, if_neg n3, if_neg n4, if_pos n5]
    rw [e]
    rw [n5] at hu
    exact vcode_5 s hu w hT
  by_cases n6 : us = ⟨#[35, 67, 89, 67, 76, 69, 33]⟩
  · have e : cdR us = (6, 0) := by unfold cdR; rw [if_neg n1, if_neg n2, if_neg n3, if_neg n4, if_neg n5, if_pos n6]
    rw [e]
    rw [n6] at hu
    exact vcode_6 s hu w hT
  by_cases n7 : us = ⟨#[35, 68, 69, 78, 73, 69, 68]⟩
  · have e : cdR us = (7, 0) := by unfold cdR; rw [if_neg n1, if_neg n2, if_neg n3, if_neg n4, if_neg n5, if_neg n6, if_pos n7]
    rw [e]
    rw [n7] at hu
    exact vcode_7 s hu w hT
  have e : cdR us = (0, 4) := by unfold cdR; rw [if_neg n1, if_neg n2, if_neg n3, if_neg n4, if_neg n5, if_neg n6, if_neg n7]
  rw [e]
  exact vcode_e s us hu n1 n2 n3 n4 n5 n6 n7 w hT
theorem rshow_1   (w : World) (hT : Tb w) : Calls Tryz.prog 18 #[.agg #[.int .u8 4, .int .i64 1, .string ⟨#[]⟩]] w fun e w' => e = .returned (.string ⟨#[35, 68, 73, 86, 47, 48, 33]⟩) ∧ Below w.heap.size w w' :=
  va_call (facts := []) (tab := []) (σ := symOf []) (symOf_one rfl) hT (foks_nil) (toks_nil) (args := [.agg #[.int .u8 4, .int .i64 1, .string ⟨#[]⟩]]) (v := .string ⟨#[35, 68, 73, 86, 47, 48, 33]⟩) (by kernel_rfl) rfl rfl
theorem rshow_2   (w : World) (hT : Tb w) : Calls Tryz.prog 18 #[.agg #[.int .u8 4, .int .i64 2, .string ⟨#[]⟩]] w fun e w' => e = .returned (.string ⟨#[35, 86, 65, 76, 85, 69, 33]⟩) ∧ Below w.heap.size w w' :=
  va_call (facts := []) (tab := []) (σ := symOf []) (symOf_one rfl) hT (foks_nil) (toks_nil) (args := [.agg #[.int .u8 4, .int .i64 2, .string ⟨#[]⟩]]) (v := .string ⟨#[35, 86, 65, 76, 85, 69, 33]⟩) (by kernel_rfl) rfl rfl
theorem rshow_3   (w : World) (hT : Tb w) : Calls Tryz.prog 18 #[.agg #[.int .u8 4, .int .i64 3, .string ⟨#[]⟩]] w fun e w' => e = .returned (.string ⟨#[35, 78, 85, 77, 33]⟩) ∧ Below w.heap.size w w' :=
  va_call (facts := []) (tab := []) (σ := symOf []) (symOf_one rfl) hT (foks_nil) (toks_nil) (args := [.agg #[.int .u8 4, .int .i64 3, .string ⟨#[]⟩]]) (v := .string ⟨#[35, 78, 85, 77, 33]⟩) (by kernel_rfl) rfl rfl
theorem rshow_4   (w : World) (hT : Tb w) : Calls Tryz.prog 18 #[.agg #[.int .u8 4, .int .i64 4, .string ⟨#[]⟩]] w fun e w' => e = .returned (.string ⟨#[35, 78, 47, 65]⟩) ∧ Below w.heap.size w w' :=
  va_call (facts := []) (tab := []) (σ := symOf []) (symOf_one rfl) hT (foks_nil) (toks_nil) (args := [.agg #[.int .u8 4, .int .i64 4, .string ⟨#[]⟩]]) (v := .string ⟨#[35, 78, 47, 65]⟩) (by kernel_rfl) rfl rfl
theorem rshow_5   (w : World) (hT : Tb w) : Calls Tryz.prog 18 #[.agg #[.int .u8 4, .int .i64 5, .string ⟨#[]⟩]] w fun e w' => e = .returned (.string ⟨#[35, 82, 69, 70, 33]⟩) ∧ Below w.heap.size w w' :=
  va_call (facts := []) (tab := []) (σ := symOf []) (symOf_one rfl) hT (foks_nil) (toks_nil) (args := [.agg #[.int .u8 4, .int .i64 5, .string ⟨#[]⟩]]) (v := .string ⟨#[35, 82, 69, 70, 33]⟩) (by kernel_rfl) rfl rfl
theorem rshow_6   (w : World) (hT : Tb w) : Calls Tryz.prog 18 #[.agg #[.int .u8 4, .int .i64 6, .string ⟨#[]⟩]] w fun e w' => e = .returned (.string ⟨#[35, 67, 89, 67, 76, 69, 33]⟩) ∧ Below w.heap.size w w' :=
  va_call (facts := []) (tab := []) (σ := symOf []) (symOf_one rfl) hT (foks_nil) (toks_nil) (args := [.agg #[.int .u8 4, .int .i64 6, .string ⟨#[]⟩]]) (v := .string ⟨#[35, 67, 89, 67, 76, 69, 33]⟩) (by kernel_rfl) rfl rfl
theorem rshow_7   (w : World) (hT : Tb w) : Calls Tryz.prog 18 #[.agg #[.int .u8 4, .int .i64 7, .string ⟨#[]⟩]] w fun e w' => e = .returned (.string ⟨#[35, 68, 69, 78, 73, 69, 68]⟩) ∧ Below w.heap.size w w' :=
  va_call (facts := []) (tab := []) (σ := symOf []) (symOf_one rfl) hT (foks_nil) (toks_nil) (args := [.agg #[.int .u8 4, .int .i64 7, .string ⟨#[]⟩]]) (v := .string ⟨#[35, 68, 69, 78, 73, 69, 68]⟩) (by kernel_rfl) rfl rfl
theorem rshow_b (n : Int) (s : ByteArray) (hc : ∀ W, Tb W → Calls Tryz.prog 10 #[.agg #[.int .u8 4, .int .i64 n, .string s]] W fun e w' => e = .returned (.int .i64 2) ∧ Below W.heap.size W w') (hne : ¬ (n = 7 ∧ s = ⟨#[]⟩)) (w : World) (hT : Tb w) : Calls Tryz.prog 18 #[.agg #[.int .u8 4, .int .i64 n, .string s]] w fun e w' => e = .returned (.string ⟨#[]⟩) ∧ Below w.heap.size w w' :=
  va_call (facts := [⟨isBin .eql 23, [.agg #[.int .u8 4, (symV 0), (symV 1)], .agg #[.int .u8 4, .int .i64 7, .string ⟨#[]⟩]], .bool false, false⟩]) (tab := [(10, [.agg #[.int .u8 4, (symV 0), (symV 1)]], .int .i64 2)]) (σ := symOf [.int .i64 n, .string s]) (symOf_one rfl) hT (foks_cons (fok_bin (a := .agg #[.int .u8 4, (.int .i64 n), (.string s)]) (b := .agg #[.int .u8 4, .int .i64 7, .string ⟨#[]⟩]) (c := .bool false) rfl rfl rfl rfl rfl (fun u v W => eqv_f (fun h => hne ⟨h.2.1, h.2.2⟩) u v W)) (foks_nil)) (toks_cons (tok rfl rfl rfl rfl (fun W hW => hc W (hT.at hW))) (toks_nil)) (args := [.agg #[.int .u8 4, (symV 0), (symV 1)]]) (v := .string ⟨#[]⟩) (by kernel_rfl) rfl rfl
theorem rshow_k0 (k : Nat) (n : Int) (s ts : ByteArray) (hc : ∀ W, Tb W → Calls Tryz.prog 10 #[.agg #[.int .u8 (k : Int), .int .i64 n, .string s]] W fun e w' => e = .returned (.int .i64 0) ∧ Below W.heap.size W w') (hk : k ≠ 4) (ht : ∀ W, Tb W → Calls Tryz.prog 22 #[.agg #[.int .u8 (k : Int), .int .i64 n, .string s]] W fun e w' => e = .returned (.agg #[.int .u8 3, .int .i64 0, .string ts]) ∧ Below W.heap.size W w') (w : World) (hT : Tb w) : Calls Tryz.prog 18 #[.agg #[.int .u8 (k : Int), .int .i64 n, .string s]] w fun e w' => e = .returned (.string ts) ∧ Below w.heap.size w w' :=
  va_call (facts := [⟨isBin .eql 23, [.agg #[(symV 0), (symV 1), (symV 2)], .agg #[.int .u8 4, .int .i64 7, .string ⟨#[]⟩]], .bool false, false⟩, ⟨isBin .eql 5, [(symV 0), .int .u8 4], .bool false, false⟩]) (tab := [(10, [.agg #[(symV 0), (symV 1), (symV 2)]], .int .i64 0), (22, [.agg #[(symV 0), (symV 1), (symV 2)]], .agg #[.int .u8 3, .int .i64 0, (symV 3)])]) (σ := symOf [.int .u8 (k : Int), .int .i64 n, .string s, .string ts]) (symOf_one rfl) hT (foks_cons (fok_bin (a := .agg #[(.int .u8 (k : Int)), (.int .i64 n), (.string s)]) (b := .agg #[.int .u8 4, .int .i64 7, .string ⟨#[]⟩]) (c := .bool false) rfl rfl rfl rfl rfl (fun u v W => eqv_f (fun h => hk (by omega)) u v W)) (foks_cons (fok_cmp rfl rfl rfl (by simp [cmpI]; omega)) (foks_nil))) (toks_cons (tok rfl rfl rfl rfl (fun W hW => hc W (hT.at hW))) (toks_cons (tok rfl rfl rfl rfl (fun W hW => ht W (hT.at hW))) (toks_nil))) (args := [.agg #[(symV 0), (symV 1), (symV 2)]]) (v := (symV 3)) (by kernel_rfl) rfl rfl
theorem rshow_k2 (k : Nat) (n : Int) (s : ByteArray) (hc : ∀ W, Tb W → Calls Tryz.prog 10 #[.agg #[.int .u8 (k : Int), .int .i64 n, .string s]] W fun e w' => e = .returned (.int .i64 2) ∧ Below W.heap.size W w') (hk : k ≠ 4) (w : World) (hT : Tb w) : Calls Tryz.prog 18 #[.agg #[.int .u8 (k : Int), .int .i64 n, .string s]] w fun e w' => e = .returned (.string ⟨#[]⟩) ∧ Below w.heap.size w w' :=
  va_call (facts := [⟨isBin .eql 23, [.agg #[(symV 0), (symV 1), (symV 2)], .agg #[.int .u8 4, .int .i64 7, .string ⟨#[]⟩]], .bool false, false⟩, ⟨isBin .eql 5, [(symV 0), .int .u8 4], .bool false, false⟩]) (tab := [(10, [.agg #[(symV 0), (symV 1), (symV 2)]], .int .i64 2)]) (σ := symOf [.int .u8 (k : Int), .int .i64 n, .string s]) (symOf_one rfl) hT (foks_cons (fok_bin (a := .agg #[(.int .u8 (k : Int)), (.int .i64 n), (.string s)]) (b := .agg #[.int .u8 4, .int .i64 7, .string ⟨#[]⟩]) (c := .bool false) rfl rfl rfl rfl rfl (fun u v W => eqv_f (fun h => hk (by omega)) u v W)) (foks_cons (fok_cmp rfl rfl rfl (by simp [cmpI]; omega)) (foks_nil))) (toks_cons (tok rfl rfl rfl rfl (fun W hW => hc W (hT.at hW))) (toks_nil)) (args := [.agg #[(symV 0), (symV 1), (symV 2)]]) (v := .string ⟨#[]⟩) (by kernel_rfl) rfl rfl
theorem rshow_any (k : Nat) (n : Int) (s : ByteArray) (hs : s.size ≤ 2000) (hi : InI n) (w : World) (hT : Tb w) : Calls Tryz.prog 18 #[.agg #[.int .u8 (k : Int), .int .i64 n, .string s]] w fun e w' => e = .returned (.string (shS k n s)) ∧ Below w.heap.size w w' := by
  have hck := fun W (_ : Tb W) => rvcheck_any k n s (maxLen_of hs) hi.1 W
  by_cases hA : k = 4 ∧ s = ⟨#[]⟩ ∧ 1 ≤ n ∧ n ≤ 7
  · have e : shS k n s = nameB n := by unfold shS; rw [if_pos hA]
    rw [e]
    obtain ⟨rfl, rfl, h1, h7⟩ := hA
    have hn : n = 1 ∨ n = 2 ∨ n = 3 ∨ n = 4 ∨ n = 5 ∨ n = 6 ∨ n = 7 := by omega
    rcases hn with rfl | rfl | rfl | rfl | rfl | rfl | rfl
    · exact rshow_1 w hT
    · exact rshow_2 w hT
    · exact rshow_3 w hT
    · exact rshow_4 w hT
    · exact rshow_5 w hT
    · exact rshow_6 w hT
    · exact rshow_7 w hT
  · by_cases h0 : vE k n s.data.toList = 0
    · have e : shS k n s = (cvR 3 k n s).2.2 := by unfold shS; rw [if_neg hA, if_pos h0]
      rw [e]
      have hk : k ≠ 4 := by
        rintro rfl
        rcases vld_sort h0 with ⟨g, _⟩ | ⟨g, _⟩ | ⟨g, _⟩ | ⟨g, _⟩ | ⟨_, g, g'⟩
        · omega
        · omega
        · omega
        · omega
        · exact hA ⟨rfl, g', by omega, by omega⟩
      rw [h0] at hck
      have ht := fun W (h : Tb W) => rto_text k n s hs hi W h
      have hz : (cvR 3 k n s).1 = 3 ∧ (cvR 3 k n s).2.1 = 0 := by
        unfold cvR
        rw [if_pos h0]
        split
        · rename_i h
          rcases h with rfl | rfl
          · rcases vld_sort h0 with ⟨g, _⟩ | ⟨g, _⟩ | ⟨g, _⟩ | ⟨_, g⟩ | ⟨g, _⟩
            · omega
            · omega
            · omega
            · exact ⟨rfl, g⟩
            · omega
          · exact absurd rfl hk
        · exact ⟨rfl, rfl⟩
      rw [hz.1, hz.2] at ht
      exact rshow_k0 k n s _ hck hk ht w hT
    · have e : shS k n s = ⟨#[]⟩ := by unfold shS; rw [if_neg hA, if_neg h0]
      rw [e]
      rw [vE_two _ _ _ h0] at hck
      by_cases hk : k = 4
      · subst hk
        exact rshow_b n s hck (fun h => hA ⟨rfl, h.2, by omega, by omega⟩) w hT
      · exact rshow_k2 k n s hck hk w hT
theorem rcode_1 (s : ByteArray) (hu : ∀ W, Tb W → Calls Tryz.prog 31 #[.string s] W fun e w' => e = .returned (.string ⟨#[35, 68, 73, 86, 47, 48, 33]⟩) ∧ Below W.heap.size W w') (w : World) (hT : Tb w) : Calls Tryz.prog 8 #[.string s] w fun e w' => e = .returned (.tuple #[.int .i64 1, .int .i64 0]) ∧ Below w.heap.size w w' :=
  va_call (facts := []) (tab := [(31, [(symV 0)], .string ⟨#[35, 68, 73, 86, 47, 48, 33]⟩)]) (σ := symOf [.string s]) (symOf_one rfl) hT (foks_nil) (toks_cons (tok rfl rfl rfl rfl (fun W hW => hu W (hT.at hW))) (toks_nil)) (args := [(symV 0)]) (v := .tuple #[.int .i64 1, .int .i64 0]) (by kernel_rfl) rfl rfl
theorem rcode_2 (s : ByteArray) (hu : ∀ W, Tb W → Calls Tryz.prog 31 #[.string s] W fun e w' => e = .returned (.string ⟨#[35, 86, 65, 76, 85, 69, 33]⟩) ∧ Below W.heap.size W w') (w : World) (hT : Tb w) : Calls Tryz.prog 8 #[.string s] w fun e w' => e = .returned (.tuple #[.int .i64 2, .int .i64 0]) ∧ Below w.heap.size w w' :=
  va_call (facts := []) (tab := [(31, [(symV 0)], .string ⟨#[35, 86, 65, 76, 85, 69, 33]⟩)]) (σ := symOf [.string s]) (symOf_one rfl) hT (foks_nil) (toks_cons (tok rfl rfl rfl rfl (fun W hW => hu W (hT.at hW))) (toks_nil)) (args := [(symV 0)]) (v := .tuple #[.int .i64 2, .int .i64 0]) (by kernel_rfl) rfl rfl
theorem rcode_3 (s : ByteArray) (hu : ∀ W, Tb W → Calls Tryz.prog 31 #[.string s] W fun e w' => e = .returned (.string ⟨#[35, 78, 85, 77, 33]⟩) ∧ Below W.heap.size W w') (w : World) (hT : Tb w) : Calls Tryz.prog 8 #[.string s] w fun e w' => e = .returned (.tuple #[.int .i64 3, .int .i64 0]) ∧ Below w.heap.size w w' :=
  va_call (facts := []) (tab := [(31, [(symV 0)], .string ⟨#[35, 78, 85, 77, 33]⟩)]) (σ := symOf [.string s]) (symOf_one rfl) hT (foks_nil) (toks_cons (tok rfl rfl rfl rfl (fun W hW => hu W (hT.at hW))) (toks_nil)) (args := [(symV 0)]) (v := .tuple #[.int .i64 3, .int .i64 0]) (by kernel_rfl) rfl rfl
theorem rcode_4 (s : ByteArray) (hu : ∀ W, Tb W → Calls Tryz.prog 31 #[.string s] W fun e w' => e = .returned (.string ⟨#[35, 78, 47, 65]⟩) ∧ Below W.heap.size W w') (w : World) (hT : Tb w) : Calls Tryz.prog 8 #[.string s] w fun e w' => e = .returned (.tuple #[.int .i64 4, .int .i64 0]) ∧ Below w.heap.size w w' :=
  va_call (facts := []) (tab := [(31, [(symV 0)], .string ⟨#[35, 78, 47, 65]⟩)]) (σ := symOf [.string s]) (symOf_one rfl) hT (foks_nil) (toks_cons (tok rfl rfl rfl rfl (fun W hW => hu W (hT.at hW))) (toks_nil)) (args := [(symV 0)]) (v := .tuple #[.int .i64 4, .int .i64 0]) (by kernel_rfl) rfl rfl
theorem rcode_5 (s : ByteArray) (hu : ∀ W, Tb W → Calls Tryz.prog 31 #[.string s] W fun e w' => e = .returned (.string ⟨#[35, 82, 69, 70, 33]⟩) ∧ Below W.heap.size W w') (w : World) (hT : Tb w) : Calls Tryz.prog 8 #[.string s] w fun e w' => e = .returned (.tuple #[.int .i64 5, .int .i64 0]) ∧ Below w.heap.size w w' :=
  va_call (facts := []) (tab := [(31, [(symV 0)], .string ⟨#[35, 82, 69, 70, 33]⟩)]) (σ := symOf [.string s]) (symOf_one rfl) hT (foks_nil) (toks_cons (tok rfl rfl rfl rfl (fun W hW => hu W (hT.at hW))) (toks_nil)) (args := [(symV 0)]) (v := .tuple #[.int .i64 5, .int .i64 0]) (by kernel_rfl) rfl rfl
theorem rcode_6 (s : ByteArray) (hu : ∀ W, Tb W → Calls Tryz.prog 31 #[.string s] W fun e w' => e = .returned (.string ⟨#[35, 67, 89, 67, 76, 69, 33]⟩) ∧ Below W.heap.size W w') (w : World) (hT : Tb w) : Calls Tryz.prog 8 #[.string s] w fun e w' => e = .returned (.tuple #[.int .i64 6, .int .i64 0]) ∧ Below w.heap.size w w' :=
  va_call (facts := []) (tab := [(31, [(symV 0)], .string ⟨#[35, 67, 89, 67, 76, 69, 33]⟩)]) (σ := symOf [.string s]) (symOf_one rfl) hT (foks_nil) (toks_cons (tok rfl rfl rfl rfl (fun W hW => hu W (hT.at hW))) (toks_nil)) (args := [(symV 0)]) (v := .tuple #[.int .i64 6, .int .i64 0]) (by kernel_rfl) rfl rfl
theorem rcode_7 (s : ByteArray) (hu : ∀ W, Tb W → Calls Tryz.prog 31 #[.string s] W fun e w' => e = .returned (.string ⟨#[35, 68, 69, 78, 73, 69, 68]⟩) ∧ Below W.heap.size W w') (w : World) (hT : Tb w) : Calls Tryz.prog 8 #[.string s] w fun e w' => e = .returned (.tuple #[.int .i64 7, .int .i64 0]) ∧ Below w.heap.size w w' :=
  va_call (facts := []) (tab := [(31, [(symV 0)], .string ⟨#[35, 68, 69, 78, 73, 69, 68]⟩)]) (σ := symOf [.string s]) (symOf_one rfl) hT (foks_nil) (toks_cons (tok rfl rfl rfl rfl (fun W hW => hu W (hT.at hW))) (toks_nil)) (args := [(symV 0)]) (v := .tuple #[.int .i64 7, .int .i64 0]) (by kernel_rfl) rfl rfl
theorem rcode_e (s us : ByteArray) (hu : ∀ W, Tb W → Calls Tryz.prog 31 #[.string s] W fun e w' => e = .returned (.string us) ∧ Below W.heap.size W w') (n1 : us ≠ ⟨#[35, 68, 73, 86, 47, 48, 33]⟩) (n2 : us ≠ ⟨#[35, 86, 65, 76, 85, 69, 33]⟩) (n3 : us ≠ ⟨#[35, 78, 85, 77, 33]⟩) (n4 : us ≠ ⟨#[35, 78, 47, 65]⟩) (n5 : us ≠ ⟨#[35, 82, 69, 70, 33]⟩) (n6 : us ≠ ⟨#[35, 67, 89, 67, 76, 69, 33]⟩) (n7 : us ≠ ⟨#[35, 68, 69, 78, 73, 69, 68]⟩) (w : World) (hT : Tb w) : Calls Tryz.prog 8 #[.string s] w fun e w' => e = .returned (.tuple #[.int .i64 0, .int .i64 4]) ∧ Below w.heap.size w w' :=
  va_call (facts := [⟨isBin .eql 9, [.string ⟨#[35, 68, 73, 86, 47, 48, 33]⟩, (symV 1)], .bool false, false⟩, ⟨isBin .eql 9, [.string ⟨#[35, 86, 65, 76, 85, 69, 33]⟩, (symV 1)], .bool false, false⟩, ⟨isBin .eql 9, [.string ⟨#[35, 78, 85, 77, 33]⟩, (symV 1)], .bool false, false⟩, ⟨isBin .eql 9, [.string ⟨#[35, 78, 47, 65]⟩, (symV 1)], .bool false, false⟩, ⟨isBin .eql 9, [.string ⟨#[35, 82, 69, 70, 33]⟩, (symV 1)], .bool false, false⟩, ⟨isBin .eql 9, [.string ⟨#[35, 67, 89, 67, 76, 69, 33]⟩, (symV 1)], .bool false, false⟩, ⟨isBin .eql 9, [.string ⟨#[35, 68, 69, 78, 73, 69, 68]⟩, (symV 1)], .bool false, false⟩]) (tab := [(31, [(symV 0)], (symV 1))]) (σ := symOf [.string s, .string us]) (symOf_one rfl) hT (foks_cons (fok_streq rfl rfl rfl (.inl ⟨rfl, by simpa using Ne.symm n1⟩)) (foks_cons (fok_streq rfl rfl rfl (.inl ⟨rfl, by simpa using Ne.symm n2⟩)) (foks_cons (fok_streq rfl rfl rfl (.inl ⟨rfl, by simpa using Ne.symm n3⟩)) (foks_cons (fok_streq rfl rfl rfl (.inl ⟨rfl, by simpa using Ne.symm n4⟩)) (foks_cons (fok_streq rfl rfl rfl (.inl ⟨rfl, by simpa using Ne.symm n5⟩)) (foks_cons (fok_streq rfl rfl rfl (.inl ⟨rfl, by simpa using Ne.symm n6⟩)) (foks_cons (fok_streq rfl rfl rfl (.inl ⟨rfl, by simpa using Ne.symm n7⟩)) (foks_nil)))))))) (toks_cons (tok rfl rfl rfl rfl (fun W hW => hu W (hT.at hW))) (toks_nil)) (args := [(symV 0)]) (v := .tuple #[.int .i64 0, .int .i64 4]) (by kernel_rfl) rfl rfl
theorem rcode_any (s : ByteArray) (hs : s.size ≤ maxLen) (w : World) (hT : Tb w) : Calls Tryz.prog 8 #[.string s] w fun e w' => e = .returned (.tuple #[.int .i64 (cdR (upS s)).1, .int .i64 (cdR (upS s)).2]) ∧ Below w.heap.size w w' := by
  have hu := fun W (_ : Tb W) => rupper_any s hs W
  generalize upS s = us at *
  by_cases n1 : us = ⟨#[35, 68, 73, 86, 47, 48, 33]⟩
  · have e : cdR us = (1, 0) := by unfold cdR; rw [if_pos n1]
    rw [e]
    rw [n1] at hu
    exact rcode_1 s hu w hT
  by_cases n2 : us = ⟨#[35, 86, 65, 76, 85, 69, 33]⟩
  · have e : cdR us = (2, 0) := by unfold cdR; rw [if_neg n1, if_pos n2]
    rw [e]
    rw [n2] at hu
    exact rcode_2 s hu w hT
  by_cases n3 : us = ⟨#[35, 78, 85, 77, 33]⟩
  · have e : cdR us = (3, 0) := by unfold cdR; rw [if_neg n1, if_neg n2, if_pos n3]
    rw [e]
    rw [n3] at hu
    exact rcode_3 s hu w hT
  by_cases n4 : us = ⟨#[35, 78, 47, 65]⟩
  · have e : cdR us = (4, 0) := by unfold cdR; rw [if_neg n1, if_neg n2, if_neg n3, if_pos n4]
    rw [e]
    rw [n4] at hu
    exact rcode_4 s hu w hT
  by_cases n5 : us = ⟨#[35, 82, 69, 70, 33]⟩
  · have e : cdR us = (5, 0) := by unfold cdR; rw [if_neg n1, if_neg n2, if_neg n3, if_neg n4, if_pos n5]
    rw [e]
    rw [n5] at hu
    exact rcode_5 s hu w hT
  by_cases n6 : us = ⟨#[35, 67, 89, 67, 76, 69, 33]⟩
  · have e : cdR us = (6, 0) := by unfold cdR; rw [if_neg n1, if_neg n2, if_neg n3, if_neg n4, if_neg n5, if_pos n6]
    rw [e]
    rw [n6] at hu
    exact rcode_6 s hu w hT
  by_cases n7 : us = ⟨#[35, 68, 69, 78, 73, 69, 68]⟩
  · have e : cdR us = (7, 0) := by unfold cdR; rw [if_neg n1, if_neg n2, if_neg n3, if_neg n4, if_neg n5, if_neg n6, if_pos n7]
    rw [e]
    rw [n7] at hu
    exact rcode_7 s hu w hT
  have e : cdR us = (0, 4) := by unfold cdR; rw [if_neg n1, if_neg n2, if_neg n3, if_neg n4, if_neg n5, if_neg n6, if_neg n7]
  rw [e]
  exact rcode_e s us hu n1 n2 n3 n4 n5 n6 n7 w hT
theorem rmake_b (n : Int) (h : n < -9223372036854775807) (w : World) (hT : Tb w) : Calls Tryz.prog 12 #[.int .i64 n] w fun e w' => e = .returned (.agg #[.int .u8 4, .int .i64 3, .string ⟨#[]⟩]) ∧ Below w.heap.size w w' :=
  va_call (facts := [⟨isBin .lss 2, [(symV 0), .int .i64 (-9223372036854775807)], .bool true, false⟩]) (tab := []) (σ := symOf [.int .i64 n]) (symOf_one rfl) hT (foks_cons (fok_cmp rfl rfl rfl (by simp [cmpI]; omega)) (foks_nil)) (toks_nil) (args := [(symV 0)]) (v := .agg #[.int .u8 4, .int .i64 3, .string ⟨#[]⟩]) (by kernel_rfl) rfl rfl
theorem rmake_g (n : Int) (h : -9223372036854775807 ≤ n) (w : World) (hT : Tb w) : Calls Tryz.prog 12 #[.int .i64 n] w fun e w' => e = .returned (.agg #[.int .u8 1, .int .i64 n, .string ⟨#[]⟩]) ∧ Below w.heap.size w w' :=
  va_call (facts := [⟨isBin .lss 2, [(symV 0), .int .i64 (-9223372036854775807)], .bool false, false⟩]) (tab := []) (σ := symOf [.int .i64 n]) (symOf_one rfl) hT (foks_cons (fok_cmp rfl rfl rfl (by simp [cmpI]; omega)) (foks_nil)) (toks_nil) (args := [(symV 0)]) (v := .agg #[.int .u8 1, (symV 0), .string ⟨#[]⟩]) (by kernel_rfl) rfl rfl
theorem rmake_any (n : Int) (hi : InI n) (w : World) (hT : Tb w) : Calls Tryz.prog 12 #[.int .i64 n] w fun e w' => e = .returned (.agg #[.int .u8 (mkK n : Int), .int .i64 (mkN n), .string ⟨#[]⟩]) ∧ Below w.heap.size w w' := by
  unfold InI at hi
  by_cases h : n < -9223372036854775807
  · have hl : n = leastI := by unfold leastI; omega
    have e1 : mkK n = 4 := by unfold mkK; rw [if_pos hl]
    have e2 : mkN n = 3 := by unfold mkN; rw [if_pos hl]
    rw [e1, e2]
    exact rmake_b n h w hT
  · have hl : n ≠ leastI := by unfold leastI; omega
    have e1 : mkK n = 1 := by unfold mkK; rw [if_neg hl]
    have e2 : mkN n = n := by unfold mkN; rw [if_neg hl]
    rw [e1, e2]
    exact rmake_g n (by omega) w hT
theorem rfail_lo (n : Int) (h : n < 1) (w : World) (hT : Tb w) : Calls Tryz.prog 16 #[.int .i64 n] w fun e w' => e = .returned (.agg #[.int .u8 4, .int .i64 2, .string ⟨#[]⟩]) ∧ Below w.heap.size w w' :=
  va_call (facts := [⟨isBin .lss 2, [(symV 0), .int .i64 1], .bool true, false⟩]) (tab := []) (σ := symOf [.int .i64 n]) (symOf_one rfl) hT (foks_cons (fok_cmp rfl rfl rfl (by simp [cmpI]; omega)) (foks_nil)) (toks_nil) (args := [(symV 0)]) (v := .agg #[.int .u8 4, .int .i64 2, .string ⟨#[]⟩]) (by kernel_rfl) rfl rfl
theorem rfail_hi (n : Int) (h : 7 < n) (w : World) (hT : Tb w) : Calls Tryz.prog 16 #[.int .i64 n] w fun e w' => e = .returned (.agg #[.int .u8 4, .int .i64 2, .string ⟨#[]⟩]) ∧ Below w.heap.size w w' :=
  va_call (facts := [⟨isBin .lss 2, [(symV 0), .int .i64 1], .bool false, false⟩, ⟨isBin .gtr 2, [(symV 0), .int .i64 7], .bool true, false⟩]) (tab := []) (σ := symOf [.int .i64 n]) (symOf_one rfl) hT (foks_cons (fok_cmp rfl rfl rfl (by simp [cmpI]; omega)) (foks_cons (fok_cmp rfl rfl rfl (by simp [cmpI]; omega)) (foks_nil))) (toks_nil) (args := [(symV 0)]) (v := .agg #[.int .u8 4, .int .i64 2, .string ⟨#[]⟩]) (by kernel_rfl) rfl rfl
theorem rfail_in (n : Int) (h : 1 ≤ n ∧ n ≤ 7) (w : World) (hT : Tb w) : Calls Tryz.prog 16 #[.int .i64 n] w fun e w' => e = .returned (.agg #[.int .u8 4, .int .i64 n, .string ⟨#[]⟩]) ∧ Below w.heap.size w w' :=
  va_call (facts := [⟨isBin .lss 2, [(symV 0), .int .i64 1], .bool false, false⟩, ⟨isBin .gtr 2, [(symV 0), .int .i64 7], .bool false, false⟩]) (tab := []) (σ := symOf [.int .i64 n]) (symOf_one rfl) hT (foks_cons (fok_cmp rfl rfl rfl (by simp [cmpI]; omega)) (foks_cons (fok_cmp rfl rfl rfl (by simp [cmpI]; omega)) (foks_nil))) (toks_nil) (args := [(symV 0)]) (v := .agg #[.int .u8 4, (symV 0), .string ⟨#[]⟩]) (by kernel_rfl) rfl rfl
theorem rfail_any (n : Int) (w : World) (hT : Tb w) : Calls Tryz.prog 16 #[.int .i64 n] w fun e w' => e = .returned (.agg #[.int .u8 4, .int .i64 (flN n), .string ⟨#[]⟩]) ∧ Below w.heap.size w w' := by
  unfold flN
  by_cases h1 : n < 1
  · rw [if_neg (by omega)]; exact rfail_lo n h1 w hT
  · by_cases h2 : 7 < n
    · rw [if_neg (by omega)]; exact rfail_hi n h2 w hT
    · rw [if_pos (by omega)]; exact rfail_in n (by omega) w hT
theorem long_t (k : Nat) (n : Int) (s : ByteArray) (h : 2000 < s.size) (w : World) (hT : Tb w) : Calls Tryz.prog 5 #[.agg #[.int .u8 (k : Int), .int .i64 n, .string s]] w fun e w' => e = .returned (.bool true) ∧ Below w.heap.size w w' :=
  va_call (facts := [⟨isLen 9, [(symV 2)], (symV 3), false⟩, ⟨isBin .gtr 3, [(symV 3), .int .i64 2000], .bool true, false⟩]) (tab := []) (σ := symOf [.int .u8 (k : Int), .int .i64 n, .string s, .int .i64 s.size]) (symOf_one rfl) hT (foks_cons (fok_strlen (by kernel_rfl) rfl rfl rfl rfl) (foks_cons (fok_cmp rfl rfl rfl (by simp [cmpI]; omega)) (foks_nil))) (toks_nil) (args := [.agg #[(symV 0), (symV 1), (symV 2)]]) (v := .bool true) (by kernel_rfl) rfl rfl
theorem long_f (k : Nat) (n : Int) (s : ByteArray) (h : ¬ 2000 < s.size) (w : World) (hT : Tb w) : Calls Tryz.prog 5 #[.agg #[.int .u8 (k : Int), .int .i64 n, .string s]] w fun e w' => e = .returned (.bool false) ∧ Below w.heap.size w w' :=
  va_call (facts := [⟨isLen 9, [(symV 2)], (symV 3), false⟩, ⟨isBin .gtr 3, [(symV 3), .int .i64 2000], .bool false, false⟩]) (tab := []) (σ := symOf [.int .u8 (k : Int), .int .i64 n, .string s, .int .i64 s.size]) (symOf_one rfl) hT (foks_cons (fok_strlen (by kernel_rfl) rfl rfl rfl rfl) (foks_cons (fok_cmp rfl rfl rfl (by simp [cmpI]; omega)) (foks_nil))) (toks_nil) (args := [.agg #[(symV 0), (symV 1), (symV 2)]]) (v := .bool false) (by kernel_rfl) rfl rfl
theorem conv_long (k : Nat) (n : Int) (s : ByteArray) (hl : ∀ W, Tb W → Calls Tryz.prog 5 #[.agg #[.int .u8 (k : Int), .int .i64 n, .string s]] W fun e w' => e = .returned (.bool true) ∧ Below W.heap.size W w') (w : World) (hT : Tb w) : Calls Tryz.prog 4 #[.agg #[.int .u8 (k : Int), .int .i64 n, .string s]] w fun e w' => e = .returned (.bool true) ∧ Below w.heap.size w w' :=
  va_call (facts := []) (tab := [(5, [.agg #[(symV 0), (symV 1), (symV 2)]], .bool true), (6, [], .bool true)]) (σ := symOf [.int .u8 (k : Int), .int .i64 n, .string s]) (symOf_one rfl) hT (foks_nil) (toks_cons (tok rfl rfl rfl rfl (fun W hW => hl W (hT.at hW))) (toks_cons (tok rfl rfl rfl rfl (fun W hW => known05 W (hT.at hW))) (toks_nil))) (args := [.agg #[(symV 0), (symV 1), (symV 2)]]) (v := .bool true) (by kernel_rfl) rfl rfl
theorem conv_short (k : Nat) (n : Int) (s : ByteArray) (k1 k2 k3 : Nat) (n1 n2 n3 : Int) (s1 s2 s3 : ByteArray) (hl : ∀ W, Tb W → Calls Tryz.prog 5 #[.agg #[.int .u8 (k : Int), .int .i64 n, .string s]] W fun e w' => e = .returned (.bool false) ∧ Below W.heap.size W w') (v1 : ∀ W, Tb W → Calls Tryz.prog 19 #[.agg #[.int .u8 (k : Int), .int .i64 n, .string s]] W fun e w' => e = .returned (.agg #[.int .u8 (k1 : Int), .int .i64 n1, .string s1]) ∧ Below W.heap.size W w') (r1 : ∀ W, Tb W → Calls Tryz.prog 20 #[.agg #[.int .u8 (k : Int), .int .i64 n, .string s]] W fun e w' => e = .returned (.agg #[.int .u8 (k1 : Int), .int .i64 n1, .string s1]) ∧ Below W.heap.size W w') (v2 : ∀ W, Tb W → Calls Tryz.prog 21 #[.agg #[.int .u8 (k : Int), .int .i64 n, .string s]] W fun e w' => e = .returned (.agg #[.int .u8 (k2 : Int), .int .i64 n2, .string s2]) ∧ Below W.heap.size W w') (r2 : ∀ W, Tb W → Calls Tryz.prog 22 #[.agg #[.int .u8 (k : Int), .int .i64 n, .string s]] W fun e w' => e = .returned (.agg #[.int .u8 (k2 : Int), .int .i64 n2, .string s2]) ∧ Below W.heap.size W w') (v3 : ∀ W, Tb W → Calls Tryz.prog 23 #[.agg #[.int .u8 (k : Int), .int .i64 n, .string s]] W fun e w' => e = .returned (.agg #[.int .u8 (k3 : Int), .int .i64 n3, .string s3]) ∧ Below W.heap.size W w') (r3 : ∀ W, Tb W → Calls Tryz.prog 24 #[.agg #[.int .u8 (k : Int), .int .i64 n, .string s]] W fun e w' => e = .returned (.agg #[.int .u8 (k3 : Int), .int .i64 n3, .string s3]) ∧ Below W.heap.size W w') (w : World) (hT : Tb w) : Calls Tryz.prog 4 #[.agg #[.int .u8 (k : Int), .int .i64 n, .string s]] w fun e w' => e = .returned (.bool true) ∧ Below w.heap.size w w' :=
  va_call (facts := [⟨isBin .eql 23, [.agg #[(symV 3), (symV 6), (symV 9)], .agg #[(symV 3), (symV 6), (symV 9)]], .bool true, false⟩, ⟨isBin .eql 23, [.agg #[(symV 4), (symV 7), (symV 10)], .agg #[(symV 4), (symV 7), (symV 10)]], .bool true, false⟩, ⟨isBin .eql 23, [.agg #[(symV 5), (symV 8), (symV 11)], .agg #[(symV 5), (symV 8), (symV 11)]], .bool true, false⟩]) (tab := [(5, [.agg #[(symV 0), (symV 1), (symV 2)]], .bool false), (19, [.agg #[(symV 0), (symV 1), (symV 2)]], .agg #[(symV 3), (symV 6), (symV 9)]), (20, [.agg #[(symV 0), (symV 1), (symV 2)]], .agg #[(symV 3), (symV 6), (symV 9)]), (21, [.agg #[(symV 0), (symV 1), (symV 2)]], .agg #[(symV 4), (symV 7), (symV 10)]), (22, [.agg #[(symV 0), (symV 1), (symV 2)]], .agg #[(symV 4), (symV 7), (symV 10)]), (23, [.agg #[(symV 0), (symV 1), (symV 2)]], .agg #[(symV 5), (symV 8), (symV 11)]), (24, [.agg #[(symV 0), (symV 1), (symV 2)]], .agg #[(symV 5), (symV 8), (symV 11)])]) (σ := symOf [.int .u8 (k : Int), .int .i64 n, .string s, .int .u8 (k1 : Int), .int .u8 (k2 : Int), .int .u8 (k3 : Int), .int .i64 n1, .int .i64 n2, .int .i64 n3, .string s1, .string s2, .string s3]) (symOf_one rfl) hT (foks_cons (fok_bin (a := .agg #[(.int .u8 (k1 : Int)), (.int .i64 n1), (.string s1)]) (b := .agg #[(.int .u8 (k1 : Int)), (.int .i64 n1), (.string s1)]) (c := .bool true) rfl rfl rfl rfl rfl (fun _ _ W => by go_simp)) (foks_cons (fok_bin (a := .agg #[(.int .u8 (k2 : Int)), (.int .i64 n2), (.string s2)]) (b := .agg #[(.int .u8 (k2 : Int)), (.int .i64 n2), (.string s2)]) (c := .bool true) rfl rfl rfl rfl rfl (fun _ _ W => by go_simp)) (foks_cons (fok_bin (a := .agg #[(.int .u8 (k3 : Int)), (.int .i64 n3), (.string s3)]) (b := .agg #[(.int .u8 (k3 : Int)), (.int .i64 n3), (.string s3)]) (c := .bool true) rfl rfl rfl rfl rfl (fun _ _ W => by go_simp)) (foks_nil)))) (toks_cons (tok rfl rfl rfl rfl (fun W hW => hl W (hT.at hW))) (toks_cons (tok rfl rfl rfl rfl (fun W hW => v1 W (hT.at hW))) (toks_cons (tok rfl rfl rfl rfl (fun W hW => r1 W (hT.at hW))) (toks_cons (tok rfl rfl rfl rfl (fun W hW => v2 W (hT.at hW))) (toks_cons (tok rfl rfl rfl rfl (fun W hW => r2 W (hT.at hW))) (toks_cons (tok rfl rfl rfl rfl (fun W hW => v3 W (hT.at hW))) (toks_cons (tok rfl rfl rfl rfl (fun W hW => r3 W (hT.at hW))) (toks_nil)))))))) (args := [.agg #[(symV 0), (symV 1), (symV 2)]]) (v := .bool true) (by kernel_rfl) rfl rfl
theorem valConverts_law (a : VV) (w : World) (hl : laidMetH Tryz.prog Rows.valConvertsRow.laid w) :
    Calls Tryz.prog 4 #[.agg (cells3 a).toArray] w fun e w' => e = .returned (.bool true) ∧ Below w.heap.size w w' := by
  have hT : Tb w := tb_fifth (MakeChecks.laidMetH_plain _ _ _ (by kernel_rfl)) hl
  have hi : InI a.num := ⟨a.lo, a.hi⟩
  by_cases hs : 2000 < a.txt.size
  · exact conv_long a.kd a.num a.txt (fun W h => long_t _ _ _ hs W h) w hT
  have hs' : a.txt.size ≤ 2000 := by omega
  exact conv_short a.kd a.num a.txt _ _ _ _ _ _ _ _ _ (fun W h => long_f _ _ _ hs W h) (fun W h => vto_num _ _ _ hs' hi W h) (fun W h => rto_num _ _ _ hs' hi W h) (fun W h => vto_text _ _ _ hs' hi W h) (fun W h => rto_text _ _ _ hs' hi W h) (fun W h => vto_bool _ _ _ hs' hi W h) (fun W h => rto_bool _ _ _ hs' hi W h) w hT
theorem mk_long (k : Nat) (n : Int) (s : ByteArray) (m : Int) (t : ByteArray) (hl : ∀ W, Tb W → Calls Tryz.prog 5 #[.agg #[.int .u8 (k : Int), .int .i64 n, .string s]] W fun e w' => e = .returned (.bool true) ∧ Below W.heap.size W w') (w : World) (hT : Tb w) : Calls Tryz.prog 3 #[.agg #[.int .u8 (k : Int), .int .i64 n, .string s], .int .i64 m, .string t] w fun e w' => e = .returned (.bool true) ∧ Below w.heap.size w w' :=
  va_call (facts := []) (tab := [(5, [.agg #[(symV 0), (symV 1), (symV 2)]], .bool true), (6, [], .bool true)]) (σ := symOf [.int .u8 (k : Int), .int .i64 n, .string s, .int .i64 m, .string t]) (symOf_one rfl) hT (foks_nil) (toks_cons (tok rfl rfl rfl rfl (fun W hW => hl W (hT.at hW))) (toks_cons (tok rfl rfl rfl rfl (fun W hW => known05 W (hT.at hW))) (toks_nil))) (args := [.agg #[(symV 0), (symV 1), (symV 2)], (symV 3), (symV 4)]) (v := .bool true) (by kernel_rfl) rfl rfl
theorem mk_long2 (k : Nat) (n : Int) (s : ByteArray) (m : Int) (t : ByteArray) (hl : ∀ W, Tb W → Calls Tryz.prog 5 #[.agg #[.int .u8 (k : Int), .int .i64 n, .string s]] W fun e w' => e = .returned (.bool false) ∧ Below W.heap.size W w') (ht : 2000 < t.size) (w : World) (hT : Tb w) : Calls Tryz.prog 3 #[.agg #[.int .u8 (k : Int), .int .i64 n, .string s], .int .i64 m, .string t] w fun e w' => e = .returned (.bool true) ∧ Below w.heap.size w w' :=
  va_call (facts := [⟨isLen 9, [(symV 4)], (symV 5), false⟩, ⟨isBin .gtr 3, [(symV 5), .int .i64 2000], .bool true, false⟩]) (tab := [(5, [.agg #[(symV 0), (symV 1), (symV 2)]], .bool false), (6, [], .bool true)]) (σ := symOf [.int .u8 (k : Int), .int .i64 n, .string s, .int .i64 m, .string t, .int .i64 t.size]) (symOf_one rfl) hT (foks_cons (fok_strlen (by kernel_rfl) rfl rfl rfl rfl) (foks_cons (fok_cmp rfl rfl rfl (by simp [cmpI]; omega)) (foks_nil))) (toks_cons (tok rfl rfl rfl rfl (fun W hW => hl W (hT.at hW))) (toks_cons (tok rfl rfl rfl rfl (fun W hW => known05 W (hT.at hW))) (toks_nil))) (args := [.agg #[(symV 0), (symV 1), (symV 2)], (symV 3), (symV 4)]) (v := .bool true) (by kernel_rfl) rfl rfl
theorem mk_true (k : Nat) (n : Int) (s : ByteArray) (m : Int) (t : ByteArray) (cd ce ve : Int) (mk : Nat) (mn fl : Int) (sh : ByteArray) (hl : ∀ W, Tb W → Calls Tryz.prog 5 #[.agg #[.int .u8 (k : Int), .int .i64 n, .string s]] W fun e w' => e = .returned (.bool false) ∧ Below W.heap.size W w') (ht : ¬ 2000 < t.size) (hm : 0 < m) (v0 : ∀ W, Tb W → Calls Tryz.prog 7 #[.string t] W fun e w' => e = .returned (.tuple #[.int .i64 cd, .int .i64 ce]) ∧ Below W.heap.size W w') (r0 : ∀ W, Tb W → Calls Tryz.prog 8 #[.string t] W fun e w' => e = .returned (.tuple #[.int .i64 cd, .int .i64 ce]) ∧ Below W.heap.size W w') (v1 : ∀ W, Tb W → Calls Tryz.prog 9 #[.agg #[.int .u8 (k : Int), .int .i64 n, .string s]] W fun e w' => e = .returned (.int .i64 ve) ∧ Below W.heap.size W w') (r1 : ∀ W, Tb W → Calls Tryz.prog 10 #[.agg #[.int .u8 (k : Int), .int .i64 n, .string s]] W fun e w' => e = .returned (.int .i64 ve) ∧ Below W.heap.size W w') (v2 : ∀ W, Tb W → Calls Tryz.prog 11 #[.int .i64 m] W fun e w' => e = .returned (.agg #[.int .u8 (mk : Int), .int .i64 mn, .string ⟨#[]⟩]) ∧ Below W.heap.size W w') (r2 : ∀ W, Tb W → Calls Tryz.prog 12 #[.int .i64 m] W fun e w' => e = .returned (.agg #[.int .u8 (mk : Int), .int .i64 mn, .string ⟨#[]⟩]) ∧ Below W.heap.size W w') (v3 : ∀ W, Tb W → Calls Tryz.prog 15 #[.int .i64 m] W fun e w' => e = .returned (.agg #[.int .u8 4, .int .i64 fl, .string ⟨#[]⟩]) ∧ Below W.heap.size W w') (r3 : ∀ W, Tb W → Calls Tryz.prog 16 #[.int .i64 m] W fun e w' => e = .returned (.agg #[.int .u8 4, .int .i64 fl, .string ⟨#[]⟩]) ∧ Below W.heap.size W w') (v4 : ∀ W, Tb W → Calls Tryz.prog 17 #[.agg #[.int .u8 (k : Int), .int .i64 n, .string s]] W fun e w' => e = .returned (.string sh) ∧ Below W.heap.size W w') (r4 : ∀ W, Tb W → Calls Tryz.prog 18 #[.agg #[.int .u8 (k : Int), .int .i64 n, .string s]] W fun e w' => e = .returned (.string sh) ∧ Below W.heap.size W w') (w : World) (hT : Tb w) : Calls Tryz.prog 3 #[.agg #[.int .u8 (k : Int), .int .i64 n, .string s], .int .i64 m, .string t] w fun e w' => e = .returned (.bool true) ∧ Below w.heap.size w w' :=
  va_call (facts := [⟨isLen 9, [(symV 4)], (symV 5), false⟩, ⟨isBin .gtr 3, [(symV 5), .int .i64 2000], .bool false, false⟩, ⟨isBin .eql 2, [(symV 6), (symV 6)], .bool true, false⟩, ⟨isBin .eql 26, [(symV 7), (symV 7)], .bool true, false⟩, ⟨isBin .eql 26, [(symV 8), (symV 8)], .bool true, false⟩, ⟨isBin .eql 23, [.agg #[(symV 9), (symV 10), .string ⟨#[]⟩], .agg #[(symV 9), (symV 10), .string ⟨#[]⟩]], .bool true, false⟩, ⟨isBin .eql 23, [.agg #[.int .u8 4, (symV 11), .string ⟨#[]⟩], .agg #[.int .u8 4, (symV 11), .string ⟨#[]⟩]], .bool true, false⟩, ⟨isBin .eql 9, [(symV 12), (symV 12)], .bool true, false⟩, ⟨isBin .gtr 2, [(symV 3), .int .i64 0], .bool true, false⟩]) (tab := [(5, [.agg #[(symV 0), (symV 1), (symV 2)]], .bool false), (7, [(symV 4)], .tuple #[(symV 6), (symV 7)]), (8, [(symV 4)], .tuple #[(symV 6), (symV 7)]), (9, [.agg #[(symV 0), (symV 1), (symV 2)]], (symV 8)), (10, [.agg #[(symV 0), (symV 1), (symV 2)]], (symV 8)), (11, [(symV 3)], .agg #[(symV 9), (symV 10), .string ⟨#[]⟩]), (12, [(symV 3)], .agg #[(symV 9), (symV 10), .string ⟨#[]⟩]), (15, [(symV 3)], .agg #[.int .u8 4, (symV 11), .string ⟨#[]⟩]), (16, [(symV 3)], .agg #[.int .u8 4, (symV 11), .string ⟨#[]⟩]), (17, [.agg #[(symV 0), (symV 1), (symV 2)]], (symV 12)), (18, [.agg #[(symV 0), (symV 1), (symV 2)]], (symV 12))]) (σ := symOf [.int .u8 (k : Int), .int .i64 n, .string s, .int .i64 m, .string t, .int .i64 t.size, .int .i64 cd, .int .i64 ce, .int .i64 ve, .int .u8 (mk : Int), .int .i64 mn, .int .i64 fl, .string sh]) (symOf_one rfl) hT (foks_cons (fok_strlen (by kernel_rfl) rfl rfl rfl rfl) (foks_cons (fok_cmp rfl rfl rfl (by simp [cmpI]; omega)) (foks_cons (fok_cmp rfl rfl rfl (by simp [cmpI])) (foks_cons (fok_cmp rfl rfl rfl (by simp [cmpI])) (foks_cons (fok_cmp rfl rfl rfl (by simp [cmpI])) (foks_cons (fok_bin (a := .agg #[(.int .u8 (mk : Int)), (.int .i64 mn), .string ⟨#[]⟩]) (b := .agg #[(.int .u8 (mk : Int)), (.int .i64 mn), .string ⟨#[]⟩]) (c := .bool true) rfl rfl rfl rfl rfl (fun _ _ W => by go_simp)) (foks_cons (fok_bin (a := .agg #[.int .u8 4, (.int .i64 fl), .string ⟨#[]⟩]) (b := .agg #[.int .u8 4, (.int .i64 fl), .string ⟨#[]⟩]) (c := .bool true) rfl rfl rfl rfl rfl (fun _ _ W => by go_simp)) (foks_cons (fok_streq rfl rfl rfl (.inl ⟨rfl, by simp⟩)) (foks_cons (fok_cmp rfl rfl rfl (by simp [cmpI]; omega)) (foks_nil)))))))))) (toks_cons (tok rfl rfl rfl rfl (fun W hW => hl W (hT.at hW))) (toks_cons (tok rfl rfl rfl rfl (fun W hW => v0 W (hT.at hW))) (toks_cons (tok rfl rfl rfl rfl (fun W hW => r0 W (hT.at hW))) (toks_cons (tok rfl rfl rfl rfl (fun W hW => v1 W (hT.at hW))) (toks_cons (tok rfl rfl rfl rfl (fun W hW => r1 W (hT.at hW))) (toks_cons (tok rfl rfl rfl rfl (fun W hW => v2 W (hT.at hW))) (toks_cons (tok rfl rfl rfl rfl (fun W hW => r2 W (hT.at hW))) (toks_cons (tok rfl rfl rfl rfl (fun W hW => v3 W (hT.at hW))) (toks_cons (tok rfl rfl rfl rfl (fun W hW => r3 W (hT.at hW))) (toks_cons (tok rfl rfl rfl rfl (fun W hW => v4 W (hT.at hW))) (toks_cons (tok rfl rfl rfl rfl (fun W hW => r4 W (hT.at hW))) (toks_nil)))))))))))) (args := [.agg #[(symV 0), (symV 1), (symV 2)], (symV 3), (symV 4)]) (v := .bool true) (by kernel_rfl) rfl rfl
theorem mk_false (k : Nat) (n : Int) (s : ByteArray) (m : Int) (t : ByteArray) (cd ce ve : Int) (mk : Nat) (mn fl : Int) (sh : ByteArray) (hl : ∀ W, Tb W → Calls Tryz.prog 5 #[.agg #[.int .u8 (k : Int), .int .i64 n, .string s]] W fun e w' => e = .returned (.bool false) ∧ Below W.heap.size W w') (ht : ¬ 2000 < t.size) (hm : m ≤ 0) (v0 : ∀ W, Tb W → Calls Tryz.prog 7 #[.string t] W fun e w' => e = .returned (.tuple #[.int .i64 cd, .int .i64 ce]) ∧ Below W.heap.size W w') (r0 : ∀ W, Tb W → Calls Tryz.prog 8 #[.string t] W fun e w' => e = .returned (.tuple #[.int .i64 cd, .int .i64 ce]) ∧ Below W.heap.size W w') (v1 : ∀ W, Tb W → Calls Tryz.prog 9 #[.agg #[.int .u8 (k : Int), .int .i64 n, .string s]] W fun e w' => e = .returned (.int .i64 ve) ∧ Below W.heap.size W w') (r1 : ∀ W, Tb W → Calls Tryz.prog 10 #[.agg #[.int .u8 (k : Int), .int .i64 n, .string s]] W fun e w' => e = .returned (.int .i64 ve) ∧ Below W.heap.size W w') (v2 : ∀ W, Tb W → Calls Tryz.prog 11 #[.int .i64 m] W fun e w' => e = .returned (.agg #[.int .u8 (mk : Int), .int .i64 mn, .string ⟨#[]⟩]) ∧ Below W.heap.size W w') (r2 : ∀ W, Tb W → Calls Tryz.prog 12 #[.int .i64 m] W fun e w' => e = .returned (.agg #[.int .u8 (mk : Int), .int .i64 mn, .string ⟨#[]⟩]) ∧ Below W.heap.size W w') (v3 : ∀ W, Tb W → Calls Tryz.prog 15 #[.int .i64 m] W fun e w' => e = .returned (.agg #[.int .u8 4, .int .i64 fl, .string ⟨#[]⟩]) ∧ Below W.heap.size W w') (r3 : ∀ W, Tb W → Calls Tryz.prog 16 #[.int .i64 m] W fun e w' => e = .returned (.agg #[.int .u8 4, .int .i64 fl, .string ⟨#[]⟩]) ∧ Below W.heap.size W w') (v4 : ∀ W, Tb W → Calls Tryz.prog 17 #[.agg #[.int .u8 (k : Int), .int .i64 n, .string s]] W fun e w' => e = .returned (.string sh) ∧ Below W.heap.size W w') (r4 : ∀ W, Tb W → Calls Tryz.prog 18 #[.agg #[.int .u8 (k : Int), .int .i64 n, .string s]] W fun e w' => e = .returned (.string sh) ∧ Below W.heap.size W w') (w : World) (hT : Tb w) : Calls Tryz.prog 3 #[.agg #[.int .u8 (k : Int), .int .i64 n, .string s], .int .i64 m, .string t] w fun e w' => e = .returned (.bool true) ∧ Below w.heap.size w w' :=
  va_call (facts := [⟨isLen 9, [(symV 4)], (symV 5), false⟩, ⟨isBin .gtr 3, [(symV 5), .int .i64 2000], .bool false, false⟩, ⟨isBin .eql 2, [(symV 6), (symV 6)], .bool true, false⟩, ⟨isBin .eql 26, [(symV 7), (symV 7)], .bool true, false⟩, ⟨isBin .eql 26, [(symV 8), (symV 8)], .bool true, false⟩, ⟨isBin .eql 23, [.agg #[(symV 9), (symV 10), .string ⟨#[]⟩], .agg #[(symV 9), (symV 10), .string ⟨#[]⟩]], .bool true, false⟩, ⟨isBin .eql 23, [.agg #[.int .u8 4, (symV 11), .string ⟨#[]⟩], .agg #[.int .u8 4, (symV 11), .string ⟨#[]⟩]], .bool true, false⟩, ⟨isBin .eql 9, [(symV 12), (symV 12)], .bool true, false⟩, ⟨isBin .gtr 2, [(symV 3), .int .i64 0], .bool false, false⟩]) (tab := [(5, [.agg #[(symV 0), (symV 1), (symV 2)]], .bool false), (7, [(symV 4)], .tuple #[(symV 6), (symV 7)]), (8, [(symV 4)], .tuple #[(symV 6), (symV 7)]), (9, [.agg #[(symV 0), (symV 1), (symV 2)]], (symV 8)), (10, [.agg #[(symV 0), (symV 1), (symV 2)]], (symV 8)), (11, [(symV 3)], .agg #[(symV 9), (symV 10), .string ⟨#[]⟩]), (12, [(symV 3)], .agg #[(symV 9), (symV 10), .string ⟨#[]⟩]), (15, [(symV 3)], .agg #[.int .u8 4, (symV 11), .string ⟨#[]⟩]), (16, [(symV 3)], .agg #[.int .u8 4, (symV 11), .string ⟨#[]⟩]), (17, [.agg #[(symV 0), (symV 1), (symV 2)]], (symV 12)), (18, [.agg #[(symV 0), (symV 1), (symV 2)]], (symV 12))]) (σ := symOf [.int .u8 (k : Int), .int .i64 n, .string s, .int .i64 m, .string t, .int .i64 t.size, .int .i64 cd, .int .i64 ce, .int .i64 ve, .int .u8 (mk : Int), .int .i64 mn, .int .i64 fl, .string sh]) (symOf_one rfl) hT (foks_cons (fok_strlen (by kernel_rfl) rfl rfl rfl rfl) (foks_cons (fok_cmp rfl rfl rfl (by simp [cmpI]; omega)) (foks_cons (fok_cmp rfl rfl rfl (by simp [cmpI])) (foks_cons (fok_cmp rfl rfl rfl (by simp [cmpI])) (foks_cons (fok_cmp rfl rfl rfl (by simp [cmpI])) (foks_cons (fok_bin (a := .agg #[(.int .u8 (mk : Int)), (.int .i64 mn), .string ⟨#[]⟩]) (b := .agg #[(.int .u8 (mk : Int)), (.int .i64 mn), .string ⟨#[]⟩]) (c := .bool true) rfl rfl rfl rfl rfl (fun _ _ W => by go_simp)) (foks_cons (fok_bin (a := .agg #[.int .u8 4, (.int .i64 fl), .string ⟨#[]⟩]) (b := .agg #[.int .u8 4, (.int .i64 fl), .string ⟨#[]⟩]) (c := .bool true) rfl rfl rfl rfl rfl (fun _ _ W => by go_simp)) (foks_cons (fok_streq rfl rfl rfl (.inl ⟨rfl, by simp⟩)) (foks_cons (fok_cmp rfl rfl rfl (by simp [cmpI]; omega)) (foks_nil)))))))))) (toks_cons (tok rfl rfl rfl rfl (fun W hW => hl W (hT.at hW))) (toks_cons (tok rfl rfl rfl rfl (fun W hW => v0 W (hT.at hW))) (toks_cons (tok rfl rfl rfl rfl (fun W hW => r0 W (hT.at hW))) (toks_cons (tok rfl rfl rfl rfl (fun W hW => v1 W (hT.at hW))) (toks_cons (tok rfl rfl rfl rfl (fun W hW => r1 W (hT.at hW))) (toks_cons (tok rfl rfl rfl rfl (fun W hW => v2 W (hT.at hW))) (toks_cons (tok rfl rfl rfl rfl (fun W hW => r2 W (hT.at hW))) (toks_cons (tok rfl rfl rfl rfl (fun W hW => v3 W (hT.at hW))) (toks_cons (tok rfl rfl rfl rfl (fun W hW => r3 W (hT.at hW))) (toks_cons (tok rfl rfl rfl rfl (fun W hW => v4 W (hT.at hW))) (toks_cons (tok rfl rfl rfl rfl (fun W hW => r4 W (hT.at hW))) (toks_nil)))))))))))) (args := [.agg #[(symV 0), (symV 1), (symV 2)], (symV 3), (symV 4)]) (v := .bool true) (by kernel_rfl) rfl rfl
theorem valMakes_law (a : VV) (m : Int) (t : ByteArray) (w : World) (hm : (Lit.int .i64 m).wf = true) (hl : laidMetH Tryz.prog Rows.valMakesRow.laid w) :
    Calls Tryz.prog 3 #[.agg (cells3 a).toArray, .int .i64 m, .string t] w fun e w' => e = .returned (.bool true) ∧ Below w.heap.size w w' := by
  have hT : Tb w := tb_fifth (MakeChecks.laidMetH_plain _ _ _ (by kernel_rfl)) hl
  have hi : InI a.num := ⟨a.lo, a.hi⟩
  have hmi : InI m := by
    rw [Lit.wf_int_iff] at hm
    simp [IntKind.min, IntKind.max, IntKind.signed, IntKind.bits] at hm
    unfold InI; omega
  by_cases hs : 2000 < a.txt.size
  · exact mk_long a.kd a.num a.txt m t (fun W h => long_t _ _ _ hs W h) w hT
  have hs' : a.txt.size ≤ 2000 := by omega
  have hlf := fun W h => long_f a.kd a.num a.txt hs W h
  by_cases ht : 2000 < t.size
  · exact mk_long2 a.kd a.num a.txt m t hlf ht w hT
  have htm : t.size ≤ maxLen := by unfold maxLen; omega
  have v0 := fun W (h : Tb W) => vcode_any t htm W h
  have r0 := fun W (h : Tb W) => rcode_any t htm W h
  have v1 := fun W (_ : Tb W) => vcheck_any a.kd a.num a.txt (maxLen_of hs') hi.1 W
  have r1 := fun W (_ : Tb W) => rvcheck_any a.kd a.num a.txt (maxLen_of hs') hi.1 W
  have v2 := fun W (_ : Tb W) => make_any m W
  have r2 := fun W (h : Tb W) => rmake_any m hmi W h
  have v3 := fun W (_ : Tb W) => fail_any m W
  have r3 := fun W (h : Tb W) => rfail_any m W h
  have v4 := fun W (h : Tb W) => vshow_any a.kd a.num a.txt hs' hi W h
  have r4 := fun W (h : Tb W) => rshow_any a.kd a.num a.txt hs' hi W h
  by_cases hp : 0 < m
  · exact mk_true a.kd a.num a.txt m t _ _ _ _ _ _ _ hlf ht hp v0 r0 v1 r1 v2 r2 v3 r3 v4 r4 w hT
  · exact mk_false a.kd a.num a.txt m t _ _ _ _ _ _ _ hlf ht (by omega) v0 r0 v1 r1 v2 r2 v3 r3 v4 r4 w hT
end Go.Proofs.YteoepgdfhllffaaGreatDoor.Va
