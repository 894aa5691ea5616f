/- Merged: GfA GfI. -/
import Derived.Test.YtelanmknimapoaaGreatDoorGrpS
import Derived.Lib.Join
import Derived.Lib.ItoaNum
import Derived.Lib.AtoiAll
import Derived.Lib.IndexMore
import Derived.Lib.Split
import Derived.Lib.CountLaws
import Derived.Test.YtelanmknimapoaaGreatDoorMga
/- The texts of sets: mathematics. -/
namespace Go.Proofs.YtelanmknimapoaaGreatDoor.Gf
open Go Go.RowKit
set_option linter.unusedVariables false
set_option linter.unusedSimpArgs false
abbrev By := List UInt8
def endF (x : W64) : Nat → Nat → Nat
 | 0, u => u
 | n + 1, u => if x.getLsbD u then endF x n (u + 1) else u
def eo (x : W64) (u : Nat) : Nat := endF x (64 - u) u
theorem zmi (x : W64) {u : Nat} (h : 64 ≤ u) : x.getLsbD u = false := by
 rw [BitVec.getLsbD_eq_getElem?_getD, BitVec.getElem?_eq_none h]; rfl
theorem eo_f {x : W64} {u : Nat} (h : x.getLsbD u = false) : eo x u = u := by
 unfold eo
 cases hn : 64 - u with
 | zero => rfl
 | succ n => unfold endF; rw [if_neg (by rw [h]; decide)]
theorem zc9 {x : W64} {u : Nat} (h : x.getLsbD u = true) : u < 64 := by
 rcases Nat.lt_or_ge u 64 with h1 | h1
 · exact h1
 · rw [zmi x h1] at h; cases h
theorem eo_t {x : W64} {u : Nat} (h : x.getLsbD u = true) : eo x u = eo x (u + 1) := by
 have hu := zc9 h
 unfold eo
 rw [show 64 - u = (64 - (u + 1)) + 1 by omega]
 conv => lhs; unfold endF
 rw [if_pos h]
theorem zgg (x : W64) : ∀ (n u : Nat), u ≤ endF x n u ∧ endF x n u ≤ u + n ∧ (∀ i, u ≤ i → i < endF x n u → x.getLsbD i = true)
 | 0, u => ⟨Nat.le_refl _, Nat.le_refl _, fun i h1 h2 => by unfold endF at h2; omega⟩
 | n + 1, u => by
  unfold endF
  cases h : x.getLsbD u
  · rw [if_neg (by decide)]
    exact ⟨Nat.le_refl _, by omega, fun i h1 h2 => by omega⟩
  · rw [if_pos rfl]
    obtain ⟨h1, h2, h3⟩ := zgg x n (u + 1)
    refine ⟨by omega, by omega, fun i h4 h5 => ?_⟩
    rcases Nat.lt_or_ge u i with h6 | h6
    · exact h3 i h6 h5
    · obtain rfl : i = u := by omega
      exact h
theorem yh0 (x : W64) (u : Nat) : u ≤ eo x u := (zgg x _ u).1
theorem zwo {x : W64} {u : Nat} (h : u ≤ 64) : eo x u ≤ 64 := by have := (zgg x (64 - u) u).2.1; unfold eo; omega
theorem yd3 {x : W64} {u i : Nat} (h1 : u ≤ i) (h2 : i < eo x u) : x.getLsbD i = true := (zgg x _ u).2.2 i h1 h2
theorem zpw {x : W64} {u : Nat} (h : x.getLsbD u = true) : u < eo x u := by
 rw [eo_t h]; exact yh0 x (u + 1)
def dg (k : Nat) : By := Lib.decDigits k
def wf (x : W64) : Nat → Nat → List By
 | 0, _ => []
 | n + 1, u => if x.getLsbD u then (if 2 ≤ eo x u - 1 - u then (dg u ++ 45 :: dg (eo x u - 1)) :: wf x n (eo x u) else dg u :: wf x n (u + 1)) else wf x n (u + 1)
theorem zkr (x : W64) : ∀ (n u : Nat), 64 ≤ u → wf x n u = []
 | 0, _, _ => rfl
 | n + 1, u, h => by
  unfold wf
  rw [if_neg (by rw [zmi x h]; decide), zkr x n (u + 1) (by omega)]
theorem zlt (x : W64) : ∀ (n m u : Nat), 64 - u ≤ n → 64 - u ≤ m → wf x n u = wf x m u
 | 0, m, u, h1, _ => by rw [zkr x 0 u (by omega), zkr x m u (by omega)]
 | n + 1, 0, u, _, h2 => by rw [zkr x (n + 1) u (by omega), zkr x 0 u (by omega)]
 | n + 1, m + 1, u, h1, h2 => by
  unfold wf
  cases h : x.getLsbD u
  · simp only [Bool.false_eq_true, if_false]; exact zlt x n m (u + 1) (by omega) (by omega)
  · simp only [if_true]
    have := zpw h
    split
    · rw [zlt x n m (eo x u) (by omega) (by omega)]
    · rw [zlt x n m (u + 1) (by omega) (by omega)]
def W (x : W64) (u : Nat) : List By := wf x 64 u
theorem ztz (x : W64) {u : Nat} (h : 64 ≤ u) : W x u = [] := zkr x 64 u h
theorem W_eq (x : W64) (u : Nat) (h : u < 64) : W x u = if x.getLsbD u then (if 2 ≤ eo x u - 1 - u then (dg u ++ 45 :: dg (eo x u - 1)) :: W x (eo x u) else dg u :: W x (u + 1)) else W x (u + 1) := by
 have e : W x u = wf x 65 u := zlt x 64 65 u (by omega) (by omega)
 rw [e]
 rfl
theorem yhe {x : W64} {u : Nat} (h : x.getLsbD u = false) : W x u = W x (u + 1) := by
 rcases Nat.lt_or_ge u 64 with h1 | h1
 · rw [W_eq x u h1, if_neg (by rw [h]; decide)]
 · rw [ztz x h1, ztz x (by omega)]
theorem yhd {x : W64} {u : Nat} (h : x.getLsbD u = true) (h2 : 2 ≤ eo x u - 1 - u) : W x u = (dg u ++ 45 :: dg (eo x u - 1)) :: W x (eo x u) := by
 rw [W_eq x u (zc9 h), if_pos h, if_pos h2]
theorem yep {x : W64} {u : Nat} (h : x.getLsbD u = true) (h2 : ¬ 2 ≤ eo x u - 1 - u) : W x u = dg u :: W x (u + 1) := by
 rw [W_eq x u (zc9 h), if_pos h, if_neg h2]
def runW (f l : Nat) : List By := if 2 ≤ l - f then [dg f ++ 45 :: dg l] else (List.range' f (l + 1 - f)).map dg
theorem yhg {x : W64} {u : Nat} (h : x.getLsbD u = true) : W x u = runW u (eo x u - 1) ++ W x (eo x u) := by
 have hg := zpw h
 by_cases h2 : 2 ≤ eo x u - 1 - u
 · rw [yhd h h2]; unfold runW; rw [if_pos h2]; rfl
 · rw [yep h h2]
   unfold runW
   rw [if_neg h2]
   rcases (show eo x u = u + 1 ∨ eo x u = u + 2 by omega) with e | e
   · rw [e]
     have : u + 1 - 1 + 1 - u = 1 := by omega
     rw [this]; rfl
   · have h3 : x.getLsbD (u + 1) = true := yd3 (u := u) (by omega) (by omega)
     have e2 : eo x (u + 1) = u + 2 := by rw [← eo_t h, e]
     rw [yep h3 (by rw [e2]; omega), e]
     have : u + 2 - 1 + 1 - u = 2 := by omega
     rw [this]; rfl
def fmtS (x : W64) : By := if x = 0#64 then [45] else if x = BitVec.allOnes 64 then [42] else Lib.join (W x 0) [44]
/-! Digits -/
theorem dg_1 {k : Nat} (h : k < 10) : dg k = [UInt8.ofNat (48 + k)] := by unfold dg; rw [Lib.decDigits]; rw [dif_pos h]
theorem dg_2 {k : Nat} (h : ¬ k < 10) (h2 : k < 100) : dg k = [UInt8.ofNat (48 + k / 10), UInt8.ofNat (48 + k % 10)] := by
 unfold dg
 rw [Lib.decDigits, dif_neg h, Lib.decDigits, dif_pos (by omega)]
 rfl
theorem u8_nat {n : Nat} (h : n < 256) : (UInt8.ofNat n).toNat = n := by simp; omega
theorem zgh {k : Nat} (h : k < 64) : ∀ c ∈ dg k, 48 ≤ c.toNat ∧ c.toNat ≤ 57 := by
 intro c hc
 by_cases h1 : k < 10
 · rw [dg_1 h1] at hc
   simp only [List.mem_cons, List.not_mem_nil, or_false] at hc
   subst hc; rw [u8_nat (by omega)]; omega
 · rw [dg_2 h1 (by omega)] at hc
   simp only [List.mem_cons, List.not_mem_nil, or_false] at hc
   rcases hc with rfl | rfl <;> rw [u8_nat (by omega)] <;> omega
theorem yg5 (k : Nat) (h : k < 64) : dg k ≠ [] := by
 by_cases h1 : k < 10
 · rw [dg_1 h1]; simp
 · rw [dg_2 h1 (by omega)]; simp
theorem zws {k : Nat} (h : k < 64) {c : UInt8} (hc : c.toNat < 48) : c ∉ dg k := fun hm => by have := zgh h c hm; omega
theorem zp8 {k : Nat} (h : k < 64) : Lib.atoiAll (dg k) = .ok (k : Int) := by
 by_cases h1 : k < 10
 · rw [dg_1 h1]
   have e := u8_nat (show 48 + k < 256 by omega)
   unfold Lib.atoiAll Lib.parseMag
   simp only [Lib.parseUint10, e]
   rw [if_neg (show ¬ (48 + k = 43 ∨ 48 + k = 45) by omega)]
   simp only [Lib.parseUint10, e]
   rw [if_neg (by simp), if_pos (by omega), if_neg (by omega), if_neg (by omega)]
   have e2 : 0 * 10 + (48 + k - 48) = k := by omega
   simp only [e2]
   rw [if_neg (by omega), if_neg (by omega), if_neg (by omega)]
 · rw [dg_2 h1 (by omega)]
   have ea := u8_nat (show 48 + k / 10 < 256 by omega)
   have eb := u8_nat (show 48 + k % 10 < 256 by omega)
   unfold Lib.atoiAll Lib.parseMag
   simp only [Lib.parseUint10, ea, eb]
   rw [if_neg (show ¬ (48 + k / 10 = 43 ∨ 48 + k / 10 = 45) by omega)]
   simp only [Lib.parseUint10, ea, eb]
   rw [if_neg (by simp), if_pos (by omega), if_neg (by omega), if_neg (by omega), if_pos (by omega), if_neg (by omega), if_neg (by omega)]
   have e2 : (0 * 10 + (48 + k / 10 - 48)) * 10 + (48 + k % 10 - 48) = k := by omega
   simp only [e2]
   rw [if_neg (by omega), if_neg (by omega), if_neg (by omega)]
/-! Cutting and splitting -/
theorem index_hit (w t : By) (c : UInt8) (h : c ∉ w) : Lib.index (w ++ c :: t) [c] = (w.length : Int) := by
 induction w with
 | nil => simp [Lib.index]
 | cons b w ih =>
  have hb : (c == b) = false := by
   rw [beq_eq_false_iff_ne]; intro e; exact h (by rw [e]; exact List.mem_cons_self ..)
  have := ih (fun hm => h (List.mem_cons_of_mem _ hm))
  rw [List.cons_append]
  unfold Lib.index
  rw [this]
  simp [List.isPrefixOf, hb]
  try omega
theorem zk8 (w : By) (c : UInt8) (h : c ∉ w) : Lib.index w [c] = -1 := by
 induction w with
 | nil => simp [Lib.index]
 | cons b w ih =>
  have hb : (c == b) = false := by
   rw [beq_eq_false_iff_ne]; intro e; exact h (by rw [e]; exact List.mem_cons_self ..)
  have := ih (fun hm => h (List.mem_cons_of_mem _ hm))
  unfold Lib.index
  rw [this]
  simp [List.isPrefixOf, hb]
theorem zww (w t : By) (c : UInt8) (h : c ∉ w) : Lib.cut (w ++ c :: t) [c] = (w, t, true) := by
 unfold Lib.cut
 rw [index_hit w t c h, if_pos (by omega)]
 simp
theorem zr1 (w : By) (c : UInt8) (h : c ∉ w) : Lib.cut w [c] = (w, [], false) := by
 unfold Lib.cut
 rw [zk8 w c h, if_neg (by omega)]
theorem za3 (w y : By) (r : List By) (s : By) : Lib.join (w :: y :: r) s = w ++ s ++ Lib.join (y :: r) s := by
 rw [Lib.join_cons, Lib.join_cons]
 simp [Lib.joinTail]
theorem zgv (c : UInt8) : ∀ (ws : List By), ws ≠ [] → (∀ w ∈ ws, c ∉ w) → Lib.splitK [c] 0 (Lib.count (Lib.join ws [c]) [c]) (Lib.join ws [c]) = ws
 | [], h, _ => absurd rfl h
 | [w], _, h => by
  have hw := h w (List.mem_cons_self ..)
  rw [Lib.join_one, Lib.count_miss (zk8 w c hw)]
  rfl
 | w :: y :: r, _, h => by
  have hw := h w (List.mem_cons_self ..)
  have ih := zgv c (y :: r) (by simp) (fun z hz => h z (List.mem_cons_of_mem _ hz))
  have e : Lib.join (w :: y :: r) [c] = w ++ c :: Lib.join (y :: r) [c] := by rw [za3]; simp
  rw [e]
  generalize Lib.join (y :: r) [c] = t at *
  have hi := index_hit w t c hw
  have hcnt : Lib.count (w ++ c :: t) [c] = Lib.count t [c] + 1 := by
   have := Lib.count_hit (s := w ++ c :: t) (sub := [c]) (by simp) hi
   rw [this]
   simp
   omega
  rw [hcnt]
  unfold Lib.splitK
  rw [hi, if_neg (by simp; try omega)]
  simp
  simpa using ih
/-! Bounds -/
theorem zt0 {Pr : By → Prop} (x : W64) (h1 : ∀ k, k < 64 → Pr (dg k)) (h2 : ∀ f l, f < 64 → l < 64 → Pr (dg f ++ 45 :: dg l)) : ∀ (n u : Nat), ∀ w ∈ wf x n u, Pr w
 | 0, _, w, h => by cases h
 | n + 1, u, w, h => by
  unfold wf at h
  cases hx : x.getLsbD u
  · rw [hx] at h
    simp only [Bool.false_eq_true, if_false] at h
    exact zt0 x h1 h2 n (u + 1) w h
  · rw [hx] at h
    simp only [if_true] at h
    have hu := zc9 hx
    split at h
    · rcases List.mem_cons.1 h with rfl | h
      · exact h2 u (eo x u - 1) hu (by have := zwo (x := x) (u := u) (by omega); omega)
      · exact zt0 x h1 h2 n (eo x u) w h
    · rcases List.mem_cons.1 h with rfl | h
      · exact h1 u hu
      · exact zt0 x h1 h2 n (u + 1) w h
theorem zxj (x : W64) : ∀ (n u : Nat), (wf x n u).length ≤ n
 | 0, _ => Nat.le_refl _
 | n + 1, u => by
  unfold wf
  have h1 := zxj x n (eo x u)
  have h2 := zxj x n (u + 1)
  split
  · split
    · rw [List.length_cons]; omega
    · rw [List.length_cons]; omega
  · omega
theorem zod {k : Nat} (h : k < 100) : (dg k).length ≤ 2 := by
 by_cases h1 : k < 10
 · rw [dg_1 h1]; simp
 · rw [dg_2 h1 h]; simp
theorem zsa (x : W64) (u : Nat) : ∀ w ∈ W x u, w ≠ [] ∧ w.length ≤ 5 ∧ (44 : UInt8) ∉ w := by
 refine zt0 x (fun k h => ⟨yg5 k h, ?_, zws h (by decide)⟩) (fun f l hf hl => ⟨by simp, ?_, ?_⟩) 64 u
 · have := zod (k := k) (by omega); omega
 · have h1 := zod (k := f) (by omega)
   have h2 := zod (k := l) (by omega)
   simp; omega
 · intro hm
   rcases List.mem_append.1 hm with h | h
   · exact zws hf (by decide) h
   · rcases List.mem_cons.1 h with h | h
     · cases h
     · exact zws hl (by decide) h
theorem join_len : ∀ (L : List By), (∀ w ∈ L, w.length ≤ 5) → (Lib.join L [44]).length ≤ 6 * L.length
 | [], _ => by simp [Lib.join_nil]
 | [w], h => by
  have := h w (List.mem_cons_self ..)
  rw [Lib.join_one]; simp; omega
 | w :: y :: r, h => by
  have h1 := h w (List.mem_cons_self ..)
  have h2 := join_len (y :: r) (fun z hz => h z (List.mem_cons_of_mem _ hz))
  rw [za3]
  simp at h2 ⊢
  omega
end Go.Proofs.YtelanmknimapoaaGreatDoor.Gf
/- The iterator of a set's users, for a body that is told that they are in the set. -/
namespace Go.Proofs.YtelanmknimapoaaGreatDoor.Gf
open Go Go.RowKit Go.Shelf
attribute [local go_sem] Oper.semAt_some
abbrev El (x : W64) := {u : Nat // x.getLsbD u = true}
def elF (x : W64) : Nat → List (El x)
 | 0 => []
 | k + 1 => if h : x.getLsbD k = true then elF x k ++ [⟨k, h⟩] else elF x k
theorem zz5 {x : W64} {k : Nat} (h : x.getLsbD k = true) : elF x (k + 1) = elF x k ++ [⟨k, h⟩] := by
 conv => lhs; unfold elF
 rw [dif_pos h]
theorem zz6 {x : W64} {k : Nat} (h : x.getLsbD k = false) : elF x (k + 1) = elF x k := by
 conv => lhs; unfold elF
 rw [dif_neg (by rw [h]; decide)]
def els (x : W64) : List (El x) := elF x 64
theorem yd4 (x : W64) : ∀ d k, elF x k <+: elF x (k + d) := by
 intro d k
 induction d with
 | zero => exact List.prefix_refl _
 | succ d ih =>
  rw [← Nat.add_assoc]
  cases h : x.getLsbD (k + d)
  · rw [zz6 h]; exact ih
  · rw [zz5 h]; exact ih.trans (List.prefix_append _ _)
theorem zwq (x : W64) : ∀ k, (elF x k).length ≤ k
 | 0 => Nat.le_refl _
 | k + 1 => by
  have := zwq x k
  cases h : x.getLsbD k
  · rw [zz6 h]; omega
  · rw [zz5 h, List.length_append, List.length_singleton]; omega
theorem ydf (n : Nat) (l Bn n₀ : Nat) (x : W64) (J Jx : List (El x) → World → Prop)
 (hY : ∀ pre u W, J pre W → pre.length < (els x).length → YieldAt Fence.wide (n - 1) Tryz.prog l #[.int .i64 ((u.1 : Nat) : Int)] W fun e W' =>
  (e = .returned (.bool true) ∧ J (pre ++ [u]) W' ∧ zt2 n₀ Bn W W') ∨ (e = .returned (.bool false) ∧ Jx (pre ++ [u]) W'))
 (W : World) (hBn : W.cell? ⟨Bn, 0, none⟩ = some (.int .u64 (x.toNat : Int))) (h0 : J [] W) :
 CallsIn Fence.wide n Tryz.prog 74 #[.func (.yield l) #[] #[], .pointer (some ⟨Bn, 0, none⟩)] W fun e W' => (∃ v, e = .returned v) ∧
  ((∃ ys, ys = els x ∧ J ys W') ∨ (∃ pre, pre <+: els x ∧ Jx pre W')) := by
 refine callsIn_of_wp Tryz.func74 rfl trivial ?_ rfl
 simp only [Tryz.ntmps74, List.size_toArray, List.length_cons, List.length_nil, Nat.reduceAdd, Nat.reduceSub, Array.replicate_succ, Array.replicate_zero, List.push_toArray, List.append_toArray, List.nil_append, List.cons_append]
 gi_wp2
 gi_loopw [4] (fun i wr => ∃ k : Nat, k ≤ 64 ∧ i = .int .i64 k ∧ wr.cell? ⟨Bn, 0, none⟩ = some (.int .u64 (x.toNat : Int)) ∧ J (elF x k) wr) (fun i _ => 64 - (intOf i).toNat)
 case atStart => exact ⟨0, by omega, rfl, hBn, h0⟩
 case round =>
  obtain ⟨k, hk, rfl, hc, hj⟩ := hrel
  by_cases hlt : k < 64
  · have hh := zv9 x k hlt
    have hj0 := Lib.hid hj
    cases hs : x.getLsbD k
    · rw [hs] at hh
      have hm : Hid (elF x (k + 1) = elF x k) := by unfold Hid; exact zz6 hs
      clear hj
      gi_wp2_with fail
      refine ⟨trivial, fun h => (by cases h), ?_⟩
      refine (callsIn_wide.2 (zps x k _)).mono ?_
      rw [hh]
      rintro e w' ⟨rfl, rfl⟩
      gi_wp2_with fail
      refine ⟨fun _ h => (by cases h), ?_⟩
      gi_wp2_with fail
      go_roundw
      case rel => exact ⟨k + 1, by omega, by go_num, hc, by rw [hm.out]; exact hj0.out⟩
      case measure => simp [intOf]; omega
    · rw [hs] at hh
      have hm : Hid (elF x (k + 1) = elF x k ++ [⟨k, hs⟩]) := by unfold Hid; exact zz5 hs
      have hp : elF x (k + 1) <+: els x := by have := yd4 x (64 - (k + 1)) (k + 1); rwa [show k + 1 + (64 - (k + 1)) = 64 by omega] at this
      have hlen : (elF x k).length < (els x).length := by have := hp.length_le; rw [hm.out] at this; simp at this; omega
      have hp' := Lib.hid hp
      obtain ⟨fn, tmps, assign, body, hy, hR⟩ := hY _ ⟨k, hs⟩ wr hj hlen
      clear hj hp hlen
      gi_wp2_with fail
      refine ⟨trivial, fun h => (by cases h), ?_⟩
      refine (callsIn_wide.2 (zps x k _)).mono ?_
      rw [hh]
      rintro e w' ⟨rfl, rfl⟩
      gi_wp2_with fail
      refine ⟨fun h => (by cases h), ?_⟩
      refine hR.mono ?_
      rintro e W3 (⟨rfl, hJ3, hk3⟩ | ⟨rfl, hJx3⟩)
      · have hc3 : W3.cell? ⟨Bn, 0, none⟩ = some (.int .u64 (x.toNat : Int)) := hk3.2.trans hc
        rw [← hm.out] at hJ3
        have hj3 := Lib.hid hJ3
        clear hJ3
        gi_wp2_with fail
        go_roundw
        case rel => exact ⟨k + 1, by omega, by go_num, hc3, hj3.out⟩
        case measure => simp [intOf]; omega
      · rw [← hm.out] at hJx3
        have hj3 := Lib.hid hJx3
        clear hJx3
        gi_wp2_with fail
        refine bodyPost_ret (results_none rfl _ _ _) rfl ?_
        exact ⟨⟨_, rfl⟩, .inr ⟨_, hp'.out, hj3.out⟩⟩
  · obtain rfl : k = 64 := by omega
    gi_wp2
    go_end0
    exact ⟨⟨_, rfl⟩, .inl ⟨_, rfl, hj⟩⟩
theorem zwp (n : Nat) (Bn n₀ : Nat) (x : W64) (w : World) (hBn : Bn < w.heap.size) (hc : w.cell? ⟨Bn, 0, none⟩ = some (.int .u64 (x.toNat : Int))) :
 SeqStopsK Fence.wide n Tryz.prog 74 #[.pointer (some ⟨Bn, 0, none⟩)] (fun u : El x => #[Value.int .i64 (u.1 : Int)]) (zt2 n₀ Bn) (fun ys => ys = els x) (fun pre => pre <+: els x) (els x).length w := fun l J Jx W hW _ _ hY h0 =>
 ydf n l Bn n₀ x J Jx hY W ((hW.cell (p := ⟨Bn, 0, none⟩) hBn).trans hc) h0
/-! What the loop over them makes of words -/
def stF {x : W64} (s : List By × Nat) (u : El x) : List By × Nat := if u.1 < s.2 then s else (s.1 ++ runW u.1 (eo x u.1 - 1), eo x u.1)
def stL {x : W64} (pre : List (El x)) : List By × Nat := pre.foldl stF ([], 0)
theorem zlz {x : W64} (pre : List (El x)) (u : El x) : stL (pre ++ [u]) = stF (stL pre) u := by unfold stL; rw [List.foldl_append]; rfl
theorem zqx (f l : Nat) (h : l < 64) : (runW f l).length ≤ 64 := by
 unfold runW
 split
 · simp
 · simp; omega
theorem ye0 {x : W64} (pre : List (El x)) : (stL pre).1.length ≤ 64 * pre.length ∧ (stL pre).2 ≤ 64 := by
 generalize hn : pre.length = n
 induction n generalizing pre with
 | zero => obtain rfl := List.eq_nil_of_length_eq_zero hn; exact ⟨Nat.le_refl _, Nat.zero_le _⟩
 | succ n ih =>
  have hne : pre ≠ [] := fun e => by subst e; cases hn
  obtain ⟨q, u, rfl⟩ : ∃ q u, pre = q ++ [u] := ⟨_, _, (List.dropLast_concat_getLast hne).symm⟩
  rw [List.length_append, List.length_singleton] at hn
  have h := ih q (by omega)
  rw [zlz]
  unfold stF
  split
  · omega
  · have hu := zc9 u.2
    have h1 := zwo (x := x) (u := u.1) (by omega)
    have h3 := zpw u.2
    have h2 := zqx u.1 (eo x u.1 - 1) (by omega)
    dsimp only
    rw [List.length_append]
    omega
theorem zuq (x : W64) : ∀ k, k ≤ 64 → (stL (elF x k)).1 ++ W x (max (stL (elF x k)).2 k) = W x 0 ∧ (∀ i, k ≤ i → i < (stL (elF x k)).2 → x.getLsbD i = true) ∧ (stL (elF x k)).2 ≤ 64
 | 0, _ => by
  have e : stL (elF x 0) = ([], 0) := rfl
  rw [e]
  dsimp only
  rw [List.nil_append, Nat.max_self]
  exact ⟨rfl, fun i _ h => absurd h (Nat.not_lt_zero i), Nat.zero_le _⟩
 | k + 1, hk => by
  obtain ⟨h1, h2, h3⟩ := zuq x k (by omega)
  cases h : x.getLsbD k
  · rw [zz6 h]
    have hle : (stL (elF x k)).2 ≤ k := by
     rcases Nat.lt_or_ge k (stL (elF x k)).2 with h4 | h4
     · have := h2 k (Nat.le_refl _) h4; rw [h] at this; cases this
     · exact h4
    refine ⟨?_, fun i _ h5 => by omega, h3⟩
    rw [show max (stL (elF x k)).2 (k + 1) = k + 1 by omega, ← yhe h]
    rwa [show max (stL (elF x k)).2 k = k by omega] at h1
  · rw [zz5 h, zlz]
    unfold stF
    dsimp only
    by_cases h4 : k < (stL (elF x k)).2
    · rw [if_pos h4]
      refine ⟨?_, fun i h5 h6 => h2 i (by omega) h6, h3⟩
      rw [show max (stL (elF x k)).2 (k + 1) = max (stL (elF x k)).2 k by omega]; exact h1
    · rw [if_neg h4]
      have hg := zpw h
      have hl := zwo (x := x) (u := k) (by omega)
      refine ⟨?_, fun i h5 h6 => yd3 (u := k) (by omega) h6, hl⟩
      dsimp only
      rw [show max (eo x k) (k + 1) = eo x k by omega, List.append_assoc, ← yhg h]
      rwa [show max (stL (elF x k)).2 k = k by omega] at h1
theorem yb2 (x : W64) : (stL (els x)).1 = W x 0 := by
 obtain ⟨h1, _, h3⟩ := zuq x 64 (Nat.le_refl _)
 unfold els
 rw [show max (stL (elF x 64)).2 64 = 64 by omega, ztz x (Nat.le_refl _), List.append_nil] at h1
 exact h1
end Go.Proofs.YtelanmknimapoaaGreatDoor.Gf
