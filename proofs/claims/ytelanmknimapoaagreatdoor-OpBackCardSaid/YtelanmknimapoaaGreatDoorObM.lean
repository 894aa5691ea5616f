/- Lines of operations: what is written, and how it falls apart again. No run in this file. -/
import Derived.Test.YtelanmknimapoaaGreatDoorMgi
import Derived.Test.YtelanmknimapoaaGreatDoorMgg
import Derived.Test.YtelanmknimapoaaGreatDoorRectC
import Derived.Test.YtelanmknimapoaaGreatDoorMgf
import Derived.Deep.RegionHeld3
import Derived.Test.YtelanmknimapoaaGreatDoorAddrMathC
import Derived.Test.YtelanmknimapoaaGreatDoorRectD
import Derived.Test.YtelanmknimapoaaGreatDoorGlyphF
import Derived.Test.YtelanmknimapoaaGreatDoorObJ
import Derived.Lib.AtoiAllCases
import Derived.Lib.ItoaLen
namespace Go.Proofs.YtelanmknimapoaaGreatDoor.Ob
open Go Go.RowKit Gf Re Re.AM
/-! Numbers -/
theorem znk : ∀ (l r : By) (a u : Nat), Lib.parseUint10 a l = .ok u → Lib.parseUint10 a (l ++ r) = Lib.parseUint10 u r
 | [], r, a, u, h => by
  simp only [Lib.parseUint10] at h
  cases h; rfl
 | c :: l, r, a, u, h => by
  simp only [Lib.parseUint10] at h
  rw [List.cons_append]
  split at h
  · rename_i h1
    split at h
    · cases h
    · rename_i h2
      split at h
      · cases h
      · rename_i h3
        rw [Lib.parseUint10, if_pos h1, if_neg h2, if_neg h3]
        exact znk l r _ u h
  · cases h
theorem zwz {d : Nat} (h : d < 10) : (UInt8.ofNat (48 + d)).toNat = 48 + d := by rw [UInt8.toNat_ofNat']; omega
theorem zrb {a d : Nat} (hd : d < 10) (h : a * 10 + d < 18446744073709551616) : Lib.parseUint10 a [UInt8.ofNat (48 + d)] = .ok (a * 10 + d) := by
 have e := zwz hd
 rw [Lib.parseUint10, if_pos (by omega), if_neg (by omega), if_neg (by omega), Lib.parseUint10, e]
 congr 2; omega
theorem ygb : ∀ (u : Nat), u < 18446744073709551616 → Lib.parseUint10 0 (Lib.decDigits u) = .ok u := by
 intro u
 induction u using Nat.strongRecOn with
 | _ u ih =>
  intro hu
  by_cases h : u < 10
  · rw [Lib.decDigits_one h, zrb h (by omega)]; congr 1; omega
  · rw [Lib.decDigits, dif_neg h, znk _ _ _ _ (ih (u / 10) (by omega) (by omega)), zrb (by omega) (by omega)]
    congr 1; omega
theorem yd5 : ∀ (u : Nat), ∀ c ∈ Lib.decDigits u, 48 ≤ c.toNat ∧ c.toNat ≤ 57 := by
 intro u
 induction u using Nat.strongRecOn with
 | _ u ih =>
  intro c hc
  by_cases h : u < 10
  · rw [Lib.decDigits_one h, List.mem_singleton] at hc
    subst hc; rw [zwz h]; omega
  · rw [Lib.decDigits, dif_neg h, List.mem_append, List.mem_singleton] at hc
    rcases hc with hc | rfl
    · exact ih (u / 10) (by omega) c hc
    · rw [zwz (by omega)]; omega
theorem yg6 (u : Nat) : Lib.decDigits u ≠ [] := by
 rw [Lib.decDigits]; split <;> simp
theorem zvu {u : Nat} (hu : u < 18446744073709551616) : Lib.parseMag (Lib.decDigits u) = .ok u := by
 unfold Lib.parseMag; rw [if_neg (yg6 u)]; exact ygb u hu
theorem zk7 (n : Int) : (∃ u : Nat, 1 ≤ u ∧ n = -(u : Int) ∧ Lib.itoa n = 45 :: Lib.decDigits u) ∨ ∃ u : Nat, n = (u : Int) ∧ Lib.itoa n = Lib.decDigits u := by
 by_cases h : n < 0
 · refine .inl ⟨n.natAbs, by omega, by omega, ?_⟩
   unfold Lib.itoa; rw [if_pos h]
 · refine .inr ⟨n.toNat, by omega, ?_⟩
   unfold Lib.itoa; rw [if_neg h]
theorem zxa {n : Int} (h : Ii n) : Lib.atoiAll (Lib.itoa n) = .ok n := by
 unfold Ii at h
 rcases zk7 n with ⟨u, h1, h2, e⟩ | ⟨u, h2, e⟩
 · rw [e, Lib.atoiAll_minus, zvu (by omega)]
   unfold Lib.signed
   dsimp only
   rw [if_neg (by omega), h2]
 · rw [e]
   obtain ⟨c, r, ec⟩ := List.exists_cons_of_ne_nil (yg6 u)
   have hc := yd5 u c (by rw [ec]; exact .head _)
   have hm := zvu (u := u) (by omega)
   rw [ec] at hm ⊢
   rw [Lib.atoiAll_plain c r (by omega) (by omega), hm]
   unfold Lib.signless
   dsimp only
   rw [if_neg (by omega), h2]
theorem zfk {n : Int} {c : UInt8} (hc : c ∈ Lib.itoa n) : c.toNat = 45 ∨ (48 ≤ c.toNat ∧ c.toNat ≤ 57) := by
 rcases zk7 n with ⟨u, _, _, e⟩ | ⟨u, _, e⟩
 · rw [e, List.mem_cons] at hc
   rcases hc with rfl | hc
   · exact .inl rfl
   · exact .inr (yd5 u c hc)
 · rw [e] at hc
   exact .inr (yd5 u c hc)
theorem zme {n : Int} {c : UInt8} (h : c.toNat < 45) : c ∉ Lib.itoa n := fun hc => by have := zfk hc; omega
/-! Words -/
def zaj : Nat → By
 | 1 => [108, 111, 103, 105, 110]
 | 2 => [108, 111, 103, 111, 117, 116]
 | 3 => [115, 101, 116]
 | 4 => [99, 108, 101, 97, 114]
 | 5 => [114, 101, 97, 100]
 | 6 => [102, 111, 114, 109, 117, 108, 97]
 | 7 => [114, 117, 108, 101]
 | 8 => [103, 114, 97, 110, 116]
 | 9 => [114, 101, 118, 111, 107, 101]
 | 10 => [97, 117, 100, 105, 116]
 | _ => []
theorem ybq {k : Nat} (h : k ≤ 10) : (32 : UInt8) ∉ zaj k := by
 have : ∀ k, k ≤ 10 → (32 : UInt8) ∉ zaj k := by decide
 exact this k h
def za0 (a b c d : Int) : By := if ckB a b c d then fmtR a b c d else Lib.join [Lib.itoa a, Lib.itoa b, Lib.itoa c, Lib.itoa d] [44]
def zhy (g : OV) : List By := match g.kd with
 | 3 => [Gl.quoS g.inp.data.toList]
 | 7 => [fmtS g.rd, fmtS g.wr, fmtS g.ow]
 | 8 => [Lib.itoa (g.fns : Int), fmtS g.tos]
 | 9 => [Lib.itoa g.idx]
 | _ => []
def tgtB (k : Nat) : Bool := decide (3 ≤ k ∧ k ≤ 8)
def zbr (g : OV) : List By := zaj g.kd :: Lib.itoa g.us :: ((if tgtB g.kd then [za0 g.c1 g.r1 g.c2 g.r2] else []) ++ zhy g)
def fmtO (g : OV) : By := Lib.join (zbr g) [32]
/-! A word is cut off -/
theorem join_one (a s : By) : Lib.join [a] s = a := by simp [Lib.join]
theorem zr2 (a : By) (r : List By) (h : (32 : UInt8) ∉ a) : (Lib.cut (Lib.join (a :: r) [32]) [32]).1 = a ∧ (Lib.cut (Lib.join (a :: r) [32]) [32]).2.1 = Lib.join r [32] := by
 cases r with
 | nil => rw [join_one, zr1 a 32 h]; exact ⟨rfl, rfl⟩
 | cons b r =>
  rw [za3]
  have : a ++ [32] ++ Lib.join (b :: r) [32] = a ++ 32 :: Lib.join (b :: r) [32] := by simp
  rw [this, zww a _ 32 h]
  exact ⟨rfl, rfl⟩
/-! Letters of the words -/
theorem zwd (x : W64) {c : UInt8} (hc : c ∈ fmtS x) : c.toNat = 45 ∨ c.toNat = 42 ∨ c.toNat = 44 ∨ (48 ≤ c.toNat ∧ c.toNat ≤ 57) := by
 have hj : ∀ (L : List By), (∀ w ∈ L, ∀ c ∈ w, c.toNat = 45 ∨ (48 ≤ c.toNat ∧ c.toNat ≤ 57)) → ∀ c ∈ Lib.join L [44], c.toNat = 45 ∨ c.toNat = 44 ∨ (48 ≤ c.toNat ∧ c.toNat ≤ 57) := by
  intro L
  induction L with
  | nil => intro _ c hc; simp [Lib.join] at hc
  | cons w L ih =>
   intro h c hc
   cases L with
   | nil =>
    rw [join_one] at hc
    rcases h w (.head _) c hc with h | h
    · exact .inl h
    · exact .inr (.inr h)
   | cons y L =>
    rw [za3, List.mem_append, List.mem_append, List.mem_singleton] at hc
    rcases hc with (hc | rfl) | hc
    · rcases h w (.head _) c hc with h | h
      · exact .inl h
      · exact .inr (.inr h)
    · exact .inr (.inl rfl)
    · exact ih (fun w hw => h w (.tail _ hw)) c hc
 unfold fmtS at hc
 split at hc
 · rw [List.mem_singleton] at hc; subst hc; exact .inl rfl
 · split at hc
   · rw [List.mem_singleton] at hc; subst hc; exact .inr (.inl rfl)
   · have hw : ∀ w ∈ W x 0, ∀ c ∈ w, c.toNat = 45 ∨ (48 ≤ c.toNat ∧ c.toNat ≤ 57) :=
      zt0 (Pr := fun w => ∀ c ∈ w, c.toNat = 45 ∨ (48 ≤ c.toNat ∧ c.toNat ≤ 57)) x (fun k hk c hc => .inr (zgh hk c hc))
       (fun f l hf hl c hc => by
        rw [List.mem_append, List.mem_cons] at hc
        rcases hc with hc | rfl | hc
        · exact .inr (zgh hf c hc)
        · exact .inl rfl
        · exact .inr (zgh hl c hc)) _ _
     rcases hj _ hw c hc with h | h | h
     · exact .inl h
     · exact .inr (.inr (.inl h))
     · exact .inr (.inr (.inr h))
theorem zmk (x : W64) : (32 : UInt8) ∉ fmtS x := fun h => by
 have := zwd x h
 have e : (32 : UInt8).toNat = 32 := rfl
 omega
theorem zy6 {c : Int} (h1 : 1 ≤ c) (h2 : c ≤ 1024) : ∀ x ∈ ze8 c, 65 ≤ x ∧ x ≤ 90 := by
 intro x hx
 have hd : ∀ m : Fin 1025, 1 ≤ m.1 → ∀ x ∈ ze8 (m.1 : Int), 65 ≤ x ∧ x ≤ 90 := by decide +kernel
 have := hd ⟨c.toNat, by omega⟩ (by show 1 ≤ c.toNat; omega) x (by show x ∈ ze8 ((c.toNat : Nat) : Int); rw [Int.toNat_of_nonneg (by omega)]; exact hx)
 exact this
theorem zwe {a b : Int} (h : okR a b = true) {c : UInt8} (hc : c ∈ fmtL a b) : (65 ≤ c.toNat ∧ c.toNat ≤ 90) ∨ c.toNat = 45 ∨ (48 ≤ c.toNat ∧ c.toNat ≤ 57) := by
 obtain ⟨h1, h2, h3, h4⟩ := zvj h
 unfold fmtL at hc
 rw [List.mem_append] at hc
 rcases hc with hc | hc
 · obtain ⟨x, hx, rfl⟩ := List.mem_map.1 hc
   have := zy6 h1 h2 x hx
   left
   rw [UInt8.toNat_ofNat']
   omega
 · exact .inr (zfk hc)
theorem zxd (a b c d : Int) {x : UInt8} (hx : x ∈ za0 a b c d) : (65 ≤ x.toNat ∧ x.toNat ≤ 90) ∨ x.toNat = 58 ∨ x.toNat = 44 ∨ x.toNat = 45 ∨ (48 ≤ x.toNat ∧ x.toNat ≤ 57) := by
 unfold za0 at hx
 split at hx
 · rename_i hk
   have hq := ckB_iff.1 hk
   have k1 : ∀ x ∈ fmtL a b, _ := fun x hx => zwe (zi8 hq.1) hx
   have k2 : ∀ x ∈ fmtL c d, _ := fun x hx => zwe (zi8 hq.2.1) hx
   unfold fmtR at hx
   split at hx
   · have := k1 x hx; omega
   · rw [List.mem_append, List.mem_append, List.mem_singleton] at hx
     rcases hx with (hx | rfl) | hx
     · have := k1 x hx; omega
     · exact .inr (.inl rfl)
     · have := k2 x hx; omega
 · rw [za3, za3, za3, join_one] at hx
   simp only [List.mem_append, List.mem_singleton] at hx
   rcases hx with (hx | rfl) | (hx | rfl) | (hx | rfl) | hx
   · have := zfk hx; omega
   · exact .inr (.inr (.inl rfl))
   · have := zfk hx; omega
   · exact .inr (.inr (.inl rfl))
   · have := zfk hx; omega
   · exact .inr (.inr (.inl rfl))
   · have := zfk hx; omega
theorem yel (a b c d : Int) : (32 : UInt8) ∉ za0 a b c d := fun h => by
 have := zxd a b c d h
 have e : (32 : UInt8).toNat = 32 := rfl
 omega
end Go.Proofs.YtelanmknimapoaaGreatDoor.Ob
