/- Merged: GfB GfS. -/
import Derived.Test.YtelanmknimapoaaGreatDoorMgb
import Derived.Test.YtelanmknimapoaaGreatDoorRow
import Derived.Test.YtelanmknimapoaaGreatDoorShelfGrp
/- The texts of sets: run, and the specification's digits and Format. -/
namespace Go.Proofs.YtelanmknimapoaaGreatDoor.Gf
open Go Go.RowKit
set_option linter.unusedVariables false
set_option linter.unusedSimpArgs false
def str (l : By) : Value := .string ⟨l.toArray⟩
def zgi (l : By) : List Value := [.string ⟨l.toArray⟩]
theorem zb2 (l : By) : (zgi l).length = 1 := rfl
theorem zlk (l : By) : ∀ u ∈ zgi l, u.oneCell' = true := by
 intro u hu; simp [zgi] at hu; subst hu; rfl
abbrev OwnS (B : Nat) (w : World) (v : Value) (L : List By) : Prop := OwnOf 9 zgi 1 B w v L
theorem zpq : (Tryz.prog.info? 9).map (fun i => (i.zero, i.size, i.bytes)) = some (some (.string ByteArray.empty), 1, 16) := by kernel_rfl
theorem yeu : (Value.string ByteArray.empty).cells.size = 1 := rfl
theorem str_cat (a b : By) (W : World) (h : a.length + b.length ≤ 100000) : (Op.stringOp .add ⟨a.toArray⟩ ⟨b.toArray⟩).run Tryz.prog W = .ok (.string ⟨(a ++ b).toArray⟩) W := by
 rw [run_string_add_sum W _ _ (by simp [ByteArray.size]; omega)]
 rfl
set_option maxHeartbeats 1600000 in
theorem yb9 (f l : Nat) (hf : f ≤ l) (hl : l < 64) (w : World) : Calls Tryz.prog 46 #[.int .i64 (f : Int), .int .i64 (l : Int)] w fun e w' => (∃ v, e = .returned v ∧ OwnS w.heap.size w' v (runW f l)) ∧ Below w.heap.size w w' := by
 have HI : Hid (∀ k : Nat, k < 64 → ∀ W, Calls Tryz.prog 20 #[.int .i64 (k : Int)] W fun e w' => e = .returned (.string ⟨(dg k).toArray⟩) ∧ w' = W) := fun k hk W => Tryz.strconv_Itoa_small k (by omega) W
 by_cases h2 : 2 ≤ l - f
 · have HR : Hid (runW f l = [dg f ++ 45 :: dg l]) := by unfold Hid runW; rw [if_pos h2]
   generalize runW f l = R at *
   have e1 : decide ((2 : Int) ≤ (l : Int) - (f : Int)) = true := decide_eq_true (by omega)
   have HIf := HI.out f (by omega)
   have HIl := HI.out l (by omega)
   have la := zod (k := f) (by omega)
   have lb := zod (k := l) (by omega)
   generalize dg f = A at *
   generalize dg l = B at *
   have hadd1 := fun W => str_cat A [45] W (by simp; omega)
   have hadd2 := fun W => str_cat (A ++ [45]) B W (by simp; omega)
   have HIF := Lib.hid HIf
   have HIL := Lib.hid HIl
   clear HIf HIl
   go_enter Tryz.func46, Tryz.ntmps46
   go_wp2_with fail
   refine (HIF.out _).mono ?_
   rintro e w1 ⟨rfl, rfl⟩
   go_wp2_with fail
   refine (HIL.out _).mono ?_
   rintro e w1 ⟨rfl, rfl⟩
   go_wp2_with fail
   go_ret
   refine ⟨⟨_, rfl, ?_⟩, below_alloc _ _⟩
   rw [HR.out, show A ++ 45 :: B = A ++ [45] ++ B by simp]
   exact OwnOf.one zb2 _ (Nat.le_refl _) _
 · have HR : Hid (runW f l = (List.range' f (l + 1 - f)).map dg) := by unfold Hid runW; rw [if_neg h2]
   generalize runW f l = R at *
   have e1 : decide ((2 : Int) ≤ (l : Int) - (f : Int)) = false := decide_eq_false (by omega)
   go_enter Tryz.func46, Tryz.ntmps46
   go_wp2_with fail
   go_loopw [5, 6] (fun v z wr => ∃ k : Nat, k ≤ l + 1 - f ∧ z = .int .i64 ((f + k : Nat) : Int) ∧ Hid (OwnS w.heap.size wr v ((List.range' f k).map dg)) ∧ Hid (Below w.heap.size w wr)) (fun _ z _ => l + 1 - (intOf z).toNat)
   case atStart => exact ⟨0, Nat.zero_le _, by simp, OwnOf.nil _ _ _ _ _, Below.refl _ _⟩
   case round =>
    obtain ⟨k, hk, rfl, HO, HB⟩ := hrel
    by_cases hlt : k < l + 1 - f
    · have hj : f + k ≤ l := by omega
      have hz := HB.out.size
      have HN : Hid ((List.range' f k).map dg ++ [dg (f + k)] = (List.range' f (k + 1)).map dg) := by unfold Hid; rw [List.range'_concat]; simp
      have HL : Hid (((List.range' f k).map dg).length ≤ 100) := by unfold Hid; simp; omega
      generalize (List.range' f k).map dg = X at *
      obtain ⟨m, hm⟩ : ∃ m, m = f + k := ⟨_, rfl⟩
      have HM := Lib.hid hm
      have hml : m ≤ l := by omega
      rw [← hm] at HN ⊢
      clear hm hj
      go_wp2_with fail
      refine (HI.out m (by omega) _).mono ?_
      rintro e w1 ⟨rfl, rfl⟩
      generalize dg m = D at *
      go_wp2_with (at_builtin; refine zm7 rfl (.tmp 24) (.tmp 27) 45 rfl Tryz.underlying45 _ 16 zpq yeu (by decide) (by decide) zb2 zlk w.heap.size _ X rfl (HO.out.alloc _) _ 1 1 [D] rfl (zzc _ _ _ _ rfl) (by have := HL.out; omega) (by simp; omega) ?_)
      intro v3 w3 ho3 hb3
      have HO3 := Lib.hid ho3
      have HB3 : Hid (Below w.heap.size w w3) := (HB.out.alloc hz _).trans hb3
      clear ho3 hb3
      go_wp2_with fail
      exact ⟨⟨k + 1, by omega, by rw [HM.out]; go_num, by rw [← HN.out]; exact HO3.out, HB3.out⟩, by simp [intOf]; omega⟩
    · obtain rfl : k = l + 1 - f := by omega
      go_wp2_with fail
      go_ret
      exact ⟨⟨_, rfl, by rw [HR.out]; exact HO.out⟩, HB.out⟩
end Go.Proofs.YtelanmknimapoaaGreatDoor.Gf
/- The specification's digits and Format. -/
namespace Go.Proofs.YtelanmknimapoaaGreatDoor.Gf
open Go Go.RowKit
set_option linter.unusedVariables false
set_option linter.unusedSimpArgs false
theorem ydp (x : W64) (k : Nat) : hasB x (k : Int) = x.getLsbD k := by
 rcases Nat.lt_or_ge k 64 with h | h
 · exact zv9 x k h
 · unfold hasB
   rw [ybt (by omega), zmi x h]; rfl
theorem yhf {x : W64} {u : Nat} {V : List By} (h : V ++ W x u = W x 0) : V.length ≤ 64 ∧ ∀ w ∈ V, w ≠ [] ∧ w.length ≤ 5 := by
 constructor
 · have h1 := zxj x 64 0
   have h2 := congrArg List.length h
   rw [List.length_append] at h2
   unfold W at h2
   omega
 · intro w hw
   have := zsa x 0 w (by rw [← h]; exact List.mem_append_left _ hw)
   exact ⟨this.1, this.2.1⟩
theorem zro {x : W64} (h0 : x ≠ 0#64) (h1 : x ≠ BitVec.allOnes 64) : fmtS x = Lib.join (W x 0) [44] := by
 unfold fmtS; rw [if_neg h0, if_neg h1]
theorem zxs {x : W64} (h0 : x ≠ 0#64) : ¬ (x.toNat : Int) = 0 := fun h => h0 (by apply BitVec.eq_of_toNat_eq; simp; omega)
theorem zui {x : W64} (h0 : x ≠ BitVec.allOnes 64) : ¬ (x.toNat : Int) = 18446744073709551615 := fun h => h0 (by apply BitVec.eq_of_toNat_eq; rw [show (BitVec.allOnes 64).toNat = 18446744073709551615 by decide]; omega)
end Go.Proofs.YtelanmknimapoaaGreatDoor.Gf
