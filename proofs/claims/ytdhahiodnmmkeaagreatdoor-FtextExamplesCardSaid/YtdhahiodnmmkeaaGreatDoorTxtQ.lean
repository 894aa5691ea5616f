/- Where the digits of a text end; the parts of a number's text by places. -/
import Derived.Test.YtdhahiodnmmkeaaGreatDoorTxtB
namespace Go.Proofs.YtdhahiodnmmkeaaGreatDoor.Tx
open Go.RowKit
def dgN (l : List UInt8) (a : Nat) : Nat := a + ((l.drop a).takeWhile isDg).length
theorem zt1 {l : List UInt8} : (l.takeWhile isDg).length ≤ l.length := (List.takeWhile_sublist isDg).length_le
theorem zoe {l : List UInt8} {a : Nat} (h : a ≤ l.length) : dgN l a ≤ l.length := by
 unfold dgN
 have := zt1 (l := l.drop a)
 rw [List.length_drop] at this
 omega
theorem znc : ∀ {l : List UInt8} {k : Nat}, k ≤ l.length → (∀ c ∈ l.take k, isDg c = true) → (∀ h : k < l.length, isDg l[k] = false) → (l.takeWhile isDg).length = k
 | [], k, hk, _, _ => by simp at hk; subst hk; rfl
 | c :: l, 0, _, _, h2 => by
  have : isDg c = false := h2 (by simp)
  rw [List.takeWhile_cons_of_neg (by simp [this])]; rfl
 | c :: l, k + 1, hk, h1, h2 => by
  have hc : isDg c = true := h1 c (by simp)
  rw [List.takeWhile_cons_of_pos hc, List.length_cons]
  rw [znc (l := l) (k := k) (by simpa using hk) (fun x hx => h1 x (by simp [hx])) (fun h => by have := h2 (by simpa using h); simpa using this)]
theorem zll {l : List UInt8} {a k : Nat} (ha : a ≤ k) (hk : k ≤ l.length) (h1 : ∀ c ∈ (l.drop a).take (k - a), isDg c = true) (h2 : ∀ h : k < l.length, isDg l[k] = false) : k = dgN l a := by
 have := znc (l := l.drop a) (k := k - a) (by rw [List.length_drop]; omega) h1 (fun h => by
  rw [List.length_drop] at h
  rw [List.getElem_drop]
  have h3 := h2 (by omega)
  rw [show l[a + (k - a)] = l[k] by congr 1; omega]
  exact h3)
 unfold dgN
 omega
set_option maxHeartbeats 800000 in
theorem ztb (s : ByteArray) (hs : s.size ≤ 2000) (a : Nat) (ha : a ≤ s.size) (w : World) :
 Calls Tryz.prog 178 #[.string s, .int .i64 (a : Int)] w fun e w' => e = .returned (.int .i64 (dgN s.data.toList a : Int)) ∧ w = w' := by
 have HL : Hid (s.data.toList.length = s.size) := by unfold Hid; simp
 go_enter Tryz.func178, Tryz.ntmps178
 go_wp2_with fail
 go_loop [1] (fun i => ∃ k : Nat, a ≤ k ∧ k ≤ s.size ∧ i = .int .i64 (k : Int) ∧ Hid (∀ c ∈ (s.data.toList.drop a).take (k - a), isDg c = true)) (fun i => s.size - (intOf i).toNat)
 case atStart => exact ⟨a, Nat.le_refl _, ha, rfl, fun c hc => by rw [Nat.sub_self] at hc; cases hc⟩
 case round =>
  obtain ⟨k, hk0, hk, rfl, HA⟩ := hrel
  by_cases hlt : k < s.size
  · have hkl : k < s.data.toList.length := by rw [HL.out]; exact hlt
    have HN : Hid (isDg s[k] = true → ∀ c ∈ (s.data.toList.drop a).take (k + 1 - a), isDg c = true) := fun h c hc => by
     rw [show k + 1 - a = (k - a) + 1 by omega, List.take_succ_eq_append_getElem (by rw [List.length_drop]; omega)] at hc
     rcases List.mem_append.1 hc with hc | hc
     · exact HA.out c hc
     · rw [List.mem_singleton, List.getElem_drop] at hc
       rw [hc, show s.data.toList[a + (k - a)] = s.data.toList[k] by congr 1; omega]
       exact h
    have HE : Hid (isDg s[k] = false → k = dgN s.data.toList a) := fun h => zll hk0 (by omega) HA.out (fun _ => h)
    have HD : Hid (isDg s[k] = decide (48 ≤ s[k].toNat ∧ s[k].toNat ≤ 57)) := rfl
    by_cases h1 : 48 ≤ s[k].toNat ∧ s[k].toNat ≤ 57
    · have HY : Hid (isDg s[k] = true) := by rw [HD.out]; exact decide_eq_true h1
      obtain ⟨h1, h2⟩ := h1
      go_wp2_with fail
      go_round
      case rel => exact ⟨k + 1, by omega, by omega, by go_num, HN.out HY.out⟩
      case measure => simp [intOf]; omega
    · have HY : Hid (isDg s[k] = false) := by rw [HD.out]; exact decide_eq_false h1
      by_cases h2 : s[k].toNat < 48
      · go_wp2_with fail
        go_ret
        exact ⟨retI (by rw [← HE.out HY.out]), rfl⟩
      · have h3 : 57 < s[k].toNat := by omega
        have h4 : 48 ≤ s[k].toNat := by omega
        clear h1
        go_wp2_with fail
        go_ret
        exact ⟨retI (by rw [← HE.out HY.out]), rfl⟩
  · obtain rfl : k = s.size := by omega
    have hl := HL.out
    have HE : Hid (s.size = dgN s.data.toList a) := zll hk0 (by omega) HA.out (fun h => absurd h (by omega))
    clear hl
    go_wp2_with fail
    go_ret
    exact ⟨retI (by rw [← HE.out]), rfl⟩
structure Fm (l : List UInt8) (f : Nat) (w p : List UInt8) : Prop where
 hw : ∀ k (h : k < w.length), l[f + k]? = some w[k]
 hp : ∀ k, l[f + w.length + 1 + k]? = p[k]?
 dw : ∀ c ∈ w, isDg c = true
 dp : ∀ c ∈ p, isDg c = true
theorem zqm (l : List UInt8) : l = l.takeWhile isDg ++ l.dropWhile isDg := (List.takeWhile_append_dropWhile).symm
theorem zjq (l : List UInt8) (f : Nat) (hf : f ≤ l.length) :
 (dgN l f = f → zb5 (l.drop f) = none) ∧
 (dgN l f = l.length → dgN l f ≠ f → ∃ w, zb5 (l.drop f) = some (w, []) ∧ f + w.length = dgN l f ∧ Fm l f w []) ∧
 (∀ h : dgN l f < l.length, l[dgN l f] ≠ 46 → zb5 (l.drop f) = none) ∧
 (∀ h : dgN l f < l.length, l[dgN l f] = 46 → (dgN l (dgN l f + 1) ≠ l.length ∨ dgN l (dgN l f + 1) = dgN l f + 1) → zb5 (l.drop f) = none) ∧
 (∀ h : dgN l f < l.length, l[dgN l f] = 46 → dgN l f ≠ f → dgN l (dgN l f + 1) = l.length → dgN l (dgN l f + 1) ≠ dgN l f + 1 →
  ∃ w p, zb5 (l.drop f) = some (w, p) ∧ f + w.length = dgN l f ∧ Fm l f w p) := by
 obtain ⟨b, hb⟩ : ∃ b, b = l.drop f := ⟨_, rfl⟩
 have hlb : b.length = l.length - f := by rw [hb, List.length_drop]
 have hd : dgN l f = f + (b.takeWhile isDg).length := by rw [hb]; rfl
 have hparts := zqm b
 have hdg : ∀ c ∈ b.takeWhile isDg, isDg c = true := fun c hc => zrf hc
 have hfirst : ∀ c q, b.dropWhile isDg = c :: q → isDg c = false := fun c q h => by
  have := List.head?_dropWhile_not isDg b
  rw [h] at this
  simpa using this
 have hbl : ∀ k, l[f + k]? = b[k]? := fun k => by rw [hb, List.getElem?_drop]
 rw [← hb]
 have hlen : b.length = (b.takeWhile isDg).length + (b.dropWhile isDg).length := by
  have := congrArg List.length hparts
  rwa [List.length_append] at this
 have hat : ∀ h : dgN l f < l.length, ∃ q, b.dropWhile isDg = l[dgN l f] :: q ∧ q = l.drop (dgN l f + 1) := fun h => by
  have h1 : l.drop (dgN l f) = b.dropWhile isDg := by
   rw [hd, ← List.drop_drop, ← hb]
   have h2 := List.drop_left (l₁ := b.takeWhile isDg) (l₂ := b.dropWhile isDg)
   rwa [← hparts] at h2
  rw [List.drop_eq_getElem_cons h] at h1
  exact ⟨_, h1.symm, rfl⟩
 unfold zb5
 generalize b.takeWhile isDg = w at *
 refine ⟨fun h => ?_, fun h h0 => ?_, fun h hc => ?_, fun h hc hx => ?_, fun h hc h0 h1 h2 => ?_⟩
 · have hw0 : w = [] := List.length_eq_zero_iff.1 (by omega)
   subst hw0
   cases b.dropWhile isDg with
   | nil => rfl
   | cons c q => simp
 · have hr : b.dropWhile isDg = [] := List.length_eq_zero_iff.1 (by omega)
   rw [hr]
   have hw0 : w.isEmpty = false := by cases w with | nil => simp at hd; omega | cons _ _ => rfl
   refine ⟨w, by simp [hw0], by omega, ⟨fun k hk => ?_, fun k => ?_, hdg, fun c hc => by cases hc⟩⟩
   · rw [hbl, hparts, List.getElem?_append_left hk, List.getElem?_eq_getElem hk]
   · rw [List.getElem?_eq_none (by omega)]; rfl
 · obtain ⟨q, hq, _⟩ := hat h
   rw [hq]
   simp [hc]
 · obtain ⟨q, hq, hq2⟩ := hat h
   have hql : q.length = l.length - (dgN l f + 1) := by rw [hq2, List.length_drop]
   have hdq : dgN l (dgN l f + 1) = dgN l f + 1 + (q.takeWhile isDg).length := by rw [hq2]; rfl
   rw [hq]
   dsimp only
   rw [if_neg]
   rintro ⟨_, _, h3, h4⟩
   have h5 := (zqs h4).1
   rw [h5] at hdq
   rcases hx with hx | hx
   · omega
   · have : q.length = 0 := by omega
     rw [List.length_eq_zero_iff.1 this] at h3; cases h3
 · obtain ⟨q, hq, hq2⟩ := hat h
   have hql : q.length = l.length - (dgN l f + 1) := by rw [hq2, List.length_drop]
   have hdq : dgN l (dgN l f + 1) = dgN l f + 1 + (q.takeWhile isDg).length := by rw [hq2]; rfl
   have hqa : ∀ c ∈ q, isDg c = true := by
    have h3 := zqm q
    have h4 := congrArg List.length h3
    rw [List.length_append] at h4
    have h5 : q.dropWhile isDg = [] := List.length_eq_zero_iff.1 (by omega)
    exact zgj h5
   have hw0 : w.isEmpty = false := by cases w with | nil => simp at hd; omega | cons _ _ => rfl
   have hq0 : q.isEmpty = false := by cases q with | nil => simp at hql; omega | cons _ _ => rfl
   rw [hq]
   dsimp only
   rw [if_pos ⟨hc, hw0, hq0, List.all_eq_true.2 hqa⟩]
   refine ⟨w, q, rfl, by omega, ⟨fun k hk => ?_, fun k => ?_, hdg, hqa⟩⟩
   · rw [hbl, hparts, List.getElem?_append_left hk, List.getElem?_eq_getElem hk]
   · rw [hq2, List.getElem?_drop, hd]
end Go.Proofs.YtdhahiodnmmkeaaGreatDoor.Tx
