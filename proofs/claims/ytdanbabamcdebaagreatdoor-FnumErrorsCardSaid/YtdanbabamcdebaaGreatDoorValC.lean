/- The contract of val.Compare. -/
import Derived.Test.YtdanbabamcdebaaGreatDoorValA
import Derived.Test.YtdanbabamcdebaaGreatDoorGlyphH
import Derived.Test.YtdanbabamcdebaaGreatDoorS1
import Derived.BigQuiet
import Derived.Deep.QuietTactic
namespace Go.Proofs.YtdanbabamcdebaaGreatDoor.Va
open Go Go.RowKit GM
attribute [local simp] DepA isB rsAt
def sgI (a b : Int) : Int := if a < b then -1 else if b < a then 1 else 0
theorem cmpI_any (a b : Int) (w : World) : Calls Tryz.prog 137 #[.int .i64 a, .int .i64 b] w fun e w' => e = .returned (.int .i64 (sgI a b)) ∧ w = w' := by
  have H : Hid (sgI a b = if a < b then -1 else if b < a then 1 else 0) := rfl
  generalize sgI a b = r at *
  have HN : Hid (∀ (x : Int) (w : World), Calls Tryz.prog 152 #[.int .i64 x] w fun e w' => e = .returned (.bool false) ∧ w = w') := by
    intro x w
    go_enter Tryz.func152, Tryz.ntmps152
    go_wp2_with fail
    go_ret
    exact ⟨rfl, rfl⟩
  by_cases h1 : a < b
  · have HR : Hid (r = -1) := by rw [H.out, if_pos h1]; rfl
    go_enter Tryz.func137, Tryz.ntmps137
    go_wp2_with (first | (refine (HN.out _ _).mono ?_; rintro e w1 ⟨rfl, rfl⟩))
    go_ret
    exact ⟨retE (by rw [HR.out]), rfl⟩
  · by_cases h2 : b < a
    · have HR : Hid (r = 1) := by rw [H.out, if_neg h1, if_pos h2]; rfl
      go_enter Tryz.func137, Tryz.ntmps137
      go_wp2_with (first | (refine (HN.out _ _).mono ?_; rintro e w1 ⟨rfl, rfl⟩))
      go_ret
      exact ⟨retE (by rw [HR.out]), rfl⟩
    · have HR : Hid (r = 0) := by rw [H.out, if_neg h1, if_neg h2]; rfl
      have he : a = b := by omega
      subst he
      go_enter Tryz.func137, Tryz.ntmps137
      go_wp2_with (first | (refine (HN.out _ _).mono ?_; rintro e w1 ⟨rfl, rfl⟩))
      go_ret
      exact ⟨retE (by rw [HR.out]), rfl⟩
theorem cmpL_any (a b : Int) (w : World) : Calls Tryz.prog 60 #[.int .i64 a, .int .i64 b] w fun e w' => e = .returned (.int .i64 (sgI a b)) ∧ w = w' := by
  have H : Hid (sgI a b = if a < b then -1 else if b < a then 1 else 0) := rfl
  generalize sgI a b = r at *
  have HN : Hid (∀ (x : Int) (w : World), Calls Tryz.prog 112 #[.int .i64 x] w fun e w' => e = .returned (.bool false) ∧ w = w') := by
    intro x w
    go_enter Tryz.func112, Tryz.ntmps112
    go_wp2_with fail
    go_ret
    exact ⟨rfl, rfl⟩
  by_cases h1 : a < b
  · have HR : Hid (r = -1) := by rw [H.out, if_pos h1]; rfl
    go_enter Tryz.func60, Tryz.ntmps60
    go_wp2_with (first | (refine (HN.out _ _).mono ?_; rintro e w1 ⟨rfl, rfl⟩))
    go_ret
    exact ⟨retE (by rw [HR.out]), rfl⟩
  · by_cases h2 : b < a
    · have HR : Hid (r = 1) := by rw [H.out, if_neg h1, if_pos h2]; rfl
      go_enter Tryz.func60, Tryz.ntmps60
      go_wp2_with (first | (refine (HN.out _ _).mono ?_; rintro e w1 ⟨rfl, rfl⟩))
      go_ret
      exact ⟨retE (by rw [HR.out]), rfl⟩
    · have HR : Hid (r = 0) := by rw [H.out, if_neg h1, if_neg h2]; rfl
      have he : a = b := by omega
      subst he
      go_enter Tryz.func60, Tryz.ntmps60
      go_wp2_with (first | (refine (HN.out _ _).mono ?_; rintro e w1 ⟨rfl, rfl⟩))
      go_ret
      exact ⟨retE (by rw [HR.out]), rfl⟩
def bK (k k' : Nat) : Nat := if k = 0 then k' else k
def bN (k : Nat) (n : Int) : Int := if k = 0 then 0 else n
def bS (k : Nat) (s : ByteArray) : ByteArray := if k = 0 then ⟨#[]⟩ else s
def rkV (k : Nat) : Int := if k = 1 then 1 else if k = 3 then 2 else 3
theorem beside_any (k : Nat) (n : Int) (s : ByteArray) (k' : Nat) (n' : Int) (s' : ByteArray) (w : World) :
    Calls Tryz.prog 136 #[.agg #[.int .u8 (k : Int), .int .i64 n, .string s], .agg #[.int .u8 (k' : Int), .int .i64 n', .string s']] w fun e w' =>
      e = .returned (.agg #[.int .u8 (bK k k' : Int), .int .i64 (bN k n), .string (bS k s)]) ∧ Below w.heap.size w w' := by
  by_cases h : k = 0
  · subst h
    have H1 : Hid (bK 0 k' = k') := rfl
    have H2 : Hid (bN 0 n = 0) := rfl
    have H3 : Hid (bS 0 s = ⟨#[]⟩) := rfl
    generalize bK 0 k' = x1 at *
    generalize bN 0 n = x2 at *
    generalize bS 0 s = x3 at *
    go_enter Tryz.func136, Tryz.ntmps136
    go_wp2_with fail
    refine bodyPost_ret (v := .agg #[.int .u8 (k' : Int), .int .i64 0, .string ⟨#[]⟩]) (by simp [results, Tryz.results136, go_sem]) rfl ⟨by rw [H1.out, H2.out, H3.out], ?_⟩
    exact (((Below.refl _ w).alloc (Nat.le_refl _) _).alloc (by simp) _).alloc (by simp; omega) _
  · have H1 : Hid (bK k k' = k) := if_neg h
    have H2 : Hid (bN k n = n) := if_neg h
    have H3 : Hid (bS k s = s) := if_neg h
    have h2 : ((k : Int) == 0) = false := by simp <;> omega
    generalize bK k k' = x1 at *
    generalize bN k n = x2 at *
    generalize bS k s = x3 at *
    clear h
    go_enter Tryz.func136, Tryz.ntmps136
    go_wp2_with fail
    refine bodyPost_ret (v := .agg #[.int .u8 (k : Int), .int .i64 n, .string s]) (by simp [results, Tryz.results136, go_sem]) rfl ⟨by rw [H1.out, H2.out, H3.out], ?_⟩
    exact (((Below.refl _ w).alloc (Nat.le_refl _) _).alloc (by simp) _).alloc (by simp; omega) _
theorem rank_any (k : Nat) (n : Int) (s : ByteArray) (w : World) :
    Calls Tryz.prog 138 #[.agg #[.int .u8 (k : Int), .int .i64 n, .string s]] w fun e w' => e = .returned (.int .i64 (rkV k)) ∧ Below w.heap.size w w' := by
  by_cases h1 : k = 1
  · subst h1
    go_enter Tryz.func138, Tryz.ntmps138
    go_wp2_with fail
    go_ret
    exact ⟨rfl, valloc _ _⟩
  · by_cases h3 : k = 3
    · subst h3
      go_enter Tryz.func138, Tryz.ntmps138
      go_wp2_with fail
      go_ret
      exact ⟨rfl, valloc _ _⟩
    · have HR : Hid (rkV k = 3) := by unfold Hid rkV; rw [if_neg h1, if_neg h3]
      have h11 : ((k : Int) == 1) = false := by simp <;> omega
      have h33 : ((k : Int) == 3) = false := by simp <;> omega
      clear h1 h3
      go_enter Tryz.func138, Tryz.ntmps138
      go_wp2_with fail
      go_ret
      exact ⟨retE (by rw [HR.out]), valloc _ _⟩
/-- What Compare returns. -/
def cpR (k : Nat) (n : Int) (s : ByteArray) (k' : Nat) (n' : Int) (s' : ByteArray) : Int × Int :=
  if vldV k n s.data.toList = true ∧ vldV k' n' s'.data.toList = true ∧ k ≠ 4 ∧ k' ≠ 4 then
    (if bK k k' = bK k' k then (if bK k k' = 3 then cmpS (bS k s).data.toList (bS k' s').data.toList else sgI (bN k n) (bN k' n')) else sgI (rkV (bK k k')) (rkV (bK k' k)), 0)
  else (0, 2)
theorem retC {a b : Int} {x : Int × Int} (h : x = (a, b)) : Ending.returned (.tuple #[.int .i64 a, .int .i64 b]) = .returned (.tuple #[.int .i64 x.1, .int .i64 x.2]) := by rw [h]
theorem B3.set {w : World} {p k : Nat} {n : Int} {s : ByteArray} (h : B3 w p k n s) (k' : Nat) (n' : Int) (s' : ByteArray) :
    B3 (((w.setCell ⟨p, 0, none⟩ (.int .u8 (k' : Int))).setCell ⟨p, 1, none⟩ (.int .i64 n')).setCell ⟨p, 2, none⟩ (.string s')) p k' n' s' ∧
    w.grownBy (((w.setCell ⟨p, 0, none⟩ (.int .u8 (k' : Int))).setCell ⟨p, 1, none⟩ (.int .i64 n')).setCell ⟨p, 2, none⟩ (.string s')) (some p) := by
  have := set3 w p 23 _ _ _ (.int .u8 (k' : Int)) (.int .i64 n') (.string s') h
  exact ⟨this.2, this.1⟩
theorem B3.grown {w w' : World} {p q k : Nat} {n : Int} {s : ByteArray} (h : B3 w p k n s) (hg : w.grownBy w' (some q)) (hne : p ≠ q) : B3 w' p k n s :=
  (hg.block p h.lt (by intro e; injection e with e; exact hne e)).trans h
theorem compare_gl (s t : ByteArray) (hs : s.size ≤ 2000) (ht : t.size ≤ 2000) (w : World) :
    Calls Tryz.prog 139 #[.string s, .string t] w fun e w' => e = .returned (.int .i64 (cmpS s.data.toList t.data.toList)) ∧ Below w.heap.size w w' := by
  exact Go.Proofs.YtdanbabamcdebaaGreatDoor.compare_any s t (by unfold maxLen; omega) (by unfold maxLen; omega) w
set_option maxRecDepth 100000 in
set_option maxHeartbeats 6400000 in
theorem compare_any (k : Nat) (n : Int) (s : ByteArray) (hs : s.size ≤ 2000) (hn : leastI ≤ n) (k' : Nat) (n' : Int) (s' : ByteArray) (hs' : s'.size ≤ 2000) (hn' : leastI ≤ n') (w : World) :
    Calls Tryz.prog 118 #[.agg #[.int .u8 (k : Int), .int .i64 n, .string s], .agg #[.int .u8 (k' : Int), .int .i64 n', .string s']] w fun e w' => e = .returned (.tuple #[.int .i64 (cpR k n s k' n' s').1, .int .i64 (cpR k n s k' n' s').2]) ∧ Below w.heap.size w w' := by
  have HC1 := Lib.hid (fun w => vcheck_any k n s (by unfold maxLen; omega) hn w)
  have HC2 := Lib.hid (fun w => vcheck_any k' n' s' (by unfold maxLen; omega) hn' w)
  have HR : Hid (cpR k n s k' n' s' = if vldV k n s.data.toList = true ∧ vldV k' n' s'.data.toList = true ∧ k ≠ 4 ∧ k' ≠ 4 then
    (if bK k k' = bK k' k then (if bK k k' = 3 then cmpS (bS k s).data.toList (bS k' s').data.toList else sgI (bN k n) (bN k' n')) else sgI (rkV (bK k k')) (rkV (bK k' k)), 0) else (0, 2)) := rfl
  have HE1 : Hid (vE k n s.data.toList = if vldV k n s.data.toList = true then 0 else 2) := rfl
  have HE2 : Hid (vE k' n' s'.data.toList = if vldV k' n' s'.data.toList = true then 0 else 2) := rfl
  have HS1 : Hid ((bS k s).size ≤ 2000) := by unfold Hid bS; split; · decide
                                              · exact hs
  have HS2 : Hid ((bS k' s').size ≤ 2000) := by unfold Hid bS; split; · decide
                                                · exact hs'
  have HBA := Lib.hid (fun w => beside_any k n s k' n' s' w)
  have HBB := Lib.hid (fun w => beside_any k' n' s' k n s w)
  generalize cpR k n s k' n' s' = R at *
  generalize vldV k n s.data.toList = v1 at *
  generalize vldV k' n' s'.data.toList = v2 at *
  generalize vE k n s.data.toList = e1 at *
  generalize vE k' n' s'.data.toList = e2 at *
  generalize bK k k' = ka at *
  generalize bK k' k = kb at *
  generalize bN k n = na at *
  generalize bN k' n' = nb at *
  generalize bS k s = sa at *
  generalize bS k' s' = sb at *
  have HA := Lib.hid (B3.start w k n s)
  have HB := Lib.hid (B3.start (w.alloc (.cells #[.int .u8 (k : Int), .int .i64 n, .string s] 23)) k' n' s')
  rw [World.size_alloc] at HB
  have HA2 := Lib.hid (HA.out.later (valloc _ (.cells #[.int .u8 (k' : Int), .int .i64 n', .string s'] 23)))
  have HW := Lib.hid (vnext (valloc w (.cells #[.int .u8 (k : Int), .int .i64 n, .string s] 23)) (valloc _ (.cells #[.int .u8 (k' : Int), .int .i64 n', .string s'] 23)))
  clear HA hn hn' hs hs'
  go_enter Tryz.func118, Tryz.ntmps118
  go_wp2_with fail
  generalize (w.alloc (.cells #[.int .u8 (k : Int), .int .i64 n, .string s] 23)).alloc (.cells #[.int .u8 (k' : Int), .int .i64 n', .string s'] 23) = w0 at *
  refine (HC1.out _).mono ?_
  rintro e w1 ⟨rfl, hB1⟩
  have HA1 := Lib.hid (HA2.out.later hB1)
  have HB1 := Lib.hid (HB.out.later hB1)
  have HW1 := Lib.hid (vnext HW.out hB1)
  clear hB1 HA2 HB HW
  cases v1
  · have HR2 : Hid (R = (0, 2)) := by rw [HR.out, if_neg (by simp)]; rfl
    rw [HE1.out, if_neg (by decide)]
    clear HR
    go_wp2_with fail
    go_ret2
    exact ⟨retC HR2.out, HW1.out⟩
  · rw [HE1.out, if_pos rfl]
    obtain ⟨c0, c1, c2, f0, f1, f2⟩ := HB1.out.cells
    go_wp2_with fail
    refine (HC2.out _).mono ?_
    rintro e w2 ⟨rfl, hB2⟩
    have HA2 := Lib.hid (HA1.out.later hB2)
    have HB2 := Lib.hid (HB1.out.later hB2)
    have HW2 := Lib.hid (vnext HW1.out hB2)
    clear hB2 HA1 HB1 HW1 c0 c1 c2 f0 f1 f2
    obtain ⟨c0, c1, c2, f0, f1, f2⟩ := HA2.out.cells
    obtain ⟨d0, d1, d2, g0, g1, g2⟩ := HB2.out.cells
    cases v2
    · have HR2 : Hid (R = (0, 2)) := by rw [HR.out, if_neg (by simp)]; rfl
      rw [HE2.out, if_neg (by decide)]
      clear HR
      go_wp2_with fail
      go_ret2
      exact ⟨retC HR2.out, HW2.out⟩
    · rw [HE2.out, if_pos rfl]
      by_cases h4 : k = 4
      · have HR2 : Hid (R = (0, 2)) := by rw [HR.out, if_neg (by simp [h4])]; rfl
        subst h4
        clear HR
        go_wp2_with fail
        go_ret2
        exact ⟨retC HR2.out, HW2.out⟩
      · have h44 : ((k : Int) == 4) = false := by simp <;> omega
        by_cases h5 : k' = 4
        · have HR2 : Hid (R = (0, 2)) := by rw [HR.out, if_neg (by simp [h5])]; rfl
          subst h5
          clear HR h4
          go_wp2_with fail
          go_ret2
          exact ⟨retC HR2.out, HW2.out⟩
        · have h55 : ((k' : Int) == 4) = false := by simp <;> omega
          have HR2 : Hid (R = (if ka = kb then (if ka = 3 then cmpS sa.data.toList sb.data.toList else sgI na nb) else sgI (rkV ka) (rkV kb), 0)) := by rw [HR.out, if_pos (by simp [h4, h5])]; rfl
          clear HR h4 h5
          go_wp2_with fail
          clear c0 c1 c2 f0 f1 f2 d0 d1 d2 g0 g1 g2
          refine wp_region_sts 6 (fun X => B3 X w.heap.size k n s ∧ B3 X (w.heap.size + 1) k' n' s' ∧ Below w.heap.size w X) ((fun (a0 act : Act) (T : Nat → Bool) (X : World) => act = a0 ∧ B3 X w.heap.size (if T 6 then ka else k) (if T 6 then na else n) (if T 6 then sa else s) ∧ B3 X (w.heap.size + 1) (if T 7 then kb else k') (if T 7 then nb else n') (if T 7 then sb else s') ∧ Below w.heap.size w X) ?act) (fun W W2 hB ⟨h1, h2, h3⟩ => ⟨h1.later hB, h2.later hB, vnext h3 hB⟩) (by kernel_rfl) (by kernel_rfl) (by kernel_rfl) (by kernel_rfl) (by decide) ⟨HA2.out, HB2.out, HW2.out.drew⟩ ?pre ?sto ?fin
          case pre =>
            simp only [List.take, putsL, Act.put, List.setIfInBounds_toArray, List.set_cons_zero, List.set_cons_succ, Nat.zero_add, Nat.reduceAdd]
            refine seqi_run ?_ (fun vs W hD => (by first | rfl | (simp at hD; simp [Region.wanted, yielded, hD]))) (fun vs W hS hD => ?_) ?_
            rotate_left
            · obtain ⟨h1, h2, h3⟩ := hS; obtain ⟨c0, c1, c2, f0, f1, f2⟩ := h1.cells; obtain ⟨d0, d1, d2, g0, g1, g2⟩ := h2.cells; have hS := trivial; obtain _ := hS; (try simp at hD); (try simp only [hD]); (first | (go_simp; done) | (go_simp; rfl))
            simp only [List.nil_append]
            refine seqi_run ?_ (fun vs W hD => (by first | rfl | (simp at hD; simp [Region.wanted, yielded, hD]))) (fun vs W hS hD => ?_) ?_
            rotate_left
            · obtain ⟨h1, h2, h3⟩ := hS; obtain ⟨c0, c1, c2, f0, f1, f2⟩ := h1.cells; obtain ⟨d0, d1, d2, g0, g1, g2⟩ := h2.cells; have hS := trivial; obtain _ := hS; (try simp at hD); (try simp only [hD]); (first | (go_simp; done) | (go_simp; rfl))
            simp only [List.nil_append, List.cons_append]
            refine seqi_call (f := 136) (fun v _ => v = .agg #[.int .u8 (ka : Int), .int .i64 na, .string sa]) (stable_val _) (fun vs => #[.agg #[.int .u8 (k : Int), .int .i64 n, .string s], .agg #[.int .u8 (k' : Int), .int .i64 n', .string s']]) (fun vs W hD => (by first | rfl | (simp at hD; simp [Region.wanted, yielded, hD]))) (fun vs W hS hD => ?_) (fun vs W hS hD => ?_) ?_
            · obtain _ := hS; (try simp at hD); (try simp only [hD]); go_simp; done
            · exact (HBA.out W).mono fun e W' ⟨he, hB⟩ => ⟨⟨_, he, rfl⟩, hB⟩
            simp only [List.nil_append, List.cons_append]
            refine seqi_run ?_ (fun vs W hD => (by first | rfl | (simp at hD; simp [Region.wanted, yielded, hD]))) (fun vs W hS hD => ?_) ?_
            rotate_left
            · obtain ⟨h1, h2, h3⟩ := hS; obtain ⟨c0, c1, c2, f0, f1, f2⟩ := h1.cells; obtain ⟨d0, d1, d2, g0, g1, g2⟩ := h2.cells; have hS := trivial; obtain _ := hS; (try simp at hD); (try simp only [hD]); (first | (go_simp; done) | (go_simp; rfl))
            simp only [List.nil_append, List.cons_append]
            refine seqi_run ?_ (fun vs W hD => (by first | rfl | (simp at hD; simp [Region.wanted, yielded, hD]))) (fun vs W hS hD => ?_) ?_
            rotate_left
            · obtain ⟨h1, h2, h3⟩ := hS; obtain ⟨c0, c1, c2, f0, f1, f2⟩ := h1.cells; obtain ⟨d0, d1, d2, g0, g1, g2⟩ := h2.cells; have hS := trivial; obtain _ := hS; (try simp at hD); (try simp only [hD]); (first | (go_simp; done) | (go_simp; rfl))
            simp only [List.nil_append, List.cons_append]
            refine seqi_call (f := 136) (fun v _ => v = .agg #[.int .u8 (kb : Int), .int .i64 nb, .string sb]) (stable_val _) (fun vs => #[.agg #[.int .u8 (k' : Int), .int .i64 n', .string s'], .agg #[.int .u8 (k : Int), .int .i64 n, .string s]]) (fun vs W hD => (by first | rfl | (simp at hD; simp [Region.wanted, yielded, hD]))) (fun vs W hS hD => ?_) (fun vs W hS hD => ?_) ?_
            · obtain _ := hS; (try simp at hD); (try simp only [hD]); go_simp; done
            · exact (HBB.out W).mono fun e W' ⟨he, hB⟩ => ⟨⟨_, he, rfl⟩, hB⟩
            simp only [List.nil_append, List.cons_append]
            refine seqi_end fun vs W hS hv => ?_
            simp only [AllF, Nat.zero_add, Nat.reduceAdd] at hv
            obtain ⟨h0, h1, h2, h3, h4, h5, _⟩ := hv
            simp only [h0, h1, h2, h3, h4, h5]
            refine ⟨?_, hS.1, hS.2.1, hS.2.2⟩
            rfl
          case sto =>
            rintro i o act T X ho hi hTi ⟨rfl, hX1, hX2, hX3⟩
            match i, hi with
            | 6, _ =>
              obtain rfl := Option.some.inj ho
              refine ⟨rfl, ?_⟩
              rw [hTi] at hX1
              simp only [Bool.false_eq_true, if_false] at hX1
              obtain ⟨c0, c1, c2, f0, f1, f2⟩ := hX1.cells
              have hl := hX1.lt
              obtain ⟨q1, q2⟩ := hX1.set ka na sa
              have hB : Below w.heap.size w (((X.setCell ⟨w.heap.size, 0, none⟩ (.int .u8 (ka : Int))).setCell ⟨w.heap.size, 1, none⟩ (.int .i64 na)).setCell ⟨w.heap.size, 2, none⟩ (.string sa)) := hX3.grown q2 hX3.size (fun q hq => by injection hq with hq; omega)
              have q3 := hX2.grown q2 (by omega)
              unfold OperR
              go_simp
              exact ⟨q1, q3⟩
            | 7, _ =>
              obtain rfl := Option.some.inj ho
              refine ⟨rfl, ?_⟩
              rw [hTi] at hX2
              simp only [Bool.false_eq_true, if_false] at hX2
              obtain ⟨c0, c1, c2, f0, f1, f2⟩ := hX2.cells
              have hl := hX2.lt
              obtain ⟨q1, q2⟩ := hX2.set kb nb sb
              have hB : Below w.heap.size w (((X.setCell ⟨w.heap.size + 1, 0, none⟩ (.int .u8 (kb : Int))).setCell ⟨w.heap.size + 1, 1, none⟩ (.int .i64 nb)).setCell ⟨w.heap.size + 1, 2, none⟩ (.string sb)) := hX3.grown q2 hX3.size (fun q hq => by injection hq with hq; omega)
              have q3 := hX1.grown q2 (by omega)
              unfold OperR
              go_simp
              exact ⟨q3, q1⟩
            | j + 8, _ => cases ho
          case fin =>
            rintro act T X hT ⟨rfl, hX1, hX2, hX3⟩
            rw [hT 6 (by decide) (by decide)] at hX1
            rw [hT 7 (by decide) (by decide)] at hX2
            simp only [if_true] at hX1 hX2
            obtain ⟨c0, c1, c2, f0, f1, f2⟩ := hX1.cells
            obtain ⟨d0, d1, d2, g0, g1, g2⟩ := hX2.cells
            have HX3 := Lib.hid hX3
            have HX1 := Lib.hid hX1
            have HX2 := Lib.hid hX2
            clear hX1 hX2 hX3 hT
            by_cases hk : ka = kb
            · have hkk : ((ka : Int) != (kb : Int)) = false := by simp <;> omega
              rw [if_pos hk] at HR2
              by_cases h3 : ka = 3
              · rw [if_pos h3] at HR2
                have h33 : ((ka : Int) == 3) = true := by simp <;> omega
                clear hk h3
                go_wp2_with fail
                refine (compare_gl sa sb HS1.out HS2.out _).mono ?_
                rintro e w5 ⟨rfl, hB5⟩
                have HB5 := Lib.hid (vnext HX3.out hB5)
                clear hB5 c0 c1 c2 f0 f1 f2 d0 d1 d2 g0 g1 g2
                go_wp2_with fail
                go_ret2
                exact ⟨retC HR2.out, HB5.out⟩
              · rw [if_neg h3] at HR2
                have h33 : ((ka : Int) == 3) = false := by simp <;> omega
                clear hk h3
                go_wp2_with fail
                refine (cmpL_any na nb _).mono ?_
                rintro e w5 ⟨rfl, rfl⟩
                go_wp2_with fail
                go_ret2
                exact ⟨retC HR2.out, HX3.out⟩
            · have hkk : ((ka : Int) != (kb : Int)) = true := by simp <;> omega
              rw [if_neg hk] at HR2
              clear hk
              go_wp2_with fail
              clear c0 c1 c2 f0 f1 f2 d0 d1 d2 g0 g1 g2
              refine wp_region_seqi (fun X => B3 X w.heap.size ka na sa ∧ B3 X (w.heap.size + 1) kb nb sb ∧ Below w.heap.size w X) (fun W W2 hB ⟨h1, h2, h3⟩ => ⟨h1.later hB, h2.later hB, vnext h3 hB⟩) (by kernel_rfl) (by kernel_rfl) (by kernel_rfl) ⟨HX1.out, HX2.out, HX3.out.drew⟩ ?_
              simp only [putsL, Act.put, List.setIfInBounds_toArray, List.set_cons_zero, List.set_cons_succ, Nat.zero_add, Nat.reduceAdd]
              refine seqi_run ?_ (fun vs W hD => (by first | rfl | (simp at hD; simp [Region.wanted, yielded, hD]))) (fun vs W hS hD => ?_) ?_
              rotate_left
              · obtain ⟨h1, h2, h3⟩ := hS; obtain ⟨c0, c1, c2, f0, f1, f2⟩ := h1.cells; obtain ⟨d0, d1, d2, g0, g1, g2⟩ := h2.cells; have hS := trivial; obtain _ := hS; (try simp at hD); (try simp only [hD]); (first | (go_simp; done) | (go_simp; rfl))
              simp only [List.nil_append]
              refine seqi_call (f := 138) (fun v _ => v = .int .i64 (rkV ka)) (stable_val _) (fun vs => #[.agg #[.int .u8 (ka : Int), .int .i64 na, .string sa]]) (fun vs W hD => (by first | rfl | (simp at hD; simp [Region.wanted, yielded, hD]))) (fun vs W hS hD => ?_) (fun vs W hS hD => ?_) ?_
              · obtain _ := hS; (try simp at hD); (try simp only [hD]); go_simp; done
              · exact (rank_any ka na sa W).mono fun e W' ⟨he, hB⟩ => ⟨⟨_, he, rfl⟩, hB⟩
              simp only [List.nil_append, List.cons_append]
              refine seqi_run ?_ (fun vs W hD => (by first | rfl | (simp at hD; simp [Region.wanted, yielded, hD]))) (fun vs W hS hD => ?_) ?_
              rotate_left
              · obtain ⟨h1, h2, h3⟩ := hS; obtain ⟨c0, c1, c2, f0, f1, f2⟩ := h1.cells; obtain ⟨d0, d1, d2, g0, g1, g2⟩ := h2.cells; have hS := trivial; obtain _ := hS; (try simp at hD); (try simp only [hD]); (first | (go_simp; done) | (go_simp; rfl))
              simp only [List.nil_append, List.cons_append]
              refine seqi_call (f := 138) (fun v _ => v = .int .i64 (rkV kb)) (stable_val _) (fun vs => #[.agg #[.int .u8 (kb : Int), .int .i64 nb, .string sb]]) (fun vs W hD => (by first | rfl | (simp at hD; simp [Region.wanted, yielded, hD]))) (fun vs W hS hD => ?_) (fun vs W hS hD => ?_) ?_
              · obtain _ := hS; (try simp at hD); (try simp only [hD]); go_simp; done
              · exact (rank_any kb nb sb W).mono fun e W' ⟨he, hB⟩ => ⟨⟨_, he, rfl⟩, hB⟩
              simp only [List.nil_append, List.cons_append]
              refine seqi_call (f := 137) (fun v _ => v = .int .i64 (sgI (rkV ka) (rkV kb))) (stable_val _) (fun vs => #[.int .i64 (rkV ka), .int .i64 (rkV kb)]) (fun vs W hD => (by first | rfl | (simp at hD; simp [Region.wanted, yielded, hD]))) (fun vs W hS hD => ?_) (fun vs W hS hD => ?_) ?_
              · obtain _ := hS; (try simp at hD); (try simp only [hD]); go_simp; done
              · exact (cmpI_any (rkV ka) (rkV kb) W).mono fun e W' ⟨he, hw⟩ => ⟨⟨_, he, rfl⟩, hw ▸ Below.refl _ _⟩
              simp only [List.nil_append, List.cons_append]
              refine seqi_run ?_ (fun vs W hD => (by first | rfl | (simp at hD; simp [Region.wanted, yielded, hD]))) (fun vs W hS hD => ?_) ?_
              rotate_left
              · obtain _ := hS; (try simp at hD); (try simp only [hD]); (first | (go_simp; done) | (go_simp; rfl))
              simp only [List.nil_append, List.cons_append]
              refine seqi_run ?_ (fun vs W hD => (by first | rfl | (simp at hD; simp [Region.wanted, yielded, hD]))) (fun vs W hS hD => ?_) ?_
              rotate_left
              · obtain _ := hS; (try simp at hD); (try simp only [hD]); (first | (go_simp; done) | (go_simp; rfl))
              simp only [List.nil_append, List.cons_append]
              refine seqi_end fun vs W hS hv => ?_
              simp only [AllF, Nat.zero_add, Nat.reduceAdd] at hv
              obtain ⟨h0, h1, h2, h3, h4, h5, h6, _⟩ := hv
              have HX5 := Lib.hid hS.2.2
              simp only [h0, h1, h2, h3, h4, h5, h6]
              clear hS h0 h1 h2 h3 h4 h5 h6
              go_wp2_with fail
              go_ret2
              exact ⟨retC HR2.out, HX5.out⟩
end Go.Proofs.YtdanbabamcdebaaGreatDoor.Va
