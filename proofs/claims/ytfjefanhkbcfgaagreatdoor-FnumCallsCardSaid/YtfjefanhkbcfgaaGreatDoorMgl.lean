/- Merged: FnuD FnuE. -/
import Derived.Test.YtfjefanhkbcfgaaGreatDoorMgk
/- fnum.Call of one and of two values. -/
namespace Go.Proofs.YtfjefanhkbcfgaaGreatDoor.Va
open Go Go.RowKit GM
set_option linter.unusedVariables false
set_option linter.unusedSimpArgs false
theorem root_ex (x : Int) : ∃ r : Int, ∀ t, IsRoot (x * 10000) t → t = r := by
  by_cases h : ∃ r, IsRoot (x * 10000) r
  · obtain ⟨r, hr⟩ := h
    exact ⟨r, fun t ht => IsRoot.unique ht hr⟩
  · exact ⟨0, fun t ht => absurd ⟨t, ht⟩ h⟩
/-- The root of a number. -/
noncomputable def rootZ (x : Int) : Int := Classical.choose (root_ex x)
theorem rootZ_of {x t : Int} (h : IsRoot (x * 10000) t) : t = rootZ x := Classical.choose_spec (root_ex x) t h
/-- The functions of one number. -/
noncomputable def oneV (fn : Nat) (x : Int) : V3 :=
  match fn with
  | 1 => mkV (max x (-x))
  | 2 => mkV (sgI x 0 * 10000)
  | 3 => numR (Go.Proofs.YtfjefanhkbcfgaaGreatDoor.resV (floorZ x)) (resB (floorZ x))
  | 4 => mkV (truncZ x)
  | _ => if x < 0 then flV 3 else mkV (rootZ x)
/-- The functions of two. -/
def twoV (fn : Nat) (x y : Int) : V3 :=
  match fn with
  | 5 => numR (rndV x (min (max (y.tdiv 10000) (-20)) 4)) (rndB x (min (max (y.tdiv 10000) (-20)) 4))
  | 6 => modR x y
  | _ => powR x y
/-- What fnum.Call makes of arguments that are valid and as many as it asks. -/
noncomputable def fnumV (fn : Nat) (L : List V3) : V3 :=
  match nmR L [] with
  | .inr x => x
  | .inl M => if M.length = 1 then oneV fn (M.getD 0 0) else twoV fn (M.getD 0 0) (M.getD 1 0)
theorem c1_ok {v : V3} (hi : InI v.2.1) (h4 : (c1V v).1 ≠ 4) : -9223372036854775808 < (c1V v).2.1 ∧ (c1V v).2.1 ≤ 9223372036854775807 := by
  obtain ⟨h1, h2⟩ := cv1_ok v.1 v.2.1 v.2.2
  have hk := h2.resolve_right h4
  rw [hk] at h1
  have h3 := cv1_in v.1 v.2.1 v.2.2 hi
  unfold c1V
  generalize cvR 1 v.1 v.2.1 v.2.2 = r at *
  unfold InI at h3
  unfold vE vldV at h1
  simp [leastI] at h1
  obtain ⟨h5, _⟩ := h1
  refine ⟨?_, h3.2⟩
  rcases Int.lt_or_eq_of_le h3.1 with h | h
  · exact h
  · exact absurd h.symm (of_decide_eq_true h5)
theorem nm_one {L : List V3} {M : List Int} (hL : L.length = 1) (hv : ∀ v ∈ L, v.2.2.size ≤ 2000 ∧ InI v.2.1) (h : nmR L [] = .inl M) : ∃ x, M = [x] ∧ -9223372036854775808 < x ∧ x ≤ 9223372036854775807 := by
  obtain ⟨h1, h2⟩ := nmR_len L [] M h
  match M, h1 with
  | [x], _ =>
    obtain ⟨v, hm, e, h4⟩ := (h2 x (List.mem_cons_self ..)).resolve_left (by simp)
    have := c1_ok (hv v hm).2 h4
    exact ⟨x, rfl, by omega, by omega⟩
  | [], h1 => simp [hL] at h1
  | x :: y :: l, h1 => simp [hL] at h1
theorem nm_two {L : List V3} {M : List Int} (hL : L.length = 2) (hv : ∀ v ∈ L, v.2.2.size ≤ 2000 ∧ InI v.2.1) (h : nmR L [] = .inl M) : ∃ x y, M = [x, y] ∧ (-9223372036854775808 < x ∧ x ≤ 9223372036854775807) ∧ -9223372036854775808 < y ∧ y ≤ 9223372036854775807 := by
  obtain ⟨h1, h2⟩ := nmR_len L [] M h
  match M, h1 with
  | [x, y], _ =>
    obtain ⟨v, hm, e, h4⟩ := (h2 x (List.mem_cons_self ..)).resolve_left (by simp)
    obtain ⟨u, hm', e', h4'⟩ := (h2 y (by simp)).resolve_left (by simp)
    have := c1_ok (hv v hm).2 h4
    have := c1_ok (hv u hm').2 h4'
    exact ⟨x, y, rfl, ⟨by omega, by omega⟩, by omega, by omega⟩
  | [], h1 => simp [hL] at h1
  | [x], h1 => simp [hL] at h1
  | x :: y :: z :: l, h1 => simp [hL] at h1
theorem rndV_ge (x p : Int) : leastI ≤ rndV x p := by
  unfold rndV
  split
  · exact resV_ge _
  · split
    · unfold leastI; decide
    · exact resV_ge _
theorem filP_nil (w : World) (ps : List Nat) (h : ∀ p ∈ ps, w.heap[p]? = some (.cells #[.int .i64 0] 2)) : FilP ps [] w := fun j hj => h _ (List.getElem_mem hj)
set_option maxRecDepth 100000 in
set_option maxHeartbeats 6400000 in
theorem one_1 (a : Option Addr) (cap : Nat) (L : List V3) (w : World) (hL : IsV w a 1 L) (hv : ∀ v ∈ L, v.2.2.size ≤ 2000 ∧ InI v.2.1) (hT : Tb w) : Calls Tryz.prog 33 #[.int .u8 1, .slice a 1 cap] w fun e w' => e = .returned (vOf (fnumV 1 L)) ∧ Below w.heap.size w w' := by
  have l1 := valloc w (.cells #[.int .u8 0, .int .i64 0, .string ⟨#[]⟩] 25)
  have l2 := valloc (w.alloc (.cells #[.int .u8 0, .int .i64 0, .string ⟨#[]⟩] 25)) (.cells #[.int .i64 0] 2)
  have l4 := valloc ((w.alloc (.cells #[.int .u8 0, .int .i64 0, .string ⟨#[]⟩] 25)).alloc (.cells #[.int .i64 0] 2)) (.cells #[.pointer (some ⟨w.heap.size + 1, 0, none⟩)] 83)
  have HB := Lib.hid (show Below w.heap.size w (((w.alloc (.cells #[.int .u8 0, .int .i64 0, .string ⟨#[]⟩] 25)).alloc (.cells #[.int .i64 0] 2)).alloc (.cells #[.pointer (some ⟨w.heap.size + 1, 0, none⟩)] 83)) from (vnext (vnext l1 l2) l4))
  have HX := Lib.hid (show B3 (((w.alloc (.cells #[.int .u8 0, .int .i64 0, .string ⟨#[]⟩] 25)).alloc (.cells #[.int .i64 0] 2)).alloc (.cells #[.pointer (some ⟨w.heap.size + 1, 0, none⟩)] 83)) w.heap.size 0 0 ⟨#[]⟩ from ((B3.start w 0 0 ⟨#[]⟩).later l2).later l4)
  have f1 : (((w.alloc (.cells #[.int .u8 0, .int .i64 0, .string ⟨#[]⟩] 25)).alloc (.cells #[.int .i64 0] 2)).alloc (.cells #[.pointer (some ⟨w.heap.size + 1, 0, none⟩)] 83)).heap[w.heap.size + 1]? = some (.cells #[.int .i64 0] 2) := by
    have h : ((w.alloc (.cells #[.int .u8 0, .int .i64 0, .string ⟨#[]⟩] 25)).alloc (.cells #[.int .i64 0] 2)).heap[w.heap.size + 1]? = some (.cells #[.int .i64 0] 2) := by have := World.alloc_heap_new (w.alloc (.cells #[.int .u8 0, .int .i64 0, .string ⟨#[]⟩] 25)) (.cells #[.int .i64 0] 2); rwa [World.size_alloc] at this
    exact (l4.block _ (by simp)).trans h
  have HF := Lib.hid (filP_nil (((w.alloc (.cells #[.int .u8 0, .int .i64 0, .string ⟨#[]⟩] 25)).alloc (.cells #[.int .i64 0] 2)).alloc (.cells #[.pointer (some ⟨w.heap.size + 1, 0, none⟩)] 83)) [w.heap.size + 1] (by intro p hp; simp at hp; subst hp; exact f1))
  have HQ : Hid (QP [w.heap.size + 1] (w.heap.size + 1 + 1) (((w.alloc (.cells #[.int .u8 0, .int .i64 0, .string ⟨#[]⟩] 25)).alloc (.cells #[.int .i64 0] 2)).alloc (.cells #[.pointer (some ⟨w.heap.size + 1, 0, none⟩)] 83))) := ⟨by simp, fun j hj => by
    obtain rfl : j = 0 := by have : j < 1 := hj; omega
    have : (((w.alloc (.cells #[.int .u8 0, .int .i64 0, .string ⟨#[]⟩] 25)).alloc (.cells #[.int .i64 0] 2)).alloc (.cells #[.pointer (some ⟨w.heap.size + 1, 0, none⟩)] 83)).cell? ⟨((w.alloc (.cells #[.int .u8 0, .int .i64 0, .string ⟨#[]⟩] 25)).alloc (.cells #[.int .i64 0] 2)).heap.size, 0, none⟩ = some (.pointer (some ⟨w.heap.size + 1, 0, none⟩)) := (World.cell?_alloc_at _ _ _ 0 rfl).trans rfl
    rwa [World.size_alloc, World.size_alloc] at this⟩
  have hnl := hL.1
  have HFL := Lib.hid (fun W hB hQ hF hP => fill_any w a 1 cap (w.heap.size + 1 + 1) w.heap.size L [w.heap.size + 1] rfl (by simp) (by decide) hL hv hT (by intro p hp; simp at hp; omega) W hB hQ (by intro p hp; simp at hp; omega) hF hP)
  have HNM := Lib.hid (fun M h => nm_one (L := L) (M := M) hnl hv h)
  have HR : Hid (∀ k, fnumV k L = match nmR L [] with | .inr x => x | .inl M => if M.length = 1 then oneV k (M.getD 0 0) else twoV k (M.getD 0 0) (M.getD 1 0)) := fun k => rfl
  generalize nmR L [] = R at *
  clear hL hv hT hnl l1 l2 l4 f1
  go_enter Tryz.func33, Tryz.ntmps33
  go_wp2_with fail
  generalize ((w.alloc (.cells #[.int .u8 0, .int .i64 0, .string ⟨#[]⟩] 25)).alloc (.cells #[.int .i64 0] 2)).alloc (.cells #[.pointer (some ⟨w.heap.size + 1, 0, none⟩)] 83) = wa at *
  refine (HFL.out wa HB.out HQ.out HF.out HX.out).mono ?_
  rintro e w1 ⟨hR, hB1, hP1, _⟩
  replace HB := Lib.hid hB1
  replace HX := Lib.hid hP1
  clear hB1 hP1 HFL HF HQ
  unfold FlP at hR
  cases R with
  | inr x =>
    obtain ⟨xk, xn, xs⟩ := x
    dsimp only at hR
    subst hR
    have HE : Hid (fnumV 1 L = (xk, xn, xs)) := HR.out 1
    have HY := Lib.hid (B3.start w1 xk xn xs)
    have l4 := valloc w1 (.cells #[.int .u8 (xk : Int), .int .i64 xn, .string xs] 25)
    replace HX := Lib.hid (HX.out.later l4)
    replace HB := Lib.hid (vnext HB.out l4)
    clear l4
    go_upto_region 3 with fail
    generalize w1.alloc (.cells #[.int .u8 (xk : Int), .int .i64 xn, .string xs] 25) = w4 at *
    obtain ⟨y0, y1, y2, _, _, _⟩ := HY.out.cells
    have hyl := HY.out.lt
    have hB : Below w4.heap.size w4 w4 := Below.refl _ _
    have hX : B3 w4 w.heap.size 0 0 ⟨#[]⟩ := HX.out.later hB
    have HBW := Lib.hid (vnext HB.out hB)
    obtain ⟨x0, x1, x2, z0, z1, z2⟩ := hX.cells
    have hXl := hX.lt
    obtain ⟨hq, hg⟩ := b3_set hX xk xn xs
    have hb5 := HBW.out.grown hg HBW.out.size (fun q hq => by injection hq with hq; omega)
    clear hB hg
    go_wp2_with fail
    generalize ((w4.setCell ⟨w.heap.size, 0, none⟩ (.int .u8 (xk : Int))).setCell ⟨w.heap.size, 1, none⟩ (.int .i64 xn)).setCell ⟨w.heap.size, 2, none⟩ (.string xs) = w5 at *
    obtain ⟨y0, y1, y2, _, _, _⟩ := hq.cells
    refine bodyPost_ret (v := .agg #[.int .u8 (xk : Int), .int .i64 xn, .string xs]) (by simp [results, Tryz.results33, go_sem, y0, y1, y2]) rfl ⟨by rw [HE.out]; rfl, hb5⟩
  | inl M =>
    obtain ⟨rfl, hF1⟩ := hR
    obtain ⟨x, rfl, hx1, hx2⟩ := HNM.out M rfl
    have l4 := valloc w1 (.cells #[.int .u8 0, .int .i64 0, .string ⟨#[]⟩] 25)
    have HF := Lib.hid (hF1.later l4)
    replace HX := Lib.hid (HX.out.later l4)
    replace HB := Lib.hid (vnext HB.out l4)
    have HE : Hid (fnumV 1 L = oneV 1 x) := HR.out 1
    clear l4 hF1 HNM HR
    go_upto_region 3 with fail
    generalize w1.alloc (.cells #[.int .u8 0, .int .i64 0, .string ⟨#[]⟩] 25) = wa at *
    obtain ⟨i1, i2, _⟩ := HF.out.at_ (j := 0) (by simp)
    have i3 : wa.cell? ⟨w.heap.size + 1, 0, none⟩ = some (.int .i64 x) := i2
    have i4 : w.heap.size + 1 < wa.heap.size := i1
    clear i1 i2
    clear HF
    by_cases h0 : x < 0
    · have d1 : decide (x < 0) = true := decide_eq_true h0
      have HN : Hid (oneV 1 x = numR (Go.Proofs.YtfjefanhkbcfgaaGreatDoor.resV (-x)) (resB (-x))) := by
        unfold Hid
        rw [show resB (-x) = true from decide_eq_true (by omega), show Go.Proofs.YtfjefanhkbcfgaaGreatDoor.resV (-x) = -x from if_pos (by omega)]
        show mkV (max x (-x)) = mkV (-x)
        rw [show max x (-x) = -x by omega]
      go_wp2_with fail
      refine (neg_any x ⟨by omega, hx2⟩ _).mono ?_
      rintro e w9 ⟨rfl, rfl⟩
      go_wp2_with fail
      have HV := Lib.hid (fun W => pnumber_any (Go.Proofs.YtfjefanhkbcfgaaGreatDoor.resV (-x)) (resV_ge _) (resB (-x)) W)
      generalize hvv : numR (Go.Proofs.YtfjefanhkbcfgaaGreatDoor.resV (-x)) (resB (-x)) = vv at HV
      have HVV := Lib.hid hvv
      clear hvv
      obtain ⟨vk, vn, vs⟩ := vv
      unfold vOf at HV
      dsimp only at HV
      refine (HV.out _).mono ?_
      rintro e w1 ⟨rfl, hB⟩
      have hX : B3 w1 w.heap.size 0 0 ⟨#[]⟩ := HX.out.later hB
      have HBW := Lib.hid (vnext HB.out hB)
      obtain ⟨x0, x1, x2, z0, z1, z2⟩ := hX.cells
      have hXl := hX.lt
      obtain ⟨hq, hg⟩ := b3_set hX vk vn vs
      have hb5 := HBW.out.grown hg HBW.out.size (fun q hq => by injection hq with hq; omega)
      clear hB hg
      go_wp2_with fail
      generalize ((w1.setCell ⟨w.heap.size, 0, none⟩ (.int .u8 (vk : Int))).setCell ⟨w.heap.size, 1, none⟩ (.int .i64 vn)).setCell ⟨w.heap.size, 2, none⟩ (.string vs) = w5 at *
      obtain ⟨y0, y1, y2, _, _, _⟩ := hq.cells
      refine bodyPost_ret (v := .agg #[.int .u8 (vk : Int), .int .i64 vn, .string vs]) (by simp [results, Tryz.results33, go_sem, y0, y1, y2]) rfl ⟨by rw [HE.out, HN.out, HVV.out]; rfl, hb5⟩
    · have d1 : decide (x < 0) = false := decide_eq_false h0
      have HN : Hid (oneV 1 x = mkV x) := by
        show mkV (max x (-x)) = mkV x
        rw [show max x (-x) = x by omega]
      go_wp2_with fail
      have HV := Lib.hid (fun W => make_any (x) W)
      have HV : Hid (∀ W, Calls Tryz.prog 74 #[.int .i64 (x)] W fun e w' => e = .returned (vOf (mkV (x))) ∧ Below W.heap.size W w') := HV
      generalize hvv : mkV (x) = vv at HV
      have HVV := Lib.hid hvv
      clear hvv
      obtain ⟨vk, vn, vs⟩ := vv
      unfold vOf at HV
      dsimp only at HV
      refine (HV.out _).mono ?_
      rintro e w1 ⟨rfl, hB⟩
      have hX : B3 w1 w.heap.size 0 0 ⟨#[]⟩ := HX.out.later hB
      have HBW := Lib.hid (vnext HB.out hB)
      obtain ⟨x0, x1, x2, z0, z1, z2⟩ := hX.cells
      have hXl := hX.lt
      obtain ⟨hq, hg⟩ := b3_set hX vk vn vs
      have hb5 := HBW.out.grown hg HBW.out.size (fun q hq => by injection hq with hq; omega)
      clear hB hg
      go_wp2_with fail
      generalize ((w1.setCell ⟨w.heap.size, 0, none⟩ (.int .u8 (vk : Int))).setCell ⟨w.heap.size, 1, none⟩ (.int .i64 vn)).setCell ⟨w.heap.size, 2, none⟩ (.string vs) = w5 at *
      obtain ⟨y0, y1, y2, _, _, _⟩ := hq.cells
      refine bodyPost_ret (v := .agg #[.int .u8 (vk : Int), .int .i64 vn, .string vs]) (by simp [results, Tryz.results33, go_sem, y0, y1, y2]) rfl ⟨by rw [HE.out, HN.out, HVV.out]; rfl, hb5⟩
set_option maxRecDepth 100000 in
set_option maxHeartbeats 6400000 in
theorem one_2 (a : Option Addr) (cap : Nat) (L : List V3) (w : World) (hL : IsV w a 1 L) (hv : ∀ v ∈ L, v.2.2.size ≤ 2000 ∧ InI v.2.1) (hT : Tb w) : Calls Tryz.prog 33 #[.int .u8 2, .slice a 1 cap] w fun e w' => e = .returned (vOf (fnumV 2 L)) ∧ Below w.heap.size w w' := by
  have l1 := valloc w (.cells #[.int .u8 0, .int .i64 0, .string ⟨#[]⟩] 25)
  have l2 := valloc (w.alloc (.cells #[.int .u8 0, .int .i64 0, .string ⟨#[]⟩] 25)) (.cells #[.int .i64 0] 2)
  have l4 := valloc ((w.alloc (.cells #[.int .u8 0, .int .i64 0, .string ⟨#[]⟩] 25)).alloc (.cells #[.int .i64 0] 2)) (.cells #[.pointer (some ⟨w.heap.size + 1, 0, none⟩)] 83)
  have HB := Lib.hid (show Below w.heap.size w (((w.alloc (.cells #[.int .u8 0, .int .i64 0, .string ⟨#[]⟩] 25)).alloc (.cells #[.int .i64 0] 2)).alloc (.cells #[.pointer (some ⟨w.heap.size + 1, 0, none⟩)] 83)) from (vnext (vnext l1 l2) l4))
  have HX := Lib.hid (show B3 (((w.alloc (.cells #[.int .u8 0, .int .i64 0, .string ⟨#[]⟩] 25)).alloc (.cells #[.int .i64 0] 2)).alloc (.cells #[.pointer (some ⟨w.heap.size + 1, 0, none⟩)] 83)) w.heap.size 0 0 ⟨#[]⟩ from ((B3.start w 0 0 ⟨#[]⟩).later l2).later l4)
  have f1 : (((w.alloc (.cells #[.int .u8 0, .int .i64 0, .string ⟨#[]⟩] 25)).alloc (.cells #[.int .i64 0] 2)).alloc (.cells #[.pointer (some ⟨w.heap.size + 1, 0, none⟩)] 83)).heap[w.heap.size + 1]? = some (.cells #[.int .i64 0] 2) := by
    have h : ((w.alloc (.cells #[.int .u8 0, .int .i64 0, .string ⟨#[]⟩] 25)).alloc (.cells #[.int .i64 0] 2)).heap[w.heap.size + 1]? = some (.cells #[.int .i64 0] 2) := by have := World.alloc_heap_new (w.alloc (.cells #[.int .u8 0, .int .i64 0, .string ⟨#[]⟩] 25)) (.cells #[.int .i64 0] 2); rwa [World.size_alloc] at this
    exact (l4.block _ (by simp)).trans h
  have HF := Lib.hid (filP_nil (((w.alloc (.cells #[.int .u8 0, .int .i64 0, .string ⟨#[]⟩] 25)).alloc (.cells #[.int .i64 0] 2)).alloc (.cells #[.pointer (some ⟨w.heap.size + 1, 0, none⟩)] 83)) [w.heap.size + 1] (by intro p hp; simp at hp; subst hp; exact f1))
  have HQ : Hid (QP [w.heap.size + 1] (w.heap.size + 1 + 1) (((w.alloc (.cells #[.int .u8 0, .int .i64 0, .string ⟨#[]⟩] 25)).alloc (.cells #[.int .i64 0] 2)).alloc (.cells #[.pointer (some ⟨w.heap.size + 1, 0, none⟩)] 83))) := ⟨by simp, fun j hj => by
    obtain rfl : j = 0 := by have : j < 1 := hj; omega
    have : (((w.alloc (.cells #[.int .u8 0, .int .i64 0, .string ⟨#[]⟩] 25)).alloc (.cells #[.int .i64 0] 2)).alloc (.cells #[.pointer (some ⟨w.heap.size + 1, 0, none⟩)] 83)).cell? ⟨((w.alloc (.cells #[.int .u8 0, .int .i64 0, .string ⟨#[]⟩] 25)).alloc (.cells #[.int .i64 0] 2)).heap.size, 0, none⟩ = some (.pointer (some ⟨w.heap.size + 1, 0, none⟩)) := (World.cell?_alloc_at _ _ _ 0 rfl).trans rfl
    rwa [World.size_alloc, World.size_alloc] at this⟩
  have hnl := hL.1
  have HFL := Lib.hid (fun W hB hQ hF hP => fill_any w a 1 cap (w.heap.size + 1 + 1) w.heap.size L [w.heap.size + 1] rfl (by simp) (by decide) hL hv hT (by intro p hp; simp at hp; omega) W hB hQ (by intro p hp; simp at hp; omega) hF hP)
  have HNM := Lib.hid (fun M h => nm_one (L := L) (M := M) hnl hv h)
  have HR : Hid (∀ k, fnumV k L = match nmR L [] with | .inr x => x | .inl M => if M.length = 1 then oneV k (M.getD 0 0) else twoV k (M.getD 0 0) (M.getD 1 0)) := fun k => rfl
  generalize nmR L [] = R at *
  clear hL hv hT hnl l1 l2 l4 f1
  go_enter Tryz.func33, Tryz.ntmps33
  go_wp2_with fail
  generalize ((w.alloc (.cells #[.int .u8 0, .int .i64 0, .string ⟨#[]⟩] 25)).alloc (.cells #[.int .i64 0] 2)).alloc (.cells #[.pointer (some ⟨w.heap.size + 1, 0, none⟩)] 83) = wa at *
  refine (HFL.out wa HB.out HQ.out HF.out HX.out).mono ?_
  rintro e w1 ⟨hR, hB1, hP1, _⟩
  replace HB := Lib.hid hB1
  replace HX := Lib.hid hP1
  clear hB1 hP1 HFL HF HQ
  unfold FlP at hR
  cases R with
  | inr x =>
    obtain ⟨xk, xn, xs⟩ := x
    dsimp only at hR
    subst hR
    have HE : Hid (fnumV 2 L = (xk, xn, xs)) := HR.out 2
    have HY := Lib.hid (B3.start w1 xk xn xs)
    have l4 := valloc w1 (.cells #[.int .u8 (xk : Int), .int .i64 xn, .string xs] 25)
    replace HX := Lib.hid (HX.out.later l4)
    replace HB := Lib.hid (vnext HB.out l4)
    clear l4
    go_upto_region 3 with fail
    generalize w1.alloc (.cells #[.int .u8 (xk : Int), .int .i64 xn, .string xs] 25) = w4 at *
    obtain ⟨y0, y1, y2, _, _, _⟩ := HY.out.cells
    have hyl := HY.out.lt
    have hB : Below w4.heap.size w4 w4 := Below.refl _ _
    have hX : B3 w4 w.heap.size 0 0 ⟨#[]⟩ := HX.out.later hB
    have HBW := Lib.hid (vnext HB.out hB)
    obtain ⟨x0, x1, x2, z0, z1, z2⟩ := hX.cells
    have hXl := hX.lt
    obtain ⟨hq, hg⟩ := b3_set hX xk xn xs
    have hb5 := HBW.out.grown hg HBW.out.size (fun q hq => by injection hq with hq; omega)
    clear hB hg
    go_wp2_with fail
    generalize ((w4.setCell ⟨w.heap.size, 0, none⟩ (.int .u8 (xk : Int))).setCell ⟨w.heap.size, 1, none⟩ (.int .i64 xn)).setCell ⟨w.heap.size, 2, none⟩ (.string xs) = w5 at *
    obtain ⟨y0, y1, y2, _, _, _⟩ := hq.cells
    refine bodyPost_ret (v := .agg #[.int .u8 (xk : Int), .int .i64 xn, .string xs]) (by simp [results, Tryz.results33, go_sem, y0, y1, y2]) rfl ⟨by rw [HE.out]; rfl, hb5⟩
  | inl M =>
    obtain ⟨rfl, hF1⟩ := hR
    obtain ⟨x, rfl, hx1, hx2⟩ := HNM.out M rfl
    have l4 := valloc w1 (.cells #[.int .u8 0, .int .i64 0, .string ⟨#[]⟩] 25)
    have HF := Lib.hid (hF1.later l4)
    replace HX := Lib.hid (HX.out.later l4)
    replace HB := Lib.hid (vnext HB.out l4)
    have HE : Hid (fnumV 2 L = oneV 2 x) := HR.out 2
    clear l4 hF1 HNM HR
    go_upto_region 3 with fail
    generalize w1.alloc (.cells #[.int .u8 0, .int .i64 0, .string ⟨#[]⟩] 25) = wa at *
    obtain ⟨i1, i2, _⟩ := HF.out.at_ (j := 0) (by simp)
    have i3 : wa.cell? ⟨w.heap.size + 1, 0, none⟩ = some (.int .i64 x) := i2
    have i4 : w.heap.size + 1 < wa.heap.size := i1
    clear i1 i2
    clear HF
    have hsg : -1 ≤ sgI x 0 ∧ sgI x 0 ≤ 1 := by unfold sgI; split <;> (try split) <;> decide
    have hsw : IntKind.i64.wrap (sgI x 0 * 10000) = sgI x 0 * 10000 := IntWalk.i64_in _ (by omega)
    have HN : Hid (oneV 2 x = mkV (sgI x 0 * 10000)) := rfl
    go_wp2_with fail
    refine (cmpL_any x 0 _).mono ?_
    rintro e w9 ⟨rfl, rfl⟩
    go_wp2_with fail
    have HV := Lib.hid (fun W => make_any (sgI x 0 * 10000) W)
    have HV : Hid (∀ W, Calls Tryz.prog 74 #[.int .i64 (sgI x 0 * 10000)] W fun e w' => e = .returned (vOf (mkV (sgI x 0 * 10000))) ∧ Below W.heap.size W w') := HV
    generalize hvv : mkV (sgI x 0 * 10000) = vv at HV
    have HVV := Lib.hid hvv
    clear hvv
    obtain ⟨vk, vn, vs⟩ := vv
    unfold vOf at HV
    dsimp only at HV
    refine (HV.out _).mono ?_
    rintro e w1 ⟨rfl, hB⟩
    have hX : B3 w1 w.heap.size 0 0 ⟨#[]⟩ := HX.out.later hB
    have HBW := Lib.hid (vnext HB.out hB)
    obtain ⟨x0, x1, x2, z0, z1, z2⟩ := hX.cells
    have hXl := hX.lt
    obtain ⟨hq, hg⟩ := b3_set hX vk vn vs
    have hb5 := HBW.out.grown hg HBW.out.size (fun q hq => by injection hq with hq; omega)
    clear hB hg
    go_wp2_with fail
    generalize ((w1.setCell ⟨w.heap.size, 0, none⟩ (.int .u8 (vk : Int))).setCell ⟨w.heap.size, 1, none⟩ (.int .i64 vn)).setCell ⟨w.heap.size, 2, none⟩ (.string vs) = w5 at *
    obtain ⟨y0, y1, y2, _, _, _⟩ := hq.cells
    refine bodyPost_ret (v := .agg #[.int .u8 (vk : Int), .int .i64 vn, .string vs]) (by simp [results, Tryz.results33, go_sem, y0, y1, y2]) rfl ⟨by rw [HE.out, HN.out, HVV.out]; rfl, hb5⟩
set_option maxRecDepth 100000 in
set_option maxHeartbeats 6400000 in
theorem one_3 (a : Option Addr) (cap : Nat) (L : List V3) (w : World) (hL : IsV w a 1 L) (hv : ∀ v ∈ L, v.2.2.size ≤ 2000 ∧ InI v.2.1) (hT : Tb w) : Calls Tryz.prog 33 #[.int .u8 3, .slice a 1 cap] w fun e w' => e = .returned (vOf (fnumV 3 L)) ∧ Below w.heap.size w w' := by
  have l1 := valloc w (.cells #[.int .u8 0, .int .i64 0, .string ⟨#[]⟩] 25)
  have l2 := valloc (w.alloc (.cells #[.int .u8 0, .int .i64 0, .string ⟨#[]⟩] 25)) (.cells #[.int .i64 0] 2)
  have l4 := valloc ((w.alloc (.cells #[.int .u8 0, .int .i64 0, .string ⟨#[]⟩] 25)).alloc (.cells #[.int .i64 0] 2)) (.cells #[.pointer (some ⟨w.heap.size + 1, 0, none⟩)] 83)
  have HB := Lib.hid (show Below w.heap.size w (((w.alloc (.cells #[.int .u8 0, .int .i64 0, .string ⟨#[]⟩] 25)).alloc (.cells #[.int .i64 0] 2)).alloc (.cells #[.pointer (some ⟨w.heap.size + 1, 0, none⟩)] 83)) from (vnext (vnext l1 l2) l4))
  have HX := Lib.hid (show B3 (((w.alloc (.cells #[.int .u8 0, .int .i64 0, .string ⟨#[]⟩] 25)).alloc (.cells #[.int .i64 0] 2)).alloc (.cells #[.pointer (some ⟨w.heap.size + 1, 0, none⟩)] 83)) w.heap.size 0 0 ⟨#[]⟩ from ((B3.start w 0 0 ⟨#[]⟩).later l2).later l4)
  have f1 : (((w.alloc (.cells #[.int .u8 0, .int .i64 0, .string ⟨#[]⟩] 25)).alloc (.cells #[.int .i64 0] 2)).alloc (.cells #[.pointer (some ⟨w.heap.size + 1, 0, none⟩)] 83)).heap[w.heap.size + 1]? = some (.cells #[.int .i64 0] 2) := by
    have h : ((w.alloc (.cells #[.int .u8 0, .int .i64 0, .string ⟨#[]⟩] 25)).alloc (.cells #[.int .i64 0] 2)).heap[w.heap.size + 1]? = some (.cells #[.int .i64 0] 2) := by have := World.alloc_heap_new (w.alloc (.cells #[.int .u8 0, .int .i64 0, .string ⟨#[]⟩] 25)) (.cells #[.int .i64 0] 2); rwa [World.size_alloc] at this
    exact (l4.block _ (by simp)).trans h
  have HF := Lib.hid (filP_nil (((w.alloc (.cells #[.int .u8 0, .int .i64 0, .string ⟨#[]⟩] 25)).alloc (.cells #[.int .i64 0] 2)).alloc (.cells #[.pointer (some ⟨w.heap.size + 1, 0, none⟩)] 83)) [w.heap.size + 1] (by intro p hp; simp at hp; subst hp; exact f1))
  have HQ : Hid (QP [w.heap.size + 1] (w.heap.size + 1 + 1) (((w.alloc (.cells #[.int .u8 0, .int .i64 0, .string ⟨#[]⟩] 25)).alloc (.cells #[.int .i64 0] 2)).alloc (.cells #[.pointer (some ⟨w.heap.size + 1, 0, none⟩)] 83))) := ⟨by simp, fun j hj => by
    obtain rfl : j = 0 := by have : j < 1 := hj; omega
    have : (((w.alloc (.cells #[.int .u8 0, .int .i64 0, .string ⟨#[]⟩] 25)).alloc (.cells #[.int .i64 0] 2)).alloc (.cells #[.pointer (some ⟨w.heap.size + 1, 0, none⟩)] 83)).cell? ⟨((w.alloc (.cells #[.int .u8 0, .int .i64 0, .string ⟨#[]⟩] 25)).alloc (.cells #[.int .i64 0] 2)).heap.size, 0, none⟩ = some (.pointer (some ⟨w.heap.size + 1, 0, none⟩)) := (World.cell?_alloc_at _ _ _ 0 rfl).trans rfl
    rwa [World.size_alloc, World.size_alloc] at this⟩
  have hnl := hL.1
  have HFL := Lib.hid (fun W hB hQ hF hP => fill_any w a 1 cap (w.heap.size + 1 + 1) w.heap.size L [w.heap.size + 1] rfl (by simp) (by decide) hL hv hT (by intro p hp; simp at hp; omega) W hB hQ (by intro p hp; simp at hp; omega) hF hP)
  have HNM := Lib.hid (fun M h => nm_one (L := L) (M := M) hnl hv h)
  have HR : Hid (∀ k, fnumV k L = match nmR L [] with | .inr x => x | .inl M => if M.length = 1 then oneV k (M.getD 0 0) else twoV k (M.getD 0 0) (M.getD 1 0)) := fun k => rfl
  generalize nmR L [] = R at *
  clear hL hv hT hnl l1 l2 l4 f1
  go_enter Tryz.func33, Tryz.ntmps33
  go_wp2_with fail
  generalize ((w.alloc (.cells #[.int .u8 0, .int .i64 0, .string ⟨#[]⟩] 25)).alloc (.cells #[.int .i64 0] 2)).alloc (.cells #[.pointer (some ⟨w.heap.size + 1, 0, none⟩)] 83) = wa at *
  refine (HFL.out wa HB.out HQ.out HF.out HX.out).mono ?_
  rintro e w1 ⟨hR, hB1, hP1, _⟩
  replace HB := Lib.hid hB1
  replace HX := Lib.hid hP1
  clear hB1 hP1 HFL HF HQ
  unfold FlP at hR
  cases R with
  | inr x =>
    obtain ⟨xk, xn, xs⟩ := x
    dsimp only at hR
    subst hR
    have HE : Hid (fnumV 3 L = (xk, xn, xs)) := HR.out 3
    have HY := Lib.hid (B3.start w1 xk xn xs)
    have l4 := valloc w1 (.cells #[.int .u8 (xk : Int), .int .i64 xn, .string xs] 25)
    replace HX := Lib.hid (HX.out.later l4)
    replace HB := Lib.hid (vnext HB.out l4)
    clear l4
    go_upto_region 3 with fail
    generalize w1.alloc (.cells #[.int .u8 (xk : Int), .int .i64 xn, .string xs] 25) = w4 at *
    obtain ⟨y0, y1, y2, _, _, _⟩ := HY.out.cells
    have hyl := HY.out.lt
    have hB : Below w4.heap.size w4 w4 := Below.refl _ _
    have hX : B3 w4 w.heap.size 0 0 ⟨#[]⟩ := HX.out.later hB
    have HBW := Lib.hid (vnext HB.out hB)
    obtain ⟨x0, x1, x2, z0, z1, z2⟩ := hX.cells
    have hXl := hX.lt
    obtain ⟨hq, hg⟩ := b3_set hX xk xn xs
    have hb5 := HBW.out.grown hg HBW.out.size (fun q hq => by injection hq with hq; omega)
    clear hB hg
    go_wp2_with fail
    generalize ((w4.setCell ⟨w.heap.size, 0, none⟩ (.int .u8 (xk : Int))).setCell ⟨w.heap.size, 1, none⟩ (.int .i64 xn)).setCell ⟨w.heap.size, 2, none⟩ (.string xs) = w5 at *
    obtain ⟨y0, y1, y2, _, _, _⟩ := hq.cells
    refine bodyPost_ret (v := .agg #[.int .u8 (xk : Int), .int .i64 xn, .string xs]) (by simp [results, Tryz.results33, go_sem, y0, y1, y2]) rfl ⟨by rw [HE.out]; rfl, hb5⟩
  | inl M =>
    obtain ⟨rfl, hF1⟩ := hR
    obtain ⟨x, rfl, hx1, hx2⟩ := HNM.out M rfl
    have l4 := valloc w1 (.cells #[.int .u8 0, .int .i64 0, .string ⟨#[]⟩] 25)
    have HF := Lib.hid (hF1.later l4)
    replace HX := Lib.hid (HX.out.later l4)
    replace HB := Lib.hid (vnext HB.out l4)
    have HE : Hid (fnumV 3 L = oneV 3 x) := HR.out 3
    clear l4 hF1 HNM HR
    go_upto_region 3 with fail
    generalize w1.alloc (.cells #[.int .u8 0, .int .i64 0, .string ⟨#[]⟩] 25) = wa at *
    obtain ⟨i1, i2, _⟩ := HF.out.at_ (j := 0) (by simp)
    have i3 : wa.cell? ⟨w.heap.size + 1, 0, none⟩ = some (.int .i64 x) := i2
    have i4 : w.heap.size + 1 < wa.heap.size := i1
    clear i1 i2
    clear HF
    have HN : Hid (oneV 3 x = numR (Go.Proofs.YtfjefanhkbcfgaaGreatDoor.resV (floorZ x)) (resB (floorZ x))) := rfl
    go_wp2_with fail
    refine (floor_any x ⟨by omega, hx2⟩ _).mono ?_
    rintro e w9 ⟨rfl, rfl⟩
    go_wp2_with fail
    have HV := Lib.hid (fun W => pnumber_any (Go.Proofs.YtfjefanhkbcfgaaGreatDoor.resV (floorZ x)) (resV_ge _) (resB (floorZ x)) W)
    generalize hvv : numR (Go.Proofs.YtfjefanhkbcfgaaGreatDoor.resV (floorZ x)) (resB (floorZ x)) = vv at HV
    have HVV := Lib.hid hvv
    clear hvv
    obtain ⟨vk, vn, vs⟩ := vv
    unfold vOf at HV
    dsimp only at HV
    refine (HV.out _).mono ?_
    rintro e w1 ⟨rfl, hB⟩
    have hX : B3 w1 w.heap.size 0 0 ⟨#[]⟩ := HX.out.later hB
    have HBW := Lib.hid (vnext HB.out hB)
    obtain ⟨x0, x1, x2, z0, z1, z2⟩ := hX.cells
    have hXl := hX.lt
    obtain ⟨hq, hg⟩ := b3_set hX vk vn vs
    have hb5 := HBW.out.grown hg HBW.out.size (fun q hq => by injection hq with hq; omega)
    clear hB hg
    go_wp2_with fail
    generalize ((w1.setCell ⟨w.heap.size, 0, none⟩ (.int .u8 (vk : Int))).setCell ⟨w.heap.size, 1, none⟩ (.int .i64 vn)).setCell ⟨w.heap.size, 2, none⟩ (.string vs) = w5 at *
    obtain ⟨y0, y1, y2, _, _, _⟩ := hq.cells
    refine bodyPost_ret (v := .agg #[.int .u8 (vk : Int), .int .i64 vn, .string vs]) (by simp [results, Tryz.results33, go_sem, y0, y1, y2]) rfl ⟨by rw [HE.out, HN.out, HVV.out]; rfl, hb5⟩
set_option maxRecDepth 100000 in
set_option maxHeartbeats 6400000 in
theorem one_4 (a : Option Addr) (cap : Nat) (L : List V3) (w : World) (hL : IsV w a 1 L) (hv : ∀ v ∈ L, v.2.2.size ≤ 2000 ∧ InI v.2.1) (hT : Tb w) : Calls Tryz.prog 33 #[.int .u8 4, .slice a 1 cap] w fun e w' => e = .returned (vOf (fnumV 4 L)) ∧ Below w.heap.size w w' := by
  have l1 := valloc w (.cells #[.int .u8 0, .int .i64 0, .string ⟨#[]⟩] 25)
  have l2 := valloc (w.alloc (.cells #[.int .u8 0, .int .i64 0, .string ⟨#[]⟩] 25)) (.cells #[.int .i64 0] 2)
  have l4 := valloc ((w.alloc (.cells #[.int .u8 0, .int .i64 0, .string ⟨#[]⟩] 25)).alloc (.cells #[.int .i64 0] 2)) (.cells #[.pointer (some ⟨w.heap.size + 1, 0, none⟩)] 83)
  have HB := Lib.hid (show Below w.heap.size w (((w.alloc (.cells #[.int .u8 0, .int .i64 0, .string ⟨#[]⟩] 25)).alloc (.cells #[.int .i64 0] 2)).alloc (.cells #[.pointer (some ⟨w.heap.size + 1, 0, none⟩)] 83)) from (vnext (vnext l1 l2) l4))
  have HX := Lib.hid (show B3 (((w.alloc (.cells #[.int .u8 0, .int .i64 0, .string ⟨#[]⟩] 25)).alloc (.cells #[.int .i64 0] 2)).alloc (.cells #[.pointer (some ⟨w.heap.size + 1, 0, none⟩)] 83)) w.heap.size 0 0 ⟨#[]⟩ from ((B3.start w 0 0 ⟨#[]⟩).later l2).later l4)
  have f1 : (((w.alloc (.cells #[.int .u8 0, .int .i64 0, .string ⟨#[]⟩] 25)).alloc (.cells #[.int .i64 0] 2)).alloc (.cells #[.pointer (some ⟨w.heap.size + 1, 0, none⟩)] 83)).heap[w.heap.size + 1]? = some (.cells #[.int .i64 0] 2) := by
    have h : ((w.alloc (.cells #[.int .u8 0, .int .i64 0, .string ⟨#[]⟩] 25)).alloc (.cells #[.int .i64 0] 2)).heap[w.heap.size + 1]? = some (.cells #[.int .i64 0] 2) := by have := World.alloc_heap_new (w.alloc (.cells #[.int .u8 0, .int .i64 0, .string ⟨#[]⟩] 25)) (.cells #[.int .i64 0] 2); rwa [World.size_alloc] at this
    exact (l4.block _ (by simp)).trans h
  have HF := Lib.hid (filP_nil (((w.alloc (.cells #[.int .u8 0, .int .i64 0, .string ⟨#[]⟩] 25)).alloc (.cells #[.int .i64 0] 2)).alloc (.cells #[.pointer (some ⟨w.heap.size + 1, 0, none⟩)] 83)) [w.heap.size + 1] (by intro p hp; simp at hp; subst hp; exact f1))
  have HQ : Hid (QP [w.heap.size + 1] (w.heap.size + 1 + 1) (((w.alloc (.cells #[.int .u8 0, .int .i64 0, .string ⟨#[]⟩] 25)).alloc (.cells #[.int .i64 0] 2)).alloc (.cells #[.pointer (some ⟨w.heap.size + 1, 0, none⟩)] 83))) := ⟨by simp, fun j hj => by
    obtain rfl : j = 0 := by have : j < 1 := hj; omega
    have : (((w.alloc (.cells #[.int .u8 0, .int .i64 0, .string ⟨#[]⟩] 25)).alloc (.cells #[.int .i64 0] 2)).alloc (.cells #[.pointer (some ⟨w.heap.size + 1, 0, none⟩)] 83)).cell? ⟨((w.alloc (.cells #[.int .u8 0, .int .i64 0, .string ⟨#[]⟩] 25)).alloc (.cells #[.int .i64 0] 2)).heap.size, 0, none⟩ = some (.pointer (some ⟨w.heap.size + 1, 0, none⟩)) := (World.cell?_alloc_at _ _ _ 0 rfl).trans rfl
    rwa [World.size_alloc, World.size_alloc] at this⟩
  have hnl := hL.1
  have HFL := Lib.hid (fun W hB hQ hF hP => fill_any w a 1 cap (w.heap.size + 1 + 1) w.heap.size L [w.heap.size + 1] rfl (by simp) (by decide) hL hv hT (by intro p hp; simp at hp; omega) W hB hQ (by intro p hp; simp at hp; omega) hF hP)
  have HNM := Lib.hid (fun M h => nm_one (L := L) (M := M) hnl hv h)
  have HR : Hid (∀ k, fnumV k L = match nmR L [] with | .inr x => x | .inl M => if M.length = 1 then oneV k (M.getD 0 0) else twoV k (M.getD 0 0) (M.getD 1 0)) := fun k => rfl
  generalize nmR L [] = R at *
  clear hL hv hT hnl l1 l2 l4 f1
  go_enter Tryz.func33, Tryz.ntmps33
  go_wp2_with fail
  generalize ((w.alloc (.cells #[.int .u8 0, .int .i64 0, .string ⟨#[]⟩] 25)).alloc (.cells #[.int .i64 0] 2)).alloc (.cells #[.pointer (some ⟨w.heap.size + 1, 0, none⟩)] 83) = wa at *
  refine (HFL.out wa HB.out HQ.out HF.out HX.out).mono ?_
  rintro e w1 ⟨hR, hB1, hP1, _⟩
  replace HB := Lib.hid hB1
  replace HX := Lib.hid hP1
  clear hB1 hP1 HFL HF HQ
  unfold FlP at hR
  cases R with
  | inr x =>
    obtain ⟨xk, xn, xs⟩ := x
    dsimp only at hR
    subst hR
    have HE : Hid (fnumV 4 L = (xk, xn, xs)) := HR.out 4
    have HY := Lib.hid (B3.start w1 xk xn xs)
    have l4 := valloc w1 (.cells #[.int .u8 (xk : Int), .int .i64 xn, .string xs] 25)
    replace HX := Lib.hid (HX.out.later l4)
    replace HB := Lib.hid (vnext HB.out l4)
    clear l4
    go_upto_region 3 with fail
    generalize w1.alloc (.cells #[.int .u8 (xk : Int), .int .i64 xn, .string xs] 25) = w4 at *
    obtain ⟨y0, y1, y2, _, _, _⟩ := HY.out.cells
    have hyl := HY.out.lt
    have hB : Below w4.heap.size w4 w4 := Below.refl _ _
    have hX : B3 w4 w.heap.size 0 0 ⟨#[]⟩ := HX.out.later hB
    have HBW := Lib.hid (vnext HB.out hB)
    obtain ⟨x0, x1, x2, z0, z1, z2⟩ := hX.cells
    have hXl := hX.lt
    obtain ⟨hq, hg⟩ := b3_set hX xk xn xs
    have hb5 := HBW.out.grown hg HBW.out.size (fun q hq => by injection hq with hq; omega)
    clear hB hg
    go_wp2_with fail
    generalize ((w4.setCell ⟨w.heap.size, 0, none⟩ (.int .u8 (xk : Int))).setCell ⟨w.heap.size, 1, none⟩ (.int .i64 xn)).setCell ⟨w.heap.size, 2, none⟩ (.string xs) = w5 at *
    obtain ⟨y0, y1, y2, _, _, _⟩ := hq.cells
    refine bodyPost_ret (v := .agg #[.int .u8 (xk : Int), .int .i64 xn, .string xs]) (by simp [results, Tryz.results33, go_sem, y0, y1, y2]) rfl ⟨by rw [HE.out]; rfl, hb5⟩
  | inl M =>
    obtain ⟨rfl, hF1⟩ := hR
    obtain ⟨x, rfl, hx1, hx2⟩ := HNM.out M rfl
    have l4 := valloc w1 (.cells #[.int .u8 0, .int .i64 0, .string ⟨#[]⟩] 25)
    have HF := Lib.hid (hF1.later l4)
    replace HX := Lib.hid (HX.out.later l4)
    replace HB := Lib.hid (vnext HB.out l4)
    have HE : Hid (fnumV 4 L = oneV 4 x) := HR.out 4
    clear l4 hF1 HNM HR
    go_upto_region 3 with fail
    generalize w1.alloc (.cells #[.int .u8 0, .int .i64 0, .string ⟨#[]⟩] 25) = wa at *
    obtain ⟨i1, i2, _⟩ := HF.out.at_ (j := 0) (by simp)
    have i3 : wa.cell? ⟨w.heap.size + 1, 0, none⟩ = some (.int .i64 x) := i2
    have i4 : w.heap.size + 1 < wa.heap.size := i1
    clear i1 i2
    clear HF
    have HN : Hid (oneV 4 x = mkV (truncZ x)) := rfl
    go_wp2_with fail
    refine (trunc_any x ⟨by omega, hx2⟩ _).mono ?_
    rintro e w9 ⟨rfl, rfl⟩
    go_wp2_with fail
    have HV := Lib.hid (fun W => make_any (truncZ x) W)
    have HV : Hid (∀ W, Calls Tryz.prog 74 #[.int .i64 (truncZ x)] W fun e w' => e = .returned (vOf (mkV (truncZ x))) ∧ Below W.heap.size W w') := HV
    generalize hvv : mkV (truncZ x) = vv at HV
    have HVV := Lib.hid hvv
    clear hvv
    obtain ⟨vk, vn, vs⟩ := vv
    unfold vOf at HV
    dsimp only at HV
    refine (HV.out _).mono ?_
    rintro e w1 ⟨rfl, hB⟩
    have hX : B3 w1 w.heap.size 0 0 ⟨#[]⟩ := HX.out.later hB
    have HBW := Lib.hid (vnext HB.out hB)
    obtain ⟨x0, x1, x2, z0, z1, z2⟩ := hX.cells
    have hXl := hX.lt
    obtain ⟨hq, hg⟩ := b3_set hX vk vn vs
    have hb5 := HBW.out.grown hg HBW.out.size (fun q hq => by injection hq with hq; omega)
    clear hB hg
    go_wp2_with fail
    generalize ((w1.setCell ⟨w.heap.size, 0, none⟩ (.int .u8 (vk : Int))).setCell ⟨w.heap.size, 1, none⟩ (.int .i64 vn)).setCell ⟨w.heap.size, 2, none⟩ (.string vs) = w5 at *
    obtain ⟨y0, y1, y2, _, _, _⟩ := hq.cells
    refine bodyPost_ret (v := .agg #[.int .u8 (vk : Int), .int .i64 vn, .string vs]) (by simp [results, Tryz.results33, go_sem, y0, y1, y2]) rfl ⟨by rw [HE.out, HN.out, HVV.out]; rfl, hb5⟩
set_option maxRecDepth 100000 in
set_option maxHeartbeats 6400000 in
theorem one_8 (a : Option Addr) (cap : Nat) (L : List V3) (w : World) (hL : IsV w a 1 L) (hv : ∀ v ∈ L, v.2.2.size ≤ 2000 ∧ InI v.2.1) (hT : Tb w) : Calls Tryz.prog 33 #[.int .u8 8, .slice a 1 cap] w fun e w' => e = .returned (vOf (fnumV 8 L)) ∧ Below w.heap.size w w' := by
  have l1 := valloc w (.cells #[.int .u8 0, .int .i64 0, .string ⟨#[]⟩] 25)
  have l2 := valloc (w.alloc (.cells #[.int .u8 0, .int .i64 0, .string ⟨#[]⟩] 25)) (.cells #[.int .i64 0] 2)
  have l4 := valloc ((w.alloc (.cells #[.int .u8 0, .int .i64 0, .string ⟨#[]⟩] 25)).alloc (.cells #[.int .i64 0] 2)) (.cells #[.pointer (some ⟨w.heap.size + 1, 0, none⟩)] 83)
  have HB := Lib.hid (show Below w.heap.size w (((w.alloc (.cells #[.int .u8 0, .int .i64 0, .string ⟨#[]⟩] 25)).alloc (.cells #[.int .i64 0] 2)).alloc (.cells #[.pointer (some ⟨w.heap.size + 1, 0, none⟩)] 83)) from (vnext (vnext l1 l2) l4))
  have HX := Lib.hid (show B3 (((w.alloc (.cells #[.int .u8 0, .int .i64 0, .string ⟨#[]⟩] 25)).alloc (.cells #[.int .i64 0] 2)).alloc (.cells #[.pointer (some ⟨w.heap.size + 1, 0, none⟩)] 83)) w.heap.size 0 0 ⟨#[]⟩ from ((B3.start w 0 0 ⟨#[]⟩).later l2).later l4)
  have f1 : (((w.alloc (.cells #[.int .u8 0, .int .i64 0, .string ⟨#[]⟩] 25)).alloc (.cells #[.int .i64 0] 2)).alloc (.cells #[.pointer (some ⟨w.heap.size + 1, 0, none⟩)] 83)).heap[w.heap.size + 1]? = some (.cells #[.int .i64 0] 2) := by
    have h : ((w.alloc (.cells #[.int .u8 0, .int .i64 0, .string ⟨#[]⟩] 25)).alloc (.cells #[.int .i64 0] 2)).heap[w.heap.size + 1]? = some (.cells #[.int .i64 0] 2) := by have := World.alloc_heap_new (w.alloc (.cells #[.int .u8 0, .int .i64 0, .string ⟨#[]⟩] 25)) (.cells #[.int .i64 0] 2); rwa [World.size_alloc] at this
    exact (l4.block _ (by simp)).trans h
  have HF := Lib.hid (filP_nil (((w.alloc (.cells #[.int .u8 0, .int .i64 0, .string ⟨#[]⟩] 25)).alloc (.cells #[.int .i64 0] 2)).alloc (.cells #[.pointer (some ⟨w.heap.size + 1, 0, none⟩)] 83)) [w.heap.size + 1] (by intro p hp; simp at hp; subst hp; exact f1))
  have HQ : Hid (QP [w.heap.size + 1] (w.heap.size + 1 + 1) (((w.alloc (.cells #[.int .u8 0, .int .i64 0, .string ⟨#[]⟩] 25)).alloc (.cells #[.int .i64 0] 2)).alloc (.cells #[.pointer (some ⟨w.heap.size + 1, 0, none⟩)] 83))) := ⟨by simp, fun j hj => by
    obtain rfl : j = 0 := by have : j < 1 := hj; omega
    have : (((w.alloc (.cells #[.int .u8 0, .int .i64 0, .string ⟨#[]⟩] 25)).alloc (.cells #[.int .i64 0] 2)).alloc (.cells #[.pointer (some ⟨w.heap.size + 1, 0, none⟩)] 83)).cell? ⟨((w.alloc (.cells #[.int .u8 0, .int .i64 0, .string ⟨#[]⟩] 25)).alloc (.cells #[.int .i64 0] 2)).heap.size, 0, none⟩ = some (.pointer (some ⟨w.heap.size + 1, 0, none⟩)) := (World.cell?_alloc_at _ _ _ 0 rfl).trans rfl
    rwa [World.size_alloc, World.size_alloc] at this⟩
  have hnl := hL.1
  have HFL := Lib.hid (fun W hB hQ hF hP => fill_any w a 1 cap (w.heap.size + 1 + 1) w.heap.size L [w.heap.size + 1] rfl (by simp) (by decide) hL hv hT (by intro p hp; simp at hp; omega) W hB hQ (by intro p hp; simp at hp; omega) hF hP)
  have HNM := Lib.hid (fun M h => nm_one (L := L) (M := M) hnl hv h)
  have HR : Hid (∀ k, fnumV k L = match nmR L [] with | .inr x => x | .inl M => if M.length = 1 then oneV k (M.getD 0 0) else twoV k (M.getD 0 0) (M.getD 1 0)) := fun k => rfl
  generalize nmR L [] = R at *
  clear hL hv hT hnl l1 l2 l4 f1
  go_enter Tryz.func33, Tryz.ntmps33
  go_wp2_with fail
  generalize ((w.alloc (.cells #[.int .u8 0, .int .i64 0, .string ⟨#[]⟩] 25)).alloc (.cells #[.int .i64 0] 2)).alloc (.cells #[.pointer (some ⟨w.heap.size + 1, 0, none⟩)] 83) = wa at *
  refine (HFL.out wa HB.out HQ.out HF.out HX.out).mono ?_
  rintro e w1 ⟨hR, hB1, hP1, _⟩
  replace HB := Lib.hid hB1
  replace HX := Lib.hid hP1
  clear hB1 hP1 HFL HF HQ
  unfold FlP at hR
  cases R with
  | inr x =>
    obtain ⟨xk, xn, xs⟩ := x
    dsimp only at hR
    subst hR
    have HE : Hid (fnumV 8 L = (xk, xn, xs)) := HR.out 8
    have HY := Lib.hid (B3.start w1 xk xn xs)
    have l4 := valloc w1 (.cells #[.int .u8 (xk : Int), .int .i64 xn, .string xs] 25)
    replace HX := Lib.hid (HX.out.later l4)
    replace HB := Lib.hid (vnext HB.out l4)
    clear l4
    go_upto_region 3 with fail
    generalize w1.alloc (.cells #[.int .u8 (xk : Int), .int .i64 xn, .string xs] 25) = w4 at *
    obtain ⟨y0, y1, y2, _, _, _⟩ := HY.out.cells
    have hyl := HY.out.lt
    have hB : Below w4.heap.size w4 w4 := Below.refl _ _
    have hX : B3 w4 w.heap.size 0 0 ⟨#[]⟩ := HX.out.later hB
    have HBW := Lib.hid (vnext HB.out hB)
    obtain ⟨x0, x1, x2, z0, z1, z2⟩ := hX.cells
    have hXl := hX.lt
    obtain ⟨hq, hg⟩ := b3_set hX xk xn xs
    have hb5 := HBW.out.grown hg HBW.out.size (fun q hq => by injection hq with hq; omega)
    clear hB hg
    go_wp2_with fail
    generalize ((w4.setCell ⟨w.heap.size, 0, none⟩ (.int .u8 (xk : Int))).setCell ⟨w.heap.size, 1, none⟩ (.int .i64 xn)).setCell ⟨w.heap.size, 2, none⟩ (.string xs) = w5 at *
    obtain ⟨y0, y1, y2, _, _, _⟩ := hq.cells
    refine bodyPost_ret (v := .agg #[.int .u8 (xk : Int), .int .i64 xn, .string xs]) (by simp [results, Tryz.results33, go_sem, y0, y1, y2]) rfl ⟨by rw [HE.out]; rfl, hb5⟩
  | inl M =>
    obtain ⟨rfl, hF1⟩ := hR
    obtain ⟨x, rfl, hx1, hx2⟩ := HNM.out M rfl
    have l4 := valloc w1 (.cells #[.int .u8 0, .int .i64 0, .string ⟨#[]⟩] 25)
    have HF := Lib.hid (hF1.later l4)
    replace HX := Lib.hid (HX.out.later l4)
    replace HB := Lib.hid (vnext HB.out l4)
    have HE : Hid (fnumV 8 L = oneV 8 x) := HR.out 8
    clear l4 hF1 HNM HR
    go_upto_region 3 with fail
    generalize w1.alloc (.cells #[.int .u8 0, .int .i64 0, .string ⟨#[]⟩] 25) = wa at *
    obtain ⟨i1, i2, _⟩ := HF.out.at_ (j := 0) (by simp)
    have i3 : wa.cell? ⟨w.heap.size + 1, 0, none⟩ = some (.int .i64 x) := i2
    have i4 : w.heap.size + 1 < wa.heap.size := i1
    clear i1 i2
    clear HF
    by_cases h0 : x < 0
    · have HN : Hid (oneV 8 x = numR 0 false) := if_pos h0
      go_wp2_with fail
      refine (sqrt_neg x h0 _).mono ?_
      rintro e w9 ⟨rfl, rfl⟩
      go_wp2_with fail
      have HV := Lib.hid (fun W => pnumber_any 0 (by unfold leastI; decide) false W)
      generalize hvv : numR 0 false = vv at HV
      have HVV := Lib.hid hvv
      clear hvv
      obtain ⟨vk, vn, vs⟩ := vv
      unfold vOf at HV
      dsimp only at HV
      refine (HV.out _).mono ?_
      rintro e w1 ⟨rfl, hB⟩
      have hX : B3 w1 w.heap.size 0 0 ⟨#[]⟩ := HX.out.later hB
      have HBW := Lib.hid (vnext HB.out hB)
      obtain ⟨x0, x1, x2, z0, z1, z2⟩ := hX.cells
      have hXl := hX.lt
      obtain ⟨hq, hg⟩ := b3_set hX vk vn vs
      have hb5 := HBW.out.grown hg HBW.out.size (fun q hq => by injection hq with hq; omega)
      clear hB hg
      go_wp2_with fail
      generalize ((w1.setCell ⟨w.heap.size, 0, none⟩ (.int .u8 (vk : Int))).setCell ⟨w.heap.size, 1, none⟩ (.int .i64 vn)).setCell ⟨w.heap.size, 2, none⟩ (.string vs) = w5 at *
      obtain ⟨y0, y1, y2, _, _, _⟩ := hq.cells
      refine bodyPost_ret (v := .agg #[.int .u8 (vk : Int), .int .i64 vn, .string vs]) (by simp [results, Tryz.results33, go_sem, y0, y1, y2]) rfl ⟨by rw [HE.out, HN.out, HVV.out]; rfl, hb5⟩
    · have HN : Hid (oneV 8 x = numR (rootZ x) true) := if_neg h0
      go_wp2_with fail
      refine (sqrt_any x (by omega) hx2 _).mono ?_
      rintro e w9 ⟨r, rfl, hr, rfl⟩
      obtain rfl := rootZ_of hr
      have hr0 := hr.1
      clear hr
      go_wp2_with fail
      have HV := Lib.hid (fun W => pnumber_any (rootZ x) (by unfold leastI; omega) true W)
      generalize hvv : numR (rootZ x) true = vv at HV
      have HVV := Lib.hid hvv
      clear hvv
      obtain ⟨vk, vn, vs⟩ := vv
      unfold vOf at HV
      dsimp only at HV
      refine (HV.out _).mono ?_
      rintro e w1 ⟨rfl, hB⟩
      have hX : B3 w1 w.heap.size 0 0 ⟨#[]⟩ := HX.out.later hB
      have HBW := Lib.hid (vnext HB.out hB)
      obtain ⟨x0, x1, x2, z0, z1, z2⟩ := hX.cells
      have hXl := hX.lt
      obtain ⟨hq, hg⟩ := b3_set hX vk vn vs
      have hb5 := HBW.out.grown hg HBW.out.size (fun q hq => by injection hq with hq; omega)
      clear hB hg
      go_wp2_with fail
      generalize ((w1.setCell ⟨w.heap.size, 0, none⟩ (.int .u8 (vk : Int))).setCell ⟨w.heap.size, 1, none⟩ (.int .i64 vn)).setCell ⟨w.heap.size, 2, none⟩ (.string vs) = w5 at *
      obtain ⟨y0, y1, y2, _, _, _⟩ := hq.cells
      refine bodyPost_ret (v := .agg #[.int .u8 (vk : Int), .int .i64 vn, .string vs]) (by simp [results, Tryz.results33, go_sem, y0, y1, y2]) rfl ⟨by rw [HE.out, HN.out, HVV.out]; rfl, hb5⟩
set_option maxRecDepth 100000 in
set_option maxHeartbeats 6400000 in
theorem two_5 (a : Option Addr) (cap : Nat) (L : List V3) (w : World) (hL : IsV w a 2 L) (hv : ∀ v ∈ L, v.2.2.size ≤ 2000 ∧ InI v.2.1) (hT : Tb w) : Calls Tryz.prog 34 #[.int .u8 5, .slice a 2 cap] w fun e w' => e = .returned (vOf (fnumV 5 L)) ∧ Below w.heap.size w w' := by
  have l1 := valloc w (.cells #[.int .u8 0, .int .i64 0, .string ⟨#[]⟩] 25)
  have l2 := valloc (w.alloc (.cells #[.int .u8 0, .int .i64 0, .string ⟨#[]⟩] 25)) (.cells #[.int .i64 0] 2)
  have l3 := valloc ((w.alloc (.cells #[.int .u8 0, .int .i64 0, .string ⟨#[]⟩] 25)).alloc (.cells #[.int .i64 0] 2)) (.cells #[.int .i64 0] 2)
  have l4 := valloc (((w.alloc (.cells #[.int .u8 0, .int .i64 0, .string ⟨#[]⟩] 25)).alloc (.cells #[.int .i64 0] 2)).alloc (.cells #[.int .i64 0] 2)) (.cells #[.pointer (some ⟨w.heap.size + 1, 0, none⟩), .pointer (some ⟨w.heap.size + 1 + 1, 0, none⟩)] 83)
  have HB := Lib.hid (show Below w.heap.size w ((((w.alloc (.cells #[.int .u8 0, .int .i64 0, .string ⟨#[]⟩] 25)).alloc (.cells #[.int .i64 0] 2)).alloc (.cells #[.int .i64 0] 2)).alloc (.cells #[.pointer (some ⟨w.heap.size + 1, 0, none⟩), .pointer (some ⟨w.heap.size + 1 + 1, 0, none⟩)] 83)) from (vnext (vnext (vnext l1 l2) l3) l4))
  have HX := Lib.hid (show B3 ((((w.alloc (.cells #[.int .u8 0, .int .i64 0, .string ⟨#[]⟩] 25)).alloc (.cells #[.int .i64 0] 2)).alloc (.cells #[.int .i64 0] 2)).alloc (.cells #[.pointer (some ⟨w.heap.size + 1, 0, none⟩), .pointer (some ⟨w.heap.size + 1 + 1, 0, none⟩)] 83)) w.heap.size 0 0 ⟨#[]⟩ from (((B3.start w 0 0 ⟨#[]⟩).later l2).later l3).later l4)
  have f1 : ((((w.alloc (.cells #[.int .u8 0, .int .i64 0, .string ⟨#[]⟩] 25)).alloc (.cells #[.int .i64 0] 2)).alloc (.cells #[.int .i64 0] 2)).alloc (.cells #[.pointer (some ⟨w.heap.size + 1, 0, none⟩), .pointer (some ⟨w.heap.size + 1 + 1, 0, none⟩)] 83)).heap[w.heap.size + 1]? = some (.cells #[.int .i64 0] 2) := by
    have h : ((w.alloc (.cells #[.int .u8 0, .int .i64 0, .string ⟨#[]⟩] 25)).alloc (.cells #[.int .i64 0] 2)).heap[w.heap.size + 1]? = some (.cells #[.int .i64 0] 2) := by have := World.alloc_heap_new (w.alloc (.cells #[.int .u8 0, .int .i64 0, .string ⟨#[]⟩] 25)) (.cells #[.int .i64 0] 2); rwa [World.size_alloc] at this
    exact (l4.block _ (by simp)).trans ((l3.block _ (by simp)).trans h)
  have f2 : ((((w.alloc (.cells #[.int .u8 0, .int .i64 0, .string ⟨#[]⟩] 25)).alloc (.cells #[.int .i64 0] 2)).alloc (.cells #[.int .i64 0] 2)).alloc (.cells #[.pointer (some ⟨w.heap.size + 1, 0, none⟩), .pointer (some ⟨w.heap.size + 1 + 1, 0, none⟩)] 83)).heap[w.heap.size + 1 + 1]? = some (.cells #[.int .i64 0] 2) := by
    have h : (((w.alloc (.cells #[.int .u8 0, .int .i64 0, .string ⟨#[]⟩] 25)).alloc (.cells #[.int .i64 0] 2)).alloc (.cells #[.int .i64 0] 2)).heap[w.heap.size + 1 + 1]? = some (.cells #[.int .i64 0] 2) := by have := World.alloc_heap_new ((w.alloc (.cells #[.int .u8 0, .int .i64 0, .string ⟨#[]⟩] 25)).alloc (.cells #[.int .i64 0] 2)) (.cells #[.int .i64 0] 2); rwa [World.size_alloc, World.size_alloc] at this
    exact (l4.block _ (by simp)).trans h
  have HF := Lib.hid (filP_nil ((((w.alloc (.cells #[.int .u8 0, .int .i64 0, .string ⟨#[]⟩] 25)).alloc (.cells #[.int .i64 0] 2)).alloc (.cells #[.int .i64 0] 2)).alloc (.cells #[.pointer (some ⟨w.heap.size + 1, 0, none⟩), .pointer (some ⟨w.heap.size + 1 + 1, 0, none⟩)] 83)) [w.heap.size + 1, w.heap.size + 1 + 1] (fun p hp => by
    simp at hp
    rcases hp with rfl | rfl
    · exact f1
    · exact f2))
  have HQ : Hid (QP [w.heap.size + 1, w.heap.size + 1 + 1] (w.heap.size + 1 + 1 + 1) ((((w.alloc (.cells #[.int .u8 0, .int .i64 0, .string ⟨#[]⟩] 25)).alloc (.cells #[.int .i64 0] 2)).alloc (.cells #[.int .i64 0] 2)).alloc (.cells #[.pointer (some ⟨w.heap.size + 1, 0, none⟩), .pointer (some ⟨w.heap.size + 1 + 1, 0, none⟩)] 83))) := ⟨by simp, fun j hj => by
    have hj2 : j < 2 := hj
    obtain rfl | rfl := (by omega : j = 0 ∨ j = 1)
    · have : ((((w.alloc (.cells #[.int .u8 0, .int .i64 0, .string ⟨#[]⟩] 25)).alloc (.cells #[.int .i64 0] 2)).alloc (.cells #[.int .i64 0] 2)).alloc (.cells #[.pointer (some ⟨w.heap.size + 1, 0, none⟩), .pointer (some ⟨w.heap.size + 1 + 1, 0, none⟩)] 83)).cell? ⟨(((w.alloc (.cells #[.int .u8 0, .int .i64 0, .string ⟨#[]⟩] 25)).alloc (.cells #[.int .i64 0] 2)).alloc (.cells #[.int .i64 0] 2)).heap.size, 0, none⟩ = some (.pointer (some ⟨w.heap.size + 1, 0, none⟩)) := (World.cell?_alloc_at _ _ _ 0 rfl).trans rfl
      rwa [World.size_alloc, World.size_alloc, World.size_alloc] at this
    · have : ((((w.alloc (.cells #[.int .u8 0, .int .i64 0, .string ⟨#[]⟩] 25)).alloc (.cells #[.int .i64 0] 2)).alloc (.cells #[.int .i64 0] 2)).alloc (.cells #[.pointer (some ⟨w.heap.size + 1, 0, none⟩), .pointer (some ⟨w.heap.size + 1 + 1, 0, none⟩)] 83)).cell? ⟨(((w.alloc (.cells #[.int .u8 0, .int .i64 0, .string ⟨#[]⟩] 25)).alloc (.cells #[.int .i64 0] 2)).alloc (.cells #[.int .i64 0] 2)).heap.size, 1, none⟩ = some (.pointer (some ⟨w.heap.size + 1 + 1, 0, none⟩)) := (World.cell?_alloc_at _ _ _ 1 rfl).trans rfl
      rwa [World.size_alloc, World.size_alloc, World.size_alloc] at this⟩
  have hnl := hL.1
  have HFL := Lib.hid (fun W hB hQ hF hP => fill_any w a 2 cap (w.heap.size + 1 + 1 + 1) w.heap.size L [w.heap.size + 1, w.heap.size + 1 + 1] rfl (by simp) (by decide) hL hv hT (by intro p hp; simp at hp; omega) W hB hQ (by intro p hp; simp at hp; omega) hF hP)
  have HNM := Lib.hid (fun M h => nm_two (L := L) (M := M) hnl hv h)
  have HR : Hid (∀ k, fnumV k L = match nmR L [] with | .inr x => x | .inl M => if M.length = 1 then oneV k (M.getD 0 0) else twoV k (M.getD 0 0) (M.getD 1 0)) := fun k => rfl
  generalize nmR L [] = R at *
  clear hL hv hT hnl l1 l2 l3 l4 f1 f2
  go_enter Tryz.func34, Tryz.ntmps34
  go_wp2_with fail
  generalize (((w.alloc (.cells #[.int .u8 0, .int .i64 0, .string ⟨#[]⟩] 25)).alloc (.cells #[.int .i64 0] 2)).alloc (.cells #[.int .i64 0] 2)).alloc (.cells #[.pointer (some ⟨w.heap.size + 1, 0, none⟩), .pointer (some ⟨w.heap.size + 1 + 1, 0, none⟩)] 83) = wa at *
  refine (HFL.out wa HB.out HQ.out HF.out HX.out).mono ?_
  rintro e w1 ⟨hR, hB1, hP1, _⟩
  replace HB := Lib.hid hB1
  replace HX := Lib.hid hP1
  clear hB1 hP1 HFL HF HQ
  unfold FlP at hR
  cases R with
  | inr x =>
    obtain ⟨xk, xn, xs⟩ := x
    dsimp only at hR
    subst hR
    have HE : Hid (fnumV 5 L = (xk, xn, xs)) := HR.out 5
    have HY := Lib.hid (B3.start w1 xk xn xs)
    have l4 := valloc w1 (.cells #[.int .u8 (xk : Int), .int .i64 xn, .string xs] 25)
    replace HX := Lib.hid (HX.out.later l4)
    replace HB := Lib.hid (vnext HB.out l4)
    clear l4
    go_upto_region 3 with fail
    generalize w1.alloc (.cells #[.int .u8 (xk : Int), .int .i64 xn, .string xs] 25) = w4 at *
    obtain ⟨y0, y1, y2, _, _, _⟩ := HY.out.cells
    have hyl := HY.out.lt
    have hB : Below w4.heap.size w4 w4 := Below.refl _ _
    have hX : B3 w4 w.heap.size 0 0 ⟨#[]⟩ := HX.out.later hB
    have HBW := Lib.hid (vnext HB.out hB)
    obtain ⟨x0, x1, x2, z0, z1, z2⟩ := hX.cells
    have hXl := hX.lt
    obtain ⟨hq, hg⟩ := b3_set hX xk xn xs
    have hb5 := HBW.out.grown hg HBW.out.size (fun q hq => by injection hq with hq; omega)
    clear hB hg
    go_wp2_with fail
    generalize ((w4.setCell ⟨w.heap.size, 0, none⟩ (.int .u8 (xk : Int))).setCell ⟨w.heap.size, 1, none⟩ (.int .i64 xn)).setCell ⟨w.heap.size, 2, none⟩ (.string xs) = w5 at *
    obtain ⟨y0, y1, y2, _, _, _⟩ := hq.cells
    refine bodyPost_ret (v := .agg #[.int .u8 (xk : Int), .int .i64 xn, .string xs]) (by simp [results, Tryz.results34, go_sem, y0, y1, y2]) rfl ⟨by rw [HE.out]; rfl, hb5⟩
  | inl M =>
    obtain ⟨rfl, hF1⟩ := hR
    obtain ⟨x, y, rfl, ⟨hx1, hx2⟩, hy1, hy2⟩ := HNM.out M rfl
    have l4 := valloc w1 (.cells #[.int .u8 0, .int .i64 0, .string ⟨#[]⟩] 25)
    have HF := Lib.hid (hF1.later l4)
    replace HX := Lib.hid (HX.out.later l4)
    replace HB := Lib.hid (vnext HB.out l4)
    have HE : Hid (fnumV 5 L = twoV 5 x y) := HR.out 5
    clear l4 hF1 HNM HR
    go_upto_region 3 with fail
    generalize w1.alloc (.cells #[.int .u8 0, .int .i64 0, .string ⟨#[]⟩] 25) = wa at *
    obtain ⟨i1, i2, _⟩ := HF.out.at_ (j := 0) (by simp)
    have i3 : wa.cell? ⟨w.heap.size + 1, 0, none⟩ = some (.int .i64 x) := i2
    have i4 : w.heap.size + 1 < wa.heap.size := i1
    clear i1 i2
    obtain ⟨j1, j2, _⟩ := HF.out.at_ (j := 1) (by simp)
    have j3 : wa.cell? ⟨w.heap.size + 1 + 1, 0, none⟩ = some (.int .i64 y) := j2
    have j4 : w.heap.size + 1 + 1 < wa.heap.size := j1
    clear j1 j2
    clear HF
    have hqi := tq_bd (a := y) ⟨by omega, hy2⟩
    have hqw : IntKind.i64.wrap (y.tdiv 10000) = y.tdiv 10000 := IntWalk.i64_in _ (by unfold InI at hqi; omega)
    have HN : Hid (twoV 5 x y = numR (rndV x (min (max (y.tdiv 10000) (-20)) 4)) (rndB x (min (max (y.tdiv 10000) (-20)) 4))) := rfl
    obtain ⟨pl, hpl⟩ : ∃ p, min (max (y.tdiv 10000) (-20)) 4 = p := ⟨_, rfl⟩
    have hpb : -20 ≤ pl ∧ pl ≤ 4 := by omega
    rw [hpl] at HN
    go_wp2_with fail
    refine (round_any x pl ⟨by omega, hx2⟩ (by omega) _).mono ?_
    rintro e w9 ⟨rfl, rfl⟩
    go_wp2_with fail
    have HV := Lib.hid (fun W => pnumber_any (rndV x pl) (rndV_ge x pl) (rndB x pl) W)
    generalize hvv : numR (rndV x pl) (rndB x pl) = vv at HV
    have HVV := Lib.hid hvv
    clear hvv
    obtain ⟨vk, vn, vs⟩ := vv
    unfold vOf at HV
    dsimp only at HV
    refine (HV.out _).mono ?_
    rintro e w1 ⟨rfl, hB⟩
    have hX : B3 w1 w.heap.size 0 0 ⟨#[]⟩ := HX.out.later hB
    have HBW := Lib.hid (vnext HB.out hB)
    obtain ⟨x0, x1, x2, z0, z1, z2⟩ := hX.cells
    have hXl := hX.lt
    obtain ⟨hq, hg⟩ := b3_set hX vk vn vs
    have hb5 := HBW.out.grown hg HBW.out.size (fun q hq => by injection hq with hq; omega)
    clear hB hg
    go_wp2_with fail
    generalize ((w1.setCell ⟨w.heap.size, 0, none⟩ (.int .u8 (vk : Int))).setCell ⟨w.heap.size, 1, none⟩ (.int .i64 vn)).setCell ⟨w.heap.size, 2, none⟩ (.string vs) = w5 at *
    obtain ⟨y0, y1, y2, _, _, _⟩ := hq.cells
    refine bodyPost_ret (v := .agg #[.int .u8 (vk : Int), .int .i64 vn, .string vs]) (by simp [results, Tryz.results34, go_sem, y0, y1, y2]) rfl ⟨by rw [HE.out, HN.out, HVV.out]; rfl, hb5⟩
set_option maxRecDepth 100000 in
set_option maxHeartbeats 6400000 in
theorem two_6 (a : Option Addr) (cap : Nat) (L : List V3) (w : World) (hL : IsV w a 2 L) (hv : ∀ v ∈ L, v.2.2.size ≤ 2000 ∧ InI v.2.1) (hT : Tb w) : Calls Tryz.prog 34 #[.int .u8 6, .slice a 2 cap] w fun e w' => e = .returned (vOf (fnumV 6 L)) ∧ Below w.heap.size w w' := by
  have l1 := valloc w (.cells #[.int .u8 0, .int .i64 0, .string ⟨#[]⟩] 25)
  have l2 := valloc (w.alloc (.cells #[.int .u8 0, .int .i64 0, .string ⟨#[]⟩] 25)) (.cells #[.int .i64 0] 2)
  have l3 := valloc ((w.alloc (.cells #[.int .u8 0, .int .i64 0, .string ⟨#[]⟩] 25)).alloc (.cells #[.int .i64 0] 2)) (.cells #[.int .i64 0] 2)
  have l4 := valloc (((w.alloc (.cells #[.int .u8 0, .int .i64 0, .string ⟨#[]⟩] 25)).alloc (.cells #[.int .i64 0] 2)).alloc (.cells #[.int .i64 0] 2)) (.cells #[.pointer (some ⟨w.heap.size + 1, 0, none⟩), .pointer (some ⟨w.heap.size + 1 + 1, 0, none⟩)] 83)
  have HB := Lib.hid (show Below w.heap.size w ((((w.alloc (.cells #[.int .u8 0, .int .i64 0, .string ⟨#[]⟩] 25)).alloc (.cells #[.int .i64 0] 2)).alloc (.cells #[.int .i64 0] 2)).alloc (.cells #[.pointer (some ⟨w.heap.size + 1, 0, none⟩), .pointer (some ⟨w.heap.size + 1 + 1, 0, none⟩)] 83)) from (vnext (vnext (vnext l1 l2) l3) l4))
  have HX := Lib.hid (show B3 ((((w.alloc (.cells #[.int .u8 0, .int .i64 0, .string ⟨#[]⟩] 25)).alloc (.cells #[.int .i64 0] 2)).alloc (.cells #[.int .i64 0] 2)).alloc (.cells #[.pointer (some ⟨w.heap.size + 1, 0, none⟩), .pointer (some ⟨w.heap.size + 1 + 1, 0, none⟩)] 83)) w.heap.size 0 0 ⟨#[]⟩ from (((B3.start w 0 0 ⟨#[]⟩).later l2).later l3).later l4)
  have f1 : ((((w.alloc (.cells #[.int .u8 0, .int .i64 0, .string ⟨#[]⟩] 25)).alloc (.cells #[.int .i64 0] 2)).alloc (.cells #[.int .i64 0] 2)).alloc (.cells #[.pointer (some ⟨w.heap.size + 1, 0, none⟩), .pointer (some ⟨w.heap.size + 1 + 1, 0, none⟩)] 83)).heap[w.heap.size + 1]? = some (.cells #[.int .i64 0] 2) := by
    have h : ((w.alloc (.cells #[.int .u8 0, .int .i64 0, .string ⟨#[]⟩] 25)).alloc (.cells #[.int .i64 0] 2)).heap[w.heap.size + 1]? = some (.cells #[.int .i64 0] 2) := by have := World.alloc_heap_new (w.alloc (.cells #[.int .u8 0, .int .i64 0, .string ⟨#[]⟩] 25)) (.cells #[.int .i64 0] 2); rwa [World.size_alloc] at this
    exact (l4.block _ (by simp)).trans ((l3.block _ (by simp)).trans h)
  have f2 : ((((w.alloc (.cells #[.int .u8 0, .int .i64 0, .string ⟨#[]⟩] 25)).alloc (.cells #[.int .i64 0] 2)).alloc (.cells #[.int .i64 0] 2)).alloc (.cells #[.pointer (some ⟨w.heap.size + 1, 0, none⟩), .pointer (some ⟨w.heap.size + 1 + 1, 0, none⟩)] 83)).heap[w.heap.size + 1 + 1]? = some (.cells #[.int .i64 0] 2) := by
    have h : (((w.alloc (.cells #[.int .u8 0, .int .i64 0, .string ⟨#[]⟩] 25)).alloc (.cells #[.int .i64 0] 2)).alloc (.cells #[.int .i64 0] 2)).heap[w.heap.size + 1 + 1]? = some (.cells #[.int .i64 0] 2) := by have := World.alloc_heap_new ((w.alloc (.cells #[.int .u8 0, .int .i64 0, .string ⟨#[]⟩] 25)).alloc (.cells #[.int .i64 0] 2)) (.cells #[.int .i64 0] 2); rwa [World.size_alloc, World.size_alloc] at this
    exact (l4.block _ (by simp)).trans h
  have HF := Lib.hid (filP_nil ((((w.alloc (.cells #[.int .u8 0, .int .i64 0, .string ⟨#[]⟩] 25)).alloc (.cells #[.int .i64 0] 2)).alloc (.cells #[.int .i64 0] 2)).alloc (.cells #[.pointer (some ⟨w.heap.size + 1, 0, none⟩), .pointer (some ⟨w.heap.size + 1 + 1, 0, none⟩)] 83)) [w.heap.size + 1, w.heap.size + 1 + 1] (fun p hp => by
    simp at hp
    rcases hp with rfl | rfl
    · exact f1
    · exact f2))
  have HQ : Hid (QP [w.heap.size + 1, w.heap.size + 1 + 1] (w.heap.size + 1 + 1 + 1) ((((w.alloc (.cells #[.int .u8 0, .int .i64 0, .string ⟨#[]⟩] 25)).alloc (.cells #[.int .i64 0] 2)).alloc (.cells #[.int .i64 0] 2)).alloc (.cells #[.pointer (some ⟨w.heap.size + 1, 0, none⟩), .pointer (some ⟨w.heap.size + 1 + 1, 0, none⟩)] 83))) := ⟨by simp, fun j hj => by
    have hj2 : j < 2 := hj
    obtain rfl | rfl := (by omega : j = 0 ∨ j = 1)
    · have : ((((w.alloc (.cells #[.int .u8 0, .int .i64 0, .string ⟨#[]⟩] 25)).alloc (.cells #[.int .i64 0] 2)).alloc (.cells #[.int .i64 0] 2)).alloc (.cells #[.pointer (some ⟨w.heap.size + 1, 0, none⟩), .pointer (some ⟨w.heap.size + 1 + 1, 0, none⟩)] 83)).cell? ⟨(((w.alloc (.cells #[.int .u8 0, .int .i64 0, .string ⟨#[]⟩] 25)).alloc (.cells #[.int .i64 0] 2)).alloc (.cells #[.int .i64 0] 2)).heap.size, 0, none⟩ = some (.pointer (some ⟨w.heap.size + 1, 0, none⟩)) := (World.cell?_alloc_at _ _ _ 0 rfl).trans rfl
      rwa [World.size_alloc, World.size_alloc, World.size_alloc] at this
    · have : ((((w.alloc (.cells #[.int .u8 0, .int .i64 0, .string ⟨#[]⟩] 25)).alloc (.cells #[.int .i64 0] 2)).alloc (.cells #[.int .i64 0] 2)).alloc (.cells #[.pointer (some ⟨w.heap.size + 1, 0, none⟩), .pointer (some ⟨w.heap.size + 1 + 1, 0, none⟩)] 83)).cell? ⟨(((w.alloc (.cells #[.int .u8 0, .int .i64 0, .string ⟨#[]⟩] 25)).alloc (.cells #[.int .i64 0] 2)).alloc (.cells #[.int .i64 0] 2)).heap.size, 1, none⟩ = some (.pointer (some ⟨w.heap.size + 1 + 1, 0, none⟩)) := (World.cell?_alloc_at _ _ _ 1 rfl).trans rfl
      rwa [World.size_alloc, World.size_alloc, World.size_alloc] at this⟩
  have hnl := hL.1
  have HFL := Lib.hid (fun W hB hQ hF hP => fill_any w a 2 cap (w.heap.size + 1 + 1 + 1) w.heap.size L [w.heap.size + 1, w.heap.size + 1 + 1] rfl (by simp) (by decide) hL hv hT (by intro p hp; simp at hp; omega) W hB hQ (by intro p hp; simp at hp; omega) hF hP)
  have HNM := Lib.hid (fun M h => nm_two (L := L) (M := M) hnl hv h)
  have HR : Hid (∀ k, fnumV k L = match nmR L [] with | .inr x => x | .inl M => if M.length = 1 then oneV k (M.getD 0 0) else twoV k (M.getD 0 0) (M.getD 1 0)) := fun k => rfl
  generalize nmR L [] = R at *
  clear hL hv hT hnl l1 l2 l3 l4 f1 f2
  go_enter Tryz.func34, Tryz.ntmps34
  go_wp2_with fail
  generalize (((w.alloc (.cells #[.int .u8 0, .int .i64 0, .string ⟨#[]⟩] 25)).alloc (.cells #[.int .i64 0] 2)).alloc (.cells #[.int .i64 0] 2)).alloc (.cells #[.pointer (some ⟨w.heap.size + 1, 0, none⟩), .pointer (some ⟨w.heap.size + 1 + 1, 0, none⟩)] 83) = wa at *
  refine (HFL.out wa HB.out HQ.out HF.out HX.out).mono ?_
  rintro e w1 ⟨hR, hB1, hP1, _⟩
  replace HB := Lib.hid hB1
  replace HX := Lib.hid hP1
  clear hB1 hP1 HFL HF HQ
  unfold FlP at hR
  cases R with
  | inr x =>
    obtain ⟨xk, xn, xs⟩ := x
    dsimp only at hR
    subst hR
    have HE : Hid (fnumV 6 L = (xk, xn, xs)) := HR.out 6
    have HY := Lib.hid (B3.start w1 xk xn xs)
    have l4 := valloc w1 (.cells #[.int .u8 (xk : Int), .int .i64 xn, .string xs] 25)
    replace HX := Lib.hid (HX.out.later l4)
    replace HB := Lib.hid (vnext HB.out l4)
    clear l4
    go_upto_region 3 with fail
    generalize w1.alloc (.cells #[.int .u8 (xk : Int), .int .i64 xn, .string xs] 25) = w4 at *
    obtain ⟨y0, y1, y2, _, _, _⟩ := HY.out.cells
    have hyl := HY.out.lt
    have hB : Below w4.heap.size w4 w4 := Below.refl _ _
    have hX : B3 w4 w.heap.size 0 0 ⟨#[]⟩ := HX.out.later hB
    have HBW := Lib.hid (vnext HB.out hB)
    obtain ⟨x0, x1, x2, z0, z1, z2⟩ := hX.cells
    have hXl := hX.lt
    obtain ⟨hq, hg⟩ := b3_set hX xk xn xs
    have hb5 := HBW.out.grown hg HBW.out.size (fun q hq => by injection hq with hq; omega)
    clear hB hg
    go_wp2_with fail
    generalize ((w4.setCell ⟨w.heap.size, 0, none⟩ (.int .u8 (xk : Int))).setCell ⟨w.heap.size, 1, none⟩ (.int .i64 xn)).setCell ⟨w.heap.size, 2, none⟩ (.string xs) = w5 at *
    obtain ⟨y0, y1, y2, _, _, _⟩ := hq.cells
    refine bodyPost_ret (v := .agg #[.int .u8 (xk : Int), .int .i64 xn, .string xs]) (by simp [results, Tryz.results34, go_sem, y0, y1, y2]) rfl ⟨by rw [HE.out]; rfl, hb5⟩
  | inl M =>
    obtain ⟨rfl, hF1⟩ := hR
    obtain ⟨x, y, rfl, ⟨hx1, hx2⟩, hy1, hy2⟩ := HNM.out M rfl
    have l4 := valloc w1 (.cells #[.int .u8 0, .int .i64 0, .string ⟨#[]⟩] 25)
    have HF := Lib.hid (hF1.later l4)
    replace HX := Lib.hid (HX.out.later l4)
    replace HB := Lib.hid (vnext HB.out l4)
    have HE : Hid (fnumV 6 L = twoV 6 x y) := HR.out 6
    clear l4 hF1 HNM HR
    go_upto_region 3 with fail
    generalize w1.alloc (.cells #[.int .u8 0, .int .i64 0, .string ⟨#[]⟩] 25) = wa at *
    obtain ⟨i1, i2, _⟩ := HF.out.at_ (j := 0) (by simp)
    have i3 : wa.cell? ⟨w.heap.size + 1, 0, none⟩ = some (.int .i64 x) := i2
    have i4 : w.heap.size + 1 < wa.heap.size := i1
    clear i1 i2
    obtain ⟨j1, j2, _⟩ := HF.out.at_ (j := 1) (by simp)
    have j3 : wa.cell? ⟨w.heap.size + 1 + 1, 0, none⟩ = some (.int .i64 y) := j2
    have j4 : w.heap.size + 1 + 1 < wa.heap.size := j1
    clear j1 j2
    clear HF
    have HN : Hid (twoV 6 x y = modR x y) := rfl
    go_wp2_with fail
    have HV := Lib.hid (fun W => modulo_any x y ⟨by omega, hx2⟩ ⟨by omega, hy2⟩ W)
    generalize hvv : modR x y = vv at HV
    have HVV := Lib.hid hvv
    clear hvv
    obtain ⟨vk, vn, vs⟩ := vv
    unfold vOf at HV
    dsimp only at HV
    refine (HV.out _).mono ?_
    rintro e w1 ⟨rfl, hB⟩
    have hX : B3 w1 w.heap.size 0 0 ⟨#[]⟩ := HX.out.later hB
    have HBW := Lib.hid (vnext HB.out hB)
    obtain ⟨x0, x1, x2, z0, z1, z2⟩ := hX.cells
    have hXl := hX.lt
    obtain ⟨hq, hg⟩ := b3_set hX vk vn vs
    have hb5 := HBW.out.grown hg HBW.out.size (fun q hq => by injection hq with hq; omega)
    clear hB hg
    go_wp2_with fail
    generalize ((w1.setCell ⟨w.heap.size, 0, none⟩ (.int .u8 (vk : Int))).setCell ⟨w.heap.size, 1, none⟩ (.int .i64 vn)).setCell ⟨w.heap.size, 2, none⟩ (.string vs) = w5 at *
    obtain ⟨y0, y1, y2, _, _, _⟩ := hq.cells
    refine bodyPost_ret (v := .agg #[.int .u8 (vk : Int), .int .i64 vn, .string vs]) (by simp [results, Tryz.results34, go_sem, y0, y1, y2]) rfl ⟨by rw [HE.out, HN.out, HVV.out]; rfl, hb5⟩
set_option maxRecDepth 100000 in
set_option maxHeartbeats 6400000 in
theorem two_7 (a : Option Addr) (cap : Nat) (L : List V3) (w : World) (hL : IsV w a 2 L) (hv : ∀ v ∈ L, v.2.2.size ≤ 2000 ∧ InI v.2.1) (hT : Tb w) : Calls Tryz.prog 34 #[.int .u8 7, .slice a 2 cap] w fun e w' => e = .returned (vOf (fnumV 7 L)) ∧ Below w.heap.size w w' := by
  have l1 := valloc w (.cells #[.int .u8 0, .int .i64 0, .string ⟨#[]⟩] 25)
  have l2 := valloc (w.alloc (.cells #[.int .u8 0, .int .i64 0, .string ⟨#[]⟩] 25)) (.cells #[.int .i64 0] 2)
  have l3 := valloc ((w.alloc (.cells #[.int .u8 0, .int .i64 0, .string ⟨#[]⟩] 25)).alloc (.cells #[.int .i64 0] 2)) (.cells #[.int .i64 0] 2)
  have l4 := valloc (((w.alloc (.cells #[.int .u8 0, .int .i64 0, .string ⟨#[]⟩] 25)).alloc (.cells #[.int .i64 0] 2)).alloc (.cells #[.int .i64 0] 2)) (.cells #[.pointer (some ⟨w.heap.size + 1, 0, none⟩), .pointer (some ⟨w.heap.size + 1 + 1, 0, none⟩)] 83)
  have HB := Lib.hid (show Below w.heap.size w ((((w.alloc (.cells #[.int .u8 0, .int .i64 0, .string ⟨#[]⟩] 25)).alloc (.cells #[.int .i64 0] 2)).alloc (.cells #[.int .i64 0] 2)).alloc (.cells #[.pointer (some ⟨w.heap.size + 1, 0, none⟩), .pointer (some ⟨w.heap.size + 1 + 1, 0, none⟩)] 83)) from (vnext (vnext (vnext l1 l2) l3) l4))
  have HX := Lib.hid (show B3 ((((w.alloc (.cells #[.int .u8 0, .int .i64 0, .string ⟨#[]⟩] 25)).alloc (.cells #[.int .i64 0] 2)).alloc (.cells #[.int .i64 0] 2)).alloc (.cells #[.pointer (some ⟨w.heap.size + 1, 0, none⟩), .pointer (some ⟨w.heap.size + 1 + 1, 0, none⟩)] 83)) w.heap.size 0 0 ⟨#[]⟩ from (((B3.start w 0 0 ⟨#[]⟩).later l2).later l3).later l4)
  have f1 : ((((w.alloc (.cells #[.int .u8 0, .int .i64 0, .string ⟨#[]⟩] 25)).alloc (.cells #[.int .i64 0] 2)).alloc (.cells #[.int .i64 0] 2)).alloc (.cells #[.pointer (some ⟨w.heap.size + 1, 0, none⟩), .pointer (some ⟨w.heap.size + 1 + 1, 0, none⟩)] 83)).heap[w.heap.size + 1]? = some (.cells #[.int .i64 0] 2) := by
    have h : ((w.alloc (.cells #[.int .u8 0, .int .i64 0, .string ⟨#[]⟩] 25)).alloc (.cells #[.int .i64 0] 2)).heap[w.heap.size + 1]? = some (.cells #[.int .i64 0] 2) := by have := World.alloc_heap_new (w.alloc (.cells #[.int .u8 0, .int .i64 0, .string ⟨#[]⟩] 25)) (.cells #[.int .i64 0] 2); rwa [World.size_alloc] at this
    exact (l4.block _ (by simp)).trans ((l3.block _ (by simp)).trans h)
  have f2 : ((((w.alloc (.cells #[.int .u8 0, .int .i64 0, .string ⟨#[]⟩] 25)).alloc (.cells #[.int .i64 0] 2)).alloc (.cells #[.int .i64 0] 2)).alloc (.cells #[.pointer (some ⟨w.heap.size + 1, 0, none⟩), .pointer (some ⟨w.heap.size + 1 + 1, 0, none⟩)] 83)).heap[w.heap.size + 1 + 1]? = some (.cells #[.int .i64 0] 2) := by
    have h : (((w.alloc (.cells #[.int .u8 0, .int .i64 0, .string ⟨#[]⟩] 25)).alloc (.cells #[.int .i64 0] 2)).alloc (.cells #[.int .i64 0] 2)).heap[w.heap.size + 1 + 1]? = some (.cells #[.int .i64 0] 2) := by have := World.alloc_heap_new ((w.alloc (.cells #[.int .u8 0, .int .i64 0, .string ⟨#[]⟩] 25)).alloc (.cells #[.int .i64 0] 2)) (.cells #[.int .i64 0] 2); rwa [World.size_alloc, World.size_alloc] at this
    exact (l4.block _ (by simp)).trans h
  have HF := Lib.hid (filP_nil ((((w.alloc (.cells #[.int .u8 0, .int .i64 0, .string ⟨#[]⟩] 25)).alloc (.cells #[.int .i64 0] 2)).alloc (.cells #[.int .i64 0] 2)).alloc (.cells #[.pointer (some ⟨w.heap.size + 1, 0, none⟩), .pointer (some ⟨w.heap.size + 1 + 1, 0, none⟩)] 83)) [w.heap.size + 1, w.heap.size + 1 + 1] (fun p hp => by
    simp at hp
    rcases hp with rfl | rfl
    · exact f1
    · exact f2))
  have HQ : Hid (QP [w.heap.size + 1, w.heap.size + 1 + 1] (w.heap.size + 1 + 1 + 1) ((((w.alloc (.cells #[.int .u8 0, .int .i64 0, .string ⟨#[]⟩] 25)).alloc (.cells #[.int .i64 0] 2)).alloc (.cells #[.int .i64 0] 2)).alloc (.cells #[.pointer (some ⟨w.heap.size + 1, 0, none⟩), .pointer (some ⟨w.heap.size + 1 + 1, 0, none⟩)] 83))) := ⟨by simp, fun j hj => by
    have hj2 : j < 2 := hj
    obtain rfl | rfl := (by omega : j = 0 ∨ j = 1)
    · have : ((((w.alloc (.cells #[.int .u8 0, .int .i64 0, .string ⟨#[]⟩] 25)).alloc (.cells #[.int .i64 0] 2)).alloc (.cells #[.int .i64 0] 2)).alloc (.cells #[.pointer (some ⟨w.heap.size + 1, 0, none⟩), .pointer (some ⟨w.heap.size + 1 + 1, 0, none⟩)] 83)).cell? ⟨(((w.alloc (.cells #[.int .u8 0, .int .i64 0, .string ⟨#[]⟩] 25)).alloc (.cells #[.int .i64 0] 2)).alloc (.cells #[.int .i64 0] 2)).heap.size, 0, none⟩ = some (.pointer (some ⟨w.heap.size + 1, 0, none⟩)) := (World.cell?_alloc_at _ _ _ 0 rfl).trans rfl
      rwa [World.size_alloc, World.size_alloc, World.size_alloc] at this
    · have : ((((w.alloc (.cells #[.int .u8 0, .int .i64 0, .string ⟨#[]⟩] 25)).alloc (.cells #[.int .i64 0] 2)).alloc (.cells #[.int .i64 0] 2)).alloc (.cells #[.pointer (some ⟨w.heap.size + 1, 0, none⟩), .pointer (some ⟨w.heap.size + 1 + 1, 0, none⟩)] 83)).cell? ⟨(((w.alloc (.cells #[.int .u8 0, .int .i64 0, .string ⟨#[]⟩] 25)).alloc (.cells #[.int .i64 0] 2)).alloc (.cells #[.int .i64 0] 2)).heap.size, 1, none⟩ = some (.pointer (some ⟨w.heap.size + 1 + 1, 0, none⟩)) := (World.cell?_alloc_at _ _ _ 1 rfl).trans rfl
      rwa [World.size_alloc, World.size_alloc, World.size_alloc] at this⟩
  have hnl := hL.1
  have HFL := Lib.hid (fun W hB hQ hF hP => fill_any w a 2 cap (w.heap.size + 1 + 1 + 1) w.heap.size L [w.heap.size + 1, w.heap.size + 1 + 1] rfl (by simp) (by decide) hL hv hT (by intro p hp; simp at hp; omega) W hB hQ (by intro p hp; simp at hp; omega) hF hP)
  have HNM := Lib.hid (fun M h => nm_two (L := L) (M := M) hnl hv h)
  have HR : Hid (∀ k, fnumV k L = match nmR L [] with | .inr x => x | .inl M => if M.length = 1 then oneV k (M.getD 0 0) else twoV k (M.getD 0 0) (M.getD 1 0)) := fun k => rfl
  generalize nmR L [] = R at *
  clear hL hv hT hnl l1 l2 l3 l4 f1 f2
  go_enter Tryz.func34, Tryz.ntmps34
  go_wp2_with fail
  generalize (((w.alloc (.cells #[.int .u8 0, .int .i64 0, .string ⟨#[]⟩] 25)).alloc (.cells #[.int .i64 0] 2)).alloc (.cells #[.int .i64 0] 2)).alloc (.cells #[.pointer (some ⟨w.heap.size + 1, 0, none⟩), .pointer (some ⟨w.heap.size + 1 + 1, 0, none⟩)] 83) = wa at *
  refine (HFL.out wa HB.out HQ.out HF.out HX.out).mono ?_
  rintro e w1 ⟨hR, hB1, hP1, _⟩
  replace HB := Lib.hid hB1
  replace HX := Lib.hid hP1
  clear hB1 hP1 HFL HF HQ
  unfold FlP at hR
  cases R with
  | inr x =>
    obtain ⟨xk, xn, xs⟩ := x
    dsimp only at hR
    subst hR
    have HE : Hid (fnumV 7 L = (xk, xn, xs)) := HR.out 7
    have HY := Lib.hid (B3.start w1 xk xn xs)
    have l4 := valloc w1 (.cells #[.int .u8 (xk : Int), .int .i64 xn, .string xs] 25)
    replace HX := Lib.hid (HX.out.later l4)
    replace HB := Lib.hid (vnext HB.out l4)
    clear l4
    go_upto_region 3 with fail
    generalize w1.alloc (.cells #[.int .u8 (xk : Int), .int .i64 xn, .string xs] 25) = w4 at *
    obtain ⟨y0, y1, y2, _, _, _⟩ := HY.out.cells
    have hyl := HY.out.lt
    have hB : Below w4.heap.size w4 w4 := Below.refl _ _
    have hX : B3 w4 w.heap.size 0 0 ⟨#[]⟩ := HX.out.later hB
    have HBW := Lib.hid (vnext HB.out hB)
    obtain ⟨x0, x1, x2, z0, z1, z2⟩ := hX.cells
    have hXl := hX.lt
    obtain ⟨hq, hg⟩ := b3_set hX xk xn xs
    have hb5 := HBW.out.grown hg HBW.out.size (fun q hq => by injection hq with hq; omega)
    clear hB hg
    go_wp2_with fail
    generalize ((w4.setCell ⟨w.heap.size, 0, none⟩ (.int .u8 (xk : Int))).setCell ⟨w.heap.size, 1, none⟩ (.int .i64 xn)).setCell ⟨w.heap.size, 2, none⟩ (.string xs) = w5 at *
    obtain ⟨y0, y1, y2, _, _, _⟩ := hq.cells
    refine bodyPost_ret (v := .agg #[.int .u8 (xk : Int), .int .i64 xn, .string xs]) (by simp [results, Tryz.results34, go_sem, y0, y1, y2]) rfl ⟨by rw [HE.out]; rfl, hb5⟩
  | inl M =>
    obtain ⟨rfl, hF1⟩ := hR
    obtain ⟨x, y, rfl, ⟨hx1, hx2⟩, hy1, hy2⟩ := HNM.out M rfl
    have l4 := valloc w1 (.cells #[.int .u8 0, .int .i64 0, .string ⟨#[]⟩] 25)
    have HF := Lib.hid (hF1.later l4)
    replace HX := Lib.hid (HX.out.later l4)
    replace HB := Lib.hid (vnext HB.out l4)
    have HE : Hid (fnumV 7 L = twoV 7 x y) := HR.out 7
    clear l4 hF1 HNM HR
    go_upto_region 3 with fail
    generalize w1.alloc (.cells #[.int .u8 0, .int .i64 0, .string ⟨#[]⟩] 25) = wa at *
    obtain ⟨i1, i2, _⟩ := HF.out.at_ (j := 0) (by simp)
    have i3 : wa.cell? ⟨w.heap.size + 1, 0, none⟩ = some (.int .i64 x) := i2
    have i4 : w.heap.size + 1 < wa.heap.size := i1
    clear i1 i2
    obtain ⟨j1, j2, _⟩ := HF.out.at_ (j := 1) (by simp)
    have j3 : wa.cell? ⟨w.heap.size + 1 + 1, 0, none⟩ = some (.int .i64 y) := j2
    have j4 : w.heap.size + 1 + 1 < wa.heap.size := j1
    clear j1 j2
    clear HF
    have HN : Hid (twoV 7 x y = powR x y) := rfl
    go_wp2_with fail
    have HV := Lib.hid (fun W => power_v x y ⟨by omega, hx2⟩ ⟨by omega, hy2⟩ W)
    generalize hvv : powR x y = vv at HV
    have HVV := Lib.hid hvv
    clear hvv
    obtain ⟨vk, vn, vs⟩ := vv
    unfold vOf at HV
    dsimp only at HV
    refine (HV.out _).mono ?_
    rintro e w1 ⟨rfl, hB⟩
    have hX : B3 w1 w.heap.size 0 0 ⟨#[]⟩ := HX.out.later hB
    have HBW := Lib.hid (vnext HB.out hB)
    obtain ⟨x0, x1, x2, z0, z1, z2⟩ := hX.cells
    have hXl := hX.lt
    obtain ⟨hq, hg⟩ := b3_set hX vk vn vs
    have hb5 := HBW.out.grown hg HBW.out.size (fun q hq => by injection hq with hq; omega)
    clear hB hg
    go_wp2_with fail
    generalize ((w1.setCell ⟨w.heap.size, 0, none⟩ (.int .u8 (vk : Int))).setCell ⟨w.heap.size, 1, none⟩ (.int .i64 vn)).setCell ⟨w.heap.size, 2, none⟩ (.string vs) = w5 at *
    obtain ⟨y0, y1, y2, _, _, _⟩ := hq.cells
    refine bodyPost_ret (v := .agg #[.int .u8 (vk : Int), .int .i64 vn, .string vs]) (by simp [results, Tryz.results34, go_sem, y0, y1, y2]) rfl ⟨by rw [HE.out, HN.out, HVV.out]; rfl, hb5⟩
end Go.Proofs.YtfjefanhkbcfgaaGreatDoor.Va
/- fnum.Call in full. -/
namespace Go.Proofs.YtfjefanhkbcfgaaGreatDoor.Va
open Go Go.RowKit GM
set_option linter.unusedVariables false
set_option linter.unusedSimpArgs false
theorem par_1 (w : World) : Calls Tryz.prog 31 #[.int .u8 1] w fun e w' => e = .returned (.int .i64 1) ∧ Below w.heap.size w w' := by
  go_enter Tryz.func31, Tryz.ntmps31
  go_wp2_with fail
  go_ret
  exact ⟨rfl, Below.refl _ _⟩
theorem par_2 (w : World) : Calls Tryz.prog 31 #[.int .u8 2] w fun e w' => e = .returned (.int .i64 1) ∧ Below w.heap.size w w' := by
  go_enter Tryz.func31, Tryz.ntmps31
  go_wp2_with fail
  go_ret
  exact ⟨rfl, Below.refl _ _⟩
theorem par_3 (w : World) : Calls Tryz.prog 31 #[.int .u8 3] w fun e w' => e = .returned (.int .i64 1) ∧ Below w.heap.size w w' := by
  go_enter Tryz.func31, Tryz.ntmps31
  go_wp2_with fail
  go_ret
  exact ⟨rfl, Below.refl _ _⟩
theorem par_4 (w : World) : Calls Tryz.prog 31 #[.int .u8 4] w fun e w' => e = .returned (.int .i64 1) ∧ Below w.heap.size w w' := by
  go_enter Tryz.func31, Tryz.ntmps31
  go_wp2_with fail
  go_ret
  exact ⟨rfl, Below.refl _ _⟩
theorem par_5 (w : World) : Calls Tryz.prog 31 #[.int .u8 5] w fun e w' => e = .returned (.int .i64 2) ∧ Below w.heap.size w w' := by
  go_enter Tryz.func31, Tryz.ntmps31
  go_wp2_with fail
  go_ret
  exact ⟨rfl, Below.refl _ _⟩
theorem par_6 (w : World) : Calls Tryz.prog 31 #[.int .u8 6] w fun e w' => e = .returned (.int .i64 2) ∧ Below w.heap.size w w' := by
  go_enter Tryz.func31, Tryz.ntmps31
  go_wp2_with fail
  go_ret
  exact ⟨rfl, Below.refl _ _⟩
theorem par_7 (w : World) : Calls Tryz.prog 31 #[.int .u8 7] w fun e w' => e = .returned (.int .i64 2) ∧ Below w.heap.size w w' := by
  go_enter Tryz.func31, Tryz.ntmps31
  go_wp2_with fail
  go_ret
  exact ⟨rfl, Below.refl _ _⟩
theorem par_8 (w : World) : Calls Tryz.prog 31 #[.int .u8 8] w fun e w' => e = .returned (.int .i64 1) ∧ Below w.heap.size w w' := by
  go_enter Tryz.func31, Tryz.ntmps31
  go_wp2_with fail
  go_ret
  exact ⟨rfl, Below.refl _ _⟩
theorem par_any (fn : Nat) (h1 : 1 ≤ fn) (h2 : fn ≤ 8) (w : World) : Calls Tryz.prog 31 #[.int .u8 (fn : Int)] w fun e w' => e = .returned (.int .i64 ((arV fn).1 : Int)) ∧ Below w.heap.size w w' := by
  obtain rfl | rfl | rfl | rfl | rfl | rfl | rfl | rfl := (by omega : fn = 1 ∨ fn = 2 ∨ fn = 3 ∨ fn = 4 ∨ fn = 5 ∨ fn = 6 ∨ fn = 7 ∨ fn = 8)
  · exact par_1 w
  · exact par_2 w
  · exact par_3 w
  · exact par_4 w
  · exact par_5 w
  · exact par_6 w
  · exact par_7 w
  · exact par_8 w
theorem ar_num (fn : Nat) (h1 : 1 ≤ fn) (h2 : fn ≤ 8) : (arV fn).2 = (arV fn).1 ∧ ((arV fn).1 = 1 ∧ (fn = 1 ∨ fn = 2 ∨ fn = 3 ∨ fn = 4 ∨ fn = 8) ∨ (arV fn).1 = 2 ∧ (fn = 5 ∨ fn = 6 ∨ fn = 7)) := by
  obtain rfl | rfl | rfl | rfl | rfl | rfl | rfl | rfl := (by omega : fn = 1 ∨ fn = 2 ∨ fn = 3 ∨ fn = 4 ∨ fn = 5 ∨ fn = 6 ∨ fn = 7 ∨ fn = 8)
  all_goals decide
/-- fnum.Call's answer: the value, and the number of the error. -/
noncomputable def callN (fn : Nat) (L : List V3) : V3 × Int :=
  if fn < 1 ∨ 8 < fn then ((0, 0, ⟨#[]⟩), 10)
  else if L.length ≠ (arV fn).1 then ((0, 0, ⟨#[]⟩), 11)
  else if okL L = false then ((0, 0, ⟨#[]⟩), 2)
  else (fnumV fn L, 0)
theorem one_any (fn : Nat) (h : fn = 1 ∨ fn = 2 ∨ fn = 3 ∨ fn = 4 ∨ fn = 8) (a : Option Addr) (cap : Nat) (L : List V3) (w : World) (hL : IsV w a 1 L) (hv : ∀ v ∈ L, v.2.2.size ≤ 2000 ∧ InI v.2.1) (hT : Tb w) : Calls Tryz.prog 33 #[.int .u8 (fn : Int), .slice a 1 cap] w fun e w' => e = .returned (vOf (fnumV fn L)) ∧ Below w.heap.size w w' := by
  obtain rfl | rfl | rfl | rfl | rfl := h
  · exact one_1 a cap L w hL hv hT
  · exact one_2 a cap L w hL hv hT
  · exact one_3 a cap L w hL hv hT
  · exact one_4 a cap L w hL hv hT
  · exact one_8 a cap L w hL hv hT
theorem two_any (fn : Nat) (h : fn = 5 ∨ fn = 6 ∨ fn = 7) (a : Option Addr) (cap : Nat) (L : List V3) (w : World) (hL : IsV w a 2 L) (hv : ∀ v ∈ L, v.2.2.size ≤ 2000 ∧ InI v.2.1) (hT : Tb w) : Calls Tryz.prog 34 #[.int .u8 (fn : Int), .slice a 2 cap] w fun e w' => e = .returned (vOf (fnumV fn L)) ∧ Below w.heap.size w w' := by
  obtain rfl | rfl | rfl := h
  · exact two_5 a cap L w hL hv hT
  · exact two_6 a cap L w hL hv hT
  · exact two_7 a cap L w hL hv hT
set_option maxRecDepth 100000 in
set_option maxHeartbeats 6400000 in
theorem pfnum_any (fn : Nat) (a : Option Addr) (n cap : Nat) (L : List V3) (w : World) (hL : IsV w a n L) (hn : n ≤ 1000) (hv : ∀ v ∈ L, v.2.2.size ≤ 2000 ∧ InI v.2.1) (hT : Tb w) :
    Calls Tryz.prog 12 #[.int .u8 (fn : Int), .slice a n cap] w fun e w' => e = .returned (.tuple #[vOf (callN fn L).1, .int .i64 (callN fn L).2]) ∧ Below w.heap.size w w' := by
  have HX : Hid (B3 (w.alloc (.cells #[.int .u8 0, .int .i64 0, .string ⟨#[]⟩] 25)) w.heap.size 0 0 ⟨#[]⟩) := B3.start w 0 0 ⟨#[]⟩
  have HB := Lib.hid (valloc w (.cells #[.int .u8 0, .int .i64 0, .string ⟨#[]⟩] 25))
  have HL := Lib.hid hL
  have HNL := Lib.hid hL.1
  have HT := Lib.hid hT
  have HV := Lib.hid hv
  have HVA := Lib.hid (fun W hW => pvalid_any a n cap L (by omega) W hW (fun v h => ⟨Nat.le_trans (hv v h).1 (by unfold maxLen; decide), by have := (hv v h).2; unfold InI at this; unfold leastI; omega⟩))
  have HDEF : Hid (callN fn L = if fn < 1 ∨ 8 < fn then ((0, 0, ⟨#[]⟩), 10) else if L.length ≠ (arV fn).1 then ((0, 0, ⟨#[]⟩), 11) else if okL L = false then ((0, 0, ⟨#[]⟩), 2) else (fnumV fn L, 0)) := rfl
  generalize callN fn L = C at *
  clear hL hT hv
  by_cases h1 : fn < 1
  · obtain rfl : C = ((0, 0, ⟨#[]⟩), 10) := by rw [HDEF.out, if_pos (.inl h1)]
    have d1 : decide ((fn : Int) < 1) = true := by simp; omega
    go_enter Tryz.func12, Tryz.ntmps12
    go_wp2_with fail
    refine bodyPost_ret (v := .tuple #[.agg #[.int .u8 0, .int .i64 0, .string ⟨#[]⟩], .int .i64 10]) (by simp [results, Tryz.results12, go_sem]) rfl ⟨rfl, HB.out⟩
  have d1 : decide ((fn : Int) < 1) = false := by simp; omega
  by_cases h2 : 8 < fn
  · obtain rfl : C = ((0, 0, ⟨#[]⟩), 10) := by rw [HDEF.out, if_pos (.inr h2)]
    have d2 : decide ((8 : Int) < (fn : Int)) = true := by simp; omega
    go_enter Tryz.func12, Tryz.ntmps12
    go_wp2_with fail
    refine bodyPost_ret (v := .tuple #[.agg #[.int .u8 0, .int .i64 0, .string ⟨#[]⟩], .int .i64 10]) (by simp [results, Tryz.results12, go_sem]) rfl ⟨rfl, HB.out⟩
  have d2 : decide ((8 : Int) < (fn : Int)) = false := by simp; omega
  rw [if_neg (by omega)] at HDEF
  obtain ⟨_, har⟩ := ar_num fn (by omega) (by omega)
  have HAR := Lib.hid (fun W => par_any fn (by omega) (by omega) W)
  have HA2 := Lib.hid har
  obtain ⟨A, hA⟩ : ∃ A, (arV fn).1 = A := ⟨_, rfl⟩
  rw [hA] at HAR HDEF HA2
  clear har hA
  by_cases h3 : n = A
  · subst h3
    rw [if_neg (by rw [HNL.out]; exact fun h => h rfl)] at HDEF
    by_cases h4 : okL L = true
    · rw [if_neg (by rw [h4]; simp)] at HDEF
      rw [h4] at HVA
      clear h4 d1 d2 h1 h2
      have d1 : decide ((fn : Int) < 1) = false := by simp; have := HA2.out; omega
      have d2 : decide ((8 : Int) < (fn : Int)) = false := by simp; have := HA2.out; omega
      rcases HA2.out with ⟨rfl, hf⟩ | ⟨rfl, hf⟩
      · have HON := Lib.hid (fun W hW hT => one_any fn hf a cap L W hW HV.out hT)
        obtain ⟨⟨vk, vn, vs⟩, hr⟩ : ∃ r, fnumV fn L = r := ⟨_, rfl⟩
        rw [hr] at HON HDEF
        have HC := HDEF.out
        subst HC
        unfold vOf at HON
        dsimp only at HON
        clear hf HV hr HDEF HA2
        go_enter Tryz.func12, Tryz.ntmps12
        go_wp2_with fail
        generalize w.alloc (.cells #[.int .u8 0, .int .i64 0, .string ⟨#[]⟩] 25) = wa at *
        refine (HAR.out _).mono ?_
        rintro e w1 ⟨rfl, hB⟩
        replace HX := Lib.hid (HX.out.later hB)
        replace HB := Lib.hid (vnext HB.out hB)
        clear hB
        go_wp2_with fail
        refine (HVA.out _ (IsOf.later HL.out HB.out)).mono ?_
        rintro e w2 ⟨rfl, hB⟩
        replace HX := Lib.hid (HX.out.later hB)
        replace HB := Lib.hid (vnext HB.out hB)
        clear hB
        go_wp2_with fail
        refine (HON.out _ (IsOf.later HL.out HB.out) (HT.out.later HB.out)).mono ?_
        rintro e w3 ⟨rfl, hB⟩
        replace HX := Lib.hid (HX.out.later hB)
        replace HB := Lib.hid (vnext HB.out hB)
        clear hB
        obtain ⟨x0, x1, x2, z0, z1, z2⟩ := HX.out.cells
        have hXl := HX.out.lt
        obtain ⟨hq, hg⟩ := b3_set HX.out vk vn vs
        have hb5 := HB.out.grown hg HB.out.size (fun q hq => by injection hq with hq; omega)
        clear hg
        go_wp2_with fail
        generalize ((w3.setCell ⟨w.heap.size, 0, none⟩ (.int .u8 (vk : Int))).setCell ⟨w.heap.size, 1, none⟩ (.int .i64 vn)).setCell ⟨w.heap.size, 2, none⟩ (.string vs) = w5 at *
        obtain ⟨v0, v1, v2, _, _, _⟩ := hq.cells
        refine bodyPost_ret (v := .tuple #[.agg #[.int .u8 (vk : Int), .int .i64 vn, .string vs], .int .i64 0]) (by simp [results, Tryz.results12, go_sem, v0, v1, v2]) rfl ⟨rfl, hb5⟩
      · have HON := Lib.hid (fun W hW hT => two_any fn hf a cap L W hW HV.out hT)
        obtain ⟨⟨vk, vn, vs⟩, hr⟩ : ∃ r, fnumV fn L = r := ⟨_, rfl⟩
        rw [hr] at HON HDEF
        have HC := HDEF.out
        subst HC
        unfold vOf at HON
        dsimp only at HON
        clear hf HV hr HDEF HA2
        go_enter Tryz.func12, Tryz.ntmps12
        go_wp2_with fail
        generalize w.alloc (.cells #[.int .u8 0, .int .i64 0, .string ⟨#[]⟩] 25) = wa at *
        refine (HAR.out _).mono ?_
        rintro e w1 ⟨rfl, hB⟩
        replace HX := Lib.hid (HX.out.later hB)
        replace HB := Lib.hid (vnext HB.out hB)
        clear hB
        go_wp2_with fail
        refine (HVA.out _ (IsOf.later HL.out HB.out)).mono ?_
        rintro e w2 ⟨rfl, hB⟩
        replace HX := Lib.hid (HX.out.later hB)
        replace HB := Lib.hid (vnext HB.out hB)
        clear hB
        go_wp2_with fail
        refine (HON.out _ (IsOf.later HL.out HB.out) (HT.out.later HB.out)).mono ?_
        rintro e w3 ⟨rfl, hB⟩
        replace HX := Lib.hid (HX.out.later hB)
        replace HB := Lib.hid (vnext HB.out hB)
        clear hB
        obtain ⟨x0, x1, x2, z0, z1, z2⟩ := HX.out.cells
        have hXl := HX.out.lt
        obtain ⟨hq, hg⟩ := b3_set HX.out vk vn vs
        have hb5 := HB.out.grown hg HB.out.size (fun q hq => by injection hq with hq; omega)
        clear hg
        go_wp2_with fail
        generalize ((w3.setCell ⟨w.heap.size, 0, none⟩ (.int .u8 (vk : Int))).setCell ⟨w.heap.size, 1, none⟩ (.int .i64 vn)).setCell ⟨w.heap.size, 2, none⟩ (.string vs) = w5 at *
        obtain ⟨v0, v1, v2, _, _, _⟩ := hq.cells
        refine bodyPost_ret (v := .tuple #[.agg #[.int .u8 (vk : Int), .int .i64 vn, .string vs], .int .i64 0]) (by simp [results, Tryz.results12, go_sem, v0, v1, v2]) rfl ⟨rfl, hb5⟩
    · have h5 : okL L = false := by cases h : okL L <;> simp_all
      rw [if_pos h5] at HDEF
      have HC := HDEF.out
      subst HC
      rw [h5] at HVA
      clear h5 h4 HV HA2 HDEF
      go_enter Tryz.func12, Tryz.ntmps12
      go_wp2_with fail
      generalize w.alloc (.cells #[.int .u8 0, .int .i64 0, .string ⟨#[]⟩] 25) = wa at *
      have e1 : ((n : Int) != (n : Int)) = false := by simp
      refine (HAR.out _).mono ?_
      rintro e w1 ⟨rfl, hB⟩
      replace HX := Lib.hid (HX.out.later hB)
      replace HB := Lib.hid (vnext HB.out hB)
      clear hB
      go_wp2_with fail
      refine (HVA.out _ (IsOf.later HL.out HB.out)).mono ?_
      rintro e w2 ⟨rfl, hB⟩
      replace HX := Lib.hid (HX.out.later hB)
      replace HB := Lib.hid (vnext HB.out hB)
      clear hB
      obtain ⟨x0, x1, x2, z0, z1, z2⟩ := HX.out.cells
      have hXl := HX.out.lt
      obtain ⟨hq, hg⟩ := b3_set HX.out 0 0 ⟨#[]⟩
      have hb5 := HB.out.grown hg HB.out.size (fun q hq => by injection hq with hq; omega)
      clear hg
      go_wp2_with fail
      generalize ((w2.setCell ⟨w.heap.size, 0, none⟩ (.int .u8 0)).setCell ⟨w.heap.size, 1, none⟩ (.int .i64 0)).setCell ⟨w.heap.size, 2, none⟩ (.string ⟨#[]⟩) = w5 at *
      obtain ⟨v0, v1, v2, _, _, _⟩ := hq.cells
      refine bodyPost_ret (v := .tuple #[.agg #[.int .u8 0, .int .i64 0, .string ⟨#[]⟩], .int .i64 2]) (by simp [results, Tryz.results12, go_sem, v0, v1, v2]) rfl ⟨rfl, hb5⟩
  · rw [if_pos (by rw [HNL.out]; exact h3)] at HDEF
    have HC := HDEF.out
    subst HC
    have e1 : ((n : Int) != (A : Int)) = true := by simp; omega
    have e2 : ((n : Int) == (A : Int)) = false := by simp; omega
    clear h3 HV HA2 HVA HDEF
    go_enter Tryz.func12, Tryz.ntmps12
    go_wp2_with fail
    generalize w.alloc (.cells #[.int .u8 0, .int .i64 0, .string ⟨#[]⟩] 25) = wa at *
    refine (HAR.out _).mono ?_
    rintro e w1 ⟨rfl, hB⟩
    replace HX := Lib.hid (HX.out.later hB)
    replace HB := Lib.hid (vnext HB.out hB)
    clear hB
    obtain ⟨x0, x1, x2, z0, z1, z2⟩ := HX.out.cells
    have hXl := HX.out.lt
    obtain ⟨hq, hg⟩ := b3_set HX.out 0 0 ⟨#[]⟩
    have hb5 := HB.out.grown hg HB.out.size (fun q hq => by injection hq with hq; omega)
    clear hg
    go_wp2_with fail
    generalize ((w1.setCell ⟨w.heap.size, 0, none⟩ (.int .u8 0)).setCell ⟨w.heap.size, 1, none⟩ (.int .i64 0)).setCell ⟨w.heap.size, 2, none⟩ (.string ⟨#[]⟩) = w5 at *
    obtain ⟨v0, v1, v2, _, _, _⟩ := hq.cells
    refine bodyPost_ret (v := .tuple #[.agg #[.int .u8 0, .int .i64 0, .string ⟨#[]⟩], .int .i64 11]) (by simp [results, Tryz.results12, go_sem, v0, v1, v2]) rfl ⟨rfl, hb5⟩
end Go.Proofs.YtfjefanhkbcfgaaGreatDoor.Va
