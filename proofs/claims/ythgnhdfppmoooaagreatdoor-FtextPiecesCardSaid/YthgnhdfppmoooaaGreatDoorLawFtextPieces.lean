/- The walk of the law. -/
import Derived.Test.YthgnhdfppmoooaaGreatDoorFtY
namespace Go.Proofs.YthgnhdfppmoooaaGreatDoor.Va
open Go Go.RowKit GM
set_option linter.unusedVariables false
set_option linter.unusedSimpArgs false
attribute [local simp] DepA isB rsAt
set_option maxRecDepth 100000 in
set_option maxHeartbeats 25600000 in
theorem ftextPieces_any (s : ByteArray) (M0 N0 : Int) (w : World) (hT : Tb w) :
    Calls Tryz.prog 3 #[.string s, .int .i64 M0, .int .i64 N0] w fun e w' => e = .returned (.bool true) ∧ Below w.heap.size w w' := by
  have HT := Lib.hid hT
  clear hT
  have t1 : -256 < M0.tmod 256 := neg_lt_tmod M0 (by decide)
  have t2 : M0.tmod 256 < 256 := Int.tmod_lt_of_pos M0 (by decide)
  have t3 : -256 < N0.tmod 256 := neg_lt_tmod N0 (by decide)
  have t4 : N0.tmod 256 < 256 := Int.tmod_lt_of_pos N0 (by decide)
  obtain ⟨P, hP⟩ : ∃ P, plS s 200 = P := ⟨_, rfl⟩
  obtain ⟨kP, zP⟩ := plS_ok s 200 (by decide)
  have HP : Hid (∀ W : World, Calls Tryz.prog 6 #[.string s, .int .i64 200] W fun e w' => e = .returned (.string P) ∧ Below W.heap.size W w') := fun W => by rw [← hP]; exact lplain_any s 200 (by decide) W
  rw [hP] at kP zP
  have KP := Lib.hid kP
  clear hP kP
  go_enter Tryz.func3, Tryz.ntmps3
  go_wp2_with fail
  refine (HP.out _).mono ?_
  rintro e w1 ⟨rfl, hB⟩
  have H1 : Hid (St w w1 []) := Lib.hid ⟨hB, fun q hq => by cases hq⟩
  clear hB HP
  go_wp2_with fail
  obtain ⟨m, hm⟩ := Int.eq_ofNat_of_zero_le (show 0 ≤ (M0.tmod 256 + 256) % 256 by omega)
  obtain ⟨n, hn⟩ := Int.eq_ofNat_of_zero_le (show 0 ≤ (N0.tmod 256 + 256) % 256 by omega)
  have hm9 : m ≤ 255 := by omega
  have hn9 : n ≤ 255 := by omega
  rw [hm, hn]
  clear hm hn t1 t2 t3 t4
  obtain ⟨A, hA⟩ : ∃ x, P.extract 0 (min (n : Int) P.size).toNat = x := ⟨_, rfl⟩
  obtain ⟨MD, hMD⟩ : ∃ x, midS P ((n : Int) + 1) P.size = x := ⟨_, rfl⟩
  obtain ⟨R, hR⟩ : ∃ x, P.extract ((P.size : Int) - min (n : Int) P.size).toNat P.size = x := ⟨_, rfl⟩
  obtain ⟨LM, hLM⟩ : ∃ x, P.extract 0 (min (m : Int) P.size).toNat = x := ⟨_, rfl⟩
  obtain ⟨LL, hLL⟩ : ∃ x, P.extract 0 (min (min (m : Int) (n : Int)) P.size).toNat = x := ⟨_, rfl⟩
  obtain ⟨U, hU⟩ : ∃ x, upS P = x := ⟨_, rfl⟩
  obtain ⟨Lo, hLo⟩ : ∃ x, loS P = x := ⟨_, rfl⟩
  have zP6 : P.size ≤ 256 := by omega
  have kA := chk_ext KP.out 0 (min (n : Int) P.size).toNat
  rw [hA] at kA
  have kLM := chk_ext KP.out 0 (min (m : Int) P.size).toNat
  rw [hLM] at kLM
  obtain ⟨kU, kLo⟩ := chk_up KP.out
  rw [hU] at kU
  rw [hLo] at kLo
  have zLM : LM.size ≤ 256 := chk_size kLM
  have zA : A.size ≤ 256 := chk_size kA
  have zMD : MD.size ≤ 256 := by rw [← hMD]; unfold midS; rw [ByteArray.size_extract, ByteArray.size_extract]; omega
  have hll : LM.extract 0 (min (n : Int) LM.size).toNat = LL := by rw [← hLM, ← hLL]; exact left_left
  have hul : upS Lo = U := by rw [← hLo, ← hU]; exact upS_lo P
  have zU : U.size = P.size := by rw [← hU]; exact upS_size P
  have zLo : Lo.size = P.size := by rw [← hLo]; exact loS_size P
  have zU6 : U.size ≤ 256 := by omega
  have zLo6 : Lo.size ≤ 256 := by omega
  have hAM : A ++ MD = P := by rw [← hA, ← hMD]; exact pieces
  have hAP : A = P ↔ P.size ≤ n := by rw [← hA]; exact left_all
  have CA : Hid (∀ a cap W, Below w.heap.size w W → IsV W a 2 [tv P, nv ((n : Int) * 10000)] → Calls Tryz.prog 7 #[.int .u8 32, .slice a 2 cap] W fun e w' => e = .returned (.agg #[.int .u8 3, .int .i64 0, .string A]) ∧ Below W.heap.size W w') := fun a cap W hB h => by have h2 := of_left P n KP.out (by omega) a cap W h (HT.out.later hB); rw [leftV_ok (by omega) zP6, hA] at h2; exact h2
  have CM : Hid (∀ a cap W, Below w.heap.size w W → IsV W a 3 [tv P, nv (((n : Int) + 1) * 10000), nv ((P.size : Int) * 10000)] → Calls Tryz.prog 7 #[.int .u8 34, .slice a 3 cap] W fun e w' => e = .returned (.agg #[.int .u8 3, .int .i64 0, .string MD]) ∧ Below W.heap.size W w') := fun a cap W hB h => by have h2 := of_mid P ((n : Int) + 1) P.size KP.out (by omega) (by omega) a cap W h (HT.out.later hB); rw [midV_ok (by omega) (by omega) zP6, hMD] at h2; exact h2
  have CR : Hid (∀ a cap W, Below w.heap.size w W → IsV W a 2 [tv P, nv ((n : Int) * 10000)] → Calls Tryz.prog 7 #[.int .u8 33, .slice a 2 cap] W fun e w' => e = .returned (.agg #[.int .u8 3, .int .i64 0, .string R]) ∧ Below W.heap.size W w') := fun a cap W hB h => by have h2 := of_right P n KP.out (by omega) a cap W h (HT.out.later hB); rw [rightV_ok (by omega) zP6, hR] at h2; exact h2
  have CL1 : Hid (∀ a cap W, Below w.heap.size w W → IsV W a 2 [tv P, nv ((m : Int) * 10000)] → Calls Tryz.prog 7 #[.int .u8 32, .slice a 2 cap] W fun e w' => e = .returned (.agg #[.int .u8 3, .int .i64 0, .string LM]) ∧ Below W.heap.size W w') := fun a cap W hB h => by have h2 := of_left P m KP.out (by omega) a cap W h (HT.out.later hB); rw [leftV_ok (by omega) zP6, hLM] at h2; exact h2
  have CL2 : Hid (∀ a cap W, Below w.heap.size w W → IsV W a 2 [tv LM, nv ((n : Int) * 10000)] → Calls Tryz.prog 7 #[.int .u8 32, .slice a 2 cap] W fun e w' => e = .returned (.agg #[.int .u8 3, .int .i64 0, .string LL]) ∧ Below W.heap.size W w') := fun a cap W hB h => by have h2 := of_left LM n kLM (by omega) a cap W h (HT.out.later hB); rw [leftV_ok (by omega) zLM, hll] at h2; exact h2
  have CL3 : Hid (∀ a cap W, Below w.heap.size w W → IsV W a 2 [tv P, nv (min (m : Int) (n : Int) * 10000)] → Calls Tryz.prog 7 #[.int .u8 32, .slice a 2 cap] W fun e w' => e = .returned (.agg #[.int .u8 3, .int .i64 0, .string LL]) ∧ Below W.heap.size W w') := fun a cap W hB h => by have h2 := of_left P (min (m : Int) (n : Int)) KP.out (by omega) a cap W h (HT.out.later hB); rw [leftV_ok (by omega) zP6, hLL] at h2; exact h2
  have CU : Hid (∀ a cap W, Below w.heap.size w W → IsV W a 1 [tv P] → Calls Tryz.prog 7 #[.int .u8 35, .slice a 1 cap] W fun e w' => e = .returned (.agg #[.int .u8 3, .int .i64 0, .string U]) ∧ Below W.heap.size W w') := fun a cap W hB h => by have h2 := of_upper P KP.out a cap W h (HT.out.later hB); rw [hU, txV_ok zU6] at h2; exact h2
  have CLo : Hid (∀ a cap W, Below w.heap.size w W → IsV W a 1 [tv P] → Calls Tryz.prog 7 #[.int .u8 36, .slice a 1 cap] W fun e w' => e = .returned (.agg #[.int .u8 3, .int .i64 0, .string Lo]) ∧ Below W.heap.size W w') := fun a cap W hB h => by have h2 := of_lower P KP.out a cap W h (HT.out.later hB); rw [hLo, txV_ok zLo6] at h2; exact h2
  have CUL : Hid (∀ a cap W, Below w.heap.size w W → IsV W a 1 [tv Lo] → Calls Tryz.prog 7 #[.int .u8 35, .slice a 1 cap] W fun e w' => e = .returned (.agg #[.int .u8 3, .int .i64 0, .string U]) ∧ Below W.heap.size W w') := fun a cap W hB h => by have h2 := of_upper Lo kLo a cap W h (HT.out.later hB); rw [hul, txV_ok zU6] at h2; exact h2
  have HAW : Hid (∀ W : World, Below w.heap.size w W → Calls Tryz.prog 10 #[] W fun e w' => e = .returned (.bool true) ∧ Below W.heap.size W w') := fun W h => awake14 W (HT.out.later h)
  obtain ⟨EX, hEX⟩ : ∃ E : Int, b2i (decide (A = P)) = E := ⟨_, rfl⟩
  have CE1 : Hid (∀ a cap W, Below w.heap.size w W → IsV W a 2 [tv A, tv P] → Calls Tryz.prog 7 #[.int .u8 40, .slice a 2 cap] W fun e w' => e = .returned (.agg #[.int .u8 2, .int .i64 EX, .string ⟨#[]⟩]) ∧ Below W.heap.size W w') := fun a cap W hB h => by have h2 := of_exact A P kA KP.out a cap W h (HT.out.later hB); rw [show exactV A P = (2, EX, ⟨#[]⟩) by unfold exactV; rw [hEX]] at h2; exact h2
  have CE2 : Hid (∀ a cap W, Below w.heap.size w W → IsV W a 2 [tv P, tv A] → Calls Tryz.prog 7 #[.int .u8 40, .slice a 2 cap] W fun e w' => e = .returned (.agg #[.int .u8 2, .int .i64 EX, .string ⟨#[]⟩]) ∧ Below W.heap.size W w') := fun a cap W hB h => by have h2 := of_exact P A KP.out kA a cap W h (HT.out.later hB); rw [show exactV P A = (2, EX, ⟨#[]⟩) by unfold exactV; rw [show decide (P = A) = decide (A = P) by rw [decide_eq_decide]; exact eq_comm, hEX]] at h2; exact h2
  have HAL := Lib.hid hA
  have HRL := Lib.hid hR
  have HAM := Lib.hid hAM
  have HAP := Lib.hid hAP
  have HEX := Lib.hid hEX
  clear hA hMD hR hLM hLL hU hLo kA kLM kU kLo zLM hll hul hAM hAP hEX zU6 zLo6 zP6
  refine (ltext_any P _).mono ?_
  rintro e w2 ⟨rfl, hB⟩
  have H2 := Lib.hid (H1.out.next hB)
  clear hB H1
  go_wp2_with fail
  refine (lnum_any ((n : Int) * 10000) _).mono ?_
  rintro e w3 ⟨rfl, hB⟩
  have H3 := Lib.hid (H2.out.next hB)
  clear hB H2
  go_wp2_with fail
  have hV := isV_new w3 #[.int .u8 3, .int .i64 0, .string P, .int .u8 1, .int .i64 ((n : Int) * 10000), .string ⟨#[]⟩] 24 [tv P, nv ((n : Int) * 10000)] rfl
  have hbb := valloc w3 (.cells #[.int .u8 3, .int .i64 0, .string P, .int .u8 1, .int .i64 ((n : Int) * 10000), .string ⟨#[]⟩] 24)
  refine (CA.out _ _ _ (vnext H3.out.1 hbb) hV).mono ?_
  rintro e w4 ⟨rfl, hB⟩
  have H4 := Lib.hid (H3.out.next (vnext hbb hB))
  clear hV hbb hB H3
  have H5 : Hid (St w (w4.alloc (.cells #[.int .u8 3, .int .i64 0, .string A] 24)) ((w4.heap.size, tv A) :: [])) := Lib.hid (H4.out.add (tv A))
  clear H4
  go_wp2_with fail
  generalize hwn : w4.alloc (.cells #[.int .u8 3, .int .i64 0, .string A] 24) = w5 at *
  clear hwn
  refine (ltext_any P _).mono ?_
  rintro e w6 ⟨rfl, hB⟩
  have H6 := Lib.hid (H5.out.next hB)
  clear hB H5
  go_wp2_with fail
  refine (lnum_any (((n : Int) + 1) * 10000) _).mono ?_
  rintro e w7 ⟨rfl, hB⟩
  have H7 := Lib.hid (H6.out.next hB)
  clear hB H6
  go_wp2_with fail
  refine (lnum_any ((P.size : Int) * 10000) _).mono ?_
  rintro e w8 ⟨rfl, hB⟩
  have H8 := Lib.hid (H7.out.next hB)
  clear hB H7
  go_wp2_with fail
  have hV := isV_new w8 #[.int .u8 3, .int .i64 0, .string P, .int .u8 1, .int .i64 (((n : Int) + 1) * 10000), .string ⟨#[]⟩, .int .u8 1, .int .i64 ((P.size : Int) * 10000), .string ⟨#[]⟩] 24 [tv P, nv (((n : Int) + 1) * 10000), nv ((P.size : Int) * 10000)] rfl
  have hbb := valloc w8 (.cells #[.int .u8 3, .int .i64 0, .string P, .int .u8 1, .int .i64 (((n : Int) + 1) * 10000), .string ⟨#[]⟩, .int .u8 1, .int .i64 ((P.size : Int) * 10000), .string ⟨#[]⟩] 24)
  refine (CM.out _ _ _ (vnext H8.out.1 hbb) hV).mono ?_
  rintro e w9 ⟨rfl, hB⟩
  have H9 := Lib.hid (H8.out.next (vnext hbb hB))
  clear hV hbb hB H8
  have H10 : Hid (St w (w9.alloc (.cells #[.int .u8 3, .int .i64 0, .string MD] 24)) ((w9.heap.size, tv MD) :: ((w4.heap.size, tv A) :: []))) := Lib.hid (H9.out.add (tv MD))
  clear H9
  go_wp2_with fail
  generalize hwn : w9.alloc (.cells #[.int .u8 3, .int .i64 0, .string MD] 24) = w10 at *
  clear hwn
  refine (ltext_any P _).mono ?_
  rintro e w11 ⟨rfl, hB⟩
  have H11 := Lib.hid (H10.out.next hB)
  clear hB H10
  go_wp2_with fail
  refine (lnum_any ((n : Int) * 10000) _).mono ?_
  rintro e w12 ⟨rfl, hB⟩
  have H12 := Lib.hid (H11.out.next hB)
  clear hB H11
  go_wp2_with fail
  have hV := isV_new w12 #[.int .u8 3, .int .i64 0, .string P, .int .u8 1, .int .i64 ((n : Int) * 10000), .string ⟨#[]⟩] 24 [tv P, nv ((n : Int) * 10000)] rfl
  have hbb := valloc w12 (.cells #[.int .u8 3, .int .i64 0, .string P, .int .u8 1, .int .i64 ((n : Int) * 10000), .string ⟨#[]⟩] 24)
  refine (CR.out _ _ _ (vnext H12.out.1 hbb) hV).mono ?_
  rintro e w13 ⟨rfl, hB⟩
  have H13 := Lib.hid (H12.out.next (vnext hbb hB))
  clear hV hbb hB H12
  have H14 : Hid (St w (w13.alloc (.cells #[.int .u8 3, .int .i64 0, .string R] 24)) ((w13.heap.size, tv R) :: ((w9.heap.size, tv MD) :: ((w4.heap.size, tv A) :: [])))) := Lib.hid (H13.out.add (tv R))
  clear H13
  go_upto_region 6 with fail
  generalize hwn : w13.alloc (.cells #[.int .u8 3, .int .i64 0, .string R] 24) = w14 at *
  clear hwn
  obtain ⟨qn, hqn⟩ : ∃ x : Nat, (min (n : Int) (P.size : Int)) = (x : Int) := Int.eq_ofNat_of_zero_le (by omega)
  have hqp : qn ≤ P.size := by omega
  have hqs : ((P.size : Int) - (qn : Int)).toNat = P.size - qn := by omega
  have eA : P.extract 0 qn = A := by rw [← HAL.out, hqn]; rfl
  have eR : P.extract (P.size - qn) P.size = R := by rw [← HRL.out, hqn, hqs]
  have eAM := HAM.out
  have hws : IntKind.i64.wrap ((P.size : Int) - (qn : Int)) = (P.size : Int) - (qn : Int) := IntWalk.i64_in _ (by omega)
  refine wp_region_seqi (fun X => St w X ((w13.heap.size, tv R) :: ((w9.heap.size, tv MD) :: ((w4.heap.size, tv A) :: [])))) (fun X X2 hB h => h.next hB) (by kernel_rfl) (by kernel_rfl) (by kernel_rfl) H14.out.drew ?_
  simp only [putsL, Act.put, List.setIfInBounds_toArray, List.set_cons_zero, List.set_cons_succ, Nat.zero_add, Nat.reduceAdd]
  refine seqi_run ?_ (fun vs W hD => (by first | rfl | (simp at hD; simp [Region.wanted, yielded, hD]))) (fun vs W hS hD => ?_) ?_
  rotate_left
  · (obtain ⟨c00, c01, c02, cl0⟩ := hS.tv (show (w13.heap.size, tv R) ∈ _ by simp); obtain ⟨c10, c11, c12, cl1⟩ := hS.tv (show (w9.heap.size, tv MD) ∈ _ by simp); obtain ⟨c20, c21, c22, cl2⟩ := hS.tv (show (w4.heap.size, tv A) ∈ _ by simp); obtain _ := hS; (try simp at hD); (try simp only [hD]); (first | (go_simp; done) | (go_simp; rfl)))
  simp only [List.nil_append, List.cons_append]
  refine seqi_run ?_ (fun vs W hD => (by first | rfl | (simp at hD; simp [Region.wanted, yielded, hD]))) (fun vs W hS hD => ?_) ?_
  rotate_left
  · (obtain ⟨c00, c01, c02, cl0⟩ := hS.tv (show (w13.heap.size, tv R) ∈ _ by simp); obtain ⟨c10, c11, c12, cl1⟩ := hS.tv (show (w9.heap.size, tv MD) ∈ _ by simp); obtain ⟨c20, c21, c22, cl2⟩ := hS.tv (show (w4.heap.size, tv A) ∈ _ by simp); obtain _ := hS; (try simp at hD); (try simp only [hD]); (first | (go_simp; done) | (go_simp; rfl)))
  simp only [List.nil_append, List.cons_append]
  refine seqi_run ?_ (fun vs W hD => (by first | rfl | (simp at hD; simp [Region.wanted, yielded, hD]))) (fun vs W hS hD => ?_) ?_
  rotate_left
  · (obtain ⟨c00, c01, c02, cl0⟩ := hS.tv (show (w13.heap.size, tv R) ∈ _ by simp); obtain ⟨c10, c11, c12, cl1⟩ := hS.tv (show (w9.heap.size, tv MD) ∈ _ by simp); obtain ⟨c20, c21, c22, cl2⟩ := hS.tv (show (w4.heap.size, tv A) ∈ _ by simp); obtain _ := hS; (try simp at hD); (try simp only [hD]); (first | (go_simp; done) | (go_simp; rfl)))
  simp only [List.nil_append, List.cons_append]
  refine seqi_run ?_ (fun vs W hD => (by first | rfl | (simp at hD; simp [Region.wanted, yielded, hD]))) (fun vs W hS hD => ?_) ?_
  rotate_left
  · (obtain ⟨c00, c01, c02, cl0⟩ := hS.tv (show (w13.heap.size, tv R) ∈ _ by simp); obtain ⟨c10, c11, c12, cl1⟩ := hS.tv (show (w9.heap.size, tv MD) ∈ _ by simp); obtain ⟨c20, c21, c22, cl2⟩ := hS.tv (show (w4.heap.size, tv A) ∈ _ by simp); obtain _ := hS; (try simp at hD); (try simp only [hD]); (first | (go_simp; done) | (go_simp; rfl)))
  simp only [List.nil_append, List.cons_append]
  refine seqi_run ?_ (fun vs W hD => (by first | rfl | (simp at hD; simp [Region.wanted, yielded, hD]))) (fun vs W hS hD => ?_) ?_
  rotate_left
  · (obtain ⟨c00, c01, c02, cl0⟩ := hS.tv (show (w13.heap.size, tv R) ∈ _ by simp); obtain ⟨c10, c11, c12, cl1⟩ := hS.tv (show (w9.heap.size, tv MD) ∈ _ by simp); obtain ⟨c20, c21, c22, cl2⟩ := hS.tv (show (w4.heap.size, tv A) ∈ _ by simp); obtain _ := hS; (try simp at hD); (try simp only [hD]); (first | (go_simp; done) | (go_simp; rfl)))
  simp only [List.nil_append, List.cons_append]
  refine seqi_run ?_ (fun vs W hD => (by first | rfl | (simp at hD; simp [Region.wanted, yielded, hD]))) (fun vs W hS hD => ?_) ?_
  rotate_left
  · (obtain ⟨c00, c01, c02, cl0⟩ := hS.tv (show (w13.heap.size, tv R) ∈ _ by simp); obtain ⟨c10, c11, c12, cl1⟩ := hS.tv (show (w9.heap.size, tv MD) ∈ _ by simp); obtain ⟨c20, c21, c22, cl2⟩ := hS.tv (show (w4.heap.size, tv A) ∈ _ by simp); obtain _ := hS; (try simp at hD); (try simp only [hD]); (first | (go_simp; done) | (go_simp; rfl)))
  simp only [List.nil_append, List.cons_append]
  refine seqi_run ?_ (fun vs W hD => (by first | rfl | (simp at hD; simp [Region.wanted, yielded, hD]))) (fun vs W hS hD => ?_) ?_
  rotate_left
  · (obtain ⟨c00, c01, c02, cl0⟩ := hS.tv (show (w13.heap.size, tv R) ∈ _ by simp); obtain ⟨c10, c11, c12, cl1⟩ := hS.tv (show (w9.heap.size, tv MD) ∈ _ by simp); obtain ⟨c20, c21, c22, cl2⟩ := hS.tv (show (w4.heap.size, tv A) ∈ _ by simp); obtain _ := hS; (try simp at hD); (try simp only [hD]); (first | (go_simp; done) | (go_simp; rfl)))
  simp only [List.nil_append, List.cons_append]
  refine seqi_run ?_ (fun vs W hD => (by first | rfl | (simp at hD; simp [Region.wanted, yielded, hD]))) (fun vs W hS hD => ?_) ?_
  rotate_left
  · (obtain ⟨c00, c01, c02, cl0⟩ := hS.tv (show (w13.heap.size, tv R) ∈ _ by simp); obtain ⟨c10, c11, c12, cl1⟩ := hS.tv (show (w9.heap.size, tv MD) ∈ _ by simp); obtain ⟨c20, c21, c22, cl2⟩ := hS.tv (show (w4.heap.size, tv A) ∈ _ by simp); obtain _ := hS; (try simp at hD); (try simp only [hD]); (first | (go_simp; done) | (go_simp; rfl)))
  simp only [List.nil_append, List.cons_append]
  refine seqi_run ?_ (fun vs W hD => (by first | rfl | (simp at hD; simp [Region.wanted, yielded, hD]))) (fun vs W hS hD => ?_) ?_
  rotate_left
  · (obtain ⟨c00, c01, c02, cl0⟩ := hS.tv (show (w13.heap.size, tv R) ∈ _ by simp); obtain ⟨c10, c11, c12, cl1⟩ := hS.tv (show (w9.heap.size, tv MD) ∈ _ by simp); obtain ⟨c20, c21, c22, cl2⟩ := hS.tv (show (w4.heap.size, tv A) ∈ _ by simp); obtain _ := hS; (try simp at hD); (try simp only [hD]); (first | (go_simp; done) | (go_simp; rfl)))
  simp only [List.nil_append, List.cons_append]
  refine seqi_run ?_ (fun vs W hD => (by first | rfl | (simp at hD; simp [Region.wanted, yielded, hD]))) (fun vs W hS hD => ?_) ?_
  rotate_left
  · (obtain ⟨c00, c01, c02, cl0⟩ := hS.tv (show (w13.heap.size, tv R) ∈ _ by simp); obtain ⟨c10, c11, c12, cl1⟩ := hS.tv (show (w9.heap.size, tv MD) ∈ _ by simp); obtain ⟨c20, c21, c22, cl2⟩ := hS.tv (show (w4.heap.size, tv A) ∈ _ by simp); obtain _ := hS; (try simp at hD); (try simp only [hD]); (first | (go_simp; done) | (go_simp; rfl)))
  simp only [List.nil_append, List.cons_append]
  refine seqi_run ?_ (fun vs W hD => (by first | rfl | (simp at hD; simp [Region.wanted, yielded, hD]))) (fun vs W hS hD => ?_) ?_
  rotate_left
  · (obtain ⟨c00, c01, c02, cl0⟩ := hS.tv (show (w13.heap.size, tv R) ∈ _ by simp); obtain ⟨c10, c11, c12, cl1⟩ := hS.tv (show (w9.heap.size, tv MD) ∈ _ by simp); obtain ⟨c20, c21, c22, cl2⟩ := hS.tv (show (w4.heap.size, tv A) ∈ _ by simp); obtain _ := hS; (try simp at hD); (try simp only [hD]); (first | (go_simp; done) | (go_simp; rfl)))
  simp only [List.nil_append, List.cons_append]
  refine seqi_run ?_ (fun vs W hD => (by first | rfl | (simp at hD; simp [Region.wanted, yielded, hD]))) (fun vs W hS hD => ?_) ?_
  rotate_left
  · (obtain ⟨c00, c01, c02, cl0⟩ := hS.tv (show (w13.heap.size, tv R) ∈ _ by simp); obtain ⟨c10, c11, c12, cl1⟩ := hS.tv (show (w9.heap.size, tv MD) ∈ _ by simp); obtain ⟨c20, c21, c22, cl2⟩ := hS.tv (show (w4.heap.size, tv A) ∈ _ by simp); obtain _ := hS; (try simp at hD); (try simp only [hD]); (first | (go_simp; done) | (go_simp; rfl)))
  simp only [List.nil_append, List.cons_append]
  refine seqi_run ?_ (fun vs W hD => (by first | rfl | (simp at hD; simp [Region.wanted, yielded, hD]))) (fun vs W hS hD => ?_) ?_
  rotate_left
  · (obtain ⟨c00, c01, c02, cl0⟩ := hS.tv (show (w13.heap.size, tv R) ∈ _ by simp); obtain ⟨c10, c11, c12, cl1⟩ := hS.tv (show (w9.heap.size, tv MD) ∈ _ by simp); obtain ⟨c20, c21, c22, cl2⟩ := hS.tv (show (w4.heap.size, tv A) ∈ _ by simp); obtain _ := hS; (try simp at hD); (try simp only [hD]); (first | (go_simp; done) | (go_simp; rfl)))
  simp only [List.nil_append, List.cons_append]
  refine seqi_run (.string P) (fun vs W hD => (by first | rfl | (simp at hD; simp [Region.wanted, yielded, hD]))) (fun vs W hS hD => ?_) ?_
  · (obtain ⟨c00, c01, c02, cl0⟩ := hS.tv (show (w13.heap.size, tv R) ∈ _ by simp); obtain ⟨c10, c11, c12, cl1⟩ := hS.tv (show (w9.heap.size, tv MD) ∈ _ by simp); obtain ⟨c20, c21, c22, cl2⟩ := hS.tv (show (w4.heap.size, tv A) ∈ _ by simp); obtain _ := hS; (try simp at hD); (try simp only [hD]); go_simp; omega)
  simp only [List.nil_append, List.cons_append]
  refine seqi_run ?_ (fun vs W hD => (by first | rfl | (simp at hD; simp [Region.wanted, yielded, hD]))) (fun vs W hS hD => ?_) ?_
  rotate_left
  · (obtain ⟨c00, c01, c02, cl0⟩ := hS.tv (show (w13.heap.size, tv R) ∈ _ by simp); obtain ⟨c10, c11, c12, cl1⟩ := hS.tv (show (w9.heap.size, tv MD) ∈ _ by simp); obtain ⟨c20, c21, c22, cl2⟩ := hS.tv (show (w4.heap.size, tv A) ∈ _ by simp); obtain _ := hS; (try simp at hD); (try simp only [hD]); (first | (go_simp; done) | (go_simp; rfl)))
  simp only [List.nil_append, List.cons_append]
  refine seqi_run ?_ (fun vs W hD => (by first | rfl | (simp at hD; simp [Region.wanted, yielded, hD]))) (fun vs W hS hD => ?_) ?_
  rotate_left
  · (obtain ⟨c00, c01, c02, cl0⟩ := hS.tv (show (w13.heap.size, tv R) ∈ _ by simp); obtain ⟨c10, c11, c12, cl1⟩ := hS.tv (show (w9.heap.size, tv MD) ∈ _ by simp); obtain ⟨c20, c21, c22, cl2⟩ := hS.tv (show (w4.heap.size, tv A) ∈ _ by simp); obtain _ := hS; (try simp at hD); (try simp only [hD]); (first | (go_simp; done) | (go_simp; rfl)))
  simp only [List.nil_append, List.cons_append]
  refine seqi_run ?_ (fun vs W hD => (by first | rfl | (simp at hD; simp [Region.wanted, yielded, hD]))) (fun vs W hS hD => ?_) ?_
  rotate_left
  · (obtain ⟨c00, c01, c02, cl0⟩ := hS.tv (show (w13.heap.size, tv R) ∈ _ by simp); obtain ⟨c10, c11, c12, cl1⟩ := hS.tv (show (w9.heap.size, tv MD) ∈ _ by simp); obtain ⟨c20, c21, c22, cl2⟩ := hS.tv (show (w4.heap.size, tv A) ∈ _ by simp); obtain _ := hS; (try simp at hD); (try simp only [hD]); (first | (go_simp; done) | (go_simp; rfl)))
  simp only [List.nil_append, List.cons_append]
  refine seqi_run ?_ (fun vs W hD => (by first | rfl | (simp at hD; simp [Region.wanted, yielded, hD]))) (fun vs W hS hD => ?_) ?_
  rotate_left
  · (obtain ⟨c00, c01, c02, cl0⟩ := hS.tv (show (w13.heap.size, tv R) ∈ _ by simp); obtain ⟨c10, c11, c12, cl1⟩ := hS.tv (show (w9.heap.size, tv MD) ∈ _ by simp); obtain ⟨c20, c21, c22, cl2⟩ := hS.tv (show (w4.heap.size, tv A) ∈ _ by simp); obtain _ := hS; (try simp at hD); (try simp only [hD]); (first | (go_simp; done) | (go_simp; rfl)))
  simp only [List.nil_append, List.cons_append]
  refine seqi_run ?_ (fun vs W hD => (by first | rfl | (simp at hD; simp [Region.wanted, yielded, hD]))) (fun vs W hS hD => ?_) ?_
  rotate_left
  · (obtain ⟨c00, c01, c02, cl0⟩ := hS.tv (show (w13.heap.size, tv R) ∈ _ by simp); obtain ⟨c10, c11, c12, cl1⟩ := hS.tv (show (w9.heap.size, tv MD) ∈ _ by simp); obtain ⟨c20, c21, c22, cl2⟩ := hS.tv (show (w4.heap.size, tv A) ∈ _ by simp); obtain _ := hS; (try simp at hD); (try simp only [hD]); (first | (go_simp; done) | (go_simp; rfl)))
  simp only [List.nil_append, List.cons_append]
  refine seqi_run ?_ (fun vs W hD => (by first | rfl | (simp at hD; simp [Region.wanted, yielded, hD]))) (fun vs W hS hD => ?_) ?_
  rotate_left
  · (obtain ⟨c00, c01, c02, cl0⟩ := hS.tv (show (w13.heap.size, tv R) ∈ _ by simp); obtain ⟨c10, c11, c12, cl1⟩ := hS.tv (show (w9.heap.size, tv MD) ∈ _ by simp); obtain ⟨c20, c21, c22, cl2⟩ := hS.tv (show (w4.heap.size, tv A) ∈ _ by simp); obtain _ := hS; (try simp at hD); (try simp only [hD]); (first | (go_simp; done) | (go_simp; rfl)))
  simp only [List.nil_append, List.cons_append]
  refine seqi_run ?_ (fun vs W hD => (by first | rfl | (simp at hD; simp [Region.wanted, yielded, hD]))) (fun vs W hS hD => ?_) ?_
  rotate_left
  · (obtain ⟨c00, c01, c02, cl0⟩ := hS.tv (show (w13.heap.size, tv R) ∈ _ by simp); obtain ⟨c10, c11, c12, cl1⟩ := hS.tv (show (w9.heap.size, tv MD) ∈ _ by simp); obtain ⟨c20, c21, c22, cl2⟩ := hS.tv (show (w4.heap.size, tv A) ∈ _ by simp); obtain _ := hS; (try simp at hD); (try simp only [hD]); (first | (go_simp; done) | (go_simp; rfl)))
  simp only [List.nil_append, List.cons_append]
  refine seqi_run ?_ (fun vs W hD => (by first | rfl | (simp at hD; simp [Region.wanted, yielded, hD]))) (fun vs W hS hD => ?_) ?_
  rotate_left
  · (obtain ⟨c00, c01, c02, cl0⟩ := hS.tv (show (w13.heap.size, tv R) ∈ _ by simp); obtain ⟨c10, c11, c12, cl1⟩ := hS.tv (show (w9.heap.size, tv MD) ∈ _ by simp); obtain ⟨c20, c21, c22, cl2⟩ := hS.tv (show (w4.heap.size, tv A) ∈ _ by simp); obtain _ := hS; (try simp at hD); (try simp only [hD]); (first | (go_simp; done) | (go_simp; rfl)))
  simp only [List.nil_append, List.cons_append]
  refine seqi_run ?_ (fun vs W hD => (by first | rfl | (simp at hD; simp [Region.wanted, yielded, hD]))) (fun vs W hS hD => ?_) ?_
  rotate_left
  · (obtain ⟨c00, c01, c02, cl0⟩ := hS.tv (show (w13.heap.size, tv R) ∈ _ by simp); obtain ⟨c10, c11, c12, cl1⟩ := hS.tv (show (w9.heap.size, tv MD) ∈ _ by simp); obtain ⟨c20, c21, c22, cl2⟩ := hS.tv (show (w4.heap.size, tv A) ∈ _ by simp); obtain _ := hS; (try simp at hD); (try simp only [hD]); (first | (go_simp; done) | (go_simp; rfl)))
  simp only [List.nil_append, List.cons_append]
  refine seqi_run ?_ (fun vs W hD => (by first | rfl | (simp at hD; simp [Region.wanted, yielded, hD]))) (fun vs W hS hD => ?_) ?_
  rotate_left
  · (obtain ⟨c00, c01, c02, cl0⟩ := hS.tv (show (w13.heap.size, tv R) ∈ _ by simp); obtain ⟨c10, c11, c12, cl1⟩ := hS.tv (show (w9.heap.size, tv MD) ∈ _ by simp); obtain ⟨c20, c21, c22, cl2⟩ := hS.tv (show (w4.heap.size, tv A) ∈ _ by simp); obtain _ := hS; (try simp at hD); (try simp only [hD]); (first | (go_simp; done) | (go_simp; rfl)))
  simp only [List.nil_append, List.cons_append]
  refine seqi_run ?_ (fun vs W hD => (by first | rfl | (simp at hD; simp [Region.wanted, yielded, hD]))) (fun vs W hS hD => ?_) ?_
  rotate_left
  · (obtain ⟨c00, c01, c02, cl0⟩ := hS.tv (show (w13.heap.size, tv R) ∈ _ by simp); obtain ⟨c10, c11, c12, cl1⟩ := hS.tv (show (w9.heap.size, tv MD) ∈ _ by simp); obtain ⟨c20, c21, c22, cl2⟩ := hS.tv (show (w4.heap.size, tv A) ∈ _ by simp); obtain _ := hS; (try simp at hD); (try simp only [hD]); (first | (go_simp; done) | (go_simp; rfl)))
  simp only [List.nil_append, List.cons_append]
  refine seqi_run (.int .i64 (qn : Int)) (fun vs W hD => (by first | rfl | (simp at hD; simp [Region.wanted, yielded, hD]))) (fun vs W hS hD => ?_) ?_
  · (obtain ⟨c00, c01, c02, cl0⟩ := hS.tv (show (w13.heap.size, tv R) ∈ _ by simp); obtain ⟨c10, c11, c12, cl1⟩ := hS.tv (show (w9.heap.size, tv MD) ∈ _ by simp); obtain ⟨c20, c21, c22, cl2⟩ := hS.tv (show (w4.heap.size, tv A) ∈ _ by simp); obtain _ := hS; (try simp at hD); (try simp only [hD]); (first | (go_simp; done) | (go_simp; rfl)))
  simp only [List.nil_append, List.cons_append]
  refine seqi_run (.int .i64 ((P.size : Int) - (qn : Int))) (fun vs W hD => (by first | rfl | (simp at hD; simp [Region.wanted, yielded, hD]))) (fun vs W hS hD => ?_) ?_
  · (obtain ⟨c00, c01, c02, cl0⟩ := hS.tv (show (w13.heap.size, tv R) ∈ _ by simp); obtain ⟨c10, c11, c12, cl1⟩ := hS.tv (show (w9.heap.size, tv MD) ∈ _ by simp); obtain ⟨c20, c21, c22, cl2⟩ := hS.tv (show (w4.heap.size, tv A) ∈ _ by simp); obtain _ := hS; (try simp at hD); (try simp only [hD]); (first | (go_simp; done) | (go_simp; rfl)))
  simp only [List.nil_append, List.cons_append]
  refine seqi_run (.string R) (fun vs W hD => (by first | rfl | (simp at hD; simp [Region.wanted, yielded, hD]))) (fun vs W hS hD => ?_) ?_
  · (obtain ⟨c00, c01, c02, cl0⟩ := hS.tv (show (w13.heap.size, tv R) ∈ _ by simp); obtain ⟨c10, c11, c12, cl1⟩ := hS.tv (show (w9.heap.size, tv MD) ∈ _ by simp); obtain ⟨c20, c21, c22, cl2⟩ := hS.tv (show (w4.heap.size, tv A) ∈ _ by simp); obtain _ := hS; (try simp at hD); (try simp only [hD]); go_simp; intro hx; exfalso; omega)
  simp only [List.nil_append, List.cons_append]
  refine seqi_call (f := 8) (fun v _ => v = .agg #[.int .u8 3, .int .i64 0, .string R]) (stable_val _) (fun vs => #[.string R]) (fun vs W hD => (by first | rfl | (simp at hD; simp [Region.wanted, yielded, hD]))) (fun vs W hS hD => ?_) (fun vs W hS hD => ?_) ?_
  · (try simp at hD); (try simp only [hD]); go_simp; done
  · exact (ltext_any R W).mono fun e W' ⟨he, hB⟩ => ⟨⟨_, he, rfl⟩, hB⟩
  simp only [List.nil_append, List.cons_append]
  refine seqi_run ?_ (fun vs W hD => (by first | rfl | (simp at hD; simp [Region.wanted, yielded, hD]))) (fun vs W hS hD => ?_) ?_
  rotate_left
  · (obtain ⟨c00, c01, c02, cl0⟩ := hS.tv (show (w13.heap.size, tv R) ∈ _ by simp); obtain ⟨c10, c11, c12, cl1⟩ := hS.tv (show (w9.heap.size, tv MD) ∈ _ by simp); obtain ⟨c20, c21, c22, cl2⟩ := hS.tv (show (w4.heap.size, tv A) ∈ _ by simp); obtain _ := hS; (try simp at hD); (try simp only [hD]); (first | (go_simp; done) | (go_simp; rfl)))
  simp only [List.nil_append, List.cons_append]
  refine seqi_run ?_ (fun vs W hD => (by first | rfl | (simp at hD; simp [Region.wanted, yielded, hD]))) (fun vs W hS hD => ?_) ?_
  rotate_left
  · (obtain ⟨c00, c01, c02, cl0⟩ := hS.tv (show (w13.heap.size, tv R) ∈ _ by simp); obtain ⟨c10, c11, c12, cl1⟩ := hS.tv (show (w9.heap.size, tv MD) ∈ _ by simp); obtain ⟨c20, c21, c22, cl2⟩ := hS.tv (show (w4.heap.size, tv A) ∈ _ by simp); obtain _ := hS; (try simp at hD); (try simp only [hD]); (first | (go_simp; done) | (go_simp; rfl)))
  simp only [List.nil_append, List.cons_append]
  refine seqi_run ?_ (fun vs W hD => (by first | rfl | (simp at hD; simp [Region.wanted, yielded, hD]))) (fun vs W hS hD => ?_) ?_
  rotate_left
  · (obtain ⟨c00, c01, c02, cl0⟩ := hS.tv (show (w13.heap.size, tv R) ∈ _ by simp); obtain ⟨c10, c11, c12, cl1⟩ := hS.tv (show (w9.heap.size, tv MD) ∈ _ by simp); obtain ⟨c20, c21, c22, cl2⟩ := hS.tv (show (w4.heap.size, tv A) ∈ _ by simp); obtain _ := hS; (try simp at hD); (try simp only [hD]); (first | (go_simp; done) | (go_simp; rfl)))
  simp only [List.nil_append, List.cons_append]
  refine seqi_run ?_ (fun vs W hD => (by first | rfl | (simp at hD; simp [Region.wanted, yielded, hD]))) (fun vs W hS hD => ?_) ?_
  rotate_left
  · (obtain ⟨c00, c01, c02, cl0⟩ := hS.tv (show (w13.heap.size, tv R) ∈ _ by simp); obtain ⟨c10, c11, c12, cl1⟩ := hS.tv (show (w9.heap.size, tv MD) ∈ _ by simp); obtain ⟨c20, c21, c22, cl2⟩ := hS.tv (show (w4.heap.size, tv A) ∈ _ by simp); obtain _ := hS; (try simp at hD); (try simp only [hD]); (first | (go_simp; done) | (go_simp; rfl)))
  simp only [List.nil_append, List.cons_append]
  refine seqi_run ?_ (fun vs W hD => (by first | rfl | (simp at hD; simp [Region.wanted, yielded, hD]))) (fun vs W hS hD => ?_) ?_
  rotate_left
  · (obtain ⟨c00, c01, c02, cl0⟩ := hS.tv (show (w13.heap.size, tv R) ∈ _ by simp); obtain ⟨c10, c11, c12, cl1⟩ := hS.tv (show (w9.heap.size, tv MD) ∈ _ by simp); obtain ⟨c20, c21, c22, cl2⟩ := hS.tv (show (w4.heap.size, tv A) ∈ _ by simp); obtain _ := hS; (try simp at hD); (try simp only [hD]); (first | (go_simp; done) | (go_simp; rfl)))
  simp only [List.nil_append, List.cons_append]
  refine seqi_run ?_ (fun vs W hD => (by first | rfl | (simp at hD; simp [Region.wanted, yielded, hD]))) (fun vs W hS hD => ?_) ?_
  rotate_left
  · (obtain ⟨c00, c01, c02, cl0⟩ := hS.tv (show (w13.heap.size, tv R) ∈ _ by simp); obtain ⟨c10, c11, c12, cl1⟩ := hS.tv (show (w9.heap.size, tv MD) ∈ _ by simp); obtain ⟨c20, c21, c22, cl2⟩ := hS.tv (show (w4.heap.size, tv A) ∈ _ by simp); obtain _ := hS; (try simp at hD); (try simp only [hD]); (first | (go_simp; done) | (go_simp; rfl)))
  simp only [List.nil_append, List.cons_append]
  refine seqi_run ?_ (fun vs W hD => (by first | rfl | (simp at hD; simp [Region.wanted, yielded, hD]))) (fun vs W hS hD => ?_) ?_
  rotate_left
  · (obtain ⟨c00, c01, c02, cl0⟩ := hS.tv (show (w13.heap.size, tv R) ∈ _ by simp); obtain ⟨c10, c11, c12, cl1⟩ := hS.tv (show (w9.heap.size, tv MD) ∈ _ by simp); obtain ⟨c20, c21, c22, cl2⟩ := hS.tv (show (w4.heap.size, tv A) ∈ _ by simp); obtain _ := hS; (try simp at hD); (try simp only [hD]); (first | (go_simp; done) | (go_simp; rfl)))
  simp only [List.nil_append, List.cons_append]
  refine seqi_run ?_ (fun vs W hD => (by first | rfl | (simp at hD; simp [Region.wanted, yielded, hD]))) (fun vs W hS hD => ?_) ?_
  rotate_left
  · (obtain ⟨c00, c01, c02, cl0⟩ := hS.tv (show (w13.heap.size, tv R) ∈ _ by simp); obtain ⟨c10, c11, c12, cl1⟩ := hS.tv (show (w9.heap.size, tv MD) ∈ _ by simp); obtain ⟨c20, c21, c22, cl2⟩ := hS.tv (show (w4.heap.size, tv A) ∈ _ by simp); obtain _ := hS; (try simp at hD); (try simp only [hD]); (first | (go_simp; done) | (go_simp; rfl)))
  simp only [List.nil_append, List.cons_append]
  refine seqi_run ?_ (fun vs W hD => (by first | rfl | (simp at hD; simp [Region.wanted, yielded, hD]))) (fun vs W hS hD => ?_) ?_
  rotate_left
  · (obtain ⟨c00, c01, c02, cl0⟩ := hS.tv (show (w13.heap.size, tv R) ∈ _ by simp); obtain ⟨c10, c11, c12, cl1⟩ := hS.tv (show (w9.heap.size, tv MD) ∈ _ by simp); obtain ⟨c20, c21, c22, cl2⟩ := hS.tv (show (w4.heap.size, tv A) ∈ _ by simp); obtain _ := hS; (try simp at hD); (try simp only [hD]); (first | (go_simp; done) | (go_simp; rfl)))
  simp only [List.nil_append, List.cons_append]
  refine seqi_run (.int .i64 (qn : Int)) (fun vs W hD => (by first | rfl | (simp at hD; simp [Region.wanted, yielded, hD]))) (fun vs W hS hD => ?_) ?_
  · (obtain ⟨c00, c01, c02, cl0⟩ := hS.tv (show (w13.heap.size, tv R) ∈ _ by simp); obtain ⟨c10, c11, c12, cl1⟩ := hS.tv (show (w9.heap.size, tv MD) ∈ _ by simp); obtain ⟨c20, c21, c22, cl2⟩ := hS.tv (show (w4.heap.size, tv A) ∈ _ by simp); obtain _ := hS; (try simp at hD); (try simp only [hD]); (first | (go_simp; done) | (go_simp; rfl)))
  simp only [List.nil_append, List.cons_append]
  refine seqi_run (.string A) (fun vs W hD => (by first | rfl | (simp at hD; simp [Region.wanted, yielded, hD]))) (fun vs W hS hD => ?_) ?_
  · (obtain ⟨c00, c01, c02, cl0⟩ := hS.tv (show (w13.heap.size, tv R) ∈ _ by simp); obtain ⟨c10, c11, c12, cl1⟩ := hS.tv (show (w9.heap.size, tv MD) ∈ _ by simp); obtain ⟨c20, c21, c22, cl2⟩ := hS.tv (show (w4.heap.size, tv A) ∈ _ by simp); obtain _ := hS; (try simp at hD); (try simp only [hD]); (first | (go_simp; done) | (go_simp; rfl)))
  simp only [List.nil_append, List.cons_append]
  refine seqi_run ?_ (fun vs W hD => (by first | rfl | (simp at hD; simp [Region.wanted, yielded, hD]))) (fun vs W hS hD => ?_) ?_
  rotate_left
  · (obtain ⟨c00, c01, c02, cl0⟩ := hS.tv (show (w13.heap.size, tv R) ∈ _ by simp); obtain ⟨c10, c11, c12, cl1⟩ := hS.tv (show (w9.heap.size, tv MD) ∈ _ by simp); obtain ⟨c20, c21, c22, cl2⟩ := hS.tv (show (w4.heap.size, tv A) ∈ _ by simp); obtain _ := hS; (try simp at hD); (try simp only [hD]); (first | (go_simp; done) | (go_simp; rfl)))
  simp only [List.nil_append, List.cons_append]
  refine seqi_run (.bool false) (fun vs W hD => (by first | rfl | (simp at hD; simp [Region.wanted, yielded, hD]))) (fun vs W hS hD => ?_) ?_
  · (obtain ⟨c00, c01, c02, cl0⟩ := hS.tv (show (w13.heap.size, tv R) ∈ _ by simp); obtain ⟨c10, c11, c12, cl1⟩ := hS.tv (show (w9.heap.size, tv MD) ∈ _ by simp); obtain ⟨c20, c21, c22, cl2⟩ := hS.tv (show (w4.heap.size, tv A) ∈ _ by simp); obtain _ := hS; (try simp at hD); (try simp only [hD]); (first | (go_simp; done) | (go_simp; rfl)))
  simp only [List.nil_append, List.cons_append]
  refine seqi_end fun vs W hS hv => ?_
  simp only [AllF, Nat.zero_add, Nat.reduceAdd] at hv
  obtain ⟨h0, h1, h2, h3, h4, h5, h6, h7, h8, h9, h10, h11, h12, h13, h14, h15, h16, h17, h18, h19, h20, h21, h22, h23, h24, h25, h26, h27, h28, h29, h30, h31, h32, h33, h34, h35, h36, h37, h38, h39, h40, h41, _⟩ := hv
  simp only [h0, h1, h2, h3, h4, h5, h6, h7, h8, h9, h10, h11, h12, h13, h14, h15, h16, h17, h18, h19, h20, h21, h22, h23, h24, h25, h26, h27, h28, h29, h30, h31, h32, h33, h34, h35, h36, h37, h38, h39, h40, h41]
  clear h0 h1 h2 h3 h4 h5 h6 h7 h8 h9 h10 h11 h12 h13 h14 h15 h16 h17 h18 h19 h20 h21 h22 h23 h24 h25 h26 h27 h28 h29 h30 h31 h32 h33 h34 h35 h36 h37 h38 h39 h40 h41
  have H15 := Lib.hid hS
  clear hS H14
  generalize W = w15 at *
  clear hqs eA eR eAM hws zMD
  go_wp2_with fail
  refine (ltext_any P _).mono ?_
  rintro e w16 ⟨rfl, hB⟩
  have H16 := Lib.hid (H15.out.next hB)
  clear hB H15
  go_wp2_with fail
  refine (lnum_any ((m : Int) * 10000) _).mono ?_
  rintro e w17 ⟨rfl, hB⟩
  have H17 := Lib.hid (H16.out.next hB)
  clear hB H16
  go_wp2_with fail
  have hV := isV_new w17 #[.int .u8 3, .int .i64 0, .string P, .int .u8 1, .int .i64 ((m : Int) * 10000), .string ⟨#[]⟩] 24 [tv P, nv ((m : Int) * 10000)] rfl
  have hbb := valloc w17 (.cells #[.int .u8 3, .int .i64 0, .string P, .int .u8 1, .int .i64 ((m : Int) * 10000), .string ⟨#[]⟩] 24)
  refine (CL1.out _ _ _ (vnext H17.out.1 hbb) hV).mono ?_
  rintro e w18 ⟨rfl, hB⟩
  have H18 := Lib.hid (H17.out.next (vnext hbb hB))
  clear hV hbb hB H17
  go_wp2_with fail
  refine (lnum_any ((n : Int) * 10000) _).mono ?_
  rintro e w19 ⟨rfl, hB⟩
  have H19 := Lib.hid (H18.out.next hB)
  clear hB H18
  go_wp2_with fail
  have hV := isV_new w19 #[.int .u8 3, .int .i64 0, .string LM, .int .u8 1, .int .i64 ((n : Int) * 10000), .string ⟨#[]⟩] 24 [tv LM, nv ((n : Int) * 10000)] rfl
  have hbb := valloc w19 (.cells #[.int .u8 3, .int .i64 0, .string LM, .int .u8 1, .int .i64 ((n : Int) * 10000), .string ⟨#[]⟩] 24)
  refine (CL2.out _ _ _ (vnext H19.out.1 hbb) hV).mono ?_
  rintro e w20 ⟨rfl, hB⟩
  have H20 := Lib.hid (H19.out.next (vnext hbb hB))
  clear hV hbb hB H19
  have H21 : Hid (St w (w20.alloc (.cells #[.int .u8 3, .int .i64 0, .string LL] 24)) ((w20.heap.size, tv LL) :: ((w13.heap.size, tv R) :: ((w9.heap.size, tv MD) :: ((w4.heap.size, tv A) :: []))))) := Lib.hid (H20.out.add (tv LL))
  clear H20
  go_upto_region 9 with fail
  generalize hwn : w20.alloc (.cells #[.int .u8 3, .int .i64 0, .string LL] 24) = w21 at *
  clear hwn
  have hmn : IntKind.i64.wrap (min (m : Int) (n : Int) * 10000) = min (m : Int) (n : Int) * 10000 := IntWalk.i64_in _ (by omega)
  refine wp_region_seqi (fun X => St w X ((w20.heap.size, tv LL) :: ((w13.heap.size, tv R) :: ((w9.heap.size, tv MD) :: ((w4.heap.size, tv A) :: []))))) (fun X X2 hB h => h.next hB) (by kernel_rfl) (by kernel_rfl) (by kernel_rfl) H21.out.drew ?_
  simp only [putsL, Act.put, List.setIfInBounds_toArray, List.set_cons_zero, List.set_cons_succ, Nat.zero_add, Nat.reduceAdd]
  refine seqi_run ?_ (fun vs W hD => (by first | rfl | (simp at hD; simp [Region.wanted, yielded, hD]))) (fun vs W hS hD => ?_) ?_
  rotate_left
  · (obtain ⟨c00, c01, c02, cl0⟩ := hS.tv (show (w20.heap.size, tv LL) ∈ _ by simp); obtain _ := hS; (try simp at hD); (try simp only [hD]); (first | (go_simp; done) | (go_simp; rfl)))
  simp only [List.nil_append, List.cons_append]
  refine seqi_run ?_ (fun vs W hD => (by first | rfl | (simp at hD; simp [Region.wanted, yielded, hD]))) (fun vs W hS hD => ?_) ?_
  rotate_left
  · (obtain ⟨c00, c01, c02, cl0⟩ := hS.tv (show (w20.heap.size, tv LL) ∈ _ by simp); obtain _ := hS; (try simp at hD); (try simp only [hD]); (first | (go_simp; done) | (go_simp; rfl)))
  simp only [List.nil_append, List.cons_append]
  refine seqi_call (f := 8) (fun v _ => v = .agg #[.int .u8 3, .int .i64 0, .string P]) (stable_val _) (fun vs => #[.string P]) (fun vs W hD => (by first | rfl | (simp at hD; simp [Region.wanted, yielded, hD]))) (fun vs W hS hD => ?_) (fun vs W hS hD => ?_) ?_
  · (try simp at hD); (try simp only [hD]); go_simp; done
  · exact (ltext_any P W).mono fun e W' ⟨he, hB⟩ => ⟨⟨_, he, rfl⟩, hB⟩
  simp only [List.nil_append, List.cons_append]
  refine seqi_run ?_ (fun vs W hD => (by first | rfl | (simp at hD; simp [Region.wanted, yielded, hD]))) (fun vs W hS hD => ?_) ?_
  rotate_left
  · (obtain ⟨c00, c01, c02, cl0⟩ := hS.tv (show (w20.heap.size, tv LL) ∈ _ by simp); obtain _ := hS; (try simp at hD); (try simp only [hD]); (first | (go_simp; done) | (go_simp; rfl)))
  simp only [List.nil_append, List.cons_append]
  refine seqi_run ?_ (fun vs W hD => (by first | rfl | (simp at hD; simp [Region.wanted, yielded, hD]))) (fun vs W hS hD => ?_) ?_
  rotate_left
  · (obtain ⟨c00, c01, c02, cl0⟩ := hS.tv (show (w20.heap.size, tv LL) ∈ _ by simp); obtain _ := hS; (try simp at hD); (try simp only [hD]); (first | (go_simp; done) | (go_simp; rfl)))
  simp only [List.nil_append, List.cons_append]
  refine seqi_run (.int .i64 (min (m : Int) (n : Int))) (fun vs W hD => (by first | rfl | (simp at hD; simp [Region.wanted, yielded, hD]))) (fun vs W hS hD => ?_) ?_
  · (obtain ⟨c00, c01, c02, cl0⟩ := hS.tv (show (w20.heap.size, tv LL) ∈ _ by simp); obtain _ := hS; (try simp at hD); (try simp only [hD]); (first | (go_simp; done) | (go_simp; rfl)))
  simp only [List.nil_append, List.cons_append]
  refine seqi_run (.int .i64 (min (m : Int) (n : Int) * 10000)) (fun vs W hD => (by first | rfl | (simp at hD; simp [Region.wanted, yielded, hD]))) (fun vs W hS hD => ?_) ?_
  · (obtain ⟨c00, c01, c02, cl0⟩ := hS.tv (show (w20.heap.size, tv LL) ∈ _ by simp); obtain _ := hS; (try simp at hD); (try simp only [hD]); (first | (go_simp; done) | (go_simp; rfl)))
  simp only [List.nil_append, List.cons_append]
  refine seqi_call (f := 9) (fun v _ => v = .agg #[.int .u8 1, .int .i64 (min (m : Int) (n : Int) * 10000), .string ⟨#[]⟩]) (stable_val _) (fun vs => #[.int .i64 (min (m : Int) (n : Int) * 10000)]) (fun vs W hD => (by first | rfl | (simp at hD; simp [Region.wanted, yielded, hD]))) (fun vs W hS hD => ?_) (fun vs W hS hD => ?_) ?_
  · (try simp at hD); (try simp only [hD]); go_simp; done
  · exact (lnum_any (min (m : Int) (n : Int) * 10000) W).mono fun e W' ⟨he, hB⟩ => ⟨⟨_, he, rfl⟩, hB⟩
  simp only [List.nil_append, List.cons_append]
  refine seqi_oper (SlV [tv P, nv (min (m : Int) (n : Int) * 10000)]) (slV_stable _) (fun vs W hD => (by first | rfl | (simp at hD; simp [Region.wanted, yielded, hD]))) (fun vs W hS hD => ?_) ?_
  · (try simp at hD); unfold OperR; (try simp only [hD]); go_simp; exact ⟨⟨_, _, rfl, isV_new _ _ _ _ rfl⟩, valloc _ _⟩
  simp only [List.nil_append, List.cons_append]
  refine seqi_call (f := 7) (fun v _ => v = .agg #[.int .u8 3, .int .i64 0, .string LL]) (stable_val _) (fun vs => #[.int .u8 32, vs 8]) (fun vs W hD => (by first | rfl | (simp at hD; simp [Region.wanted, yielded, hD]))) (fun vs W hS hD => ?_) (fun vs W hS hD => ?_) ?_
  · (try simp at hD); (try simp only [hD]); go_simp; done
  · ((try simp [DepA, isB, rsAt] at hD); obtain ⟨ya, yc, ye, yi⟩ := (by first | exact hD | exact hD.1 : SlV _ _ _); rw [ye]; exact (CL3.out ya yc W hS.1 yi).mono fun e W' ⟨he, hB⟩ => ⟨⟨_, he, rfl⟩, hB⟩)
  simp only [List.nil_append, List.cons_append]
  refine seqi_run (.bool false) (fun vs W hD => (by first | rfl | (simp at hD; simp [Region.wanted, yielded, hD]))) (fun vs W hS hD => ?_) ?_
  · (obtain ⟨c00, c01, c02, cl0⟩ := hS.tv (show (w20.heap.size, tv LL) ∈ _ by simp); obtain _ := hS; (try simp at hD); (try simp only [hD]); (first | (go_simp; done) | (go_simp; rfl)))
  simp only [List.nil_append, List.cons_append]
  refine seqi_end fun vs W hS hv => ?_
  simp only [AllF, Nat.zero_add, Nat.reduceAdd] at hv
  obtain ⟨h0, h1, h2, h3, h4, h5, h6, h7, h8, h9, h10, _⟩ := hv
  obtain ⟨sa8, sc8, h8, _⟩ := h8
  simp only [h0, h1, h2, h3, h4, h5, h6, h7, h8, h9, h10]
  clear h0 h1 h2 h3 h4 h5 h6 h7 h8 h9 h10
  have H22 := Lib.hid hS
  clear hS H21
  generalize W = w22 at *
  clear hmn
  go_wp2_with fail
  refine (ltext_any P _).mono ?_
  rintro e w23 ⟨rfl, hB⟩
  have H23 := Lib.hid (H22.out.next hB)
  clear hB H22
  go_wp2_with fail
  have hV := isV_new w23 #[.int .u8 3, .int .i64 0, .string P] 24 [tv P] rfl
  have hbb := valloc w23 (.cells #[.int .u8 3, .int .i64 0, .string P] 24)
  refine (CU.out _ _ _ (vnext H23.out.1 hbb) hV).mono ?_
  rintro e w24 ⟨rfl, hB⟩
  have H24 := Lib.hid (H23.out.next (vnext hbb hB))
  clear hV hbb hB H23
  go_wp2_with fail
  refine (ltext_any P _).mono ?_
  rintro e w25 ⟨rfl, hB⟩
  have H25 := Lib.hid (H24.out.next hB)
  clear hB H24
  go_wp2_with fail
  have hV := isV_new w25 #[.int .u8 3, .int .i64 0, .string P] 24 [tv P] rfl
  have hbb := valloc w25 (.cells #[.int .u8 3, .int .i64 0, .string P] 24)
  refine (CLo.out _ _ _ (vnext H25.out.1 hbb) hV).mono ?_
  rintro e w26 ⟨rfl, hB⟩
  have H26 := Lib.hid (H25.out.next (vnext hbb hB))
  clear hV hbb hB H25
  have H27 : Hid (St w ((w26.alloc (.cells #[.int .u8 3, .int .i64 0, .string U] 24)).alloc (.cells #[.int .u8 3, .int .i64 0, .string Lo] 24)) ((w26.heap.size + 1, tv Lo) :: (w26.heap.size, tv U) :: ((w20.heap.size, tv LL) :: ((w13.heap.size, tv R) :: ((w9.heap.size, tv MD) :: ((w4.heap.size, tv A) :: [])))))) := Lib.hid (by have h := (H26.out.add (tv U)).add (tv Lo); simp at h; exact h)
  clear H26
  go_upto_region 12 with fail
  generalize hwn : (w26.alloc (.cells #[.int .u8 3, .int .i64 0, .string U] 24)).alloc (.cells #[.int .u8 3, .int .i64 0, .string Lo] 24) = w27 at *
  clear hwn
  have hUz : ((U.size : Int) == (P.size : Int)) = true := by rw [zU]; simp
  have hLz : ((Lo.size : Int) == (P.size : Int)) = true := by rw [zLo]; simp
  clear zU zLo
  by_cases hle : P.size ≤ n
  · have hE : EX = 1 := by rw [← HEX.out, show decide (A = P) = true by rw [decide_eq_true_iff]; exact HAP.out.2 hle]; rfl
    rw [hE] at CE1 CE2
    clear hE HEX HAP
    have hle2 : (P.size : Int) ≤ (n : Int) := by omega
    refine wp_region_seqi (fun X => St w X ((w26.heap.size + 1, tv Lo) :: (w26.heap.size, tv U) :: ((w20.heap.size, tv LL) :: ((w13.heap.size, tv R) :: ((w9.heap.size, tv MD) :: ((w4.heap.size, tv A) :: [])))))) (fun X X2 hB h => h.next hB) (by kernel_rfl) (by kernel_rfl) (by kernel_rfl) H27.out.drew ?_
    simp only [putsL, Act.put, List.setIfInBounds_toArray, List.set_cons_zero, List.set_cons_succ, Nat.zero_add, Nat.reduceAdd]
    refine seqi_run ?_ (fun vs W hD => (by first | rfl | (simp at hD; simp [Region.wanted, yielded, hD]))) (fun vs W hS hD => ?_) ?_
    rotate_left
    · (obtain ⟨c00, c01, c02, cl0⟩ := hS.tv (show (w26.heap.size + 1, tv Lo) ∈ _ by simp); obtain ⟨c10, c11, c12, cl1⟩ := hS.tv (show (w26.heap.size, tv U) ∈ _ by simp); obtain ⟨c50, c51, c52, cl5⟩ := hS.tv (show (w4.heap.size, tv A) ∈ _ by simp); obtain _ := hS; (try simp at hD); (try simp only [hD]); (first | (go_simp; done) | (go_simp; rfl)))
    simp only [List.nil_append, List.cons_append]
    refine seqi_run ?_ (fun vs W hD => (by first | rfl | (simp at hD; simp [Region.wanted, yielded, hD]))) (fun vs W hS hD => ?_) ?_
    rotate_left
    · (obtain ⟨c00, c01, c02, cl0⟩ := hS.tv (show (w26.heap.size + 1, tv Lo) ∈ _ by simp); obtain ⟨c10, c11, c12, cl1⟩ := hS.tv (show (w26.heap.size, tv U) ∈ _ by simp); obtain ⟨c50, c51, c52, cl5⟩ := hS.tv (show (w4.heap.size, tv A) ∈ _ by simp); obtain _ := hS; (try simp at hD); (try simp only [hD]); (first | (go_simp; done) | (go_simp; rfl)))
    simp only [List.nil_append, List.cons_append]
    refine seqi_run ?_ (fun vs W hD => (by first | rfl | (simp at hD; simp [Region.wanted, yielded, hD]))) (fun vs W hS hD => ?_) ?_
    rotate_left
    · (obtain ⟨c00, c01, c02, cl0⟩ := hS.tv (show (w26.heap.size + 1, tv Lo) ∈ _ by simp); obtain ⟨c10, c11, c12, cl1⟩ := hS.tv (show (w26.heap.size, tv U) ∈ _ by simp); obtain ⟨c50, c51, c52, cl5⟩ := hS.tv (show (w4.heap.size, tv A) ∈ _ by simp); obtain _ := hS; (try simp at hD); (try simp only [hD]); (first | (go_simp; done) | (go_simp; rfl)))
    simp only [List.nil_append, List.cons_append]
    refine seqi_run ?_ (fun vs W hD => (by first | rfl | (simp at hD; simp [Region.wanted, yielded, hD]))) (fun vs W hS hD => ?_) ?_
    rotate_left
    · (obtain ⟨c00, c01, c02, cl0⟩ := hS.tv (show (w26.heap.size + 1, tv Lo) ∈ _ by simp); obtain ⟨c10, c11, c12, cl1⟩ := hS.tv (show (w26.heap.size, tv U) ∈ _ by simp); obtain ⟨c50, c51, c52, cl5⟩ := hS.tv (show (w4.heap.size, tv A) ∈ _ by simp); obtain _ := hS; (try simp at hD); (try simp only [hD]); (first | (go_simp; done) | (go_simp; rfl)))
    simp only [List.nil_append, List.cons_append]
    refine seqi_run ?_ (fun vs W hD => (by first | rfl | (simp at hD; simp [Region.wanted, yielded, hD]))) (fun vs W hS hD => ?_) ?_
    rotate_left
    · (obtain ⟨c00, c01, c02, cl0⟩ := hS.tv (show (w26.heap.size + 1, tv Lo) ∈ _ by simp); obtain ⟨c10, c11, c12, cl1⟩ := hS.tv (show (w26.heap.size, tv U) ∈ _ by simp); obtain ⟨c50, c51, c52, cl5⟩ := hS.tv (show (w4.heap.size, tv A) ∈ _ by simp); obtain _ := hS; (try simp at hD); (try simp only [hD]); (first | (go_simp; done) | (go_simp; rfl)))
    simp only [List.nil_append, List.cons_append]
    refine seqi_run ?_ (fun vs W hD => (by first | rfl | (simp at hD; simp [Region.wanted, yielded, hD]))) (fun vs W hS hD => ?_) ?_
    rotate_left
    · (obtain ⟨c00, c01, c02, cl0⟩ := hS.tv (show (w26.heap.size + 1, tv Lo) ∈ _ by simp); obtain ⟨c10, c11, c12, cl1⟩ := hS.tv (show (w26.heap.size, tv U) ∈ _ by simp); obtain ⟨c50, c51, c52, cl5⟩ := hS.tv (show (w4.heap.size, tv A) ∈ _ by simp); obtain _ := hS; (try simp at hD); (try simp only [hD]); (first | (go_simp; done) | (go_simp; rfl)))
    simp only [List.nil_append, List.cons_append]
    refine seqi_run ?_ (fun vs W hD => (by first | rfl | (simp at hD; simp [Region.wanted, yielded, hD]))) (fun vs W hS hD => ?_) ?_
    rotate_left
    · (obtain ⟨c00, c01, c02, cl0⟩ := hS.tv (show (w26.heap.size + 1, tv Lo) ∈ _ by simp); obtain ⟨c10, c11, c12, cl1⟩ := hS.tv (show (w26.heap.size, tv U) ∈ _ by simp); obtain ⟨c50, c51, c52, cl5⟩ := hS.tv (show (w4.heap.size, tv A) ∈ _ by simp); obtain _ := hS; (try simp at hD); (try simp only [hD]); (first | (go_simp; done) | (go_simp; rfl)))
    simp only [List.nil_append, List.cons_append]
    refine seqi_run ?_ (fun vs W hD => (by first | rfl | (simp at hD; simp [Region.wanted, yielded, hD]))) (fun vs W hS hD => ?_) ?_
    rotate_left
    · (obtain ⟨c00, c01, c02, cl0⟩ := hS.tv (show (w26.heap.size + 1, tv Lo) ∈ _ by simp); obtain ⟨c10, c11, c12, cl1⟩ := hS.tv (show (w26.heap.size, tv U) ∈ _ by simp); obtain ⟨c50, c51, c52, cl5⟩ := hS.tv (show (w4.heap.size, tv A) ∈ _ by simp); obtain _ := hS; (try simp at hD); (try simp only [hD]); (first | (go_simp; done) | (go_simp; rfl)))
    simp only [List.nil_append, List.cons_append]
    refine seqi_run ?_ (fun vs W hD => (by first | rfl | (simp at hD; simp [Region.wanted, yielded, hD]))) (fun vs W hS hD => ?_) ?_
    rotate_left
    · (obtain ⟨c00, c01, c02, cl0⟩ := hS.tv (show (w26.heap.size + 1, tv Lo) ∈ _ by simp); obtain ⟨c10, c11, c12, cl1⟩ := hS.tv (show (w26.heap.size, tv U) ∈ _ by simp); obtain ⟨c50, c51, c52, cl5⟩ := hS.tv (show (w4.heap.size, tv A) ∈ _ by simp); obtain _ := hS; (try simp at hD); (try simp only [hD]); (first | (go_simp; done) | (go_simp; rfl)))
    simp only [List.nil_append, List.cons_append]
    refine seqi_run ?_ (fun vs W hD => (by first | rfl | (simp at hD; simp [Region.wanted, yielded, hD]))) (fun vs W hS hD => ?_) ?_
    rotate_left
    · (obtain ⟨c00, c01, c02, cl0⟩ := hS.tv (show (w26.heap.size + 1, tv Lo) ∈ _ by simp); obtain ⟨c10, c11, c12, cl1⟩ := hS.tv (show (w26.heap.size, tv U) ∈ _ by simp); obtain ⟨c50, c51, c52, cl5⟩ := hS.tv (show (w4.heap.size, tv A) ∈ _ by simp); obtain _ := hS; (try simp at hD); (try simp only [hD]); (first | (go_simp; done) | (go_simp; rfl)))
    simp only [List.nil_append, List.cons_append]
    refine seqi_run ?_ (fun vs W hD => (by first | rfl | (simp at hD; simp [Region.wanted, yielded, hD]))) (fun vs W hS hD => ?_) ?_
    rotate_left
    · (obtain ⟨c00, c01, c02, cl0⟩ := hS.tv (show (w26.heap.size + 1, tv Lo) ∈ _ by simp); obtain ⟨c10, c11, c12, cl1⟩ := hS.tv (show (w26.heap.size, tv U) ∈ _ by simp); obtain ⟨c50, c51, c52, cl5⟩ := hS.tv (show (w4.heap.size, tv A) ∈ _ by simp); obtain _ := hS; (try simp at hD); (try simp only [hD]); (first | (go_simp; done) | (go_simp; rfl)))
    simp only [List.nil_append, List.cons_append]
    refine seqi_run ?_ (fun vs W hD => (by first | rfl | (simp at hD; simp [Region.wanted, yielded, hD]))) (fun vs W hS hD => ?_) ?_
    rotate_left
    · (obtain ⟨c00, c01, c02, cl0⟩ := hS.tv (show (w26.heap.size + 1, tv Lo) ∈ _ by simp); obtain ⟨c10, c11, c12, cl1⟩ := hS.tv (show (w26.heap.size, tv U) ∈ _ by simp); obtain ⟨c50, c51, c52, cl5⟩ := hS.tv (show (w4.heap.size, tv A) ∈ _ by simp); obtain _ := hS; (try simp at hD); (try simp only [hD]); (first | (go_simp; done) | (go_simp; rfl)))
    simp only [List.nil_append, List.cons_append]
    refine seqi_run ?_ (fun vs W hD => (by first | rfl | (simp at hD; simp [Region.wanted, yielded, hD]))) (fun vs W hS hD => ?_) ?_
    rotate_left
    · (obtain ⟨c00, c01, c02, cl0⟩ := hS.tv (show (w26.heap.size + 1, tv Lo) ∈ _ by simp); obtain ⟨c10, c11, c12, cl1⟩ := hS.tv (show (w26.heap.size, tv U) ∈ _ by simp); obtain ⟨c50, c51, c52, cl5⟩ := hS.tv (show (w4.heap.size, tv A) ∈ _ by simp); obtain _ := hS; (try simp at hD); (try simp only [hD]); (first | (go_simp; done) | (go_simp; rfl)))
    simp only [List.nil_append, List.cons_append]
    refine seqi_run ?_ (fun vs W hD => (by first | rfl | (simp at hD; simp [Region.wanted, yielded, hD]))) (fun vs W hS hD => ?_) ?_
    rotate_left
    · (obtain ⟨c00, c01, c02, cl0⟩ := hS.tv (show (w26.heap.size + 1, tv Lo) ∈ _ by simp); obtain ⟨c10, c11, c12, cl1⟩ := hS.tv (show (w26.heap.size, tv U) ∈ _ by simp); obtain ⟨c50, c51, c52, cl5⟩ := hS.tv (show (w4.heap.size, tv A) ∈ _ by simp); obtain _ := hS; (try simp at hD); (try simp only [hD]); (first | (go_simp; done) | (go_simp; rfl)))
    simp only [List.nil_append, List.cons_append]
    refine seqi_run ?_ (fun vs W hD => (by first | rfl | (simp at hD; simp [Region.wanted, yielded, hD]))) (fun vs W hS hD => ?_) ?_
    rotate_left
    · (obtain ⟨c00, c01, c02, cl0⟩ := hS.tv (show (w26.heap.size + 1, tv Lo) ∈ _ by simp); obtain ⟨c10, c11, c12, cl1⟩ := hS.tv (show (w26.heap.size, tv U) ∈ _ by simp); obtain ⟨c50, c51, c52, cl5⟩ := hS.tv (show (w4.heap.size, tv A) ∈ _ by simp); obtain _ := hS; (try simp at hD); (try simp only [hD]); (first | (go_simp; done) | (go_simp; rfl)))
    simp only [List.nil_append, List.cons_append]
    refine seqi_run ?_ (fun vs W hD => (by first | rfl | (simp at hD; simp [Region.wanted, yielded, hD]))) (fun vs W hS hD => ?_) ?_
    rotate_left
    · (obtain ⟨c00, c01, c02, cl0⟩ := hS.tv (show (w26.heap.size + 1, tv Lo) ∈ _ by simp); obtain ⟨c10, c11, c12, cl1⟩ := hS.tv (show (w26.heap.size, tv U) ∈ _ by simp); obtain ⟨c50, c51, c52, cl5⟩ := hS.tv (show (w4.heap.size, tv A) ∈ _ by simp); obtain _ := hS; (try simp at hD); (try simp only [hD]); (first | (go_simp; done) | (go_simp; rfl)))
    simp only [List.nil_append, List.cons_append]
    refine seqi_oper (SlV [tv Lo]) (slV_stable _) (fun vs W hD => (by first | rfl | (simp at hD; simp [Region.wanted, yielded, hD]))) (fun vs W hS hD => ?_) ?_
    · (try simp at hD); unfold OperR; (try simp only [hD]); go_simp; exact ⟨⟨_, _, rfl, isV_new _ _ _ _ rfl⟩, valloc _ _⟩
    simp only [List.nil_append, List.cons_append]
    refine seqi_call (f := 7) (fun v _ => v = .agg #[.int .u8 3, .int .i64 0, .string U]) (stable_val _) (fun vs => #[.int .u8 35, vs 16]) (fun vs W hD => (by first | rfl | (simp at hD; simp [Region.wanted, yielded, hD]))) (fun vs W hS hD => ?_) (fun vs W hS hD => ?_) ?_
    · (try simp at hD); (try simp only [hD]); go_simp; done
    · ((try simp [DepA, isB, rsAt] at hD); obtain ⟨ya, yc, ye, yi⟩ := (by first | exact hD | exact hD.1 : SlV _ _ _); rw [ye]; exact (CUL.out ya yc W hS.1 yi).mono fun e W' ⟨he, hB⟩ => ⟨⟨_, he, rfl⟩, hB⟩)
    simp only [List.nil_append, List.cons_append]
    refine seqi_run ?_ (fun vs W hD => (by first | rfl | (simp at hD; simp [Region.wanted, yielded, hD]))) (fun vs W hS hD => ?_) ?_
    rotate_left
    · (obtain ⟨c00, c01, c02, cl0⟩ := hS.tv (show (w26.heap.size + 1, tv Lo) ∈ _ by simp); obtain ⟨c10, c11, c12, cl1⟩ := hS.tv (show (w26.heap.size, tv U) ∈ _ by simp); obtain ⟨c50, c51, c52, cl5⟩ := hS.tv (show (w4.heap.size, tv A) ∈ _ by simp); obtain _ := hS; (try simp at hD); (try simp only [hD]); (first | (go_simp; done) | (go_simp; rfl)))
    simp only [List.nil_append, List.cons_append]
    refine seqi_run ?_ (fun vs W hD => (by first | rfl | (simp at hD; simp [Region.wanted, yielded, hD]))) (fun vs W hS hD => ?_) ?_
    rotate_left
    · (obtain ⟨c00, c01, c02, cl0⟩ := hS.tv (show (w26.heap.size + 1, tv Lo) ∈ _ by simp); obtain ⟨c10, c11, c12, cl1⟩ := hS.tv (show (w26.heap.size, tv U) ∈ _ by simp); obtain ⟨c50, c51, c52, cl5⟩ := hS.tv (show (w4.heap.size, tv A) ∈ _ by simp); obtain _ := hS; (try simp at hD); (try simp only [hD]); (first | (go_simp; done) | (go_simp; rfl)))
    simp only [List.nil_append, List.cons_append]
    refine seqi_run ?_ (fun vs W hD => (by first | rfl | (simp at hD; simp [Region.wanted, yielded, hD]))) (fun vs W hS hD => ?_) ?_
    rotate_left
    · (obtain ⟨c00, c01, c02, cl0⟩ := hS.tv (show (w26.heap.size + 1, tv Lo) ∈ _ by simp); obtain ⟨c10, c11, c12, cl1⟩ := hS.tv (show (w26.heap.size, tv U) ∈ _ by simp); obtain ⟨c50, c51, c52, cl5⟩ := hS.tv (show (w4.heap.size, tv A) ∈ _ by simp); obtain _ := hS; (try simp at hD); (try simp only [hD]); (first | (go_simp; done) | (go_simp; rfl)))
    simp only [List.nil_append, List.cons_append]
    refine seqi_run ?_ (fun vs W hD => (by first | rfl | (simp at hD; simp [Region.wanted, yielded, hD]))) (fun vs W hS hD => ?_) ?_
    rotate_left
    · (obtain ⟨c00, c01, c02, cl0⟩ := hS.tv (show (w26.heap.size + 1, tv Lo) ∈ _ by simp); obtain ⟨c10, c11, c12, cl1⟩ := hS.tv (show (w26.heap.size, tv U) ∈ _ by simp); obtain ⟨c50, c51, c52, cl5⟩ := hS.tv (show (w4.heap.size, tv A) ∈ _ by simp); obtain _ := hS; (try simp at hD); (try simp only [hD]); (first | (go_simp; done) | (go_simp; rfl)))
    simp only [List.nil_append, List.cons_append]
    refine seqi_run ?_ (fun vs W hD => (by first | rfl | (simp at hD; simp [Region.wanted, yielded, hD]))) (fun vs W hS hD => ?_) ?_
    rotate_left
    · (obtain ⟨c00, c01, c02, cl0⟩ := hS.tv (show (w26.heap.size + 1, tv Lo) ∈ _ by simp); obtain ⟨c10, c11, c12, cl1⟩ := hS.tv (show (w26.heap.size, tv U) ∈ _ by simp); obtain ⟨c50, c51, c52, cl5⟩ := hS.tv (show (w4.heap.size, tv A) ∈ _ by simp); obtain _ := hS; (try simp at hD); (try simp only [hD]); (first | (go_simp; done) | (go_simp; rfl)))
    simp only [List.nil_append, List.cons_append]
    refine seqi_run ?_ (fun vs W hD => (by first | rfl | (simp at hD; simp [Region.wanted, yielded, hD]))) (fun vs W hS hD => ?_) ?_
    rotate_left
    · (obtain ⟨c00, c01, c02, cl0⟩ := hS.tv (show (w26.heap.size + 1, tv Lo) ∈ _ by simp); obtain ⟨c10, c11, c12, cl1⟩ := hS.tv (show (w26.heap.size, tv U) ∈ _ by simp); obtain ⟨c50, c51, c52, cl5⟩ := hS.tv (show (w4.heap.size, tv A) ∈ _ by simp); obtain _ := hS; (try simp at hD); (try simp only [hD]); (first | (go_simp; done) | (go_simp; rfl)))
    simp only [List.nil_append, List.cons_append]
    refine seqi_call (f := 8) (fun v _ => v = .agg #[.int .u8 3, .int .i64 0, .string P]) (stable_val _) (fun vs => #[.string P]) (fun vs W hD => (by first | rfl | (simp at hD; simp [Region.wanted, yielded, hD]))) (fun vs W hS hD => ?_) (fun vs W hS hD => ?_) ?_
    · (try simp at hD); (try simp only [hD]); go_simp; done
    · exact (ltext_any P W).mono fun e W' ⟨he, hB⟩ => ⟨⟨_, he, rfl⟩, hB⟩
    simp only [List.nil_append, List.cons_append]
    refine seqi_oper (SlV [tv A, tv P]) (slV_stable _) (fun vs W hD => (by first | rfl | (simp at hD; simp [Region.wanted, yielded, hD]))) (fun vs W hS hD => ?_) ?_
    · (try simp at hD); unfold OperR; (try simp only [hD]); go_simp; exact ⟨⟨_, _, rfl, isV_new _ _ _ _ rfl⟩, valloc _ _⟩
    simp only [List.nil_append, List.cons_append]
    refine seqi_call (f := 7) (fun v _ => v = .agg #[.int .u8 2, .int .i64 1, .string ⟨#[]⟩]) (stable_val _) (fun vs => #[.int .u8 40, vs 25]) (fun vs W hD => (by first | rfl | (simp at hD; simp [Region.wanted, yielded, hD]))) (fun vs W hS hD => ?_) (fun vs W hS hD => ?_) ?_
    · (try simp at hD); (try simp only [hD]); go_simp; done
    · ((try simp [DepA, isB, rsAt] at hD); obtain ⟨ya, yc, ye, yi⟩ := (by first | exact hD | exact hD.1 : SlV _ _ _); rw [ye]; exact (CE1.out ya yc W hS.1 yi).mono fun e W' ⟨he, hB⟩ => ⟨⟨_, he, rfl⟩, hB⟩)
    simp only [List.nil_append, List.cons_append]
    refine seqi_run ?_ (fun vs W hD => (by first | rfl | (simp at hD; simp [Region.wanted, yielded, hD]))) (fun vs W hS hD => ?_) ?_
    rotate_left
    · (obtain ⟨c00, c01, c02, cl0⟩ := hS.tv (show (w26.heap.size + 1, tv Lo) ∈ _ by simp); obtain ⟨c10, c11, c12, cl1⟩ := hS.tv (show (w26.heap.size, tv U) ∈ _ by simp); obtain ⟨c50, c51, c52, cl5⟩ := hS.tv (show (w4.heap.size, tv A) ∈ _ by simp); obtain _ := hS; (try simp at hD); (try simp only [hD]); (first | (go_simp; done) | (go_simp; rfl)))
    simp only [List.nil_append, List.cons_append]
    refine seqi_run ?_ (fun vs W hD => (by first | rfl | (simp at hD; simp [Region.wanted, yielded, hD]))) (fun vs W hS hD => ?_) ?_
    rotate_left
    · (obtain ⟨c00, c01, c02, cl0⟩ := hS.tv (show (w26.heap.size + 1, tv Lo) ∈ _ by simp); obtain ⟨c10, c11, c12, cl1⟩ := hS.tv (show (w26.heap.size, tv U) ∈ _ by simp); obtain ⟨c50, c51, c52, cl5⟩ := hS.tv (show (w4.heap.size, tv A) ∈ _ by simp); obtain _ := hS; (try simp at hD); (try simp only [hD]); (first | (go_simp; done) | (go_simp; rfl)))
    simp only [List.nil_append, List.cons_append]
    refine seqi_call (f := 8) (fun v _ => v = .agg #[.int .u8 3, .int .i64 0, .string P]) (stable_val _) (fun vs => #[.string P]) (fun vs W hD => (by first | rfl | (simp at hD; simp [Region.wanted, yielded, hD]))) (fun vs W hS hD => ?_) (fun vs W hS hD => ?_) ?_
    · (try simp at hD); (try simp only [hD]); go_simp; done
    · exact (ltext_any P W).mono fun e W' ⟨he, hB⟩ => ⟨⟨_, he, rfl⟩, hB⟩
    simp only [List.nil_append, List.cons_append]
    refine seqi_run ?_ (fun vs W hD => (by first | rfl | (simp at hD; simp [Region.wanted, yielded, hD]))) (fun vs W hS hD => ?_) ?_
    rotate_left
    · (obtain ⟨c00, c01, c02, cl0⟩ := hS.tv (show (w26.heap.size + 1, tv Lo) ∈ _ by simp); obtain ⟨c10, c11, c12, cl1⟩ := hS.tv (show (w26.heap.size, tv U) ∈ _ by simp); obtain ⟨c50, c51, c52, cl5⟩ := hS.tv (show (w4.heap.size, tv A) ∈ _ by simp); obtain _ := hS; (try simp at hD); (try simp only [hD]); (first | (go_simp; done) | (go_simp; rfl)))
    simp only [List.nil_append, List.cons_append]
    refine seqi_oper (SlV [tv P, tv A]) (slV_stable _) (fun vs W hD => (by first | rfl | (simp at hD; simp [Region.wanted, yielded, hD]))) (fun vs W hS hD => ?_) ?_
    · (try simp at hD); unfold OperR; (try simp only [hD]); go_simp; exact ⟨⟨_, _, rfl, isV_new _ _ _ _ rfl⟩, valloc _ _⟩
    simp only [List.nil_append, List.cons_append]
    refine seqi_call (f := 7) (fun v _ => v = .agg #[.int .u8 2, .int .i64 1, .string ⟨#[]⟩]) (stable_val _) (fun vs => #[.int .u8 40, vs 31]) (fun vs W hD => (by first | rfl | (simp at hD; simp [Region.wanted, yielded, hD]))) (fun vs W hS hD => ?_) (fun vs W hS hD => ?_) ?_
    · (try simp at hD); (try simp only [hD]); go_simp; done
    · ((try simp [DepA, isB, rsAt] at hD); obtain ⟨ya, yc, ye, yi⟩ := (by first | exact hD | exact hD.1 : SlV _ _ _); rw [ye]; exact (CE2.out ya yc W hS.1 yi).mono fun e W' ⟨he, hB⟩ => ⟨⟨_, he, rfl⟩, hB⟩)
    simp only [List.nil_append, List.cons_append]
    refine seqi_run ?_ (fun vs W hD => (by first | rfl | (simp at hD; simp [Region.wanted, yielded, hD]))) (fun vs W hS hD => ?_) ?_
    rotate_left
    · (obtain ⟨c00, c01, c02, cl0⟩ := hS.tv (show (w26.heap.size + 1, tv Lo) ∈ _ by simp); obtain ⟨c10, c11, c12, cl1⟩ := hS.tv (show (w26.heap.size, tv U) ∈ _ by simp); obtain ⟨c50, c51, c52, cl5⟩ := hS.tv (show (w4.heap.size, tv A) ∈ _ by simp); obtain _ := hS; (try simp at hD); (try simp only [hD]); (first | (go_simp; done) | (go_simp; rfl)))
    simp only [List.nil_append, List.cons_append]
    refine seqi_run ?_ (fun vs W hD => (by first | rfl | (simp at hD; simp [Region.wanted, yielded, hD]))) (fun vs W hS hD => ?_) ?_
    rotate_left
    · (obtain ⟨c00, c01, c02, cl0⟩ := hS.tv (show (w26.heap.size + 1, tv Lo) ∈ _ by simp); obtain ⟨c10, c11, c12, cl1⟩ := hS.tv (show (w26.heap.size, tv U) ∈ _ by simp); obtain ⟨c50, c51, c52, cl5⟩ := hS.tv (show (w4.heap.size, tv A) ∈ _ by simp); obtain _ := hS; (try simp at hD); (try simp only [hD]); (first | (go_simp; done) | (go_simp; rfl)))
    simp only [List.nil_append, List.cons_append]
    refine seqi_run ?_ (fun vs W hD => (by first | rfl | (simp at hD; simp [Region.wanted, yielded, hD]))) (fun vs W hS hD => ?_) ?_
    rotate_left
    · (obtain ⟨c00, c01, c02, cl0⟩ := hS.tv (show (w26.heap.size + 1, tv Lo) ∈ _ by simp); obtain ⟨c10, c11, c12, cl1⟩ := hS.tv (show (w26.heap.size, tv U) ∈ _ by simp); obtain ⟨c50, c51, c52, cl5⟩ := hS.tv (show (w4.heap.size, tv A) ∈ _ by simp); obtain _ := hS; (try simp at hD); (try simp only [hD]); (first | (go_simp; done) | (go_simp; rfl)))
    simp only [List.nil_append, List.cons_append]
    refine seqi_run ?_ (fun vs W hD => (by first | rfl | (simp at hD; simp [Region.wanted, yielded, hD]))) (fun vs W hS hD => ?_) ?_
    rotate_left
    · (obtain ⟨c00, c01, c02, cl0⟩ := hS.tv (show (w26.heap.size + 1, tv Lo) ∈ _ by simp); obtain ⟨c10, c11, c12, cl1⟩ := hS.tv (show (w26.heap.size, tv U) ∈ _ by simp); obtain ⟨c50, c51, c52, cl5⟩ := hS.tv (show (w4.heap.size, tv A) ∈ _ by simp); obtain _ := hS; (try simp at hD); (try simp only [hD]); (first | (go_simp; done) | (go_simp; rfl)))
    simp only [List.nil_append, List.cons_append]
    refine seqi_run ?_ (fun vs W hD => (by first | rfl | (simp at hD; simp [Region.wanted, yielded, hD]))) (fun vs W hS hD => ?_) ?_
    rotate_left
    · (obtain ⟨c00, c01, c02, cl0⟩ := hS.tv (show (w26.heap.size + 1, tv Lo) ∈ _ by simp); obtain ⟨c10, c11, c12, cl1⟩ := hS.tv (show (w26.heap.size, tv U) ∈ _ by simp); obtain ⟨c50, c51, c52, cl5⟩ := hS.tv (show (w4.heap.size, tv A) ∈ _ by simp); obtain _ := hS; (try simp at hD); (try simp only [hD]); (first | (go_simp; done) | (go_simp; rfl)))
    simp only [List.nil_append, List.cons_append]
    refine seqi_run ?_ (fun vs W hD => (by first | rfl | (simp at hD; simp [Region.wanted, yielded, hD]))) (fun vs W hS hD => ?_) ?_
    rotate_left
    · (obtain ⟨c00, c01, c02, cl0⟩ := hS.tv (show (w26.heap.size + 1, tv Lo) ∈ _ by simp); obtain ⟨c10, c11, c12, cl1⟩ := hS.tv (show (w26.heap.size, tv U) ∈ _ by simp); obtain ⟨c50, c51, c52, cl5⟩ := hS.tv (show (w4.heap.size, tv A) ∈ _ by simp); obtain _ := hS; (try simp at hD); (try simp only [hD]); (first | (go_simp; done) | (go_simp; rfl)))
    simp only [List.nil_append, List.cons_append]
    refine seqi_call (f := 8) (fun v _ => v = .agg #[.int .u8 3, .int .i64 0, .string P]) (stable_val _) (fun vs => #[.string P]) (fun vs W hD => (by first | rfl | (simp at hD; simp [Region.wanted, yielded, hD]))) (fun vs W hS hD => ?_) (fun vs W hS hD => ?_) ?_
    · (try simp at hD); (try simp only [hD]); go_simp; done
    · exact (ltext_any P W).mono fun e W' ⟨he, hB⟩ => ⟨⟨_, he, rfl⟩, hB⟩
    simp only [List.nil_append, List.cons_append]
    refine seqi_oper (SlV [tv A, tv P]) (slV_stable _) (fun vs W hD => (by first | rfl | (simp at hD; simp [Region.wanted, yielded, hD]))) (fun vs W hS hD => ?_) ?_
    · (try simp at hD); unfold OperR; (try simp only [hD]); go_simp; exact ⟨⟨_, _, rfl, isV_new _ _ _ _ rfl⟩, valloc _ _⟩
    simp only [List.nil_append, List.cons_append]
    refine seqi_call (f := 7) (fun v _ => v = .agg #[.int .u8 2, .int .i64 1, .string ⟨#[]⟩]) (stable_val _) (fun vs => #[.int .u8 40, vs 40]) (fun vs W hD => (by first | rfl | (simp at hD; simp [Region.wanted, yielded, hD]))) (fun vs W hS hD => ?_) (fun vs W hS hD => ?_) ?_
    · (try simp at hD); (try simp only [hD]); go_simp; done
    · ((try simp [DepA, isB, rsAt] at hD); obtain ⟨ya, yc, ye, yi⟩ := (by first | exact hD | exact hD.1 : SlV _ _ _); rw [ye]; exact (CE1.out ya yc W hS.1 yi).mono fun e W' ⟨he, hB⟩ => ⟨⟨_, he, rfl⟩, hB⟩)
    simp only [List.nil_append, List.cons_append]
    refine seqi_run ?_ (fun vs W hD => (by first | rfl | (simp at hD; simp [Region.wanted, yielded, hD]))) (fun vs W hS hD => ?_) ?_
    rotate_left
    · (obtain ⟨c00, c01, c02, cl0⟩ := hS.tv (show (w26.heap.size + 1, tv Lo) ∈ _ by simp); obtain ⟨c10, c11, c12, cl1⟩ := hS.tv (show (w26.heap.size, tv U) ∈ _ by simp); obtain ⟨c50, c51, c52, cl5⟩ := hS.tv (show (w4.heap.size, tv A) ∈ _ by simp); obtain _ := hS; (try simp at hD); (try simp only [hD]); (first | (go_simp; done) | (go_simp; rfl)))
    simp only [List.nil_append, List.cons_append]
    refine seqi_run ?_ (fun vs W hD => (by first | rfl | (simp at hD; simp [Region.wanted, yielded, hD]))) (fun vs W hS hD => ?_) ?_
    rotate_left
    · (obtain ⟨c00, c01, c02, cl0⟩ := hS.tv (show (w26.heap.size + 1, tv Lo) ∈ _ by simp); obtain ⟨c10, c11, c12, cl1⟩ := hS.tv (show (w26.heap.size, tv U) ∈ _ by simp); obtain ⟨c50, c51, c52, cl5⟩ := hS.tv (show (w4.heap.size, tv A) ∈ _ by simp); obtain _ := hS; (try simp at hD); (try simp only [hD]); (first | (go_simp; done) | (go_simp; rfl)))
    simp only [List.nil_append, List.cons_append]
    refine seqi_run ?_ (fun vs W hD => (by first | rfl | (simp at hD; simp [Region.wanted, yielded, hD]))) (fun vs W hS hD => ?_) ?_
    rotate_left
    · (obtain ⟨c00, c01, c02, cl0⟩ := hS.tv (show (w26.heap.size + 1, tv Lo) ∈ _ by simp); obtain ⟨c10, c11, c12, cl1⟩ := hS.tv (show (w26.heap.size, tv U) ∈ _ by simp); obtain ⟨c50, c51, c52, cl5⟩ := hS.tv (show (w4.heap.size, tv A) ∈ _ by simp); obtain _ := hS; (try simp at hD); (try simp only [hD]); (first | (go_simp; done) | (go_simp; rfl)))
    simp only [List.nil_append, List.cons_append]
    refine seqi_run ?_ (fun vs W hD => (by first | rfl | (simp at hD; simp [Region.wanted, yielded, hD]))) (fun vs W hS hD => ?_) ?_
    rotate_left
    · (obtain ⟨c00, c01, c02, cl0⟩ := hS.tv (show (w26.heap.size + 1, tv Lo) ∈ _ by simp); obtain ⟨c10, c11, c12, cl1⟩ := hS.tv (show (w26.heap.size, tv U) ∈ _ by simp); obtain ⟨c50, c51, c52, cl5⟩ := hS.tv (show (w4.heap.size, tv A) ∈ _ by simp); obtain _ := hS; (try simp at hD); (try simp only [hD]); (first | (go_simp; done) | (go_simp; rfl)))
    simp only [List.nil_append, List.cons_append]
    refine seqi_run ?_ (fun vs W hD => (by first | rfl | (simp at hD; simp [Region.wanted, yielded, hD]))) (fun vs W hS hD => ?_) ?_
    rotate_left
    · (obtain ⟨c00, c01, c02, cl0⟩ := hS.tv (show (w26.heap.size + 1, tv Lo) ∈ _ by simp); obtain ⟨c10, c11, c12, cl1⟩ := hS.tv (show (w26.heap.size, tv U) ∈ _ by simp); obtain ⟨c50, c51, c52, cl5⟩ := hS.tv (show (w4.heap.size, tv A) ∈ _ by simp); obtain _ := hS; (try simp at hD); (try simp only [hD]); (first | (go_simp; done) | (go_simp; rfl)))
    simp only [List.nil_append, List.cons_append]
    refine seqi_run ?_ (fun vs W hD => (by first | rfl | (simp at hD; simp [Region.wanted, yielded, hD]))) (fun vs W hS hD => ?_) ?_
    rotate_left
    · (obtain ⟨c00, c01, c02, cl0⟩ := hS.tv (show (w26.heap.size + 1, tv Lo) ∈ _ by simp); obtain ⟨c10, c11, c12, cl1⟩ := hS.tv (show (w26.heap.size, tv U) ∈ _ by simp); obtain ⟨c50, c51, c52, cl5⟩ := hS.tv (show (w4.heap.size, tv A) ∈ _ by simp); obtain _ := hS; (try simp at hD); (try simp only [hD]); (first | (go_simp; done) | (go_simp; rfl)))
    simp only [List.nil_append, List.cons_append]
    refine seqi_run ?_ (fun vs W hD => (by first | rfl | (simp at hD; simp [Region.wanted, yielded, hD]))) (fun vs W hS hD => ?_) ?_
    rotate_left
    · (obtain ⟨c00, c01, c02, cl0⟩ := hS.tv (show (w26.heap.size + 1, tv Lo) ∈ _ by simp); obtain ⟨c10, c11, c12, cl1⟩ := hS.tv (show (w26.heap.size, tv U) ∈ _ by simp); obtain ⟨c50, c51, c52, cl5⟩ := hS.tv (show (w4.heap.size, tv A) ∈ _ by simp); obtain _ := hS; (try simp at hD); (try simp only [hD]); (first | (go_simp; done) | (go_simp; rfl)))
    simp only [List.nil_append, List.cons_append]
    refine seqi_run ?_ (fun vs W hD => (by first | rfl | (simp at hD; simp [Region.wanted, yielded, hD]))) (fun vs W hS hD => ?_) ?_
    rotate_left
    · (obtain ⟨c00, c01, c02, cl0⟩ := hS.tv (show (w26.heap.size + 1, tv Lo) ∈ _ by simp); obtain ⟨c10, c11, c12, cl1⟩ := hS.tv (show (w26.heap.size, tv U) ∈ _ by simp); obtain ⟨c50, c51, c52, cl5⟩ := hS.tv (show (w4.heap.size, tv A) ∈ _ by simp); obtain _ := hS; (try simp at hD); (try simp only [hD]); (first | (go_simp; done) | (go_simp; rfl)))
    simp only [List.nil_append, List.cons_append]
    refine seqi_run ?_ (fun vs W hD => (by first | rfl | (simp at hD; simp [Region.wanted, yielded, hD]))) (fun vs W hS hD => ?_) ?_
    rotate_left
    · (obtain ⟨c00, c01, c02, cl0⟩ := hS.tv (show (w26.heap.size + 1, tv Lo) ∈ _ by simp); obtain ⟨c10, c11, c12, cl1⟩ := hS.tv (show (w26.heap.size, tv U) ∈ _ by simp); obtain ⟨c50, c51, c52, cl5⟩ := hS.tv (show (w4.heap.size, tv A) ∈ _ by simp); obtain _ := hS; (try simp at hD); (try simp only [hD]); (first | (go_simp; done) | (go_simp; rfl)))
    simp only [List.nil_append, List.cons_append]
    refine seqi_call (f := 10) (fun v _ => v = .bool true) (stable_val _) (fun vs => #[]) (fun vs W hD => (by first | rfl | (simp at hD; simp [Region.wanted, yielded, hD]))) (fun vs W hS hD => ?_) (fun vs W hS hD => ?_) ?_
    · (try simp at hD); (try simp only [hD]); go_simp; done
    · exact (HAW.out W hS.1).mono fun e W' ⟨he, hB⟩ => ⟨⟨_, he, rfl⟩, hB⟩
    simp only [List.nil_append, List.cons_append]
    refine seqi_run ?_ (fun vs W hD => (by first | rfl | (simp at hD; simp [Region.wanted, yielded, hD]))) (fun vs W hS hD => ?_) ?_
    rotate_left
    · (obtain ⟨c00, c01, c02, cl0⟩ := hS.tv (show (w26.heap.size + 1, tv Lo) ∈ _ by simp); obtain ⟨c10, c11, c12, cl1⟩ := hS.tv (show (w26.heap.size, tv U) ∈ _ by simp); obtain ⟨c50, c51, c52, cl5⟩ := hS.tv (show (w4.heap.size, tv A) ∈ _ by simp); obtain _ := hS; (try simp at hD); (try simp only [hD]); (first | (go_simp; done) | (go_simp; rfl)))
    simp only [List.nil_append, List.cons_append]
    refine seqi_run ?_ (fun vs W hD => (by first | rfl | (simp at hD; simp [Region.wanted, yielded, hD]))) (fun vs W hS hD => ?_) ?_
    rotate_left
    · (obtain ⟨c00, c01, c02, cl0⟩ := hS.tv (show (w26.heap.size + 1, tv Lo) ∈ _ by simp); obtain ⟨c10, c11, c12, cl1⟩ := hS.tv (show (w26.heap.size, tv U) ∈ _ by simp); obtain ⟨c50, c51, c52, cl5⟩ := hS.tv (show (w4.heap.size, tv A) ∈ _ by simp); obtain _ := hS; (try simp at hD); (try simp only [hD]); (first | (go_simp; done) | (go_simp; rfl)))
    simp only [List.nil_append, List.cons_append]
    refine seqi_end fun vs W hS hv => ?_
    simp only [AllF, Nat.zero_add, Nat.reduceAdd] at hv
    obtain ⟨h0, h1, h2, h3, h4, h5, h6, h7, h8, h9, h10, h11, h12, h13, h14, h15, h16, h17, h18, h19, h20, h21, h22, h23, h24, h25, h26, h27, h28, h29, h30, h31, h32, h33, h34, h35, h36, h37, h38, h39, h40, h41, h42, h43, h44, h45, h46, h47, h48, h49, h50, h51, h52, h53, _⟩ := hv
    obtain ⟨sa16, sc16, h16, _⟩ := h16
    obtain ⟨sa25, sc25, h25, _⟩ := h25
    obtain ⟨sa31, sc31, h31, _⟩ := h31
    obtain ⟨sa40, sc40, h40, _⟩ := h40
    simp only [h0, h1, h2, h3, h4, h5, h6, h7, h8, h9, h10, h11, h12, h13, h14, h15, h16, h17, h18, h19, h20, h21, h22, h23, h24, h25, h26, h27, h28, h29, h30, h31, h32, h33, h34, h35, h36, h37, h38, h39, h40, h41, h42, h43, h44, h45, h46, h47, h48, h49, h50, h51, h52, h53]
    clear h0 h1 h2 h3 h4 h5 h6 h7 h8 h9 h10 h11 h12 h13 h14 h15 h16 h17 h18 h19 h20 h21 h22 h23 h24 h25 h26 h27 h28 h29 h30 h31 h32 h33 h34 h35 h36 h37 h38 h39 h40 h41 h42 h43 h44 h45 h46 h47 h48 h49 h50 h51 h52 h53
    have HBE := Lib.hid hS.1
    clear hS
    go_wp2_with fail
    go_ret
    exact ⟨rfl, HBE.out⟩
  · have hE : EX = 0 := by rw [← HEX.out, show decide (A = P) = false by rw [decide_eq_false_iff_not]; exact fun h => hle (HAP.out.1 h)]; rfl
    rw [hE] at CE1 CE2
    clear hE HEX HAP
    have hle2 : ¬ ((P.size : Int) ≤ (n : Int)) := by omega
    have hle3 : (n : Int) < (P.size : Int) := by omega
    refine wp_region_seqi (fun X => St w X ((w26.heap.size + 1, tv Lo) :: (w26.heap.size, tv U) :: ((w20.heap.size, tv LL) :: ((w13.heap.size, tv R) :: ((w9.heap.size, tv MD) :: ((w4.heap.size, tv A) :: [])))))) (fun X X2 hB h => h.next hB) (by kernel_rfl) (by kernel_rfl) (by kernel_rfl) H27.out.drew ?_
    simp only [putsL, Act.put, List.setIfInBounds_toArray, List.set_cons_zero, List.set_cons_succ, Nat.zero_add, Nat.reduceAdd]
    refine seqi_run ?_ (fun vs W hD => (by first | rfl | (simp at hD; simp [Region.wanted, yielded, hD]))) (fun vs W hS hD => ?_) ?_
    rotate_left
    · (obtain ⟨c00, c01, c02, cl0⟩ := hS.tv (show (w26.heap.size + 1, tv Lo) ∈ _ by simp); obtain ⟨c10, c11, c12, cl1⟩ := hS.tv (show (w26.heap.size, tv U) ∈ _ by simp); obtain ⟨c50, c51, c52, cl5⟩ := hS.tv (show (w4.heap.size, tv A) ∈ _ by simp); obtain _ := hS; (try simp at hD); (try simp only [hD]); (first | (go_simp; done) | (go_simp; rfl)))
    simp only [List.nil_append, List.cons_append]
    refine seqi_run ?_ (fun vs W hD => (by first | rfl | (simp at hD; simp [Region.wanted, yielded, hD]))) (fun vs W hS hD => ?_) ?_
    rotate_left
    · (obtain ⟨c00, c01, c02, cl0⟩ := hS.tv (show (w26.heap.size + 1, tv Lo) ∈ _ by simp); obtain ⟨c10, c11, c12, cl1⟩ := hS.tv (show (w26.heap.size, tv U) ∈ _ by simp); obtain ⟨c50, c51, c52, cl5⟩ := hS.tv (show (w4.heap.size, tv A) ∈ _ by simp); obtain _ := hS; (try simp at hD); (try simp only [hD]); (first | (go_simp; done) | (go_simp; rfl)))
    simp only [List.nil_append, List.cons_append]
    refine seqi_run ?_ (fun vs W hD => (by first | rfl | (simp at hD; simp [Region.wanted, yielded, hD]))) (fun vs W hS hD => ?_) ?_
    rotate_left
    · (obtain ⟨c00, c01, c02, cl0⟩ := hS.tv (show (w26.heap.size + 1, tv Lo) ∈ _ by simp); obtain ⟨c10, c11, c12, cl1⟩ := hS.tv (show (w26.heap.size, tv U) ∈ _ by simp); obtain ⟨c50, c51, c52, cl5⟩ := hS.tv (show (w4.heap.size, tv A) ∈ _ by simp); obtain _ := hS; (try simp at hD); (try simp only [hD]); (first | (go_simp; done) | (go_simp; rfl)))
    simp only [List.nil_append, List.cons_append]
    refine seqi_run ?_ (fun vs W hD => (by first | rfl | (simp at hD; simp [Region.wanted, yielded, hD]))) (fun vs W hS hD => ?_) ?_
    rotate_left
    · (obtain ⟨c00, c01, c02, cl0⟩ := hS.tv (show (w26.heap.size + 1, tv Lo) ∈ _ by simp); obtain ⟨c10, c11, c12, cl1⟩ := hS.tv (show (w26.heap.size, tv U) ∈ _ by simp); obtain ⟨c50, c51, c52, cl5⟩ := hS.tv (show (w4.heap.size, tv A) ∈ _ by simp); obtain _ := hS; (try simp at hD); (try simp only [hD]); (first | (go_simp; done) | (go_simp; rfl)))
    simp only [List.nil_append, List.cons_append]
    refine seqi_run ?_ (fun vs W hD => (by first | rfl | (simp at hD; simp [Region.wanted, yielded, hD]))) (fun vs W hS hD => ?_) ?_
    rotate_left
    · (obtain ⟨c00, c01, c02, cl0⟩ := hS.tv (show (w26.heap.size + 1, tv Lo) ∈ _ by simp); obtain ⟨c10, c11, c12, cl1⟩ := hS.tv (show (w26.heap.size, tv U) ∈ _ by simp); obtain ⟨c50, c51, c52, cl5⟩ := hS.tv (show (w4.heap.size, tv A) ∈ _ by simp); obtain _ := hS; (try simp at hD); (try simp only [hD]); (first | (go_simp; done) | (go_simp; rfl)))
    simp only [List.nil_append, List.cons_append]
    refine seqi_run ?_ (fun vs W hD => (by first | rfl | (simp at hD; simp [Region.wanted, yielded, hD]))) (fun vs W hS hD => ?_) ?_
    rotate_left
    · (obtain ⟨c00, c01, c02, cl0⟩ := hS.tv (show (w26.heap.size + 1, tv Lo) ∈ _ by simp); obtain ⟨c10, c11, c12, cl1⟩ := hS.tv (show (w26.heap.size, tv U) ∈ _ by simp); obtain ⟨c50, c51, c52, cl5⟩ := hS.tv (show (w4.heap.size, tv A) ∈ _ by simp); obtain _ := hS; (try simp at hD); (try simp only [hD]); (first | (go_simp; done) | (go_simp; rfl)))
    simp only [List.nil_append, List.cons_append]
    refine seqi_run ?_ (fun vs W hD => (by first | rfl | (simp at hD; simp [Region.wanted, yielded, hD]))) (fun vs W hS hD => ?_) ?_
    rotate_left
    · (obtain ⟨c00, c01, c02, cl0⟩ := hS.tv (show (w26.heap.size + 1, tv Lo) ∈ _ by simp); obtain ⟨c10, c11, c12, cl1⟩ := hS.tv (show (w26.heap.size, tv U) ∈ _ by simp); obtain ⟨c50, c51, c52, cl5⟩ := hS.tv (show (w4.heap.size, tv A) ∈ _ by simp); obtain _ := hS; (try simp at hD); (try simp only [hD]); (first | (go_simp; done) | (go_simp; rfl)))
    simp only [List.nil_append, List.cons_append]
    refine seqi_run ?_ (fun vs W hD => (by first | rfl | (simp at hD; simp [Region.wanted, yielded, hD]))) (fun vs W hS hD => ?_) ?_
    rotate_left
    · (obtain ⟨c00, c01, c02, cl0⟩ := hS.tv (show (w26.heap.size + 1, tv Lo) ∈ _ by simp); obtain ⟨c10, c11, c12, cl1⟩ := hS.tv (show (w26.heap.size, tv U) ∈ _ by simp); obtain ⟨c50, c51, c52, cl5⟩ := hS.tv (show (w4.heap.size, tv A) ∈ _ by simp); obtain _ := hS; (try simp at hD); (try simp only [hD]); (first | (go_simp; done) | (go_simp; rfl)))
    simp only [List.nil_append, List.cons_append]
    refine seqi_run ?_ (fun vs W hD => (by first | rfl | (simp at hD; simp [Region.wanted, yielded, hD]))) (fun vs W hS hD => ?_) ?_
    rotate_left
    · (obtain ⟨c00, c01, c02, cl0⟩ := hS.tv (show (w26.heap.size + 1, tv Lo) ∈ _ by simp); obtain ⟨c10, c11, c12, cl1⟩ := hS.tv (show (w26.heap.size, tv U) ∈ _ by simp); obtain ⟨c50, c51, c52, cl5⟩ := hS.tv (show (w4.heap.size, tv A) ∈ _ by simp); obtain _ := hS; (try simp at hD); (try simp only [hD]); (first | (go_simp; done) | (go_simp; rfl)))
    simp only [List.nil_append, List.cons_append]
    refine seqi_run ?_ (fun vs W hD => (by first | rfl | (simp at hD; simp [Region.wanted, yielded, hD]))) (fun vs W hS hD => ?_) ?_
    rotate_left
    · (obtain ⟨c00, c01, c02, cl0⟩ := hS.tv (show (w26.heap.size + 1, tv Lo) ∈ _ by simp); obtain ⟨c10, c11, c12, cl1⟩ := hS.tv (show (w26.heap.size, tv U) ∈ _ by simp); obtain ⟨c50, c51, c52, cl5⟩ := hS.tv (show (w4.heap.size, tv A) ∈ _ by simp); obtain _ := hS; (try simp at hD); (try simp only [hD]); (first | (go_simp; done) | (go_simp; rfl)))
    simp only [List.nil_append, List.cons_append]
    refine seqi_run ?_ (fun vs W hD => (by first | rfl | (simp at hD; simp [Region.wanted, yielded, hD]))) (fun vs W hS hD => ?_) ?_
    rotate_left
    · (obtain ⟨c00, c01, c02, cl0⟩ := hS.tv (show (w26.heap.size + 1, tv Lo) ∈ _ by simp); obtain ⟨c10, c11, c12, cl1⟩ := hS.tv (show (w26.heap.size, tv U) ∈ _ by simp); obtain ⟨c50, c51, c52, cl5⟩ := hS.tv (show (w4.heap.size, tv A) ∈ _ by simp); obtain _ := hS; (try simp at hD); (try simp only [hD]); (first | (go_simp; done) | (go_simp; rfl)))
    simp only [List.nil_append, List.cons_append]
    refine seqi_run ?_ (fun vs W hD => (by first | rfl | (simp at hD; simp [Region.wanted, yielded, hD]))) (fun vs W hS hD => ?_) ?_
    rotate_left
    · (obtain ⟨c00, c01, c02, cl0⟩ := hS.tv (show (w26.heap.size + 1, tv Lo) ∈ _ by simp); obtain ⟨c10, c11, c12, cl1⟩ := hS.tv (show (w26.heap.size, tv U) ∈ _ by simp); obtain ⟨c50, c51, c52, cl5⟩ := hS.tv (show (w4.heap.size, tv A) ∈ _ by simp); obtain _ := hS; (try simp at hD); (try simp only [hD]); (first | (go_simp; done) | (go_simp; rfl)))
    simp only [List.nil_append, List.cons_append]
    refine seqi_run ?_ (fun vs W hD => (by first | rfl | (simp at hD; simp [Region.wanted, yielded, hD]))) (fun vs W hS hD => ?_) ?_
    rotate_left
    · (obtain ⟨c00, c01, c02, cl0⟩ := hS.tv (show (w26.heap.size + 1, tv Lo) ∈ _ by simp); obtain ⟨c10, c11, c12, cl1⟩ := hS.tv (show (w26.heap.size, tv U) ∈ _ by simp); obtain ⟨c50, c51, c52, cl5⟩ := hS.tv (show (w4.heap.size, tv A) ∈ _ by simp); obtain _ := hS; (try simp at hD); (try simp only [hD]); (first | (go_simp; done) | (go_simp; rfl)))
    simp only [List.nil_append, List.cons_append]
    refine seqi_run ?_ (fun vs W hD => (by first | rfl | (simp at hD; simp [Region.wanted, yielded, hD]))) (fun vs W hS hD => ?_) ?_
    rotate_left
    · (obtain ⟨c00, c01, c02, cl0⟩ := hS.tv (show (w26.heap.size + 1, tv Lo) ∈ _ by simp); obtain ⟨c10, c11, c12, cl1⟩ := hS.tv (show (w26.heap.size, tv U) ∈ _ by simp); obtain ⟨c50, c51, c52, cl5⟩ := hS.tv (show (w4.heap.size, tv A) ∈ _ by simp); obtain _ := hS; (try simp at hD); (try simp only [hD]); (first | (go_simp; done) | (go_simp; rfl)))
    simp only [List.nil_append, List.cons_append]
    refine seqi_run ?_ (fun vs W hD => (by first | rfl | (simp at hD; simp [Region.wanted, yielded, hD]))) (fun vs W hS hD => ?_) ?_
    rotate_left
    · (obtain ⟨c00, c01, c02, cl0⟩ := hS.tv (show (w26.heap.size + 1, tv Lo) ∈ _ by simp); obtain ⟨c10, c11, c12, cl1⟩ := hS.tv (show (w26.heap.size, tv U) ∈ _ by simp); obtain ⟨c50, c51, c52, cl5⟩ := hS.tv (show (w4.heap.size, tv A) ∈ _ by simp); obtain _ := hS; (try simp at hD); (try simp only [hD]); (first | (go_simp; done) | (go_simp; rfl)))
    simp only [List.nil_append, List.cons_append]
    refine seqi_run ?_ (fun vs W hD => (by first | rfl | (simp at hD; simp [Region.wanted, yielded, hD]))) (fun vs W hS hD => ?_) ?_
    rotate_left
    · (obtain ⟨c00, c01, c02, cl0⟩ := hS.tv (show (w26.heap.size + 1, tv Lo) ∈ _ by simp); obtain ⟨c10, c11, c12, cl1⟩ := hS.tv (show (w26.heap.size, tv U) ∈ _ by simp); obtain ⟨c50, c51, c52, cl5⟩ := hS.tv (show (w4.heap.size, tv A) ∈ _ by simp); obtain _ := hS; (try simp at hD); (try simp only [hD]); (first | (go_simp; done) | (go_simp; rfl)))
    simp only [List.nil_append, List.cons_append]
    refine seqi_oper (SlV [tv Lo]) (slV_stable _) (fun vs W hD => (by first | rfl | (simp at hD; simp [Region.wanted, yielded, hD]))) (fun vs W hS hD => ?_) ?_
    · (try simp at hD); unfold OperR; (try simp only [hD]); go_simp; exact ⟨⟨_, _, rfl, isV_new _ _ _ _ rfl⟩, valloc _ _⟩
    simp only [List.nil_append, List.cons_append]
    refine seqi_call (f := 7) (fun v _ => v = .agg #[.int .u8 3, .int .i64 0, .string U]) (stable_val _) (fun vs => #[.int .u8 35, vs 16]) (fun vs W hD => (by first | rfl | (simp at hD; simp [Region.wanted, yielded, hD]))) (fun vs W hS hD => ?_) (fun vs W hS hD => ?_) ?_
    · (try simp at hD); (try simp only [hD]); go_simp; done
    · ((try simp [DepA, isB, rsAt] at hD); obtain ⟨ya, yc, ye, yi⟩ := (by first | exact hD | exact hD.1 : SlV _ _ _); rw [ye]; exact (CUL.out ya yc W hS.1 yi).mono fun e W' ⟨he, hB⟩ => ⟨⟨_, he, rfl⟩, hB⟩)
    simp only [List.nil_append, List.cons_append]
    refine seqi_run ?_ (fun vs W hD => (by first | rfl | (simp at hD; simp [Region.wanted, yielded, hD]))) (fun vs W hS hD => ?_) ?_
    rotate_left
    · (obtain ⟨c00, c01, c02, cl0⟩ := hS.tv (show (w26.heap.size + 1, tv Lo) ∈ _ by simp); obtain ⟨c10, c11, c12, cl1⟩ := hS.tv (show (w26.heap.size, tv U) ∈ _ by simp); obtain ⟨c50, c51, c52, cl5⟩ := hS.tv (show (w4.heap.size, tv A) ∈ _ by simp); obtain _ := hS; (try simp at hD); (try simp only [hD]); (first | (go_simp; done) | (go_simp; rfl)))
    simp only [List.nil_append, List.cons_append]
    refine seqi_run ?_ (fun vs W hD => (by first | rfl | (simp at hD; simp [Region.wanted, yielded, hD]))) (fun vs W hS hD => ?_) ?_
    rotate_left
    · (obtain ⟨c00, c01, c02, cl0⟩ := hS.tv (show (w26.heap.size + 1, tv Lo) ∈ _ by simp); obtain ⟨c10, c11, c12, cl1⟩ := hS.tv (show (w26.heap.size, tv U) ∈ _ by simp); obtain ⟨c50, c51, c52, cl5⟩ := hS.tv (show (w4.heap.size, tv A) ∈ _ by simp); obtain _ := hS; (try simp at hD); (try simp only [hD]); (first | (go_simp; done) | (go_simp; rfl)))
    simp only [List.nil_append, List.cons_append]
    refine seqi_run ?_ (fun vs W hD => (by first | rfl | (simp at hD; simp [Region.wanted, yielded, hD]))) (fun vs W hS hD => ?_) ?_
    rotate_left
    · (obtain ⟨c00, c01, c02, cl0⟩ := hS.tv (show (w26.heap.size + 1, tv Lo) ∈ _ by simp); obtain ⟨c10, c11, c12, cl1⟩ := hS.tv (show (w26.heap.size, tv U) ∈ _ by simp); obtain ⟨c50, c51, c52, cl5⟩ := hS.tv (show (w4.heap.size, tv A) ∈ _ by simp); obtain _ := hS; (try simp at hD); (try simp only [hD]); (first | (go_simp; done) | (go_simp; rfl)))
    simp only [List.nil_append, List.cons_append]
    refine seqi_run ?_ (fun vs W hD => (by first | rfl | (simp at hD; simp [Region.wanted, yielded, hD]))) (fun vs W hS hD => ?_) ?_
    rotate_left
    · (obtain ⟨c00, c01, c02, cl0⟩ := hS.tv (show (w26.heap.size + 1, tv Lo) ∈ _ by simp); obtain ⟨c10, c11, c12, cl1⟩ := hS.tv (show (w26.heap.size, tv U) ∈ _ by simp); obtain ⟨c50, c51, c52, cl5⟩ := hS.tv (show (w4.heap.size, tv A) ∈ _ by simp); obtain _ := hS; (try simp at hD); (try simp only [hD]); (first | (go_simp; done) | (go_simp; rfl)))
    simp only [List.nil_append, List.cons_append]
    refine seqi_run ?_ (fun vs W hD => (by first | rfl | (simp at hD; simp [Region.wanted, yielded, hD]))) (fun vs W hS hD => ?_) ?_
    rotate_left
    · (obtain ⟨c00, c01, c02, cl0⟩ := hS.tv (show (w26.heap.size + 1, tv Lo) ∈ _ by simp); obtain ⟨c10, c11, c12, cl1⟩ := hS.tv (show (w26.heap.size, tv U) ∈ _ by simp); obtain ⟨c50, c51, c52, cl5⟩ := hS.tv (show (w4.heap.size, tv A) ∈ _ by simp); obtain _ := hS; (try simp at hD); (try simp only [hD]); (first | (go_simp; done) | (go_simp; rfl)))
    simp only [List.nil_append, List.cons_append]
    refine seqi_run ?_ (fun vs W hD => (by first | rfl | (simp at hD; simp [Region.wanted, yielded, hD]))) (fun vs W hS hD => ?_) ?_
    rotate_left
    · (obtain ⟨c00, c01, c02, cl0⟩ := hS.tv (show (w26.heap.size + 1, tv Lo) ∈ _ by simp); obtain ⟨c10, c11, c12, cl1⟩ := hS.tv (show (w26.heap.size, tv U) ∈ _ by simp); obtain ⟨c50, c51, c52, cl5⟩ := hS.tv (show (w4.heap.size, tv A) ∈ _ by simp); obtain _ := hS; (try simp at hD); (try simp only [hD]); (first | (go_simp; done) | (go_simp; rfl)))
    simp only [List.nil_append, List.cons_append]
    refine seqi_call (f := 8) (fun v _ => v = .agg #[.int .u8 3, .int .i64 0, .string P]) (stable_val _) (fun vs => #[.string P]) (fun vs W hD => (by first | rfl | (simp at hD; simp [Region.wanted, yielded, hD]))) (fun vs W hS hD => ?_) (fun vs W hS hD => ?_) ?_
    · (try simp at hD); (try simp only [hD]); go_simp; done
    · exact (ltext_any P W).mono fun e W' ⟨he, hB⟩ => ⟨⟨_, he, rfl⟩, hB⟩
    simp only [List.nil_append, List.cons_append]
    refine seqi_oper (SlV [tv A, tv P]) (slV_stable _) (fun vs W hD => (by first | rfl | (simp at hD; simp [Region.wanted, yielded, hD]))) (fun vs W hS hD => ?_) ?_
    · (try simp at hD); unfold OperR; (try simp only [hD]); go_simp; exact ⟨⟨_, _, rfl, isV_new _ _ _ _ rfl⟩, valloc _ _⟩
    simp only [List.nil_append, List.cons_append]
    refine seqi_call (f := 7) (fun v _ => v = .agg #[.int .u8 2, .int .i64 0, .string ⟨#[]⟩]) (stable_val _) (fun vs => #[.int .u8 40, vs 25]) (fun vs W hD => (by first | rfl | (simp at hD; simp [Region.wanted, yielded, hD]))) (fun vs W hS hD => ?_) (fun vs W hS hD => ?_) ?_
    · (try simp at hD); (try simp only [hD]); go_simp; done
    · ((try simp [DepA, isB, rsAt] at hD); obtain ⟨ya, yc, ye, yi⟩ := (by first | exact hD | exact hD.1 : SlV _ _ _); rw [ye]; exact (CE1.out ya yc W hS.1 yi).mono fun e W' ⟨he, hB⟩ => ⟨⟨_, he, rfl⟩, hB⟩)
    simp only [List.nil_append, List.cons_append]
    refine seqi_run ?_ (fun vs W hD => (by first | rfl | (simp at hD; simp [Region.wanted, yielded, hD]))) (fun vs W hS hD => ?_) ?_
    rotate_left
    · (obtain ⟨c00, c01, c02, cl0⟩ := hS.tv (show (w26.heap.size + 1, tv Lo) ∈ _ by simp); obtain ⟨c10, c11, c12, cl1⟩ := hS.tv (show (w26.heap.size, tv U) ∈ _ by simp); obtain ⟨c50, c51, c52, cl5⟩ := hS.tv (show (w4.heap.size, tv A) ∈ _ by simp); obtain _ := hS; (try simp at hD); (try simp only [hD]); (first | (go_simp; done) | (go_simp; rfl)))
    simp only [List.nil_append, List.cons_append]
    refine seqi_run ?_ (fun vs W hD => (by first | rfl | (simp at hD; simp [Region.wanted, yielded, hD]))) (fun vs W hS hD => ?_) ?_
    rotate_left
    · (obtain ⟨c00, c01, c02, cl0⟩ := hS.tv (show (w26.heap.size + 1, tv Lo) ∈ _ by simp); obtain ⟨c10, c11, c12, cl1⟩ := hS.tv (show (w26.heap.size, tv U) ∈ _ by simp); obtain ⟨c50, c51, c52, cl5⟩ := hS.tv (show (w4.heap.size, tv A) ∈ _ by simp); obtain _ := hS; (try simp at hD); (try simp only [hD]); (first | (go_simp; done) | (go_simp; rfl)))
    simp only [List.nil_append, List.cons_append]
    refine seqi_call (f := 8) (fun v _ => v = .agg #[.int .u8 3, .int .i64 0, .string P]) (stable_val _) (fun vs => #[.string P]) (fun vs W hD => (by first | rfl | (simp at hD; simp [Region.wanted, yielded, hD]))) (fun vs W hS hD => ?_) (fun vs W hS hD => ?_) ?_
    · (try simp at hD); (try simp only [hD]); go_simp; done
    · exact (ltext_any P W).mono fun e W' ⟨he, hB⟩ => ⟨⟨_, he, rfl⟩, hB⟩
    simp only [List.nil_append, List.cons_append]
    refine seqi_run ?_ (fun vs W hD => (by first | rfl | (simp at hD; simp [Region.wanted, yielded, hD]))) (fun vs W hS hD => ?_) ?_
    rotate_left
    · (obtain ⟨c00, c01, c02, cl0⟩ := hS.tv (show (w26.heap.size + 1, tv Lo) ∈ _ by simp); obtain ⟨c10, c11, c12, cl1⟩ := hS.tv (show (w26.heap.size, tv U) ∈ _ by simp); obtain ⟨c50, c51, c52, cl5⟩ := hS.tv (show (w4.heap.size, tv A) ∈ _ by simp); obtain _ := hS; (try simp at hD); (try simp only [hD]); (first | (go_simp; done) | (go_simp; rfl)))
    simp only [List.nil_append, List.cons_append]
    refine seqi_oper (SlV [tv P, tv A]) (slV_stable _) (fun vs W hD => (by first | rfl | (simp at hD; simp [Region.wanted, yielded, hD]))) (fun vs W hS hD => ?_) ?_
    · (try simp at hD); unfold OperR; (try simp only [hD]); go_simp; exact ⟨⟨_, _, rfl, isV_new _ _ _ _ rfl⟩, valloc _ _⟩
    simp only [List.nil_append, List.cons_append]
    refine seqi_call (f := 7) (fun v _ => v = .agg #[.int .u8 2, .int .i64 0, .string ⟨#[]⟩]) (stable_val _) (fun vs => #[.int .u8 40, vs 31]) (fun vs W hD => (by first | rfl | (simp at hD; simp [Region.wanted, yielded, hD]))) (fun vs W hS hD => ?_) (fun vs W hS hD => ?_) ?_
    · (try simp at hD); (try simp only [hD]); go_simp; done
    · ((try simp [DepA, isB, rsAt] at hD); obtain ⟨ya, yc, ye, yi⟩ := (by first | exact hD | exact hD.1 : SlV _ _ _); rw [ye]; exact (CE2.out ya yc W hS.1 yi).mono fun e W' ⟨he, hB⟩ => ⟨⟨_, he, rfl⟩, hB⟩)
    simp only [List.nil_append, List.cons_append]
    refine seqi_run ?_ (fun vs W hD => (by first | rfl | (simp at hD; simp [Region.wanted, yielded, hD]))) (fun vs W hS hD => ?_) ?_
    rotate_left
    · (obtain ⟨c00, c01, c02, cl0⟩ := hS.tv (show (w26.heap.size + 1, tv Lo) ∈ _ by simp); obtain ⟨c10, c11, c12, cl1⟩ := hS.tv (show (w26.heap.size, tv U) ∈ _ by simp); obtain ⟨c50, c51, c52, cl5⟩ := hS.tv (show (w4.heap.size, tv A) ∈ _ by simp); obtain _ := hS; (try simp at hD); (try simp only [hD]); (first | (go_simp; done) | (go_simp; rfl)))
    simp only [List.nil_append, List.cons_append]
    refine seqi_run ?_ (fun vs W hD => (by first | rfl | (simp at hD; simp [Region.wanted, yielded, hD]))) (fun vs W hS hD => ?_) ?_
    rotate_left
    · (obtain ⟨c00, c01, c02, cl0⟩ := hS.tv (show (w26.heap.size + 1, tv Lo) ∈ _ by simp); obtain ⟨c10, c11, c12, cl1⟩ := hS.tv (show (w26.heap.size, tv U) ∈ _ by simp); obtain ⟨c50, c51, c52, cl5⟩ := hS.tv (show (w4.heap.size, tv A) ∈ _ by simp); obtain _ := hS; (try simp at hD); (try simp only [hD]); (first | (go_simp; done) | (go_simp; rfl)))
    simp only [List.nil_append, List.cons_append]
    refine seqi_run ?_ (fun vs W hD => (by first | rfl | (simp at hD; simp [Region.wanted, yielded, hD]))) (fun vs W hS hD => ?_) ?_
    rotate_left
    · (obtain ⟨c00, c01, c02, cl0⟩ := hS.tv (show (w26.heap.size + 1, tv Lo) ∈ _ by simp); obtain ⟨c10, c11, c12, cl1⟩ := hS.tv (show (w26.heap.size, tv U) ∈ _ by simp); obtain ⟨c50, c51, c52, cl5⟩ := hS.tv (show (w4.heap.size, tv A) ∈ _ by simp); obtain _ := hS; (try simp at hD); (try simp only [hD]); (first | (go_simp; done) | (go_simp; rfl)))
    simp only [List.nil_append, List.cons_append]
    refine seqi_run ?_ (fun vs W hD => (by first | rfl | (simp at hD; simp [Region.wanted, yielded, hD]))) (fun vs W hS hD => ?_) ?_
    rotate_left
    · (obtain ⟨c00, c01, c02, cl0⟩ := hS.tv (show (w26.heap.size + 1, tv Lo) ∈ _ by simp); obtain ⟨c10, c11, c12, cl1⟩ := hS.tv (show (w26.heap.size, tv U) ∈ _ by simp); obtain ⟨c50, c51, c52, cl5⟩ := hS.tv (show (w4.heap.size, tv A) ∈ _ by simp); obtain _ := hS; (try simp at hD); (try simp only [hD]); (first | (go_simp; done) | (go_simp; rfl)))
    simp only [List.nil_append, List.cons_append]
    refine seqi_run ?_ (fun vs W hD => (by first | rfl | (simp at hD; simp [Region.wanted, yielded, hD]))) (fun vs W hS hD => ?_) ?_
    rotate_left
    · (obtain ⟨c00, c01, c02, cl0⟩ := hS.tv (show (w26.heap.size + 1, tv Lo) ∈ _ by simp); obtain ⟨c10, c11, c12, cl1⟩ := hS.tv (show (w26.heap.size, tv U) ∈ _ by simp); obtain ⟨c50, c51, c52, cl5⟩ := hS.tv (show (w4.heap.size, tv A) ∈ _ by simp); obtain _ := hS; (try simp at hD); (try simp only [hD]); (first | (go_simp; done) | (go_simp; rfl)))
    simp only [List.nil_append, List.cons_append]
    refine seqi_run ?_ (fun vs W hD => (by first | rfl | (simp at hD; simp [Region.wanted, yielded, hD]))) (fun vs W hS hD => ?_) ?_
    rotate_left
    · (obtain ⟨c00, c01, c02, cl0⟩ := hS.tv (show (w26.heap.size + 1, tv Lo) ∈ _ by simp); obtain ⟨c10, c11, c12, cl1⟩ := hS.tv (show (w26.heap.size, tv U) ∈ _ by simp); obtain ⟨c50, c51, c52, cl5⟩ := hS.tv (show (w4.heap.size, tv A) ∈ _ by simp); obtain _ := hS; (try simp at hD); (try simp only [hD]); (first | (go_simp; done) | (go_simp; rfl)))
    simp only [List.nil_append, List.cons_append]
    refine seqi_call (f := 8) (fun v _ => v = .agg #[.int .u8 3, .int .i64 0, .string P]) (stable_val _) (fun vs => #[.string P]) (fun vs W hD => (by first | rfl | (simp at hD; simp [Region.wanted, yielded, hD]))) (fun vs W hS hD => ?_) (fun vs W hS hD => ?_) ?_
    · (try simp at hD); (try simp only [hD]); go_simp; done
    · exact (ltext_any P W).mono fun e W' ⟨he, hB⟩ => ⟨⟨_, he, rfl⟩, hB⟩
    simp only [List.nil_append, List.cons_append]
    refine seqi_oper (SlV [tv A, tv P]) (slV_stable _) (fun vs W hD => (by first | rfl | (simp at hD; simp [Region.wanted, yielded, hD]))) (fun vs W hS hD => ?_) ?_
    · (try simp at hD); unfold OperR; (try simp only [hD]); go_simp; exact ⟨⟨_, _, rfl, isV_new _ _ _ _ rfl⟩, valloc _ _⟩
    simp only [List.nil_append, List.cons_append]
    refine seqi_call (f := 7) (fun v _ => v = .agg #[.int .u8 2, .int .i64 0, .string ⟨#[]⟩]) (stable_val _) (fun vs => #[.int .u8 40, vs 40]) (fun vs W hD => (by first | rfl | (simp at hD; simp [Region.wanted, yielded, hD]))) (fun vs W hS hD => ?_) (fun vs W hS hD => ?_) ?_
    · (try simp at hD); (try simp only [hD]); go_simp; done
    · ((try simp [DepA, isB, rsAt] at hD); obtain ⟨ya, yc, ye, yi⟩ := (by first | exact hD | exact hD.1 : SlV _ _ _); rw [ye]; exact (CE1.out ya yc W hS.1 yi).mono fun e W' ⟨he, hB⟩ => ⟨⟨_, he, rfl⟩, hB⟩)
    simp only [List.nil_append, List.cons_append]
    refine seqi_run ?_ (fun vs W hD => (by first | rfl | (simp at hD; simp [Region.wanted, yielded, hD]))) (fun vs W hS hD => ?_) ?_
    rotate_left
    · (obtain ⟨c00, c01, c02, cl0⟩ := hS.tv (show (w26.heap.size + 1, tv Lo) ∈ _ by simp); obtain ⟨c10, c11, c12, cl1⟩ := hS.tv (show (w26.heap.size, tv U) ∈ _ by simp); obtain ⟨c50, c51, c52, cl5⟩ := hS.tv (show (w4.heap.size, tv A) ∈ _ by simp); obtain _ := hS; (try simp at hD); (try simp only [hD]); (first | (go_simp; done) | (go_simp; rfl)))
    simp only [List.nil_append, List.cons_append]
    refine seqi_run ?_ (fun vs W hD => (by first | rfl | (simp at hD; simp [Region.wanted, yielded, hD]))) (fun vs W hS hD => ?_) ?_
    rotate_left
    · (obtain ⟨c00, c01, c02, cl0⟩ := hS.tv (show (w26.heap.size + 1, tv Lo) ∈ _ by simp); obtain ⟨c10, c11, c12, cl1⟩ := hS.tv (show (w26.heap.size, tv U) ∈ _ by simp); obtain ⟨c50, c51, c52, cl5⟩ := hS.tv (show (w4.heap.size, tv A) ∈ _ by simp); obtain _ := hS; (try simp at hD); (try simp only [hD]); (first | (go_simp; done) | (go_simp; rfl)))
    simp only [List.nil_append, List.cons_append]
    refine seqi_run ?_ (fun vs W hD => (by first | rfl | (simp at hD; simp [Region.wanted, yielded, hD]))) (fun vs W hS hD => ?_) ?_
    rotate_left
    · (obtain ⟨c00, c01, c02, cl0⟩ := hS.tv (show (w26.heap.size + 1, tv Lo) ∈ _ by simp); obtain ⟨c10, c11, c12, cl1⟩ := hS.tv (show (w26.heap.size, tv U) ∈ _ by simp); obtain ⟨c50, c51, c52, cl5⟩ := hS.tv (show (w4.heap.size, tv A) ∈ _ by simp); obtain _ := hS; (try simp at hD); (try simp only [hD]); (first | (go_simp; done) | (go_simp; rfl)))
    simp only [List.nil_append, List.cons_append]
    refine seqi_run ?_ (fun vs W hD => (by first | rfl | (simp at hD; simp [Region.wanted, yielded, hD]))) (fun vs W hS hD => ?_) ?_
    rotate_left
    · (obtain ⟨c00, c01, c02, cl0⟩ := hS.tv (show (w26.heap.size + 1, tv Lo) ∈ _ by simp); obtain ⟨c10, c11, c12, cl1⟩ := hS.tv (show (w26.heap.size, tv U) ∈ _ by simp); obtain ⟨c50, c51, c52, cl5⟩ := hS.tv (show (w4.heap.size, tv A) ∈ _ by simp); obtain _ := hS; (try simp at hD); (try simp only [hD]); (first | (go_simp; done) | (go_simp; rfl)))
    simp only [List.nil_append, List.cons_append]
    refine seqi_run ?_ (fun vs W hD => (by first | rfl | (simp at hD; simp [Region.wanted, yielded, hD]))) (fun vs W hS hD => ?_) ?_
    rotate_left
    · (obtain ⟨c00, c01, c02, cl0⟩ := hS.tv (show (w26.heap.size + 1, tv Lo) ∈ _ by simp); obtain ⟨c10, c11, c12, cl1⟩ := hS.tv (show (w26.heap.size, tv U) ∈ _ by simp); obtain ⟨c50, c51, c52, cl5⟩ := hS.tv (show (w4.heap.size, tv A) ∈ _ by simp); obtain _ := hS; (try simp at hD); (try simp only [hD]); (first | (go_simp; done) | (go_simp; rfl)))
    simp only [List.nil_append, List.cons_append]
    refine seqi_run ?_ (fun vs W hD => (by first | rfl | (simp at hD; simp [Region.wanted, yielded, hD]))) (fun vs W hS hD => ?_) ?_
    rotate_left
    · (obtain ⟨c00, c01, c02, cl0⟩ := hS.tv (show (w26.heap.size + 1, tv Lo) ∈ _ by simp); obtain ⟨c10, c11, c12, cl1⟩ := hS.tv (show (w26.heap.size, tv U) ∈ _ by simp); obtain ⟨c50, c51, c52, cl5⟩ := hS.tv (show (w4.heap.size, tv A) ∈ _ by simp); obtain _ := hS; (try simp at hD); (try simp only [hD]); (first | (go_simp; done) | (go_simp; rfl)))
    simp only [List.nil_append, List.cons_append]
    refine seqi_run ?_ (fun vs W hD => (by first | rfl | (simp at hD; simp [Region.wanted, yielded, hD]))) (fun vs W hS hD => ?_) ?_
    rotate_left
    · (obtain ⟨c00, c01, c02, cl0⟩ := hS.tv (show (w26.heap.size + 1, tv Lo) ∈ _ by simp); obtain ⟨c10, c11, c12, cl1⟩ := hS.tv (show (w26.heap.size, tv U) ∈ _ by simp); obtain ⟨c50, c51, c52, cl5⟩ := hS.tv (show (w4.heap.size, tv A) ∈ _ by simp); obtain _ := hS; (try simp at hD); (try simp only [hD]); (first | (go_simp; done) | (go_simp; rfl)))
    simp only [List.nil_append, List.cons_append]
    refine seqi_run ?_ (fun vs W hD => (by first | rfl | (simp at hD; simp [Region.wanted, yielded, hD]))) (fun vs W hS hD => ?_) ?_
    rotate_left
    · (obtain ⟨c00, c01, c02, cl0⟩ := hS.tv (show (w26.heap.size + 1, tv Lo) ∈ _ by simp); obtain ⟨c10, c11, c12, cl1⟩ := hS.tv (show (w26.heap.size, tv U) ∈ _ by simp); obtain ⟨c50, c51, c52, cl5⟩ := hS.tv (show (w4.heap.size, tv A) ∈ _ by simp); obtain _ := hS; (try simp at hD); (try simp only [hD]); (first | (go_simp; done) | (go_simp; rfl)))
    simp only [List.nil_append, List.cons_append]
    refine seqi_run ?_ (fun vs W hD => (by first | rfl | (simp at hD; simp [Region.wanted, yielded, hD]))) (fun vs W hS hD => ?_) ?_
    rotate_left
    · (obtain ⟨c00, c01, c02, cl0⟩ := hS.tv (show (w26.heap.size + 1, tv Lo) ∈ _ by simp); obtain ⟨c10, c11, c12, cl1⟩ := hS.tv (show (w26.heap.size, tv U) ∈ _ by simp); obtain ⟨c50, c51, c52, cl5⟩ := hS.tv (show (w4.heap.size, tv A) ∈ _ by simp); obtain _ := hS; (try simp at hD); (try simp only [hD]); (first | (go_simp; done) | (go_simp; rfl)))
    simp only [List.nil_append, List.cons_append]
    refine seqi_call (f := 10) (fun v _ => v = .bool true) (stable_val _) (fun vs => #[]) (fun vs W hD => (by first | rfl | (simp at hD; simp [Region.wanted, yielded, hD]))) (fun vs W hS hD => ?_) (fun vs W hS hD => ?_) ?_
    · (try simp at hD); (try simp only [hD]); go_simp; done
    · exact (HAW.out W hS.1).mono fun e W' ⟨he, hB⟩ => ⟨⟨_, he, rfl⟩, hB⟩
    simp only [List.nil_append, List.cons_append]
    refine seqi_run ?_ (fun vs W hD => (by first | rfl | (simp at hD; simp [Region.wanted, yielded, hD]))) (fun vs W hS hD => ?_) ?_
    rotate_left
    · (obtain ⟨c00, c01, c02, cl0⟩ := hS.tv (show (w26.heap.size + 1, tv Lo) ∈ _ by simp); obtain ⟨c10, c11, c12, cl1⟩ := hS.tv (show (w26.heap.size, tv U) ∈ _ by simp); obtain ⟨c50, c51, c52, cl5⟩ := hS.tv (show (w4.heap.size, tv A) ∈ _ by simp); obtain _ := hS; (try simp at hD); (try simp only [hD]); (first | (go_simp; done) | (go_simp; rfl)))
    simp only [List.nil_append, List.cons_append]
    refine seqi_run ?_ (fun vs W hD => (by first | rfl | (simp at hD; simp [Region.wanted, yielded, hD]))) (fun vs W hS hD => ?_) ?_
    rotate_left
    · (obtain ⟨c00, c01, c02, cl0⟩ := hS.tv (show (w26.heap.size + 1, tv Lo) ∈ _ by simp); obtain ⟨c10, c11, c12, cl1⟩ := hS.tv (show (w26.heap.size, tv U) ∈ _ by simp); obtain ⟨c50, c51, c52, cl5⟩ := hS.tv (show (w4.heap.size, tv A) ∈ _ by simp); obtain _ := hS; (try simp at hD); (try simp only [hD]); (first | (go_simp; done) | (go_simp; rfl)))
    simp only [List.nil_append, List.cons_append]
    refine seqi_end fun vs W hS hv => ?_
    simp only [AllF, Nat.zero_add, Nat.reduceAdd] at hv
    obtain ⟨h0, h1, h2, h3, h4, h5, h6, h7, h8, h9, h10, h11, h12, h13, h14, h15, h16, h17, h18, h19, h20, h21, h22, h23, h24, h25, h26, h27, h28, h29, h30, h31, h32, h33, h34, h35, h36, h37, h38, h39, h40, h41, h42, h43, h44, h45, h46, h47, h48, h49, h50, h51, h52, h53, _⟩ := hv
    obtain ⟨sa16, sc16, h16, _⟩ := h16
    obtain ⟨sa25, sc25, h25, _⟩ := h25
    obtain ⟨sa31, sc31, h31, _⟩ := h31
    obtain ⟨sa40, sc40, h40, _⟩ := h40
    simp only [h0, h1, h2, h3, h4, h5, h6, h7, h8, h9, h10, h11, h12, h13, h14, h15, h16, h17, h18, h19, h20, h21, h22, h23, h24, h25, h26, h27, h28, h29, h30, h31, h32, h33, h34, h35, h36, h37, h38, h39, h40, h41, h42, h43, h44, h45, h46, h47, h48, h49, h50, h51, h52, h53]
    clear h0 h1 h2 h3 h4 h5 h6 h7 h8 h9 h10 h11 h12 h13 h14 h15 h16 h17 h18 h19 h20 h21 h22 h23 h24 h25 h26 h27 h28 h29 h30 h31 h32 h33 h34 h35 h36 h37 h38 h39 h40 h41 h42 h43 h44 h45 h46 h47 h48 h49 h50 h51 h52 h53
    have HBE := Lib.hid hS.1
    clear hS
    go_wp2_with fail
    go_ret
    exact ⟨rfl, HBE.out⟩
theorem ftextPieces_law (s : ByteArray) (m n : Int) (w : World) (hl : laidMetH Tryz.prog Rows.ftextPiecesRow.laid w) :
    Calls Tryz.prog 3 #[.string s, .int .i64 m, .int .i64 n] w fun e w' => e = .returned (.bool true) ∧ Below w.heap.size w w' :=
  ftextPieces_any s m n w (tb_of (MakeChecks.laidMetH_plain _ _ _ (by kernel_rfl)) hl)
end Go.Proofs.YthgnhdfppmoooaaGreatDoor.Va
