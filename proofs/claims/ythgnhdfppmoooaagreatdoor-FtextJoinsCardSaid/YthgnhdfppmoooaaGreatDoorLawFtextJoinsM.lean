/- Merged: LawFtextJoins LawFtextJoinsL. -/
import Derived.Test.YthgnhdfppmoooaaGreatDoorFtX
import Derived.Test.YthgnhdfppmoooaaGreatDoorSeqI
/- The walk of the law. -/
namespace Go.Proofs.YthgnhdfppmoooaaGreatDoor.Va
open Go Go.RowKit GM
set_option linter.unusedVariables false
set_option linter.unusedSimpArgs false
attribute [local simp] DepA isB rsAt
def SlV (L : List V3) : Fact := fun v X => ∃ a cap, v = .slice a L.length cap ∧ IsV X a L.length L
theorem slV_stable (L : List V3) : Stable (SlV L) := fun _ _ _ hB ⟨a, c, e, h⟩ => ⟨a, c, e, IsOf.later h hB⟩
theorem isV_new (w : World) (cs : Array Value) (t : TypeId) (M : List V3) (h : cs = (M.flatMap cellsV).toArray) : IsV (w.alloc (.cells cs t)) (some ⟨w.heap.size, 0, none⟩) M.length M := by
  subst h
  refine ⟨rfl, fun _ => ⟨w.heap.size, 0, rfl, by simp, fun k hk j v hv => ?_⟩⟩
  have hj : j < 3 := by rw [← cellsV_len M[k]]; exact (List.getElem?_eq_some_iff.1 hv).1
  have := flat_at cellsV_len M k hk j hj
  rw [hv] at this
  simp [this]
def Str3 (w : World) (p : Nat) (a b c : ByteArray) : Prop := p < w.heap.size ∧ w.cell? ⟨p, 0, none⟩ = some (.string a) ∧ w.cell? ⟨p, 1, none⟩ = some (.string b) ∧ w.cell? ⟨p, 2, none⟩ = some (.string c)
theorem Str3.start (w : World) (a b c : ByteArray) (t : TypeId) : Str3 (w.alloc (.cells #[.string a, .string b, .string c] t)) w.heap.size a b c := ⟨by simp, (World.cell?_alloc_at _ _ _ 0 rfl).trans rfl, (World.cell?_alloc_at _ _ _ 1 rfl).trans rfl, (World.cell?_alloc_at _ _ _ 2 rfl).trans rfl⟩
theorem Str3.later {w w' : World} {p : Nat} {a b c : ByteArray} (h : Str3 w p a b c) (hB : Below w.heap.size w w') : Str3 w' p a b c :=
  ⟨Nat.lt_of_lt_of_le h.1 hB.size, (hB.cell (p := ⟨p, 0, none⟩) h.1).trans h.2.1, (hB.cell (p := ⟨p, 1, none⟩) h.1).trans h.2.2.1, (hB.cell (p := ⟨p, 2, none⟩) h.1).trans h.2.2.2⟩
set_option maxRecDepth 100000 in
set_option maxHeartbeats 25600000 in
theorem ftextJoins_any (s0 s1 s2 : ByteArray) (n : Int) (w : World) (hT : Tb w) :
    Calls Tryz.prog 5 #[.agg #[.string s0, .string s1, .string s2], .int .i64 n] w fun e w' => e = .returned (.bool true) ∧ Below w.heap.size w w' := by
  have HT := Lib.hid hT
  clear hT
  have H3 := Lib.hid (Str3.start w s0 s1 s2 32)
  have HB := Lib.hid (valloc w (.cells #[.string s0, .string s1, .string s2] 32))
  have t1 : -301 < n.tmod 301 := neg_lt_tmod n (by decide)
  have t2 : n.tmod 301 < 301 := Int.tmod_lt_of_pos n (by decide)
  go_enter Tryz.func5, Tryz.ntmps5
  go_wp2_with fail
  generalize w.alloc (.cells #[.string s0, .string s1, .string s2] 32) = w0 at *
  obtain ⟨m, hm⟩ := Int.eq_ofNat_of_zero_le (show 0 ≤ (n.tmod 301 + 301) % 301 by omega)
  have hm300 : m ≤ 300 := by omega
  rw [hm]
  have HMN := Lib.hid hm
  clear hm t1 t2
  obtain ⟨A, hA⟩ : ∃ A, plS s0 120 = A := ⟨_, rfl⟩
  obtain ⟨B, hB⟩ : ∃ B, plS s1 120 = B := ⟨_, rfl⟩
  obtain ⟨C, hC⟩ : ∃ C, plS s2 120 = C := ⟨_, rfl⟩
  obtain ⟨kA, zA⟩ := plS_ok s0 120 (by decide)
  obtain ⟨kB, zB⟩ := plS_ok s1 120 (by decide)
  obtain ⟨kC, zC⟩ := plS_ok s2 120 (by decide)
  have HPA : Hid (∀ W : World, Calls Tryz.prog 6 #[.string s0, .int .i64 120] W fun e w' => e = .returned (.string A) ∧ Below W.heap.size W w') := fun W => by rw [← hA]; exact lplain_any s0 120 (by decide) W
  have HPB : Hid (∀ W : World, Calls Tryz.prog 6 #[.string s1, .int .i64 120] W fun e w' => e = .returned (.string B) ∧ Below W.heap.size W w') := fun W => by rw [← hB]; exact lplain_any s1 120 (by decide) W
  have HPC : Hid (∀ W : World, Calls Tryz.prog 6 #[.string s2, .int .i64 120] W fun e w' => e = .returned (.string C) ∧ Below W.heap.size W w') := fun W => by rw [← hC]; exact lplain_any s2 120 (by decide) W
  rw [hA] at kA zA
  rw [hB] at kB zB
  rw [hC] at kC zC
  have KA := Lib.hid kA
  have KB := Lib.hid kB
  have KC := Lib.hid kC
  clear hA hB hC kA kB kC
  refine wp_region_seqi (fun X => (Below w.heap.size w X ∧ Str3 X w.heap.size s0 s1 s2)) (fun X X2 hB ⟨h1, h2⟩ => ⟨vnext h1 hB, h2.later hB⟩) (by kernel_rfl) (by kernel_rfl) (by kernel_rfl) ⟨HB.out.drew, H3.out⟩ ?_
  simp only [putsL, Act.put, List.setIfInBounds_toArray, List.set_cons_zero, List.set_cons_succ, Nat.zero_add, Nat.reduceAdd]
  refine seqi_run ?_ (fun vs W hD => (by first | rfl | (simp at hD; simp [Region.wanted, yielded, hD]))) (fun vs W hS hD => ?_) ?_
  rotate_left
  · (obtain ⟨zl, z0, z1, z2⟩ := hS.2; obtain _ := hS; (try simp at hD); (try simp only [hD]); (first | (go_simp; done) | (go_simp; rfl)))
  simp only [List.nil_append, List.cons_append]
  refine seqi_run ?_ (fun vs W hD => (by first | rfl | (simp at hD; simp [Region.wanted, yielded, hD]))) (fun vs W hS hD => ?_) ?_
  rotate_left
  · (obtain ⟨zl, z0, z1, z2⟩ := hS.2; obtain _ := hS; (try simp at hD); (try simp only [hD]); (first | (go_simp; done) | (go_simp; rfl)))
  simp only [List.nil_append, List.cons_append]
  refine seqi_call (f := 6) (fun v _ => v = .string A) (stable_val _) (fun vs => #[.string s0, .int .i64 120]) (fun vs W hD => (by first | rfl | (simp at hD; simp [Region.wanted, yielded, hD]))) (fun vs W hS hD => ?_) (fun vs W hS hD => ?_) ?_
  · (try simp at hD); (try simp only [hD]); go_simp; done
  · exact (HPA.out W).mono fun e W' ⟨he, hB⟩ => ⟨⟨_, he, rfl⟩, hB⟩
  simp only [List.nil_append, List.cons_append]
  refine seqi_run ?_ (fun vs W hD => (by first | rfl | (simp at hD; simp [Region.wanted, yielded, hD]))) (fun vs W hS hD => ?_) ?_
  rotate_left
  · (obtain ⟨zl, z0, z1, z2⟩ := hS.2; obtain _ := hS; (try simp at hD); (try simp only [hD]); (first | (go_simp; done) | (go_simp; rfl)))
  simp only [List.nil_append, List.cons_append]
  refine seqi_run ?_ (fun vs W hD => (by first | rfl | (simp at hD; simp [Region.wanted, yielded, hD]))) (fun vs W hS hD => ?_) ?_
  rotate_left
  · (obtain ⟨zl, z0, z1, z2⟩ := hS.2; obtain _ := hS; (try simp at hD); (try simp only [hD]); (first | (go_simp; done) | (go_simp; rfl)))
  simp only [List.nil_append, List.cons_append]
  refine seqi_call (f := 6) (fun v _ => v = .string B) (stable_val _) (fun vs => #[.string s1, .int .i64 120]) (fun vs W hD => (by first | rfl | (simp at hD; simp [Region.wanted, yielded, hD]))) (fun vs W hS hD => ?_) (fun vs W hS hD => ?_) ?_
  · (try simp at hD); (try simp only [hD]); go_simp; done
  · exact (HPB.out W).mono fun e W' ⟨he, hB⟩ => ⟨⟨_, he, rfl⟩, hB⟩
  simp only [List.nil_append, List.cons_append]
  refine seqi_run ?_ (fun vs W hD => (by first | rfl | (simp at hD; simp [Region.wanted, yielded, hD]))) (fun vs W hS hD => ?_) ?_
  rotate_left
  · (obtain ⟨zl, z0, z1, z2⟩ := hS.2; obtain _ := hS; (try simp at hD); (try simp only [hD]); (first | (go_simp; done) | (go_simp; rfl)))
  simp only [List.nil_append, List.cons_append]
  refine seqi_run ?_ (fun vs W hD => (by first | rfl | (simp at hD; simp [Region.wanted, yielded, hD]))) (fun vs W hS hD => ?_) ?_
  rotate_left
  · (obtain ⟨zl, z0, z1, z2⟩ := hS.2; obtain _ := hS; (try simp at hD); (try simp only [hD]); (first | (go_simp; done) | (go_simp; rfl)))
  simp only [List.nil_append, List.cons_append]
  refine seqi_call (f := 6) (fun v _ => v = .string C) (stable_val _) (fun vs => #[.string s2, .int .i64 120]) (fun vs W hD => (by first | rfl | (simp at hD; simp [Region.wanted, yielded, hD]))) (fun vs W hS hD => ?_) (fun vs W hS hD => ?_) ?_
  · (try simp at hD); (try simp only [hD]); go_simp; done
  · exact (HPC.out W).mono fun e W' ⟨he, hB⟩ => ⟨⟨_, he, rfl⟩, hB⟩
  simp only [List.nil_append, List.cons_append]
  refine seqi_run ?_ (fun vs W hD => (by first | rfl | (simp at hD; simp [Region.wanted, yielded, hD]))) (fun vs W hS hD => ?_) ?_
  rotate_left
  · (obtain ⟨zl, z0, z1, z2⟩ := hS.2; obtain _ := hS; (try simp at hD); (try simp only [hD]); (first | (go_simp; done) | (go_simp; rfl)))
  simp only [List.nil_append, List.cons_append]
  refine seqi_run ?_ (fun vs W hD => (by first | rfl | (simp at hD; simp [Region.wanted, yielded, hD]))) (fun vs W hS hD => ?_) ?_
  rotate_left
  · (obtain ⟨zl, z0, z1, z2⟩ := hS.2; obtain _ := hS; (try simp at hD); (try simp only [hD]); (first | (go_simp; done) | (go_simp; rfl)))
  simp only [List.nil_append, List.cons_append]
  refine seqi_run ?_ (fun vs W hD => (by first | rfl | (simp at hD; simp [Region.wanted, yielded, hD]))) (fun vs W hS hD => ?_) ?_
  rotate_left
  · (obtain ⟨zl, z0, z1, z2⟩ := hS.2; obtain _ := hS; (try simp at hD); (try simp only [hD]); (first | (go_simp; done) | (go_simp; rfl)))
  simp only [List.nil_append, List.cons_append]
  refine seqi_end fun vs W hS hv => ?_
  simp only [AllF, Nat.zero_add, Nat.reduceAdd] at hv
  obtain ⟨h0, h1, h2, h3, h4, h5, h6, h7, h8, h9, h10, h11, _⟩ := hv
  simp only [h0, h1, h2, h3, h4, h5, h6, h7, h8, h9, h10, h11]
  clear h0 h1 h2 h3 h4 h5 h6 h7 h8 h9 h10 h11
  have HB2 := Lib.hid hS.1
  clear hS HPA HPB HPC H3 HB
  generalize W = w2 at *
  obtain ⟨AB, hAB⟩ : ∃ AB, A ++ B = AB := ⟨_, rfl⟩
  obtain ⟨BC, hBC⟩ : ∃ BC, B ++ C = BC := ⟨_, rfl⟩
  obtain ⟨AL, hAL⟩ : ∃ AL, AB ++ C = AL := ⟨_, rfl⟩
  have zAB : AB.size = A.size + B.size := by rw [← hAB, ByteArray.size_append]
  have zBC : BC.size = B.size + C.size := by rw [← hBC, ByteArray.size_append]
  have zAL : AL.size = AB.size + C.size := by rw [← hAL, ByteArray.size_append]
  have j3 : joinB [A, B, C] = AL := by rw [join_three, hAB, hAL]
  have j2 : joinB [A, B] = AB := by rw [join_two, hAB]
  have j4 : joinB [AB, C] = AL := by rw [join_two, hAL]
  have j5 : joinB [B, C] = BC := by rw [join_two, hBC]
  have j6 : joinB [A, BC] = AL := by rw [join_two, ← hBC, ← hAL, ← hAB]; exact (ByteArray.append_assoc).symm
  have HTX := Lib.hid (fun W (h : Below w.heap.size w W) => HT.out.later h)
  have HAW : Hid (∀ W : World, Below w.heap.size w W → Calls Tryz.prog 10 #[] W fun e w' => e = .returned (.bool true) ∧ Below W.heap.size W w') := fun W h => awake14 W (HT.out.later h)
  have HC3 : Hid (∀ a cap W, Below w.heap.size w W → IsV W a 3 [tv A, tv B, tv C] → Calls Tryz.prog 7 #[.int .u8 38, .slice a 3 cap] W fun e w' => e = .returned (vOf (txV AL)) ∧ Below W.heap.size W w') := fun a cap W hB h => by rw [← j3]; exact of_cat3 A B C KA.out KB.out KC.out a cap W h (HT.out.later hB)
  have HRP : Hid (∀ a cap W, Below w.heap.size w W → IsV W a 2 [tv A, nv ((m : Int) * 10000)] → Calls Tryz.prog 7 #[.int .u8 39, .slice a 2 cap] W fun e w' => e = .returned (vOf (reptV A m)) ∧ Below W.heap.size W w') := fun a cap W hB h => of_rept A m KA.out (by omega) a cap W h (HT.out.later hB)
  go_wp2_with fail
  refine (ltext_any A _).mono ?_
  rintro e w3 ⟨rfl, hB⟩
  have HB3 := Lib.hid (vnext HB2.out hB)
  clear hB HB2
  go_wp2_with fail
  refine (ltext_any B _).mono ?_
  rintro e w4 ⟨rfl, hB⟩
  have HB4 := Lib.hid (vnext HB3.out hB)
  clear hB HB3
  go_wp2_with fail
  refine (ltext_any C _).mono ?_
  rintro e w5 ⟨rfl, hB⟩
  have HB5 := Lib.hid (vnext HB4.out hB)
  clear hB HB4
  go_wp2_with fail
  have hV := isV_new w5 #[.int .u8 3, .int .i64 0, .string A, .int .u8 3, .int .i64 0, .string B, .int .u8 3, .int .i64 0, .string C] 24 [tv A, tv B, tv C] rfl
  have hbb := valloc w5 (.cells #[.int .u8 3, .int .i64 0, .string A, .int .u8 3, .int .i64 0, .string B, .int .u8 3, .int .i64 0, .string C] 24)
  refine (HC3.out _ _ _ (vnext HB5.out hbb) hV).mono ?_
  by_cases hbig : 256 < AL.size
  · have hx : vOf (txV AL) = .agg #[.int .u8 4, .int .i64 2, .string ⟨#[]⟩] := by rw [txV_bad hbig]; rfl
    rw [hx]
    rintro e w6 ⟨rfl, hB6⟩
    have HB6 := Lib.hid (vnext HB5.out (vnext hbb hB6))
    clear hV hbb hB6 HB5 hx HC3
    have HB7 := Lib.hid (vnext HB6.out (valloc w6 (.cells #[.int .u8 4, .int .i64 2, .string ⟨#[]⟩] 24)))
    obtain ⟨d0, d1, d2, _, _, _⟩ := (B3.start w6 4 2 ⟨#[]⟩).cells
    have d0 : _ = some (Value.int .u8 4) := d0
    have dl := (B3.start w6 4 2 ⟨#[]⟩).lt
    go_upto_region 5 with fail
    generalize w6.alloc (.cells #[.int .u8 4, .int .i64 2, .string ⟨#[]⟩] 24) = w7 at *
    clear HB6
    go_wp2_with fail
    clear d0 d1 d2 dl
    refine (ltext_any A _).mono ?_
    rintro e w8 ⟨rfl, hB⟩
    have HB8 := Lib.hid (vnext HB7.out hB)
    clear hB HB7
    go_wp2_with fail
    refine (lnum_any ((m : Int) * 10000) _).mono ?_
    rintro e w9 ⟨rfl, hB⟩
    have HB9 := Lib.hid (vnext HB8.out hB)
    clear hB HB8
    go_wp2_with fail
    have hV := isV_new w9 #[.int .u8 3, .int .i64 0, .string A, .int .u8 1, .int .i64 ((m : Int) * 10000), .string ⟨#[]⟩] 24 [tv A, nv ((m : Int) * 10000)] rfl
    have hbb := valloc w9 (.cells #[.int .u8 3, .int .i64 0, .string A, .int .u8 1, .int .i64 ((m : Int) * 10000), .string ⟨#[]⟩] 24)
    have hmm : A.size * m ≤ 36000 := Nat.le_trans (Nat.mul_le_mul zA hm300) (by decide)
    have hmi : ((A.size * m : Nat) : Int) = (A.size : Int) * (m : Int) := by simp
    have hwm : IntKind.i64.wrap ((A.size : Int) * (m : Int)) = (A.size : Int) * (m : Int) := IntWalk.i64_in _ (by omega)
    refine (HRP.out _ _ _ (vnext HB9.out hbb) hV).mono ?_
    by_cases hrb : 256 < A.size * m
    · have hx : vOf (reptV A m) = .agg #[.int .u8 4, .int .i64 2, .string ⟨#[]⟩] := by rw [rept_bad hrb]; rfl
      rw [hx]
      rintro e w10 ⟨rfl, hB⟩
      have HB10 := Lib.hid (vnext HB9.out (vnext hbb hB))
      clear hV hbb hB HB9 hx HRP
      have hcm : (256 : Int) < (A.size : Int) * (m : Int) := by omega
      go_upto_region 11 with fail
      have HB11 := Lib.hid (vnext HB10.out (valloc w10 (.cells #[.int .u8 4, .int .i64 2, .string ⟨#[]⟩] 24)))
      obtain ⟨d0, d1, d2, _, _, _⟩ := (B3.start w10 4 2 ⟨#[]⟩).cells
      have d0 : _ = some (Value.int .u8 4) := d0
      have dl := (B3.start w10 4 2 ⟨#[]⟩).lt
      generalize w10.alloc (.cells #[.int .u8 4, .int .i64 2, .string ⟨#[]⟩] 24) = w11 at *
      go_wp2_with fail
      refine (HAW.out _ HB11.out).mono ?_
      rintro e w12 ⟨rfl, hB⟩
      have HBE := Lib.hid (vnext HB11.out hB)
      clear hB
      go_wp2_with fail
      go_ret
      exact ⟨rfl, HBE.out⟩
    · obtain ⟨R, hR, zR, hex, kR⟩ := rept_ok KA.out (show A.size * m ≤ 256 by omega)
      have hx : vOf (reptV A m) = .agg #[.int .u8 3, .int .i64 0, .string R] := by rw [hR]; rfl
      rw [hx]
      rintro e w10 ⟨rfl, hB⟩
      have HB10 := Lib.hid (vnext HB9.out (vnext hbb hB))
      clear hV hbb hB HB9 hx HRP hR
      have hcm : (A.size : Int) * (m : Int) ≤ 256 := by omega
      have hrz : (R.size : Int) = (A.size : Int) * (m : Int) := by rw [zR]; exact hmi
      have hr256 : R.size ≤ 256 := by omega
      go_upto_region 11 with fail
      have HB11 := Lib.hid (vnext HB10.out (valloc w10 (.cells #[.int .u8 3, .int .i64 0, .string R] 24)))
      have HX := Lib.hid (B3.start w10 3 0 R)
      generalize w10.alloc (.cells #[.int .u8 3, .int .i64 0, .string R] 24) = w11 at *
      have HO1 : Hid (∀ a cap W, Below w.heap.size w W → IsV W a 2 [tv R, nv (1 * 10000)] → Calls Tryz.prog 7 #[.int .u8 39, .slice a 2 cap] W fun e w' => e = .returned (.agg #[.int .u8 3, .int .i64 0, .string R]) ∧ Below W.heap.size W w') := fun a cap W hB h => by have h2 := of_rept R 1 kR (by omega) a cap W h (HT.out.later hB); rw [rept_one hr256] at h2; exact h2
      have hq1 : ((R.size : Int) == (A.size : Int) * (m : Int)) = true := by rw [hrz]; simp
      clear zR
      go_wp2_with fail
      by_cases m0 : m = 0
      · have hm0 : ((m : Int) == 0) = true := by rw [m0]; rfl
        clear m0 hex
        refine wp_region_seqi (fun X => (Below w.heap.size w X ∧ B3 X w10.heap.size 3 0 R)) (fun X X2 hB ⟨h1, h2⟩ => ⟨vnext h1 hB, h2.later hB⟩) (by kernel_rfl) (by kernel_rfl) (by kernel_rfl) ⟨HB11.out.drew, HX.out⟩ ?_
        simp only [putsL, Act.put, List.setIfInBounds_toArray, List.set_cons_zero, List.set_cons_succ, Nat.zero_add, Nat.reduceAdd]
        refine seqi_run ?_ (fun vs W hD => (by first | rfl | (simp at hD; simp [Region.wanted, yielded, hD]))) (fun vs W hS hD => ?_) ?_
        rotate_left
        · (obtain ⟨c0, c1, c2, _, _, _⟩ := hS.2.cells; have c0 : _ = some (Value.int .u8 3) := c0; have cl := hS.2.lt; obtain _ := hS; (try simp at hD); (try simp only [hD]); (first | (go_simp; done) | (go_simp; rfl)))
        simp only [List.nil_append, List.cons_append]
        refine seqi_run ?_ (fun vs W hD => (by first | rfl | (simp at hD; simp [Region.wanted, yielded, hD]))) (fun vs W hS hD => ?_) ?_
        rotate_left
        · (obtain ⟨c0, c1, c2, _, _, _⟩ := hS.2.cells; have c0 : _ = some (Value.int .u8 3) := c0; have cl := hS.2.lt; obtain _ := hS; (try simp at hD); (try simp only [hD]); (first | (go_simp; done) | (go_simp; rfl)))
        simp only [List.nil_append, List.cons_append]
        refine seqi_run ?_ (fun vs W hD => (by first | rfl | (simp at hD; simp [Region.wanted, yielded, hD]))) (fun vs W hS hD => ?_) ?_
        rotate_left
        · (obtain ⟨c0, c1, c2, _, _, _⟩ := hS.2.cells; have c0 : _ = some (Value.int .u8 3) := c0; have cl := hS.2.lt; obtain _ := hS; (try simp at hD); (try simp only [hD]); (first | (go_simp; done) | (go_simp; rfl)))
        simp only [List.nil_append, List.cons_append]
        refine seqi_run ?_ (fun vs W hD => (by first | rfl | (simp at hD; simp [Region.wanted, yielded, hD]))) (fun vs W hS hD => ?_) ?_
        rotate_left
        · (obtain ⟨c0, c1, c2, _, _, _⟩ := hS.2.cells; have c0 : _ = some (Value.int .u8 3) := c0; have cl := hS.2.lt; obtain _ := hS; (try simp at hD); (try simp only [hD]); (first | (go_simp; done) | (go_simp; rfl)))
        simp only [List.nil_append, List.cons_append]
        refine seqi_run ?_ (fun vs W hD => (by first | rfl | (simp at hD; simp [Region.wanted, yielded, hD]))) (fun vs W hS hD => ?_) ?_
        rotate_left
        · (obtain ⟨c0, c1, c2, _, _, _⟩ := hS.2.cells; have c0 : _ = some (Value.int .u8 3) := c0; have cl := hS.2.lt; obtain _ := hS; (try simp at hD); (try simp only [hD]); (first | (go_simp; done) | (go_simp; rfl)))
        simp only [List.nil_append, List.cons_append]
        refine seqi_run ?_ (fun vs W hD => (by first | rfl | (simp at hD; simp [Region.wanted, yielded, hD]))) (fun vs W hS hD => ?_) ?_
        rotate_left
        · (obtain ⟨c0, c1, c2, _, _, _⟩ := hS.2.cells; have c0 : _ = some (Value.int .u8 3) := c0; have cl := hS.2.lt; obtain _ := hS; (try simp at hD); (try simp only [hD]); (first | (go_simp; done) | (go_simp; rfl)))
        simp only [List.nil_append, List.cons_append]
        refine seqi_run ?_ (fun vs W hD => (by first | rfl | (simp at hD; simp [Region.wanted, yielded, hD]))) (fun vs W hS hD => ?_) ?_
        rotate_left
        · (obtain ⟨c0, c1, c2, _, _, _⟩ := hS.2.cells; have c0 : _ = some (Value.int .u8 3) := c0; have cl := hS.2.lt; obtain _ := hS; (try simp at hD); (try simp only [hD]); (first | (go_simp; done) | (go_simp; rfl)))
        simp only [List.nil_append, List.cons_append]
        refine seqi_run ?_ (fun vs W hD => (by first | rfl | (simp at hD; simp [Region.wanted, yielded, hD]))) (fun vs W hS hD => ?_) ?_
        rotate_left
        · (obtain ⟨c0, c1, c2, _, _, _⟩ := hS.2.cells; have c0 : _ = some (Value.int .u8 3) := c0; have cl := hS.2.lt; obtain _ := hS; (try simp at hD); (try simp only [hD]); (first | (go_simp; done) | (go_simp; rfl)))
        simp only [List.nil_append, List.cons_append]
        refine seqi_run ?_ (fun vs W hD => (by first | rfl | (simp at hD; simp [Region.wanted, yielded, hD]))) (fun vs W hS hD => ?_) ?_
        rotate_left
        · (obtain ⟨c0, c1, c2, _, _, _⟩ := hS.2.cells; have c0 : _ = some (Value.int .u8 3) := c0; have cl := hS.2.lt; obtain _ := hS; (try simp at hD); (try simp only [hD]); (first | (go_simp; done) | (go_simp; rfl)))
        simp only [List.nil_append, List.cons_append]
        refine seqi_run ?_ (fun vs W hD => (by first | rfl | (simp at hD; simp [Region.wanted, yielded, hD]))) (fun vs W hS hD => ?_) ?_
        rotate_left
        · (obtain ⟨c0, c1, c2, _, _, _⟩ := hS.2.cells; have c0 : _ = some (Value.int .u8 3) := c0; have cl := hS.2.lt; obtain _ := hS; (try simp at hD); (try simp only [hD]); (first | (go_simp; done) | (go_simp; rfl)))
        simp only [List.nil_append, List.cons_append]
        refine seqi_run ?_ (fun vs W hD => (by first | rfl | (simp at hD; simp [Region.wanted, yielded, hD]))) (fun vs W hS hD => ?_) ?_
        rotate_left
        · (obtain ⟨c0, c1, c2, _, _, _⟩ := hS.2.cells; have c0 : _ = some (Value.int .u8 3) := c0; have cl := hS.2.lt; obtain _ := hS; (try simp at hD); (try simp only [hD]); (first | (go_simp; done) | (go_simp; rfl)))
        simp only [List.nil_append, List.cons_append]
        refine seqi_run ?_ (fun vs W hD => (by first | rfl | (simp at hD; simp [Region.wanted, yielded, hD]))) (fun vs W hS hD => ?_) ?_
        rotate_left
        · (obtain ⟨c0, c1, c2, _, _, _⟩ := hS.2.cells; have c0 : _ = some (Value.int .u8 3) := c0; have cl := hS.2.lt; obtain _ := hS; (try simp at hD); (try simp only [hD]); (first | (go_simp; done) | (go_simp; rfl)))
        simp only [List.nil_append, List.cons_append]
        refine seqi_run ?_ (fun vs W hD => (by first | rfl | (simp at hD; simp [Region.wanted, yielded, hD]))) (fun vs W hS hD => ?_) ?_
        rotate_left
        · (obtain ⟨c0, c1, c2, _, _, _⟩ := hS.2.cells; have c0 : _ = some (Value.int .u8 3) := c0; have cl := hS.2.lt; obtain _ := hS; (try simp at hD); (try simp only [hD]); (first | (go_simp; done) | (go_simp; rfl)))
        simp only [List.nil_append, List.cons_append]
        refine seqi_run ?_ (fun vs W hD => (by first | rfl | (simp at hD; simp [Region.wanted, yielded, hD]))) (fun vs W hS hD => ?_) ?_
        rotate_left
        · (obtain ⟨c0, c1, c2, _, _, _⟩ := hS.2.cells; have c0 : _ = some (Value.int .u8 3) := c0; have cl := hS.2.lt; obtain _ := hS; (try simp at hD); (try simp only [hD]); (first | (go_simp; done) | (go_simp; rfl)))
        simp only [List.nil_append, List.cons_append]
        refine seqi_run ?_ (fun vs W hD => (by first | rfl | (simp at hD; simp [Region.wanted, yielded, hD]))) (fun vs W hS hD => ?_) ?_
        rotate_left
        · (obtain ⟨c0, c1, c2, _, _, _⟩ := hS.2.cells; have c0 : _ = some (Value.int .u8 3) := c0; have cl := hS.2.lt; obtain _ := hS; (try simp at hD); (try simp only [hD]); (first | (go_simp; done) | (go_simp; rfl)))
        simp only [List.nil_append, List.cons_append]
        refine seqi_run ?_ (fun vs W hD => (by first | rfl | (simp at hD; simp [Region.wanted, yielded, hD]))) (fun vs W hS hD => ?_) ?_
        rotate_left
        · (obtain ⟨c0, c1, c2, _, _, _⟩ := hS.2.cells; have c0 : _ = some (Value.int .u8 3) := c0; have cl := hS.2.lt; obtain _ := hS; (try simp at hD); (try simp only [hD]); (first | (go_simp; done) | (go_simp; rfl)))
        simp only [List.nil_append, List.cons_append]
        refine seqi_run ?_ (fun vs W hD => (by first | rfl | (simp at hD; simp [Region.wanted, yielded, hD]))) (fun vs W hS hD => ?_) ?_
        rotate_left
        · (obtain ⟨c0, c1, c2, _, _, _⟩ := hS.2.cells; have c0 : _ = some (Value.int .u8 3) := c0; have cl := hS.2.lt; obtain _ := hS; (try simp at hD); (try simp only [hD]); (first | (go_simp; done) | (go_simp; rfl)))
        simp only [List.nil_append, List.cons_append]
        refine seqi_not (fun vs W hD => (by (try simp at hD); simp [Region.wanted, yielded, hD])) ?_
        simp only [List.nil_append, List.cons_append]
        refine seqi_not (fun vs W hD => (by (try simp at hD); simp [Region.wanted, yielded, hD])) ?_
        simp only [List.nil_append, List.cons_append]
        refine seqi_not (fun vs W hD => (by (try simp at hD); simp [Region.wanted, yielded, hD])) ?_
        simp only [List.nil_append, List.cons_append]
        refine seqi_not (fun vs W hD => (by (try simp at hD); simp [Region.wanted, yielded, hD])) ?_
        simp only [List.nil_append, List.cons_append]
        refine seqi_not (fun vs W hD => (by (try simp at hD); simp [Region.wanted, yielded, hD])) ?_
        simp only [List.nil_append, List.cons_append]
        refine seqi_not (fun vs W hD => (by (try simp at hD); simp [Region.wanted, yielded, hD])) ?_
        simp only [List.nil_append, List.cons_append]
        refine seqi_not (fun vs W hD => (by (try simp at hD); simp [Region.wanted, yielded, hD])) ?_
        simp only [List.nil_append, List.cons_append]
        refine seqi_run ?_ (fun vs W hD => (by first | rfl | (simp at hD; simp [Region.wanted, yielded, hD]))) (fun vs W hS hD => ?_) ?_
        rotate_left
        · (obtain ⟨c0, c1, c2, _, _, _⟩ := hS.2.cells; have c0 : _ = some (Value.int .u8 3) := c0; have cl := hS.2.lt; obtain _ := hS; (try simp at hD); (try simp only [hD]); (first | (go_simp; done) | (go_simp; rfl)))
        simp only [List.nil_append, List.cons_append]
        refine seqi_run ?_ (fun vs W hD => (by first | rfl | (simp at hD; simp [Region.wanted, yielded, hD]))) (fun vs W hS hD => ?_) ?_
        rotate_left
        · (obtain ⟨c0, c1, c2, _, _, _⟩ := hS.2.cells; have c0 : _ = some (Value.int .u8 3) := c0; have cl := hS.2.lt; obtain _ := hS; (try simp at hD); (try simp only [hD]); (first | (go_simp; done) | (go_simp; rfl)))
        simp only [List.nil_append, List.cons_append]
        refine seqi_run ?_ (fun vs W hD => (by first | rfl | (simp at hD; simp [Region.wanted, yielded, hD]))) (fun vs W hS hD => ?_) ?_
        rotate_left
        · (obtain ⟨c0, c1, c2, _, _, _⟩ := hS.2.cells; have c0 : _ = some (Value.int .u8 3) := c0; have cl := hS.2.lt; obtain _ := hS; (try simp at hD); (try simp only [hD]); (first | (go_simp; done) | (go_simp; rfl)))
        simp only [List.nil_append, List.cons_append]
        refine seqi_run ?_ (fun vs W hD => (by first | rfl | (simp at hD; simp [Region.wanted, yielded, hD]))) (fun vs W hS hD => ?_) ?_
        rotate_left
        · (obtain ⟨c0, c1, c2, _, _, _⟩ := hS.2.cells; have c0 : _ = some (Value.int .u8 3) := c0; have cl := hS.2.lt; obtain _ := hS; (try simp at hD); (try simp only [hD]); (first | (go_simp; done) | (go_simp; rfl)))
        simp only [List.nil_append, List.cons_append]
        refine seqi_call (f := 9) (fun v _ => v = .agg #[.int .u8 1, .int .i64 10000, .string ⟨#[]⟩]) (stable_val _) (fun vs => #[.int .i64 10000]) (fun vs W hD => (by first | rfl | (simp at hD; simp [Region.wanted, yielded, hD]))) (fun vs W hS hD => ?_) (fun vs W hS hD => ?_) ?_
        · (try simp at hD); (try simp only [hD]); go_simp; done
        · exact (lnum_any 10000 W).mono fun e W' ⟨he, hB⟩ => ⟨⟨_, he, rfl⟩, hB⟩
        simp only [List.nil_append, List.cons_append]
        refine seqi_oper (SlV [tv R, nv (1 * 10000)]) (slV_stable _) (fun vs W hD => (by first | rfl | (simp at hD; simp [Region.wanted, yielded, hD]))) (fun vs W hS hD => ?_) ?_
        · (try simp at hD); unfold OperR; (try simp only [hD]); go_simp; exact ⟨⟨_, _, rfl, isV_new _ _ _ _ rfl⟩, valloc _ _⟩
        simp only [List.nil_append, List.cons_append]
        refine seqi_call (f := 7) (fun v _ => v = .agg #[.int .u8 3, .int .i64 0, .string R]) (stable_val _) (fun vs => #[.int .u8 39, vs 29]) (fun vs W hD => (by first | rfl | (simp at hD; simp [Region.wanted, yielded, hD]))) (fun vs W hS hD => ?_) (fun vs W hS hD => ?_) ?_
        · (try simp at hD); (try simp only [hD]); go_simp; done
        · ((try simp [DepA, isB, rsAt] at hD); obtain ⟨ya, yc, ye, yi⟩ := (by first | exact hD | exact hD.1 : SlV _ _ _); rw [ye]; exact (HO1.out ya yc W hS.1 yi).mono fun e W' ⟨he, hB⟩ => ⟨⟨_, he, rfl⟩, hB⟩)
        simp only [List.nil_append, List.cons_append]
        refine seqi_run ?_ (fun vs W hD => (by first | rfl | (simp at hD; simp [Region.wanted, yielded, hD]))) (fun vs W hS hD => ?_) ?_
        rotate_left
        · (obtain ⟨c0, c1, c2, _, _, _⟩ := hS.2.cells; have c0 : _ = some (Value.int .u8 3) := c0; have cl := hS.2.lt; obtain _ := hS; (try simp at hD); (try simp only [hD]); (first | (go_simp; done) | (go_simp; rfl)))
        simp only [List.nil_append, List.cons_append]
        refine seqi_run ?_ (fun vs W hD => (by first | rfl | (simp at hD; simp [Region.wanted, yielded, hD]))) (fun vs W hS hD => ?_) ?_
        rotate_left
        · (obtain ⟨c0, c1, c2, _, _, _⟩ := hS.2.cells; have c0 : _ = some (Value.int .u8 3) := c0; have cl := hS.2.lt; obtain _ := hS; (try simp at hD); (try simp only [hD]); (first | (go_simp; done) | (go_simp; rfl)))
        simp only [List.nil_append, List.cons_append]
        refine seqi_run ?_ (fun vs W hD => (by first | rfl | (simp at hD; simp [Region.wanted, yielded, hD]))) (fun vs W hS hD => ?_) ?_
        rotate_left
        · (obtain ⟨c0, c1, c2, _, _, _⟩ := hS.2.cells; have c0 : _ = some (Value.int .u8 3) := c0; have cl := hS.2.lt; obtain _ := hS; (try simp at hD); (try simp only [hD]); (first | (go_simp; done) | (go_simp; rfl)))
        simp only [List.nil_append, List.cons_append]
        refine seqi_run ?_ (fun vs W hD => (by first | rfl | (simp at hD; simp [Region.wanted, yielded, hD]))) (fun vs W hS hD => ?_) ?_
        rotate_left
        · (obtain ⟨c0, c1, c2, _, _, _⟩ := hS.2.cells; have c0 : _ = some (Value.int .u8 3) := c0; have cl := hS.2.lt; obtain _ := hS; (try simp at hD); (try simp only [hD]); (first | (go_simp; done) | (go_simp; rfl)))
        simp only [List.nil_append, List.cons_append]
        refine seqi_call (f := 10) (fun v _ => v = .bool true) (stable_val _) (fun vs => #[]) (fun vs W hD => (by first | rfl | (simp at hD; simp [Region.wanted, yielded, hD]))) (fun vs W hS hD => ?_) (fun vs W hS hD => ?_) ?_
        · (try simp at hD); (try simp only [hD]); go_simp; done
        · exact (HAW.out W hS.1).mono fun e W' ⟨he, hB⟩ => ⟨⟨_, he, rfl⟩, hB⟩
        simp only [List.nil_append, List.cons_append]
        refine seqi_run ?_ (fun vs W hD => (by first | rfl | (simp at hD; simp [Region.wanted, yielded, hD]))) (fun vs W hS hD => ?_) ?_
        rotate_left
        · (obtain ⟨c0, c1, c2, _, _, _⟩ := hS.2.cells; have c0 : _ = some (Value.int .u8 3) := c0; have cl := hS.2.lt; obtain _ := hS; (try simp at hD); (try simp only [hD]); (first | (go_simp; done) | (go_simp; rfl)))
        simp only [List.nil_append, List.cons_append]
        refine seqi_run ?_ (fun vs W hD => (by first | rfl | (simp at hD; simp [Region.wanted, yielded, hD]))) (fun vs W hS hD => ?_) ?_
        rotate_left
        · (obtain ⟨c0, c1, c2, _, _, _⟩ := hS.2.cells; have c0 : _ = some (Value.int .u8 3) := c0; have cl := hS.2.lt; obtain _ := hS; (try simp at hD); (try simp only [hD]); (first | (go_simp; done) | (go_simp; rfl)))
        simp only [List.nil_append, List.cons_append]
        refine seqi_end fun vs W hS hv => ?_
        simp only [AllF, Nat.zero_add, Nat.reduceAdd] at hv
        obtain ⟨h0, h1, h2, h3, h4, h5, h6, h7, h8, h9, h10, h11, h12, h13, h14, h15, h16, h17, h18, h19, h20, h21, h22, h23, h24, h25, h26, h27, h28, h29, h30, h31, h32, h33, h34, h35, h36, h37, _⟩ := hv
        obtain ⟨sa29, sc29, h29, _⟩ := h29
        simp only [h0, h1, h2, h3, h4, h5, h6, h7, h8, h9, h10, h11, h12, h13, h14, h15, h16, h17, h18, h19, h20, h21, h22, h23, h24, h25, h26, h27, h28, h29, h30, h31, h32, h33, h34, h35, h36, h37]
        clear h0 h1 h2 h3 h4 h5 h6 h7 h8 h9 h10 h11 h12 h13 h14 h15 h16 h17 h18 h19 h20 h21 h22 h23 h24 h25 h26 h27 h28 h29 h30 h31 h32 h33 h34 h35 h36 h37
        have HBE := Lib.hid hS.1
        clear hS
        go_wp2_with fail
        go_ret
        exact ⟨rfl, HBE.out⟩
      · have hm0 : ((m : Int) == 0) = false := by simp; omega
        have hex2 : R.extract 0 A.size = A := hex.resolve_left m0
        have hle0 : A.size ≤ A.size * m := Nat.le_mul_of_pos_right _ (by omega)
        have hle : (A.size : Int) ≤ (A.size : Int) * (m : Int) := by omega
        clear m0 hex hle0
        refine wp_region_seqi (fun X => (Below w.heap.size w X ∧ B3 X w10.heap.size 3 0 R)) (fun X X2 hB ⟨h1, h2⟩ => ⟨vnext h1 hB, h2.later hB⟩) (by kernel_rfl) (by kernel_rfl) (by kernel_rfl) ⟨HB11.out.drew, HX.out⟩ ?_
        simp only [putsL, Act.put, List.setIfInBounds_toArray, List.set_cons_zero, List.set_cons_succ, Nat.zero_add, Nat.reduceAdd]
        refine seqi_run ?_ (fun vs W hD => (by first | rfl | (simp at hD; simp [Region.wanted, yielded, hD]))) (fun vs W hS hD => ?_) ?_
        rotate_left
        · (obtain ⟨c0, c1, c2, _, _, _⟩ := hS.2.cells; have c0 : _ = some (Value.int .u8 3) := c0; have cl := hS.2.lt; obtain _ := hS; (try simp at hD); (try simp only [hD]); (first | (go_simp; done) | (go_simp; rfl)))
        simp only [List.nil_append, List.cons_append]
        refine seqi_run ?_ (fun vs W hD => (by first | rfl | (simp at hD; simp [Region.wanted, yielded, hD]))) (fun vs W hS hD => ?_) ?_
        rotate_left
        · (obtain ⟨c0, c1, c2, _, _, _⟩ := hS.2.cells; have c0 : _ = some (Value.int .u8 3) := c0; have cl := hS.2.lt; obtain _ := hS; (try simp at hD); (try simp only [hD]); (first | (go_simp; done) | (go_simp; rfl)))
        simp only [List.nil_append, List.cons_append]
        refine seqi_run ?_ (fun vs W hD => (by first | rfl | (simp at hD; simp [Region.wanted, yielded, hD]))) (fun vs W hS hD => ?_) ?_
        rotate_left
        · (obtain ⟨c0, c1, c2, _, _, _⟩ := hS.2.cells; have c0 : _ = some (Value.int .u8 3) := c0; have cl := hS.2.lt; obtain _ := hS; (try simp at hD); (try simp only [hD]); (first | (go_simp; done) | (go_simp; rfl)))
        simp only [List.nil_append, List.cons_append]
        refine seqi_run ?_ (fun vs W hD => (by first | rfl | (simp at hD; simp [Region.wanted, yielded, hD]))) (fun vs W hS hD => ?_) ?_
        rotate_left
        · (obtain ⟨c0, c1, c2, _, _, _⟩ := hS.2.cells; have c0 : _ = some (Value.int .u8 3) := c0; have cl := hS.2.lt; obtain _ := hS; (try simp at hD); (try simp only [hD]); (first | (go_simp; done) | (go_simp; rfl)))
        simp only [List.nil_append, List.cons_append]
        refine seqi_run ?_ (fun vs W hD => (by first | rfl | (simp at hD; simp [Region.wanted, yielded, hD]))) (fun vs W hS hD => ?_) ?_
        rotate_left
        · (obtain ⟨c0, c1, c2, _, _, _⟩ := hS.2.cells; have c0 : _ = some (Value.int .u8 3) := c0; have cl := hS.2.lt; obtain _ := hS; (try simp at hD); (try simp only [hD]); (first | (go_simp; done) | (go_simp; rfl)))
        simp only [List.nil_append, List.cons_append]
        refine seqi_run ?_ (fun vs W hD => (by first | rfl | (simp at hD; simp [Region.wanted, yielded, hD]))) (fun vs W hS hD => ?_) ?_
        rotate_left
        · (obtain ⟨c0, c1, c2, _, _, _⟩ := hS.2.cells; have c0 : _ = some (Value.int .u8 3) := c0; have cl := hS.2.lt; obtain _ := hS; (try simp at hD); (try simp only [hD]); (first | (go_simp; done) | (go_simp; rfl)))
        simp only [List.nil_append, List.cons_append]
        refine seqi_run ?_ (fun vs W hD => (by first | rfl | (simp at hD; simp [Region.wanted, yielded, hD]))) (fun vs W hS hD => ?_) ?_
        rotate_left
        · (obtain ⟨c0, c1, c2, _, _, _⟩ := hS.2.cells; have c0 : _ = some (Value.int .u8 3) := c0; have cl := hS.2.lt; obtain _ := hS; (try simp at hD); (try simp only [hD]); (first | (go_simp; done) | (go_simp; rfl)))
        simp only [List.nil_append, List.cons_append]
        refine seqi_run ?_ (fun vs W hD => (by first | rfl | (simp at hD; simp [Region.wanted, yielded, hD]))) (fun vs W hS hD => ?_) ?_
        rotate_left
        · (obtain ⟨c0, c1, c2, _, _, _⟩ := hS.2.cells; have c0 : _ = some (Value.int .u8 3) := c0; have cl := hS.2.lt; obtain _ := hS; (try simp at hD); (try simp only [hD]); (first | (go_simp; done) | (go_simp; rfl)))
        simp only [List.nil_append, List.cons_append]
        refine seqi_run ?_ (fun vs W hD => (by first | rfl | (simp at hD; simp [Region.wanted, yielded, hD]))) (fun vs W hS hD => ?_) ?_
        rotate_left
        · (obtain ⟨c0, c1, c2, _, _, _⟩ := hS.2.cells; have c0 : _ = some (Value.int .u8 3) := c0; have cl := hS.2.lt; obtain _ := hS; (try simp at hD); (try simp only [hD]); (first | (go_simp; done) | (go_simp; rfl)))
        simp only [List.nil_append, List.cons_append]
        refine seqi_run ?_ (fun vs W hD => (by first | rfl | (simp at hD; simp [Region.wanted, yielded, hD]))) (fun vs W hS hD => ?_) ?_
        rotate_left
        · (obtain ⟨c0, c1, c2, _, _, _⟩ := hS.2.cells; have c0 : _ = some (Value.int .u8 3) := c0; have cl := hS.2.lt; obtain _ := hS; (try simp at hD); (try simp only [hD]); (first | (go_simp; done) | (go_simp; rfl)))
        simp only [List.nil_append, List.cons_append]
        refine seqi_run ?_ (fun vs W hD => (by first | rfl | (simp at hD; simp [Region.wanted, yielded, hD]))) (fun vs W hS hD => ?_) ?_
        rotate_left
        · (obtain ⟨c0, c1, c2, _, _, _⟩ := hS.2.cells; have c0 : _ = some (Value.int .u8 3) := c0; have cl := hS.2.lt; obtain _ := hS; (try simp at hD); (try simp only [hD]); (first | (go_simp; done) | (go_simp; rfl)))
        simp only [List.nil_append, List.cons_append]
        refine seqi_run ?_ (fun vs W hD => (by first | rfl | (simp at hD; simp [Region.wanted, yielded, hD]))) (fun vs W hS hD => ?_) ?_
        rotate_left
        · (obtain ⟨c0, c1, c2, _, _, _⟩ := hS.2.cells; have c0 : _ = some (Value.int .u8 3) := c0; have cl := hS.2.lt; obtain _ := hS; (try simp at hD); (try simp only [hD]); (first | (go_simp; done) | (go_simp; rfl)))
        simp only [List.nil_append, List.cons_append]
        refine seqi_run ?_ (fun vs W hD => (by first | rfl | (simp at hD; simp [Region.wanted, yielded, hD]))) (fun vs W hS hD => ?_) ?_
        rotate_left
        · (obtain ⟨c0, c1, c2, _, _, _⟩ := hS.2.cells; have c0 : _ = some (Value.int .u8 3) := c0; have cl := hS.2.lt; obtain _ := hS; (try simp at hD); (try simp only [hD]); (first | (go_simp; done) | (go_simp; rfl)))
        simp only [List.nil_append, List.cons_append]
        refine seqi_run ?_ (fun vs W hD => (by first | rfl | (simp at hD; simp [Region.wanted, yielded, hD]))) (fun vs W hS hD => ?_) ?_
        rotate_left
        · (obtain ⟨c0, c1, c2, _, _, _⟩ := hS.2.cells; have c0 : _ = some (Value.int .u8 3) := c0; have cl := hS.2.lt; obtain _ := hS; (try simp at hD); (try simp only [hD]); (first | (go_simp; done) | (go_simp; rfl)))
        simp only [List.nil_append, List.cons_append]
        refine seqi_run ?_ (fun vs W hD => (by first | rfl | (simp at hD; simp [Region.wanted, yielded, hD]))) (fun vs W hS hD => ?_) ?_
        rotate_left
        · (obtain ⟨c0, c1, c2, _, _, _⟩ := hS.2.cells; have c0 : _ = some (Value.int .u8 3) := c0; have cl := hS.2.lt; obtain _ := hS; (try simp at hD); (try simp only [hD]); (first | (go_simp; done) | (go_simp; rfl)))
        simp only [List.nil_append, List.cons_append]
        refine seqi_run ?_ (fun vs W hD => (by first | rfl | (simp at hD; simp [Region.wanted, yielded, hD]))) (fun vs W hS hD => ?_) ?_
        rotate_left
        · (obtain ⟨c0, c1, c2, _, _, _⟩ := hS.2.cells; have c0 : _ = some (Value.int .u8 3) := c0; have cl := hS.2.lt; obtain _ := hS; (try simp at hD); (try simp only [hD]); (first | (go_simp; done) | (go_simp; rfl)))
        simp only [List.nil_append, List.cons_append]
        refine seqi_run ?_ (fun vs W hD => (by first | rfl | (simp at hD; simp [Region.wanted, yielded, hD]))) (fun vs W hS hD => ?_) ?_
        rotate_left
        · (obtain ⟨c0, c1, c2, _, _, _⟩ := hS.2.cells; have c0 : _ = some (Value.int .u8 3) := c0; have cl := hS.2.lt; obtain _ := hS; (try simp at hD); (try simp only [hD]); (first | (go_simp; done) | (go_simp; rfl)))
        simp only [List.nil_append, List.cons_append]
        refine seqi_run ?_ (fun vs W hD => (by first | rfl | (simp at hD; simp [Region.wanted, yielded, hD]))) (fun vs W hS hD => ?_) ?_
        rotate_left
        · (obtain ⟨c0, c1, c2, _, _, _⟩ := hS.2.cells; have c0 : _ = some (Value.int .u8 3) := c0; have cl := hS.2.lt; obtain _ := hS; (try simp at hD); (try simp only [hD]); (first | (go_simp; done) | (go_simp; rfl)))
        simp only [List.nil_append, List.cons_append]
        refine seqi_run ?_ (fun vs W hD => (by first | rfl | (simp at hD; simp [Region.wanted, yielded, hD]))) (fun vs W hS hD => ?_) ?_
        rotate_left
        · (obtain ⟨c0, c1, c2, _, _, _⟩ := hS.2.cells; have c0 : _ = some (Value.int .u8 3) := c0; have cl := hS.2.lt; obtain _ := hS; (try simp at hD); (try simp only [hD]); (first | (go_simp; done) | (go_simp; rfl)))
        simp only [List.nil_append, List.cons_append]
        refine seqi_run ?_ (fun vs W hD => (by first | rfl | (simp at hD; simp [Region.wanted, yielded, hD]))) (fun vs W hS hD => ?_) ?_
        rotate_left
        · (obtain ⟨c0, c1, c2, _, _, _⟩ := hS.2.cells; have c0 : _ = some (Value.int .u8 3) := c0; have cl := hS.2.lt; obtain _ := hS; (try simp at hD); (try simp only [hD]); (first | (go_simp; done) | (go_simp; rfl)))
        simp only [List.nil_append, List.cons_append]
        refine seqi_run ?_ (fun vs W hD => (by first | rfl | (simp at hD; simp [Region.wanted, yielded, hD]))) (fun vs W hS hD => ?_) ?_
        rotate_left
        · (obtain ⟨c0, c1, c2, _, _, _⟩ := hS.2.cells; have c0 : _ = some (Value.int .u8 3) := c0; have cl := hS.2.lt; obtain _ := hS; (try simp at hD); (try simp only [hD]); (first | (go_simp; done) | (go_simp; rfl)))
        simp only [List.nil_append, List.cons_append]
        refine seqi_run ?_ (fun vs W hD => (by first | rfl | (simp at hD; simp [Region.wanted, yielded, hD]))) (fun vs W hS hD => ?_) ?_
        rotate_left
        · (obtain ⟨c0, c1, c2, _, _, _⟩ := hS.2.cells; have c0 : _ = some (Value.int .u8 3) := c0; have cl := hS.2.lt; obtain _ := hS; (try simp at hD); (try simp only [hD]); (first | (go_simp; done) | (go_simp; rfl)))
        simp only [List.nil_append, List.cons_append]
        refine seqi_run ?_ (fun vs W hD => (by first | rfl | (simp at hD; simp [Region.wanted, yielded, hD]))) (fun vs W hS hD => ?_) ?_
        rotate_left
        · (obtain ⟨c0, c1, c2, _, _, _⟩ := hS.2.cells; have c0 : _ = some (Value.int .u8 3) := c0; have cl := hS.2.lt; obtain _ := hS; (try simp at hD); (try simp only [hD]); (first | (go_simp; done) | (go_simp; rfl)))
        simp only [List.nil_append, List.cons_append]
        refine seqi_run ?_ (fun vs W hD => (by first | rfl | (simp at hD; simp [Region.wanted, yielded, hD]))) (fun vs W hS hD => ?_) ?_
        rotate_left
        · (obtain ⟨c0, c1, c2, _, _, _⟩ := hS.2.cells; have c0 : _ = some (Value.int .u8 3) := c0; have cl := hS.2.lt; obtain _ := hS; (try simp at hD); (try simp only [hD]); (first | (go_simp; done) | (go_simp; rfl)))
        simp only [List.nil_append, List.cons_append]
        refine seqi_run ?_ (fun vs W hD => (by first | rfl | (simp at hD; simp [Region.wanted, yielded, hD]))) (fun vs W hS hD => ?_) ?_
        rotate_left
        · (obtain ⟨c0, c1, c2, _, _, _⟩ := hS.2.cells; have c0 : _ = some (Value.int .u8 3) := c0; have cl := hS.2.lt; obtain _ := hS; (try simp at hD); (try simp only [hD]); (first | (go_simp; done) | (go_simp; rfl)))
        simp only [List.nil_append, List.cons_append]
        refine seqi_run ?_ (fun vs W hD => (by first | rfl | (simp at hD; simp [Region.wanted, yielded, hD]))) (fun vs W hS hD => ?_) ?_
        rotate_left
        · (obtain ⟨c0, c1, c2, _, _, _⟩ := hS.2.cells; have c0 : _ = some (Value.int .u8 3) := c0; have cl := hS.2.lt; obtain _ := hS; (try simp at hD); (try simp only [hD]); (first | (go_simp; done) | (go_simp; rfl)))
        simp only [List.nil_append, List.cons_append]
        refine seqi_run ?_ (fun vs W hD => (by first | rfl | (simp at hD; simp [Region.wanted, yielded, hD]))) (fun vs W hS hD => ?_) ?_
        rotate_left
        · (obtain ⟨c0, c1, c2, _, _, _⟩ := hS.2.cells; have c0 : _ = some (Value.int .u8 3) := c0; have cl := hS.2.lt; obtain _ := hS; (try simp at hD); (try simp only [hD]); (first | (go_simp; done) | (go_simp; rfl)))
        simp only [List.nil_append, List.cons_append]
        refine seqi_run ?_ (fun vs W hD => (by first | rfl | (simp at hD; simp [Region.wanted, yielded, hD]))) (fun vs W hS hD => ?_) ?_
        rotate_left
        · (obtain ⟨c0, c1, c2, _, _, _⟩ := hS.2.cells; have c0 : _ = some (Value.int .u8 3) := c0; have cl := hS.2.lt; obtain _ := hS; (try simp at hD); (try simp only [hD]); (first | (go_simp; done) | (go_simp; rfl)))
        simp only [List.nil_append, List.cons_append]
        refine seqi_call (f := 9) (fun v _ => v = .agg #[.int .u8 1, .int .i64 10000, .string ⟨#[]⟩]) (stable_val _) (fun vs => #[.int .i64 10000]) (fun vs W hD => (by first | rfl | (simp at hD; simp [Region.wanted, yielded, hD]))) (fun vs W hS hD => ?_) (fun vs W hS hD => ?_) ?_
        · (try simp at hD); (try simp only [hD]); go_simp; done
        · exact (lnum_any 10000 W).mono fun e W' ⟨he, hB⟩ => ⟨⟨_, he, rfl⟩, hB⟩
        simp only [List.nil_append, List.cons_append]
        refine seqi_oper (SlV [tv R, nv (1 * 10000)]) (slV_stable _) (fun vs W hD => (by first | rfl | (simp at hD; simp [Region.wanted, yielded, hD]))) (fun vs W hS hD => ?_) ?_
        · (try simp at hD); unfold OperR; (try simp only [hD]); go_simp; exact ⟨⟨_, _, rfl, isV_new _ _ _ _ rfl⟩, valloc _ _⟩
        simp only [List.nil_append, List.cons_append]
        refine seqi_call (f := 7) (fun v _ => v = .agg #[.int .u8 3, .int .i64 0, .string R]) (stable_val _) (fun vs => #[.int .u8 39, vs 29]) (fun vs W hD => (by first | rfl | (simp at hD; simp [Region.wanted, yielded, hD]))) (fun vs W hS hD => ?_) (fun vs W hS hD => ?_) ?_
        · (try simp at hD); (try simp only [hD]); go_simp; done
        · ((try simp [DepA, isB, rsAt] at hD); obtain ⟨ya, yc, ye, yi⟩ := (by first | exact hD | exact hD.1 : SlV _ _ _); rw [ye]; exact (HO1.out ya yc W hS.1 yi).mono fun e W' ⟨he, hB⟩ => ⟨⟨_, he, rfl⟩, hB⟩)
        simp only [List.nil_append, List.cons_append]
        refine seqi_run ?_ (fun vs W hD => (by first | rfl | (simp at hD; simp [Region.wanted, yielded, hD]))) (fun vs W hS hD => ?_) ?_
        rotate_left
        · (obtain ⟨c0, c1, c2, _, _, _⟩ := hS.2.cells; have c0 : _ = some (Value.int .u8 3) := c0; have cl := hS.2.lt; obtain _ := hS; (try simp at hD); (try simp only [hD]); (first | (go_simp; done) | (go_simp; rfl)))
        simp only [List.nil_append, List.cons_append]
        refine seqi_run ?_ (fun vs W hD => (by first | rfl | (simp at hD; simp [Region.wanted, yielded, hD]))) (fun vs W hS hD => ?_) ?_
        rotate_left
        · (obtain ⟨c0, c1, c2, _, _, _⟩ := hS.2.cells; have c0 : _ = some (Value.int .u8 3) := c0; have cl := hS.2.lt; obtain _ := hS; (try simp at hD); (try simp only [hD]); (first | (go_simp; done) | (go_simp; rfl)))
        simp only [List.nil_append, List.cons_append]
        refine seqi_run ?_ (fun vs W hD => (by first | rfl | (simp at hD; simp [Region.wanted, yielded, hD]))) (fun vs W hS hD => ?_) ?_
        rotate_left
        · (obtain ⟨c0, c1, c2, _, _, _⟩ := hS.2.cells; have c0 : _ = some (Value.int .u8 3) := c0; have cl := hS.2.lt; obtain _ := hS; (try simp at hD); (try simp only [hD]); (first | (go_simp; done) | (go_simp; rfl)))
        simp only [List.nil_append, List.cons_append]
        refine seqi_run ?_ (fun vs W hD => (by first | rfl | (simp at hD; simp [Region.wanted, yielded, hD]))) (fun vs W hS hD => ?_) ?_
        rotate_left
        · (obtain ⟨c0, c1, c2, _, _, _⟩ := hS.2.cells; have c0 : _ = some (Value.int .u8 3) := c0; have cl := hS.2.lt; obtain _ := hS; (try simp at hD); (try simp only [hD]); (first | (go_simp; done) | (go_simp; rfl)))
        simp only [List.nil_append, List.cons_append]
        refine seqi_call (f := 10) (fun v _ => v = .bool true) (stable_val _) (fun vs => #[]) (fun vs W hD => (by first | rfl | (simp at hD; simp [Region.wanted, yielded, hD]))) (fun vs W hS hD => ?_) (fun vs W hS hD => ?_) ?_
        · (try simp at hD); (try simp only [hD]); go_simp; done
        · exact (HAW.out W hS.1).mono fun e W' ⟨he, hB⟩ => ⟨⟨_, he, rfl⟩, hB⟩
        simp only [List.nil_append, List.cons_append]
        refine seqi_run ?_ (fun vs W hD => (by first | rfl | (simp at hD; simp [Region.wanted, yielded, hD]))) (fun vs W hS hD => ?_) ?_
        rotate_left
        · (obtain ⟨c0, c1, c2, _, _, _⟩ := hS.2.cells; have c0 : _ = some (Value.int .u8 3) := c0; have cl := hS.2.lt; obtain _ := hS; (try simp at hD); (try simp only [hD]); (first | (go_simp; done) | (go_simp; rfl)))
        simp only [List.nil_append, List.cons_append]
        refine seqi_run ?_ (fun vs W hD => (by first | rfl | (simp at hD; simp [Region.wanted, yielded, hD]))) (fun vs W hS hD => ?_) ?_
        rotate_left
        · (obtain ⟨c0, c1, c2, _, _, _⟩ := hS.2.cells; have c0 : _ = some (Value.int .u8 3) := c0; have cl := hS.2.lt; obtain _ := hS; (try simp at hD); (try simp only [hD]); (first | (go_simp; done) | (go_simp; rfl)))
        simp only [List.nil_append, List.cons_append]
        refine seqi_end fun vs W hS hv => ?_
        simp only [AllF, Nat.zero_add, Nat.reduceAdd] at hv
        obtain ⟨h0, h1, h2, h3, h4, h5, h6, h7, h8, h9, h10, h11, h12, h13, h14, h15, h16, h17, h18, h19, h20, h21, h22, h23, h24, h25, h26, h27, h28, h29, h30, h31, h32, h33, h34, h35, h36, h37, _⟩ := hv
        obtain ⟨sa29, sc29, h29, _⟩ := h29
        simp only [h0, h1, h2, h3, h4, h5, h6, h7, h8, h9, h10, h11, h12, h13, h14, h15, h16, h17, h18, h19, h20, h21, h22, h23, h24, h25, h26, h27, h28, h29, h30, h31, h32, h33, h34, h35, h36, h37]
        clear h0 h1 h2 h3 h4 h5 h6 h7 h8 h9 h10 h11 h12 h13 h14 h15 h16 h17 h18 h19 h20 h21 h22 h23 h24 h25 h26 h27 h28 h29 h30 h31 h32 h33 h34 h35 h36 h37
        have HBE := Lib.hid hS.1
        clear hS
        go_wp2_with fail
        go_ret
        exact ⟨rfl, HBE.out⟩
  · have hx : vOf (txV AL) = .agg #[.int .u8 3, .int .i64 0, .string AL] := by rw [txV_ok (by omega)]; rfl
    rw [hx]
    rintro e w6 ⟨rfl, hB6⟩
    have HB6 := Lib.hid (vnext HB5.out (vnext hbb hB6))
    clear hV hbb hB6 HB5 hx HC3
    have HB7 := Lib.hid (vnext HB6.out (valloc w6 (.cells #[.int .u8 3, .int .i64 0, .string AL] 24)))
    have HX9 := Lib.hid (B3.start w6 3 0 AL)
    have kAB := chk_app KA.out KB.out (by omega)
    rw [hAB] at kAB
    have kBC := chk_app KB.out KC.out (by omega)
    rw [hBC] at kBC
    have kAL := chk_app kAB KC.out (by omega)
    rw [hAL] at kAL
    have O1 : Hid (∀ a cap W, Below w.heap.size w W → IsV W a 2 [tv A, tv B] → Calls Tryz.prog 7 #[.int .u8 38, .slice a 2 cap] W fun e w' => e = .returned (.agg #[.int .u8 3, .int .i64 0, .string AB]) ∧ Below W.heap.size W w') := fun a cap W hB h => by have h2 := of_cat2 A B KA.out KB.out a cap W h (HT.out.later hB); rw [j2, txV_ok (by omega)] at h2; exact h2
    have O2 : Hid (∀ a cap W, Below w.heap.size w W → IsV W a 2 [tv AB, tv C] → Calls Tryz.prog 7 #[.int .u8 38, .slice a 2 cap] W fun e w' => e = .returned (.agg #[.int .u8 3, .int .i64 0, .string AL]) ∧ Below W.heap.size W w') := fun a cap W hB h => by have h2 := of_cat2 AB C kAB KC.out a cap W h (HT.out.later hB); rw [j4, txV_ok (by omega)] at h2; exact h2
    have O3 : Hid (∀ a cap W, Below w.heap.size w W → IsV W a 2 [tv B, tv C] → Calls Tryz.prog 7 #[.int .u8 38, .slice a 2 cap] W fun e w' => e = .returned (.agg #[.int .u8 3, .int .i64 0, .string BC]) ∧ Below W.heap.size W w') := fun a cap W hB h => by have h2 := of_cat2 B C KB.out KC.out a cap W h (HT.out.later hB); rw [j5, txV_ok (by omega)] at h2; exact h2
    have O4 : Hid (∀ a cap W, Below w.heap.size w W → IsV W a 2 [tv A, tv BC] → Calls Tryz.prog 7 #[.int .u8 38, .slice a 2 cap] W fun e w' => e = .returned (.agg #[.int .u8 3, .int .i64 0, .string AL]) ∧ Below W.heap.size W w') := fun a cap W hB h => by have h2 := of_cat2 A BC KA.out kBC a cap W h (HT.out.later hB); rw [j6, txV_ok (by omega)] at h2; exact h2
    have O5 : Hid (∀ a cap W, Below w.heap.size w W → IsV W a 1 [tv AL] → Calls Tryz.prog 7 #[.int .u8 31, .slice a 1 cap] W fun e w' => e = .returned (.agg #[.int .u8 1, .int .i64 ((AL.size : Int) * 10000), .string ⟨#[]⟩]) ∧ Below W.heap.size W w') := fun a cap W hB h => by have h2 := of_len AL kAL a cap W h (HT.out.later hB); exact h2
    have hal8 : AL.size ≤ 256 := by omega
    have hw8 : IntKind.i64.wrap ((AL.size : Int) * 10000) = (AL.size : Int) * 10000 := IntWalk.i64_in _ (by omega)
    clear kAB kBC kAL j2 j3 j4 j5 j6 hAB hBC hAL zAB zBC zAL hbig
    go_upto_region 5 with fail
    generalize w6.alloc (.cells #[.int .u8 3, .int .i64 0, .string AL] 24) = w7 at *
    go_wp2_with fail
    refine wp_region_seqi (fun X => (Below w.heap.size w X ∧ B3 X w6.heap.size 3 0 AL)) (fun X X2 hB ⟨h1, h2⟩ => ⟨vnext h1 hB, h2.later hB⟩) (by kernel_rfl) (by kernel_rfl) (by kernel_rfl) ⟨HB7.out.drew, HX9.out⟩ ?_
    simp only [putsL, Act.put, List.setIfInBounds_toArray, List.set_cons_zero, List.set_cons_succ, Nat.zero_add, Nat.reduceAdd]
    refine seqi_run ?_ (fun vs W hD => (by first | rfl | (simp at hD; simp [Region.wanted, yielded, hD]))) (fun vs W hS hD => ?_) ?_
    rotate_left
    · (obtain ⟨c0, c1, c2, _, _, _⟩ := hS.2.cells; have c0 : _ = some (Value.int .u8 3) := c0; have cl := hS.2.lt; obtain _ := hS; (try simp at hD); (try simp only [hD]); (first | (go_simp; done) | (go_simp; rfl)))
    simp only [List.nil_append, List.cons_append]
    refine seqi_run ?_ (fun vs W hD => (by first | rfl | (simp at hD; simp [Region.wanted, yielded, hD]))) (fun vs W hS hD => ?_) ?_
    rotate_left
    · (obtain ⟨c0, c1, c2, _, _, _⟩ := hS.2.cells; have c0 : _ = some (Value.int .u8 3) := c0; have cl := hS.2.lt; obtain _ := hS; (try simp at hD); (try simp only [hD]); (first | (go_simp; done) | (go_simp; rfl)))
    simp only [List.nil_append, List.cons_append]
    refine seqi_call (f := 8) (fun v _ => v = .agg #[.int .u8 3, .int .i64 0, .string AL]) (stable_val _) (fun vs => #[.string AL]) (fun vs W hD => (by first | rfl | (simp at hD; simp [Region.wanted, yielded, hD]))) (fun vs W hS hD => ?_) (fun vs W hS hD => ?_) ?_
    · (try simp at hD); (try simp only [hD]); go_simp; done
    · exact (ltext_any AL W).mono fun e W' ⟨he, hB⟩ => ⟨⟨_, he, rfl⟩, hB⟩
    simp only [List.nil_append, List.cons_append]
    refine seqi_run ?_ (fun vs W hD => (by first | rfl | (simp at hD; simp [Region.wanted, yielded, hD]))) (fun vs W hS hD => ?_) ?_
    rotate_left
    · (obtain ⟨c0, c1, c2, _, _, _⟩ := hS.2.cells; have c0 : _ = some (Value.int .u8 3) := c0; have cl := hS.2.lt; obtain _ := hS; (try simp at hD); (try simp only [hD]); (first | (go_simp; done) | (go_simp; rfl)))
    simp only [List.nil_append, List.cons_append]
    refine seqi_run ?_ (fun vs W hD => (by first | rfl | (simp at hD; simp [Region.wanted, yielded, hD]))) (fun vs W hS hD => ?_) ?_
    rotate_left
    · (obtain ⟨c0, c1, c2, _, _, _⟩ := hS.2.cells; have c0 : _ = some (Value.int .u8 3) := c0; have cl := hS.2.lt; obtain _ := hS; (try simp at hD); (try simp only [hD]); (first | (go_simp; done) | (go_simp; rfl)))
    simp only [List.nil_append, List.cons_append]
    refine seqi_run ?_ (fun vs W hD => (by first | rfl | (simp at hD; simp [Region.wanted, yielded, hD]))) (fun vs W hS hD => ?_) ?_
    rotate_left
    · (obtain ⟨c0, c1, c2, _, _, _⟩ := hS.2.cells; have c0 : _ = some (Value.int .u8 3) := c0; have cl := hS.2.lt; obtain _ := hS; (try simp at hD); (try simp only [hD]); (first | (go_simp; done) | (go_simp; rfl)))
    simp only [List.nil_append, List.cons_append]
    refine seqi_call (f := 8) (fun v _ => v = .agg #[.int .u8 3, .int .i64 0, .string A]) (stable_val _) (fun vs => #[.string A]) (fun vs W hD => (by first | rfl | (simp at hD; simp [Region.wanted, yielded, hD]))) (fun vs W hS hD => ?_) (fun vs W hS hD => ?_) ?_
    · (try simp at hD); (try simp only [hD]); go_simp; done
    · exact (ltext_any A W).mono fun e W' ⟨he, hB⟩ => ⟨⟨_, he, rfl⟩, hB⟩
    simp only [List.nil_append, List.cons_append]
    refine seqi_run ?_ (fun vs W hD => (by first | rfl | (simp at hD; simp [Region.wanted, yielded, hD]))) (fun vs W hS hD => ?_) ?_
    rotate_left
    · (obtain ⟨c0, c1, c2, _, _, _⟩ := hS.2.cells; have c0 : _ = some (Value.int .u8 3) := c0; have cl := hS.2.lt; obtain _ := hS; (try simp at hD); (try simp only [hD]); (first | (go_simp; done) | (go_simp; rfl)))
    simp only [List.nil_append, List.cons_append]
    refine seqi_call (f := 8) (fun v _ => v = .agg #[.int .u8 3, .int .i64 0, .string B]) (stable_val _) (fun vs => #[.string B]) (fun vs W hD => (by first | rfl | (simp at hD; simp [Region.wanted, yielded, hD]))) (fun vs W hS hD => ?_) (fun vs W hS hD => ?_) ?_
    · (try simp at hD); (try simp only [hD]); go_simp; done
    · exact (ltext_any B W).mono fun e W' ⟨he, hB⟩ => ⟨⟨_, he, rfl⟩, hB⟩
    simp only [List.nil_append, List.cons_append]
    refine seqi_oper (SlV [tv A, tv B]) (slV_stable _) (fun vs W hD => (by first | rfl | (simp at hD; simp [Region.wanted, yielded, hD]))) (fun vs W hS hD => ?_) ?_
    · (try simp at hD); unfold OperR; (try simp only [hD]); go_simp; exact ⟨⟨_, _, rfl, isV_new _ _ _ _ rfl⟩, valloc _ _⟩
    simp only [List.nil_append, List.cons_append]
    refine seqi_call (f := 7) (fun v _ => v = .agg #[.int .u8 3, .int .i64 0, .string AB]) (stable_val _) (fun vs => #[.int .u8 38, vs 9]) (fun vs W hD => (by first | rfl | (simp at hD; simp [Region.wanted, yielded, hD]))) (fun vs W hS hD => ?_) (fun vs W hS hD => ?_) ?_
    · (try simp at hD); (try simp only [hD]); go_simp; done
    · ((try simp [DepA, isB, rsAt] at hD); obtain ⟨ya, yc, ye, yi⟩ := (by first | exact hD | exact hD.1 : SlV _ _ _); rw [ye]; exact (O1.out ya yc W hS.1 yi).mono fun e W' ⟨he, hB⟩ => ⟨⟨_, he, rfl⟩, hB⟩)
    simp only [List.nil_append, List.cons_append]
    refine seqi_run ?_ (fun vs W hD => (by first | rfl | (simp at hD; simp [Region.wanted, yielded, hD]))) (fun vs W hS hD => ?_) ?_
    rotate_left
    · (obtain ⟨c0, c1, c2, _, _, _⟩ := hS.2.cells; have c0 : _ = some (Value.int .u8 3) := c0; have cl := hS.2.lt; obtain _ := hS; (try simp at hD); (try simp only [hD]); (first | (go_simp; done) | (go_simp; rfl)))
    simp only [List.nil_append, List.cons_append]
    refine seqi_call (f := 8) (fun v _ => v = .agg #[.int .u8 3, .int .i64 0, .string C]) (stable_val _) (fun vs => #[.string C]) (fun vs W hD => (by first | rfl | (simp at hD; simp [Region.wanted, yielded, hD]))) (fun vs W hS hD => ?_) (fun vs W hS hD => ?_) ?_
    · (try simp at hD); (try simp only [hD]); go_simp; done
    · exact (ltext_any C W).mono fun e W' ⟨he, hB⟩ => ⟨⟨_, he, rfl⟩, hB⟩
    simp only [List.nil_append, List.cons_append]
    refine seqi_oper (SlV [tv AB, tv C]) (slV_stable _) (fun vs W hD => (by first | rfl | (simp at hD; simp [Region.wanted, yielded, hD]))) (fun vs W hS hD => ?_) ?_
    · (try simp at hD); unfold OperR; (try simp only [hD]); go_simp; exact ⟨⟨_, _, rfl, isV_new _ _ _ _ rfl⟩, valloc _ _⟩
    simp only [List.nil_append, List.cons_append]
    refine seqi_call (f := 7) (fun v _ => v = .agg #[.int .u8 3, .int .i64 0, .string AL]) (stable_val _) (fun vs => #[.int .u8 38, vs 13]) (fun vs W hD => (by first | rfl | (simp at hD; simp [Region.wanted, yielded, hD]))) (fun vs W hS hD => ?_) (fun vs W hS hD => ?_) ?_
    · (try simp at hD); (try simp only [hD]); go_simp; done
    · ((try simp [DepA, isB, rsAt] at hD); obtain ⟨ya, yc, ye, yi⟩ := (by first | exact hD | exact hD.1 : SlV _ _ _); rw [ye]; exact (O2.out ya yc W hS.1 yi).mono fun e W' ⟨he, hB⟩ => ⟨⟨_, he, rfl⟩, hB⟩)
    simp only [List.nil_append, List.cons_append]
    refine seqi_run ?_ (fun vs W hD => (by first | rfl | (simp at hD; simp [Region.wanted, yielded, hD]))) (fun vs W hS hD => ?_) ?_
    rotate_left
    · (obtain ⟨c0, c1, c2, _, _, _⟩ := hS.2.cells; have c0 : _ = some (Value.int .u8 3) := c0; have cl := hS.2.lt; obtain _ := hS; (try simp at hD); (try simp only [hD]); (first | (go_simp; done) | (go_simp; rfl)))
    simp only [List.nil_append, List.cons_append]
    refine seqi_run ?_ (fun vs W hD => (by first | rfl | (simp at hD; simp [Region.wanted, yielded, hD]))) (fun vs W hS hD => ?_) ?_
    rotate_left
    · (obtain ⟨c0, c1, c2, _, _, _⟩ := hS.2.cells; have c0 : _ = some (Value.int .u8 3) := c0; have cl := hS.2.lt; obtain _ := hS; (try simp at hD); (try simp only [hD]); (first | (go_simp; done) | (go_simp; rfl)))
    simp only [List.nil_append, List.cons_append]
    refine seqi_run ?_ (fun vs W hD => (by first | rfl | (simp at hD; simp [Region.wanted, yielded, hD]))) (fun vs W hS hD => ?_) ?_
    rotate_left
    · (obtain ⟨c0, c1, c2, _, _, _⟩ := hS.2.cells; have c0 : _ = some (Value.int .u8 3) := c0; have cl := hS.2.lt; obtain _ := hS; (try simp at hD); (try simp only [hD]); (first | (go_simp; done) | (go_simp; rfl)))
    simp only [List.nil_append, List.cons_append]
    refine seqi_run ?_ (fun vs W hD => (by first | rfl | (simp at hD; simp [Region.wanted, yielded, hD]))) (fun vs W hS hD => ?_) ?_
    rotate_left
    · (obtain ⟨c0, c1, c2, _, _, _⟩ := hS.2.cells; have c0 : _ = some (Value.int .u8 3) := c0; have cl := hS.2.lt; obtain _ := hS; (try simp at hD); (try simp only [hD]); (first | (go_simp; done) | (go_simp; rfl)))
    simp only [List.nil_append, List.cons_append]
    refine seqi_run ?_ (fun vs W hD => (by first | rfl | (simp at hD; simp [Region.wanted, yielded, hD]))) (fun vs W hS hD => ?_) ?_
    rotate_left
    · (obtain ⟨c0, c1, c2, _, _, _⟩ := hS.2.cells; have c0 : _ = some (Value.int .u8 3) := c0; have cl := hS.2.lt; obtain _ := hS; (try simp at hD); (try simp only [hD]); (first | (go_simp; done) | (go_simp; rfl)))
    simp only [List.nil_append, List.cons_append]
    refine seqi_call (f := 8) (fun v _ => v = .agg #[.int .u8 3, .int .i64 0, .string A]) (stable_val _) (fun vs => #[.string A]) (fun vs W hD => (by first | rfl | (simp at hD; simp [Region.wanted, yielded, hD]))) (fun vs W hS hD => ?_) (fun vs W hS hD => ?_) ?_
    · (try simp at hD); (try simp only [hD]); go_simp; done
    · exact (ltext_any A W).mono fun e W' ⟨he, hB⟩ => ⟨⟨_, he, rfl⟩, hB⟩
    simp only [List.nil_append, List.cons_append]
    refine seqi_run ?_ (fun vs W hD => (by first | rfl | (simp at hD; simp [Region.wanted, yielded, hD]))) (fun vs W hS hD => ?_) ?_
    rotate_left
    · (obtain ⟨c0, c1, c2, _, _, _⟩ := hS.2.cells; have c0 : _ = some (Value.int .u8 3) := c0; have cl := hS.2.lt; obtain _ := hS; (try simp at hD); (try simp only [hD]); (first | (go_simp; done) | (go_simp; rfl)))
    simp only [List.nil_append, List.cons_append]
    refine seqi_call (f := 8) (fun v _ => v = .agg #[.int .u8 3, .int .i64 0, .string B]) (stable_val _) (fun vs => #[.string B]) (fun vs W hD => (by first | rfl | (simp at hD; simp [Region.wanted, yielded, hD]))) (fun vs W hS hD => ?_) (fun vs W hS hD => ?_) ?_
    · (try simp at hD); (try simp only [hD]); go_simp; done
    · exact (ltext_any B W).mono fun e W' ⟨he, hB⟩ => ⟨⟨_, he, rfl⟩, hB⟩
    simp only [List.nil_append, List.cons_append]
    refine seqi_run ?_ (fun vs W hD => (by first | rfl | (simp at hD; simp [Region.wanted, yielded, hD]))) (fun vs W hS hD => ?_) ?_
    rotate_left
    · (obtain ⟨c0, c1, c2, _, _, _⟩ := hS.2.cells; have c0 : _ = some (Value.int .u8 3) := c0; have cl := hS.2.lt; obtain _ := hS; (try simp at hD); (try simp only [hD]); (first | (go_simp; done) | (go_simp; rfl)))
    simp only [List.nil_append, List.cons_append]
    refine seqi_call (f := 8) (fun v _ => v = .agg #[.int .u8 3, .int .i64 0, .string C]) (stable_val _) (fun vs => #[.string C]) (fun vs W hD => (by first | rfl | (simp at hD; simp [Region.wanted, yielded, hD]))) (fun vs W hS hD => ?_) (fun vs W hS hD => ?_) ?_
    · (try simp at hD); (try simp only [hD]); go_simp; done
    · exact (ltext_any C W).mono fun e W' ⟨he, hB⟩ => ⟨⟨_, he, rfl⟩, hB⟩
    simp only [List.nil_append, List.cons_append]
    refine seqi_oper (SlV [tv B, tv C]) (slV_stable _) (fun vs W hD => (by first | rfl | (simp at hD; simp [Region.wanted, yielded, hD]))) (fun vs W hS hD => ?_) ?_
    · (try simp at hD); unfold OperR; (try simp only [hD]); go_simp; exact ⟨⟨_, _, rfl, isV_new _ _ _ _ rfl⟩, valloc _ _⟩
    simp only [List.nil_append, List.cons_append]
    refine seqi_call (f := 7) (fun v _ => v = .agg #[.int .u8 3, .int .i64 0, .string BC]) (stable_val _) (fun vs => #[.int .u8 38, vs 25]) (fun vs W hD => (by first | rfl | (simp at hD; simp [Region.wanted, yielded, hD]))) (fun vs W hS hD => ?_) (fun vs W hS hD => ?_) ?_
    · (try simp at hD); (try simp only [hD]); go_simp; done
    · ((try simp [DepA, isB, rsAt] at hD); obtain ⟨ya, yc, ye, yi⟩ := (by first | exact hD | exact hD.1 : SlV _ _ _); rw [ye]; exact (O3.out ya yc W hS.1 yi).mono fun e W' ⟨he, hB⟩ => ⟨⟨_, he, rfl⟩, hB⟩)
    simp only [List.nil_append, List.cons_append]
    refine seqi_oper (SlV [tv A, tv BC]) (slV_stable _) (fun vs W hD => (by first | rfl | (simp at hD; simp [Region.wanted, yielded, hD]))) (fun vs W hS hD => ?_) ?_
    · (try simp at hD); unfold OperR; (try simp only [hD]); go_simp; exact ⟨⟨_, _, rfl, isV_new _ _ _ _ rfl⟩, valloc _ _⟩
    simp only [List.nil_append, List.cons_append]
    refine seqi_call (f := 7) (fun v _ => v = .agg #[.int .u8 3, .int .i64 0, .string AL]) (stable_val _) (fun vs => #[.int .u8 38, vs 27]) (fun vs W hD => (by first | rfl | (simp at hD; simp [Region.wanted, yielded, hD]))) (fun vs W hS hD => ?_) (fun vs W hS hD => ?_) ?_
    · (try simp at hD); (try simp only [hD]); go_simp; done
    · ((try simp [DepA, isB, rsAt] at hD); obtain ⟨ya, yc, ye, yi⟩ := (by first | exact hD | exact hD.1 : SlV _ _ _); rw [ye]; exact (O4.out ya yc W hS.1 yi).mono fun e W' ⟨he, hB⟩ => ⟨⟨_, he, rfl⟩, hB⟩)
    simp only [List.nil_append, List.cons_append]
    refine seqi_run ?_ (fun vs W hD => (by first | rfl | (simp at hD; simp [Region.wanted, yielded, hD]))) (fun vs W hS hD => ?_) ?_
    rotate_left
    · (obtain ⟨c0, c1, c2, _, _, _⟩ := hS.2.cells; have c0 : _ = some (Value.int .u8 3) := c0; have cl := hS.2.lt; obtain _ := hS; (try simp at hD); (try simp only [hD]); (first | (go_simp; done) | (go_simp; rfl)))
    simp only [List.nil_append, List.cons_append]
    refine seqi_run ?_ (fun vs W hD => (by first | rfl | (simp at hD; simp [Region.wanted, yielded, hD]))) (fun vs W hS hD => ?_) ?_
    rotate_left
    · (obtain ⟨c0, c1, c2, _, _, _⟩ := hS.2.cells; have c0 : _ = some (Value.int .u8 3) := c0; have cl := hS.2.lt; obtain _ := hS; (try simp at hD); (try simp only [hD]); (first | (go_simp; done) | (go_simp; rfl)))
    simp only [List.nil_append, List.cons_append]
    refine seqi_run ?_ (fun vs W hD => (by first | rfl | (simp at hD; simp [Region.wanted, yielded, hD]))) (fun vs W hS hD => ?_) ?_
    rotate_left
    · (obtain ⟨c0, c1, c2, _, _, _⟩ := hS.2.cells; have c0 : _ = some (Value.int .u8 3) := c0; have cl := hS.2.lt; obtain _ := hS; (try simp at hD); (try simp only [hD]); (first | (go_simp; done) | (go_simp; rfl)))
    simp only [List.nil_append, List.cons_append]
    refine seqi_run ?_ (fun vs W hD => (by first | rfl | (simp at hD; simp [Region.wanted, yielded, hD]))) (fun vs W hS hD => ?_) ?_
    rotate_left
    · (obtain ⟨c0, c1, c2, _, _, _⟩ := hS.2.cells; have c0 : _ = some (Value.int .u8 3) := c0; have cl := hS.2.lt; obtain _ := hS; (try simp at hD); (try simp only [hD]); (first | (go_simp; done) | (go_simp; rfl)))
    simp only [List.nil_append, List.cons_append]
    refine seqi_run ?_ (fun vs W hD => (by first | rfl | (simp at hD; simp [Region.wanted, yielded, hD]))) (fun vs W hS hD => ?_) ?_
    rotate_left
    · (obtain ⟨c0, c1, c2, _, _, _⟩ := hS.2.cells; have c0 : _ = some (Value.int .u8 3) := c0; have cl := hS.2.lt; obtain _ := hS; (try simp at hD); (try simp only [hD]); (first | (go_simp; done) | (go_simp; rfl)))
    simp only [List.nil_append, List.cons_append]
    refine seqi_oper (SlV [tv AL]) (slV_stable _) (fun vs W hD => (by first | rfl | (simp at hD; simp [Region.wanted, yielded, hD]))) (fun vs W hS hD => ?_) ?_
    · (try simp at hD); unfold OperR; (try simp only [hD]); go_simp; exact ⟨⟨_, _, rfl, isV_new _ _ _ _ rfl⟩, valloc _ _⟩
    simp only [List.nil_append, List.cons_append]
    refine seqi_call (f := 7) (fun v _ => v = .agg #[.int .u8 1, .int .i64 ((AL.size : Int) * 10000), .string ⟨#[]⟩]) (stable_val _) (fun vs => #[.int .u8 31, vs 34]) (fun vs W hD => (by first | rfl | (simp at hD; simp [Region.wanted, yielded, hD]))) (fun vs W hS hD => ?_) (fun vs W hS hD => ?_) ?_
    · (try simp at hD); (try simp only [hD]); go_simp; done
    · ((try simp [DepA, isB, rsAt] at hD); obtain ⟨ya, yc, ye, yi⟩ := (by first | exact hD | exact hD.1 : SlV _ _ _); rw [ye]; exact (O5.out ya yc W hS.1 yi).mono fun e W' ⟨he, hB⟩ => ⟨⟨_, he, rfl⟩, hB⟩)
    simp only [List.nil_append, List.cons_append]
    refine seqi_run ?_ (fun vs W hD => (by first | rfl | (simp at hD; simp [Region.wanted, yielded, hD]))) (fun vs W hS hD => ?_) ?_
    rotate_left
    · (obtain ⟨c0, c1, c2, _, _, _⟩ := hS.2.cells; have c0 : _ = some (Value.int .u8 3) := c0; have cl := hS.2.lt; obtain _ := hS; (try simp at hD); (try simp only [hD]); (first | (go_simp; done) | (go_simp; rfl)))
    simp only [List.nil_append, List.cons_append]
    refine seqi_run ?_ (fun vs W hD => (by first | rfl | (simp at hD; simp [Region.wanted, yielded, hD]))) (fun vs W hS hD => ?_) ?_
    rotate_left
    · (obtain ⟨c0, c1, c2, _, _, _⟩ := hS.2.cells; have c0 : _ = some (Value.int .u8 3) := c0; have cl := hS.2.lt; obtain _ := hS; (try simp at hD); (try simp only [hD]); (first | (go_simp; done) | (go_simp; rfl)))
    simp only [List.nil_append, List.cons_append]
    refine seqi_run ?_ (fun vs W hD => (by first | rfl | (simp at hD; simp [Region.wanted, yielded, hD]))) (fun vs W hS hD => ?_) ?_
    rotate_left
    · (obtain ⟨c0, c1, c2, _, _, _⟩ := hS.2.cells; have c0 : _ = some (Value.int .u8 3) := c0; have cl := hS.2.lt; obtain _ := hS; (try simp at hD); (try simp only [hD]); (first | (go_simp; done) | (go_simp; rfl)))
    simp only [List.nil_append, List.cons_append]
    refine seqi_call (f := 9) (fun v _ => v = .agg #[.int .u8 1, .int .i64 ((AL.size : Int) * 10000), .string ⟨#[]⟩]) (stable_val _) (fun vs => #[.int .i64 ((AL.size : Int) * 10000)]) (fun vs W hD => (by first | rfl | (simp at hD; simp [Region.wanted, yielded, hD]))) (fun vs W hS hD => ?_) (fun vs W hS hD => ?_) ?_
    · (try simp at hD); (try simp only [hD]); go_simp; done
    · exact (lnum_any ((AL.size : Int) * 10000) W).mono fun e W' ⟨he, hB⟩ => ⟨⟨_, he, rfl⟩, hB⟩
    simp only [List.nil_append, List.cons_append]
    refine seqi_run ?_ (fun vs W hD => (by first | rfl | (simp at hD; simp [Region.wanted, yielded, hD]))) (fun vs W hS hD => ?_) ?_
    rotate_left
    · (obtain ⟨c0, c1, c2, _, _, _⟩ := hS.2.cells; have c0 : _ = some (Value.int .u8 3) := c0; have cl := hS.2.lt; obtain _ := hS; (try simp at hD); (try simp only [hD]); (first | (go_simp; done) | (go_simp; rfl)))
    simp only [List.nil_append, List.cons_append]
    refine seqi_run ?_ (fun vs W hD => (by first | rfl | (simp at hD; simp [Region.wanted, yielded, hD]))) (fun vs W hS hD => ?_) ?_
    rotate_left
    · (obtain ⟨c0, c1, c2, _, _, _⟩ := hS.2.cells; have c0 : _ = some (Value.int .u8 3) := c0; have cl := hS.2.lt; obtain _ := hS; (try simp at hD); (try simp only [hD]); (first | (go_simp; done) | (go_simp; rfl)))
    simp only [List.nil_append, List.cons_append]
    refine seqi_end fun vs W hS hv => ?_
    simp only [AllF, Nat.zero_add, Nat.reduceAdd] at hv
    obtain ⟨h0, h1, h2, h3, h4, h5, h6, h7, h8, h9, h10, h11, h12, h13, h14, h15, h16, h17, h18, h19, h20, h21, h22, h23, h24, h25, h26, h27, h28, h29, h30, h31, h32, h33, h34, h35, h36, h37, h38, h39, h40, h41, _⟩ := hv
    obtain ⟨sa9, sc9, h9, _⟩ := h9
    obtain ⟨sa13, sc13, h13, _⟩ := h13
    obtain ⟨sa25, sc25, h25, _⟩ := h25
    obtain ⟨sa27, sc27, h27, _⟩ := h27
    obtain ⟨sa34, sc34, h34, _⟩ := h34
    simp only [h0, h1, h2, h3, h4, h5, h6, h7, h8, h9, h10, h11, h12, h13, h14, h15, h16, h17, h18, h19, h20, h21, h22, h23, h24, h25, h26, h27, h28, h29, h30, h31, h32, h33, h34, h35, h36, h37, h38, h39, h40, h41]
    clear h0 h1 h2 h3 h4 h5 h6 h7 h8 h9 h10 h11 h12 h13 h14 h15 h16 h17 h18 h19 h20 h21 h22 h23 h24 h25 h26 h27 h28 h29 h30 h31 h32 h33 h34 h35 h36 h37 h38 h39 h40 h41
    have HB8 := Lib.hid hS.1
    clear hS O1 O2 O3 O4 O5 HX9 HB7 HB6
    generalize W = w8 at *
    go_wp2_with fail
    refine (ltext_any A _).mono ?_
    rintro e w9 ⟨rfl, hB⟩
    have HB9 := Lib.hid (vnext HB8.out hB)
    clear hB HB8
    go_wp2_with fail
    refine (lnum_any ((m : Int) * 10000) _).mono ?_
    rintro e w10 ⟨rfl, hB⟩
    have HB10 := Lib.hid (vnext HB9.out hB)
    clear hB HB9
    go_wp2_with fail
    have hV := isV_new w10 #[.int .u8 3, .int .i64 0, .string A, .int .u8 1, .int .i64 ((m : Int) * 10000), .string ⟨#[]⟩] 24 [tv A, nv ((m : Int) * 10000)] rfl
    have hbb := valloc w10 (.cells #[.int .u8 3, .int .i64 0, .string A, .int .u8 1, .int .i64 ((m : Int) * 10000), .string ⟨#[]⟩] 24)
    have hmm : A.size * m ≤ 36000 := Nat.le_trans (Nat.mul_le_mul zA hm300) (by decide)
    have hmi : ((A.size * m : Nat) : Int) = (A.size : Int) * (m : Int) := by simp
    have hwm : IntKind.i64.wrap ((A.size : Int) * (m : Int)) = (A.size : Int) * (m : Int) := IntWalk.i64_in _ (by omega)
    refine (HRP.out _ _ _ (vnext HB10.out hbb) hV).mono ?_
    by_cases hrb : 256 < A.size * m
    · have hx : vOf (reptV A m) = .agg #[.int .u8 4, .int .i64 2, .string ⟨#[]⟩] := by rw [rept_bad hrb]; rfl
      rw [hx]
      rintro e w11 ⟨rfl, hB⟩
      have HB11 := Lib.hid (vnext HB10.out (vnext hbb hB))
      clear hV hbb hB HB10 hx HRP
      have hcm : (256 : Int) < (A.size : Int) * (m : Int) := by omega
      go_upto_region 11 with fail
      have HB12 := Lib.hid (vnext HB11.out (valloc w11 (.cells #[.int .u8 4, .int .i64 2, .string ⟨#[]⟩] 24)))
      obtain ⟨d0, d1, d2, _, _, _⟩ := (B3.start w11 4 2 ⟨#[]⟩).cells
      have d0 : _ = some (Value.int .u8 4) := d0
      have dl := (B3.start w11 4 2 ⟨#[]⟩).lt
      generalize w11.alloc (.cells #[.int .u8 4, .int .i64 2, .string ⟨#[]⟩] 24) = w12 at *
      go_wp2_with fail
      refine (HAW.out _ HB12.out).mono ?_
      rintro e w13 ⟨rfl, hB⟩
      have HBE := Lib.hid (vnext HB12.out hB)
      clear hB
      go_wp2_with fail
      go_ret
      exact ⟨rfl, HBE.out⟩
    · obtain ⟨R, hR, zR, hex, kR⟩ := rept_ok KA.out (show A.size * m ≤ 256 by omega)
      have hx : vOf (reptV A m) = .agg #[.int .u8 3, .int .i64 0, .string R] := by rw [hR]; rfl
      rw [hx]
      rintro e w11 ⟨rfl, hB⟩
      have HB11 := Lib.hid (vnext HB10.out (vnext hbb hB))
      clear hV hbb hB HB10 hx HRP hR
      have hcm : (A.size : Int) * (m : Int) ≤ 256 := by omega
      have hrz : (R.size : Int) = (A.size : Int) * (m : Int) := by rw [zR]; exact hmi
      have hr256 : R.size ≤ 256 := by omega
      go_upto_region 11 with fail
      have HB12 := Lib.hid (vnext HB11.out (valloc w11 (.cells #[.int .u8 3, .int .i64 0, .string R] 24)))
      have HX := Lib.hid (B3.start w11 3 0 R)
      generalize w11.alloc (.cells #[.int .u8 3, .int .i64 0, .string R] 24) = w12 at *
      have HO1 : Hid (∀ a cap W, Below w.heap.size w W → IsV W a 2 [tv R, nv (1 * 10000)] → Calls Tryz.prog 7 #[.int .u8 39, .slice a 2 cap] W fun e w' => e = .returned (.agg #[.int .u8 3, .int .i64 0, .string R]) ∧ Below W.heap.size W w') := fun a cap W hB h => by have h2 := of_rept R 1 kR (by omega) a cap W h (HT.out.later hB); rw [rept_one hr256] at h2; exact h2
      have hq1 : ((R.size : Int) == (A.size : Int) * (m : Int)) = true := by rw [hrz]; simp
      clear zR
      go_wp2_with fail
      by_cases m0 : m = 0
      · have hm0 : ((m : Int) == 0) = true := by rw [m0]; rfl
        clear m0 hex
        refine wp_region_seqi (fun X => (Below w.heap.size w X ∧ B3 X w11.heap.size 3 0 R)) (fun X X2 hB ⟨h1, h2⟩ => ⟨vnext h1 hB, h2.later hB⟩) (by kernel_rfl) (by kernel_rfl) (by kernel_rfl) ⟨HB12.out.drew, HX.out⟩ ?_
        simp only [putsL, Act.put, List.setIfInBounds_toArray, List.set_cons_zero, List.set_cons_succ, Nat.zero_add, Nat.reduceAdd]
        refine seqi_run ?_ (fun vs W hD => (by first | rfl | (simp at hD; simp [Region.wanted, yielded, hD]))) (fun vs W hS hD => ?_) ?_
        rotate_left
        · (obtain ⟨c0, c1, c2, _, _, _⟩ := hS.2.cells; have c0 : _ = some (Value.int .u8 3) := c0; have cl := hS.2.lt; obtain _ := hS; (try simp at hD); (try simp only [hD]); (first | (go_simp; done) | (go_simp; rfl)))
        simp only [List.nil_append, List.cons_append]
        refine seqi_run ?_ (fun vs W hD => (by first | rfl | (simp at hD; simp [Region.wanted, yielded, hD]))) (fun vs W hS hD => ?_) ?_
        rotate_left
        · (obtain ⟨c0, c1, c2, _, _, _⟩ := hS.2.cells; have c0 : _ = some (Value.int .u8 3) := c0; have cl := hS.2.lt; obtain _ := hS; (try simp at hD); (try simp only [hD]); (first | (go_simp; done) | (go_simp; rfl)))
        simp only [List.nil_append, List.cons_append]
        refine seqi_run ?_ (fun vs W hD => (by first | rfl | (simp at hD; simp [Region.wanted, yielded, hD]))) (fun vs W hS hD => ?_) ?_
        rotate_left
        · (obtain ⟨c0, c1, c2, _, _, _⟩ := hS.2.cells; have c0 : _ = some (Value.int .u8 3) := c0; have cl := hS.2.lt; obtain _ := hS; (try simp at hD); (try simp only [hD]); (first | (go_simp; done) | (go_simp; rfl)))
        simp only [List.nil_append, List.cons_append]
        refine seqi_run ?_ (fun vs W hD => (by first | rfl | (simp at hD; simp [Region.wanted, yielded, hD]))) (fun vs W hS hD => ?_) ?_
        rotate_left
        · (obtain ⟨c0, c1, c2, _, _, _⟩ := hS.2.cells; have c0 : _ = some (Value.int .u8 3) := c0; have cl := hS.2.lt; obtain _ := hS; (try simp at hD); (try simp only [hD]); (first | (go_simp; done) | (go_simp; rfl)))
        simp only [List.nil_append, List.cons_append]
        refine seqi_run ?_ (fun vs W hD => (by first | rfl | (simp at hD; simp [Region.wanted, yielded, hD]))) (fun vs W hS hD => ?_) ?_
        rotate_left
        · (obtain ⟨c0, c1, c2, _, _, _⟩ := hS.2.cells; have c0 : _ = some (Value.int .u8 3) := c0; have cl := hS.2.lt; obtain _ := hS; (try simp at hD); (try simp only [hD]); (first | (go_simp; done) | (go_simp; rfl)))
        simp only [List.nil_append, List.cons_append]
        refine seqi_run ?_ (fun vs W hD => (by first | rfl | (simp at hD; simp [Region.wanted, yielded, hD]))) (fun vs W hS hD => ?_) ?_
        rotate_left
        · (obtain ⟨c0, c1, c2, _, _, _⟩ := hS.2.cells; have c0 : _ = some (Value.int .u8 3) := c0; have cl := hS.2.lt; obtain _ := hS; (try simp at hD); (try simp only [hD]); (first | (go_simp; done) | (go_simp; rfl)))
        simp only [List.nil_append, List.cons_append]
        refine seqi_run ?_ (fun vs W hD => (by first | rfl | (simp at hD; simp [Region.wanted, yielded, hD]))) (fun vs W hS hD => ?_) ?_
        rotate_left
        · (obtain ⟨c0, c1, c2, _, _, _⟩ := hS.2.cells; have c0 : _ = some (Value.int .u8 3) := c0; have cl := hS.2.lt; obtain _ := hS; (try simp at hD); (try simp only [hD]); (first | (go_simp; done) | (go_simp; rfl)))
        simp only [List.nil_append, List.cons_append]
        refine seqi_run ?_ (fun vs W hD => (by first | rfl | (simp at hD; simp [Region.wanted, yielded, hD]))) (fun vs W hS hD => ?_) ?_
        rotate_left
        · (obtain ⟨c0, c1, c2, _, _, _⟩ := hS.2.cells; have c0 : _ = some (Value.int .u8 3) := c0; have cl := hS.2.lt; obtain _ := hS; (try simp at hD); (try simp only [hD]); (first | (go_simp; done) | (go_simp; rfl)))
        simp only [List.nil_append, List.cons_append]
        refine seqi_run ?_ (fun vs W hD => (by first | rfl | (simp at hD; simp [Region.wanted, yielded, hD]))) (fun vs W hS hD => ?_) ?_
        rotate_left
        · (obtain ⟨c0, c1, c2, _, _, _⟩ := hS.2.cells; have c0 : _ = some (Value.int .u8 3) := c0; have cl := hS.2.lt; obtain _ := hS; (try simp at hD); (try simp only [hD]); (first | (go_simp; done) | (go_simp; rfl)))
        simp only [List.nil_append, List.cons_append]
        refine seqi_run ?_ (fun vs W hD => (by first | rfl | (simp at hD; simp [Region.wanted, yielded, hD]))) (fun vs W hS hD => ?_) ?_
        rotate_left
        · (obtain ⟨c0, c1, c2, _, _, _⟩ := hS.2.cells; have c0 : _ = some (Value.int .u8 3) := c0; have cl := hS.2.lt; obtain _ := hS; (try simp at hD); (try simp only [hD]); (first | (go_simp; done) | (go_simp; rfl)))
        simp only [List.nil_append, List.cons_append]
        refine seqi_run ?_ (fun vs W hD => (by first | rfl | (simp at hD; simp [Region.wanted, yielded, hD]))) (fun vs W hS hD => ?_) ?_
        rotate_left
        · (obtain ⟨c0, c1, c2, _, _, _⟩ := hS.2.cells; have c0 : _ = some (Value.int .u8 3) := c0; have cl := hS.2.lt; obtain _ := hS; (try simp at hD); (try simp only [hD]); (first | (go_simp; done) | (go_simp; rfl)))
        simp only [List.nil_append, List.cons_append]
        refine seqi_run ?_ (fun vs W hD => (by first | rfl | (simp at hD; simp [Region.wanted, yielded, hD]))) (fun vs W hS hD => ?_) ?_
        rotate_left
        · (obtain ⟨c0, c1, c2, _, _, _⟩ := hS.2.cells; have c0 : _ = some (Value.int .u8 3) := c0; have cl := hS.2.lt; obtain _ := hS; (try simp at hD); (try simp only [hD]); (first | (go_simp; done) | (go_simp; rfl)))
        simp only [List.nil_append, List.cons_append]
        refine seqi_run ?_ (fun vs W hD => (by first | rfl | (simp at hD; simp [Region.wanted, yielded, hD]))) (fun vs W hS hD => ?_) ?_
        rotate_left
        · (obtain ⟨c0, c1, c2, _, _, _⟩ := hS.2.cells; have c0 : _ = some (Value.int .u8 3) := c0; have cl := hS.2.lt; obtain _ := hS; (try simp at hD); (try simp only [hD]); (first | (go_simp; done) | (go_simp; rfl)))
        simp only [List.nil_append, List.cons_append]
        refine seqi_run ?_ (fun vs W hD => (by first | rfl | (simp at hD; simp [Region.wanted, yielded, hD]))) (fun vs W hS hD => ?_) ?_
        rotate_left
        · (obtain ⟨c0, c1, c2, _, _, _⟩ := hS.2.cells; have c0 : _ = some (Value.int .u8 3) := c0; have cl := hS.2.lt; obtain _ := hS; (try simp at hD); (try simp only [hD]); (first | (go_simp; done) | (go_simp; rfl)))
        simp only [List.nil_append, List.cons_append]
        refine seqi_run ?_ (fun vs W hD => (by first | rfl | (simp at hD; simp [Region.wanted, yielded, hD]))) (fun vs W hS hD => ?_) ?_
        rotate_left
        · (obtain ⟨c0, c1, c2, _, _, _⟩ := hS.2.cells; have c0 : _ = some (Value.int .u8 3) := c0; have cl := hS.2.lt; obtain _ := hS; (try simp at hD); (try simp only [hD]); (first | (go_simp; done) | (go_simp; rfl)))
        simp only [List.nil_append, List.cons_append]
        refine seqi_run ?_ (fun vs W hD => (by first | rfl | (simp at hD; simp [Region.wanted, yielded, hD]))) (fun vs W hS hD => ?_) ?_
        rotate_left
        · (obtain ⟨c0, c1, c2, _, _, _⟩ := hS.2.cells; have c0 : _ = some (Value.int .u8 3) := c0; have cl := hS.2.lt; obtain _ := hS; (try simp at hD); (try simp only [hD]); (first | (go_simp; done) | (go_simp; rfl)))
        simp only [List.nil_append, List.cons_append]
        refine seqi_run ?_ (fun vs W hD => (by first | rfl | (simp at hD; simp [Region.wanted, yielded, hD]))) (fun vs W hS hD => ?_) ?_
        rotate_left
        · (obtain ⟨c0, c1, c2, _, _, _⟩ := hS.2.cells; have c0 : _ = some (Value.int .u8 3) := c0; have cl := hS.2.lt; obtain _ := hS; (try simp at hD); (try simp only [hD]); (first | (go_simp; done) | (go_simp; rfl)))
        simp only [List.nil_append, List.cons_append]
        refine seqi_not (fun vs W hD => (by (try simp at hD); simp [Region.wanted, yielded, hD])) ?_
        simp only [List.nil_append, List.cons_append]
        refine seqi_not (fun vs W hD => (by (try simp at hD); simp [Region.wanted, yielded, hD])) ?_
        simp only [List.nil_append, List.cons_append]
        refine seqi_not (fun vs W hD => (by (try simp at hD); simp [Region.wanted, yielded, hD])) ?_
        simp only [List.nil_append, List.cons_append]
        refine seqi_not (fun vs W hD => (by (try simp at hD); simp [Region.wanted, yielded, hD])) ?_
        simp only [List.nil_append, List.cons_append]
        refine seqi_not (fun vs W hD => (by (try simp at hD); simp [Region.wanted, yielded, hD])) ?_
        simp only [List.nil_append, List.cons_append]
        refine seqi_not (fun vs W hD => (by (try simp at hD); simp [Region.wanted, yielded, hD])) ?_
        simp only [List.nil_append, List.cons_append]
        refine seqi_not (fun vs W hD => (by (try simp at hD); simp [Region.wanted, yielded, hD])) ?_
        simp only [List.nil_append, List.cons_append]
        refine seqi_run ?_ (fun vs W hD => (by first | rfl | (simp at hD; simp [Region.wanted, yielded, hD]))) (fun vs W hS hD => ?_) ?_
        rotate_left
        · (obtain ⟨c0, c1, c2, _, _, _⟩ := hS.2.cells; have c0 : _ = some (Value.int .u8 3) := c0; have cl := hS.2.lt; obtain _ := hS; (try simp at hD); (try simp only [hD]); (first | (go_simp; done) | (go_simp; rfl)))
        simp only [List.nil_append, List.cons_append]
        refine seqi_run ?_ (fun vs W hD => (by first | rfl | (simp at hD; simp [Region.wanted, yielded, hD]))) (fun vs W hS hD => ?_) ?_
        rotate_left
        · (obtain ⟨c0, c1, c2, _, _, _⟩ := hS.2.cells; have c0 : _ = some (Value.int .u8 3) := c0; have cl := hS.2.lt; obtain _ := hS; (try simp at hD); (try simp only [hD]); (first | (go_simp; done) | (go_simp; rfl)))
        simp only [List.nil_append, List.cons_append]
        refine seqi_run ?_ (fun vs W hD => (by first | rfl | (simp at hD; simp [Region.wanted, yielded, hD]))) (fun vs W hS hD => ?_) ?_
        rotate_left
        · (obtain ⟨c0, c1, c2, _, _, _⟩ := hS.2.cells; have c0 : _ = some (Value.int .u8 3) := c0; have cl := hS.2.lt; obtain _ := hS; (try simp at hD); (try simp only [hD]); (first | (go_simp; done) | (go_simp; rfl)))
        simp only [List.nil_append, List.cons_append]
        refine seqi_run ?_ (fun vs W hD => (by first | rfl | (simp at hD; simp [Region.wanted, yielded, hD]))) (fun vs W hS hD => ?_) ?_
        rotate_left
        · (obtain ⟨c0, c1, c2, _, _, _⟩ := hS.2.cells; have c0 : _ = some (Value.int .u8 3) := c0; have cl := hS.2.lt; obtain _ := hS; (try simp at hD); (try simp only [hD]); (first | (go_simp; done) | (go_simp; rfl)))
        simp only [List.nil_append, List.cons_append]
        refine seqi_call (f := 9) (fun v _ => v = .agg #[.int .u8 1, .int .i64 10000, .string ⟨#[]⟩]) (stable_val _) (fun vs => #[.int .i64 10000]) (fun vs W hD => (by first | rfl | (simp at hD; simp [Region.wanted, yielded, hD]))) (fun vs W hS hD => ?_) (fun vs W hS hD => ?_) ?_
        · (try simp at hD); (try simp only [hD]); go_simp; done
        · exact (lnum_any 10000 W).mono fun e W' ⟨he, hB⟩ => ⟨⟨_, he, rfl⟩, hB⟩
        simp only [List.nil_append, List.cons_append]
        refine seqi_oper (SlV [tv R, nv (1 * 10000)]) (slV_stable _) (fun vs W hD => (by first | rfl | (simp at hD; simp [Region.wanted, yielded, hD]))) (fun vs W hS hD => ?_) ?_
        · (try simp at hD); unfold OperR; (try simp only [hD]); go_simp; exact ⟨⟨_, _, rfl, isV_new _ _ _ _ rfl⟩, valloc _ _⟩
        simp only [List.nil_append, List.cons_append]
        refine seqi_call (f := 7) (fun v _ => v = .agg #[.int .u8 3, .int .i64 0, .string R]) (stable_val _) (fun vs => #[.int .u8 39, vs 29]) (fun vs W hD => (by first | rfl | (simp at hD; simp [Region.wanted, yielded, hD]))) (fun vs W hS hD => ?_) (fun vs W hS hD => ?_) ?_
        · (try simp at hD); (try simp only [hD]); go_simp; done
        · ((try simp [DepA, isB, rsAt] at hD); obtain ⟨ya, yc, ye, yi⟩ := (by first | exact hD | exact hD.1 : SlV _ _ _); rw [ye]; exact (HO1.out ya yc W hS.1 yi).mono fun e W' ⟨he, hB⟩ => ⟨⟨_, he, rfl⟩, hB⟩)
        simp only [List.nil_append, List.cons_append]
        refine seqi_run ?_ (fun vs W hD => (by first | rfl | (simp at hD; simp [Region.wanted, yielded, hD]))) (fun vs W hS hD => ?_) ?_
        rotate_left
        · (obtain ⟨c0, c1, c2, _, _, _⟩ := hS.2.cells; have c0 : _ = some (Value.int .u8 3) := c0; have cl := hS.2.lt; obtain _ := hS; (try simp at hD); (try simp only [hD]); (first | (go_simp; done) | (go_simp; rfl)))
        simp only [List.nil_append, List.cons_append]
        refine seqi_run ?_ (fun vs W hD => (by first | rfl | (simp at hD; simp [Region.wanted, yielded, hD]))) (fun vs W hS hD => ?_) ?_
        rotate_left
        · (obtain ⟨c0, c1, c2, _, _, _⟩ := hS.2.cells; have c0 : _ = some (Value.int .u8 3) := c0; have cl := hS.2.lt; obtain _ := hS; (try simp at hD); (try simp only [hD]); (first | (go_simp; done) | (go_simp; rfl)))
        simp only [List.nil_append, List.cons_append]
        refine seqi_run ?_ (fun vs W hD => (by first | rfl | (simp at hD; simp [Region.wanted, yielded, hD]))) (fun vs W hS hD => ?_) ?_
        rotate_left
        · (obtain ⟨c0, c1, c2, _, _, _⟩ := hS.2.cells; have c0 : _ = some (Value.int .u8 3) := c0; have cl := hS.2.lt; obtain _ := hS; (try simp at hD); (try simp only [hD]); (first | (go_simp; done) | (go_simp; rfl)))
        simp only [List.nil_append, List.cons_append]
        refine seqi_run ?_ (fun vs W hD => (by first | rfl | (simp at hD; simp [Region.wanted, yielded, hD]))) (fun vs W hS hD => ?_) ?_
        rotate_left
        · (obtain ⟨c0, c1, c2, _, _, _⟩ := hS.2.cells; have c0 : _ = some (Value.int .u8 3) := c0; have cl := hS.2.lt; obtain _ := hS; (try simp at hD); (try simp only [hD]); (first | (go_simp; done) | (go_simp; rfl)))
        simp only [List.nil_append, List.cons_append]
        refine seqi_call (f := 10) (fun v _ => v = .bool true) (stable_val _) (fun vs => #[]) (fun vs W hD => (by first | rfl | (simp at hD; simp [Region.wanted, yielded, hD]))) (fun vs W hS hD => ?_) (fun vs W hS hD => ?_) ?_
        · (try simp at hD); (try simp only [hD]); go_simp; done
        · exact (HAW.out W hS.1).mono fun e W' ⟨he, hB⟩ => ⟨⟨_, he, rfl⟩, hB⟩
        simp only [List.nil_append, List.cons_append]
        refine seqi_run ?_ (fun vs W hD => (by first | rfl | (simp at hD; simp [Region.wanted, yielded, hD]))) (fun vs W hS hD => ?_) ?_
        rotate_left
        · (obtain ⟨c0, c1, c2, _, _, _⟩ := hS.2.cells; have c0 : _ = some (Value.int .u8 3) := c0; have cl := hS.2.lt; obtain _ := hS; (try simp at hD); (try simp only [hD]); (first | (go_simp; done) | (go_simp; rfl)))
        simp only [List.nil_append, List.cons_append]
        refine seqi_run ?_ (fun vs W hD => (by first | rfl | (simp at hD; simp [Region.wanted, yielded, hD]))) (fun vs W hS hD => ?_) ?_
        rotate_left
        · (obtain ⟨c0, c1, c2, _, _, _⟩ := hS.2.cells; have c0 : _ = some (Value.int .u8 3) := c0; have cl := hS.2.lt; obtain _ := hS; (try simp at hD); (try simp only [hD]); (first | (go_simp; done) | (go_simp; rfl)))
        simp only [List.nil_append, List.cons_append]
        refine seqi_end fun vs W hS hv => ?_
        simp only [AllF, Nat.zero_add, Nat.reduceAdd] at hv
        obtain ⟨h0, h1, h2, h3, h4, h5, h6, h7, h8, h9, h10, h11, h12, h13, h14, h15, h16, h17, h18, h19, h20, h21, h22, h23, h24, h25, h26, h27, h28, h29, h30, h31, h32, h33, h34, h35, h36, h37, _⟩ := hv
        obtain ⟨sa29, sc29, h29, _⟩ := h29
        simp only [h0, h1, h2, h3, h4, h5, h6, h7, h8, h9, h10, h11, h12, h13, h14, h15, h16, h17, h18, h19, h20, h21, h22, h23, h24, h25, h26, h27, h28, h29, h30, h31, h32, h33, h34, h35, h36, h37]
        clear h0 h1 h2 h3 h4 h5 h6 h7 h8 h9 h10 h11 h12 h13 h14 h15 h16 h17 h18 h19 h20 h21 h22 h23 h24 h25 h26 h27 h28 h29 h30 h31 h32 h33 h34 h35 h36 h37
        have HBE := Lib.hid hS.1
        clear hS
        go_wp2_with fail
        go_ret
        exact ⟨rfl, HBE.out⟩
      · have hm0 : ((m : Int) == 0) = false := by simp; omega
        have hex2 : R.extract 0 A.size = A := hex.resolve_left m0
        have hle0 : A.size ≤ A.size * m := Nat.le_mul_of_pos_right _ (by omega)
        have hle : (A.size : Int) ≤ (A.size : Int) * (m : Int) := by omega
        clear m0 hex hle0
        refine wp_region_seqi (fun X => (Below w.heap.size w X ∧ B3 X w11.heap.size 3 0 R)) (fun X X2 hB ⟨h1, h2⟩ => ⟨vnext h1 hB, h2.later hB⟩) (by kernel_rfl) (by kernel_rfl) (by kernel_rfl) ⟨HB12.out.drew, HX.out⟩ ?_
        simp only [putsL, Act.put, List.setIfInBounds_toArray, List.set_cons_zero, List.set_cons_succ, Nat.zero_add, Nat.reduceAdd]
        refine seqi_run ?_ (fun vs W hD => (by first | rfl | (simp at hD; simp [Region.wanted, yielded, hD]))) (fun vs W hS hD => ?_) ?_
        rotate_left
        · (obtain ⟨c0, c1, c2, _, _, _⟩ := hS.2.cells; have c0 : _ = some (Value.int .u8 3) := c0; have cl := hS.2.lt; obtain _ := hS; (try simp at hD); (try simp only [hD]); (first | (go_simp; done) | (go_simp; rfl)))
        simp only [List.nil_append, List.cons_append]
        refine seqi_run ?_ (fun vs W hD => (by first | rfl | (simp at hD; simp [Region.wanted, yielded, hD]))) (fun vs W hS hD => ?_) ?_
        rotate_left
        · (obtain ⟨c0, c1, c2, _, _, _⟩ := hS.2.cells; have c0 : _ = some (Value.int .u8 3) := c0; have cl := hS.2.lt; obtain _ := hS; (try simp at hD); (try simp only [hD]); (first | (go_simp; done) | (go_simp; rfl)))
        simp only [List.nil_append, List.cons_append]
        refine seqi_run ?_ (fun vs W hD => (by first | rfl | (simp at hD; simp [Region.wanted, yielded, hD]))) (fun vs W hS hD => ?_) ?_
        rotate_left
        · (obtain ⟨c0, c1, c2, _, _, _⟩ := hS.2.cells; have c0 : _ = some (Value.int .u8 3) := c0; have cl := hS.2.lt; obtain _ := hS; (try simp at hD); (try simp only [hD]); (first | (go_simp; done) | (go_simp; rfl)))
        simp only [List.nil_append, List.cons_append]
        refine seqi_run ?_ (fun vs W hD => (by first | rfl | (simp at hD; simp [Region.wanted, yielded, hD]))) (fun vs W hS hD => ?_) ?_
        rotate_left
        · (obtain ⟨c0, c1, c2, _, _, _⟩ := hS.2.cells; have c0 : _ = some (Value.int .u8 3) := c0; have cl := hS.2.lt; obtain _ := hS; (try simp at hD); (try simp only [hD]); (first | (go_simp; done) | (go_simp; rfl)))
        simp only [List.nil_append, List.cons_append]
        refine seqi_run ?_ (fun vs W hD => (by first | rfl | (simp at hD; simp [Region.wanted, yielded, hD]))) (fun vs W hS hD => ?_) ?_
        rotate_left
        · (obtain ⟨c0, c1, c2, _, _, _⟩ := hS.2.cells; have c0 : _ = some (Value.int .u8 3) := c0; have cl := hS.2.lt; obtain _ := hS; (try simp at hD); (try simp only [hD]); (first | (go_simp; done) | (go_simp; rfl)))
        simp only [List.nil_append, List.cons_append]
        refine seqi_run ?_ (fun vs W hD => (by first | rfl | (simp at hD; simp [Region.wanted, yielded, hD]))) (fun vs W hS hD => ?_) ?_
        rotate_left
        · (obtain ⟨c0, c1, c2, _, _, _⟩ := hS.2.cells; have c0 : _ = some (Value.int .u8 3) := c0; have cl := hS.2.lt; obtain _ := hS; (try simp at hD); (try simp only [hD]); (first | (go_simp; done) | (go_simp; rfl)))
        simp only [List.nil_append, List.cons_append]
        refine seqi_run ?_ (fun vs W hD => (by first | rfl | (simp at hD; simp [Region.wanted, yielded, hD]))) (fun vs W hS hD => ?_) ?_
        rotate_left
        · (obtain ⟨c0, c1, c2, _, _, _⟩ := hS.2.cells; have c0 : _ = some (Value.int .u8 3) := c0; have cl := hS.2.lt; obtain _ := hS; (try simp at hD); (try simp only [hD]); (first | (go_simp; done) | (go_simp; rfl)))
        simp only [List.nil_append, List.cons_append]
        refine seqi_run ?_ (fun vs W hD => (by first | rfl | (simp at hD; simp [Region.wanted, yielded, hD]))) (fun vs W hS hD => ?_) ?_
        rotate_left
        · (obtain ⟨c0, c1, c2, _, _, _⟩ := hS.2.cells; have c0 : _ = some (Value.int .u8 3) := c0; have cl := hS.2.lt; obtain _ := hS; (try simp at hD); (try simp only [hD]); (first | (go_simp; done) | (go_simp; rfl)))
        simp only [List.nil_append, List.cons_append]
        refine seqi_run ?_ (fun vs W hD => (by first | rfl | (simp at hD; simp [Region.wanted, yielded, hD]))) (fun vs W hS hD => ?_) ?_
        rotate_left
        · (obtain ⟨c0, c1, c2, _, _, _⟩ := hS.2.cells; have c0 : _ = some (Value.int .u8 3) := c0; have cl := hS.2.lt; obtain _ := hS; (try simp at hD); (try simp only [hD]); (first | (go_simp; done) | (go_simp; rfl)))
        simp only [List.nil_append, List.cons_append]
        refine seqi_run ?_ (fun vs W hD => (by first | rfl | (simp at hD; simp [Region.wanted, yielded, hD]))) (fun vs W hS hD => ?_) ?_
        rotate_left
        · (obtain ⟨c0, c1, c2, _, _, _⟩ := hS.2.cells; have c0 : _ = some (Value.int .u8 3) := c0; have cl := hS.2.lt; obtain _ := hS; (try simp at hD); (try simp only [hD]); (first | (go_simp; done) | (go_simp; rfl)))
        simp only [List.nil_append, List.cons_append]
        refine seqi_run ?_ (fun vs W hD => (by first | rfl | (simp at hD; simp [Region.wanted, yielded, hD]))) (fun vs W hS hD => ?_) ?_
        rotate_left
        · (obtain ⟨c0, c1, c2, _, _, _⟩ := hS.2.cells; have c0 : _ = some (Value.int .u8 3) := c0; have cl := hS.2.lt; obtain _ := hS; (try simp at hD); (try simp only [hD]); (first | (go_simp; done) | (go_simp; rfl)))
        simp only [List.nil_append, List.cons_append]
        refine seqi_run ?_ (fun vs W hD => (by first | rfl | (simp at hD; simp [Region.wanted, yielded, hD]))) (fun vs W hS hD => ?_) ?_
        rotate_left
        · (obtain ⟨c0, c1, c2, _, _, _⟩ := hS.2.cells; have c0 : _ = some (Value.int .u8 3) := c0; have cl := hS.2.lt; obtain _ := hS; (try simp at hD); (try simp only [hD]); (first | (go_simp; done) | (go_simp; rfl)))
        simp only [List.nil_append, List.cons_append]
        refine seqi_run ?_ (fun vs W hD => (by first | rfl | (simp at hD; simp [Region.wanted, yielded, hD]))) (fun vs W hS hD => ?_) ?_
        rotate_left
        · (obtain ⟨c0, c1, c2, _, _, _⟩ := hS.2.cells; have c0 : _ = some (Value.int .u8 3) := c0; have cl := hS.2.lt; obtain _ := hS; (try simp at hD); (try simp only [hD]); (first | (go_simp; done) | (go_simp; rfl)))
        simp only [List.nil_append, List.cons_append]
        refine seqi_run ?_ (fun vs W hD => (by first | rfl | (simp at hD; simp [Region.wanted, yielded, hD]))) (fun vs W hS hD => ?_) ?_
        rotate_left
        · (obtain ⟨c0, c1, c2, _, _, _⟩ := hS.2.cells; have c0 : _ = some (Value.int .u8 3) := c0; have cl := hS.2.lt; obtain _ := hS; (try simp at hD); (try simp only [hD]); (first | (go_simp; done) | (go_simp; rfl)))
        simp only [List.nil_append, List.cons_append]
        refine seqi_run ?_ (fun vs W hD => (by first | rfl | (simp at hD; simp [Region.wanted, yielded, hD]))) (fun vs W hS hD => ?_) ?_
        rotate_left
        · (obtain ⟨c0, c1, c2, _, _, _⟩ := hS.2.cells; have c0 : _ = some (Value.int .u8 3) := c0; have cl := hS.2.lt; obtain _ := hS; (try simp at hD); (try simp only [hD]); (first | (go_simp; done) | (go_simp; rfl)))
        simp only [List.nil_append, List.cons_append]
        refine seqi_run ?_ (fun vs W hD => (by first | rfl | (simp at hD; simp [Region.wanted, yielded, hD]))) (fun vs W hS hD => ?_) ?_
        rotate_left
        · (obtain ⟨c0, c1, c2, _, _, _⟩ := hS.2.cells; have c0 : _ = some (Value.int .u8 3) := c0; have cl := hS.2.lt; obtain _ := hS; (try simp at hD); (try simp only [hD]); (first | (go_simp; done) | (go_simp; rfl)))
        simp only [List.nil_append, List.cons_append]
        refine seqi_run ?_ (fun vs W hD => (by first | rfl | (simp at hD; simp [Region.wanted, yielded, hD]))) (fun vs W hS hD => ?_) ?_
        rotate_left
        · (obtain ⟨c0, c1, c2, _, _, _⟩ := hS.2.cells; have c0 : _ = some (Value.int .u8 3) := c0; have cl := hS.2.lt; obtain _ := hS; (try simp at hD); (try simp only [hD]); (first | (go_simp; done) | (go_simp; rfl)))
        simp only [List.nil_append, List.cons_append]
        refine seqi_run ?_ (fun vs W hD => (by first | rfl | (simp at hD; simp [Region.wanted, yielded, hD]))) (fun vs W hS hD => ?_) ?_
        rotate_left
        · (obtain ⟨c0, c1, c2, _, _, _⟩ := hS.2.cells; have c0 : _ = some (Value.int .u8 3) := c0; have cl := hS.2.lt; obtain _ := hS; (try simp at hD); (try simp only [hD]); (first | (go_simp; done) | (go_simp; rfl)))
        simp only [List.nil_append, List.cons_append]
        refine seqi_run ?_ (fun vs W hD => (by first | rfl | (simp at hD; simp [Region.wanted, yielded, hD]))) (fun vs W hS hD => ?_) ?_
        rotate_left
        · (obtain ⟨c0, c1, c2, _, _, _⟩ := hS.2.cells; have c0 : _ = some (Value.int .u8 3) := c0; have cl := hS.2.lt; obtain _ := hS; (try simp at hD); (try simp only [hD]); (first | (go_simp; done) | (go_simp; rfl)))
        simp only [List.nil_append, List.cons_append]
        refine seqi_run ?_ (fun vs W hD => (by first | rfl | (simp at hD; simp [Region.wanted, yielded, hD]))) (fun vs W hS hD => ?_) ?_
        rotate_left
        · (obtain ⟨c0, c1, c2, _, _, _⟩ := hS.2.cells; have c0 : _ = some (Value.int .u8 3) := c0; have cl := hS.2.lt; obtain _ := hS; (try simp at hD); (try simp only [hD]); (first | (go_simp; done) | (go_simp; rfl)))
        simp only [List.nil_append, List.cons_append]
        refine seqi_run ?_ (fun vs W hD => (by first | rfl | (simp at hD; simp [Region.wanted, yielded, hD]))) (fun vs W hS hD => ?_) ?_
        rotate_left
        · (obtain ⟨c0, c1, c2, _, _, _⟩ := hS.2.cells; have c0 : _ = some (Value.int .u8 3) := c0; have cl := hS.2.lt; obtain _ := hS; (try simp at hD); (try simp only [hD]); (first | (go_simp; done) | (go_simp; rfl)))
        simp only [List.nil_append, List.cons_append]
        refine seqi_run ?_ (fun vs W hD => (by first | rfl | (simp at hD; simp [Region.wanted, yielded, hD]))) (fun vs W hS hD => ?_) ?_
        rotate_left
        · (obtain ⟨c0, c1, c2, _, _, _⟩ := hS.2.cells; have c0 : _ = some (Value.int .u8 3) := c0; have cl := hS.2.lt; obtain _ := hS; (try simp at hD); (try simp only [hD]); (first | (go_simp; done) | (go_simp; rfl)))
        simp only [List.nil_append, List.cons_append]
        refine seqi_run ?_ (fun vs W hD => (by first | rfl | (simp at hD; simp [Region.wanted, yielded, hD]))) (fun vs W hS hD => ?_) ?_
        rotate_left
        · (obtain ⟨c0, c1, c2, _, _, _⟩ := hS.2.cells; have c0 : _ = some (Value.int .u8 3) := c0; have cl := hS.2.lt; obtain _ := hS; (try simp at hD); (try simp only [hD]); (first | (go_simp; done) | (go_simp; rfl)))
        simp only [List.nil_append, List.cons_append]
        refine seqi_run ?_ (fun vs W hD => (by first | rfl | (simp at hD; simp [Region.wanted, yielded, hD]))) (fun vs W hS hD => ?_) ?_
        rotate_left
        · (obtain ⟨c0, c1, c2, _, _, _⟩ := hS.2.cells; have c0 : _ = some (Value.int .u8 3) := c0; have cl := hS.2.lt; obtain _ := hS; (try simp at hD); (try simp only [hD]); (first | (go_simp; done) | (go_simp; rfl)))
        simp only [List.nil_append, List.cons_append]
        refine seqi_run ?_ (fun vs W hD => (by first | rfl | (simp at hD; simp [Region.wanted, yielded, hD]))) (fun vs W hS hD => ?_) ?_
        rotate_left
        · (obtain ⟨c0, c1, c2, _, _, _⟩ := hS.2.cells; have c0 : _ = some (Value.int .u8 3) := c0; have cl := hS.2.lt; obtain _ := hS; (try simp at hD); (try simp only [hD]); (first | (go_simp; done) | (go_simp; rfl)))
        simp only [List.nil_append, List.cons_append]
        refine seqi_run ?_ (fun vs W hD => (by first | rfl | (simp at hD; simp [Region.wanted, yielded, hD]))) (fun vs W hS hD => ?_) ?_
        rotate_left
        · (obtain ⟨c0, c1, c2, _, _, _⟩ := hS.2.cells; have c0 : _ = some (Value.int .u8 3) := c0; have cl := hS.2.lt; obtain _ := hS; (try simp at hD); (try simp only [hD]); (first | (go_simp; done) | (go_simp; rfl)))
        simp only [List.nil_append, List.cons_append]
        refine seqi_run ?_ (fun vs W hD => (by first | rfl | (simp at hD; simp [Region.wanted, yielded, hD]))) (fun vs W hS hD => ?_) ?_
        rotate_left
        · (obtain ⟨c0, c1, c2, _, _, _⟩ := hS.2.cells; have c0 : _ = some (Value.int .u8 3) := c0; have cl := hS.2.lt; obtain _ := hS; (try simp at hD); (try simp only [hD]); (first | (go_simp; done) | (go_simp; rfl)))
        simp only [List.nil_append, List.cons_append]
        refine seqi_run ?_ (fun vs W hD => (by first | rfl | (simp at hD; simp [Region.wanted, yielded, hD]))) (fun vs W hS hD => ?_) ?_
        rotate_left
        · (obtain ⟨c0, c1, c2, _, _, _⟩ := hS.2.cells; have c0 : _ = some (Value.int .u8 3) := c0; have cl := hS.2.lt; obtain _ := hS; (try simp at hD); (try simp only [hD]); (first | (go_simp; done) | (go_simp; rfl)))
        simp only [List.nil_append, List.cons_append]
        refine seqi_call (f := 9) (fun v _ => v = .agg #[.int .u8 1, .int .i64 10000, .string ⟨#[]⟩]) (stable_val _) (fun vs => #[.int .i64 10000]) (fun vs W hD => (by first | rfl | (simp at hD; simp [Region.wanted, yielded, hD]))) (fun vs W hS hD => ?_) (fun vs W hS hD => ?_) ?_
        · (try simp at hD); (try simp only [hD]); go_simp; done
        · exact (lnum_any 10000 W).mono fun e W' ⟨he, hB⟩ => ⟨⟨_, he, rfl⟩, hB⟩
        simp only [List.nil_append, List.cons_append]
        refine seqi_oper (SlV [tv R, nv (1 * 10000)]) (slV_stable _) (fun vs W hD => (by first | rfl | (simp at hD; simp [Region.wanted, yielded, hD]))) (fun vs W hS hD => ?_) ?_
        · (try simp at hD); unfold OperR; (try simp only [hD]); go_simp; exact ⟨⟨_, _, rfl, isV_new _ _ _ _ rfl⟩, valloc _ _⟩
        simp only [List.nil_append, List.cons_append]
        refine seqi_call (f := 7) (fun v _ => v = .agg #[.int .u8 3, .int .i64 0, .string R]) (stable_val _) (fun vs => #[.int .u8 39, vs 29]) (fun vs W hD => (by first | rfl | (simp at hD; simp [Region.wanted, yielded, hD]))) (fun vs W hS hD => ?_) (fun vs W hS hD => ?_) ?_
        · (try simp at hD); (try simp only [hD]); go_simp; done
        · ((try simp [DepA, isB, rsAt] at hD); obtain ⟨ya, yc, ye, yi⟩ := (by first | exact hD | exact hD.1 : SlV _ _ _); rw [ye]; exact (HO1.out ya yc W hS.1 yi).mono fun e W' ⟨he, hB⟩ => ⟨⟨_, he, rfl⟩, hB⟩)
        simp only [List.nil_append, List.cons_append]
        refine seqi_run ?_ (fun vs W hD => (by first | rfl | (simp at hD; simp [Region.wanted, yielded, hD]))) (fun vs W hS hD => ?_) ?_
        rotate_left
        · (obtain ⟨c0, c1, c2, _, _, _⟩ := hS.2.cells; have c0 : _ = some (Value.int .u8 3) := c0; have cl := hS.2.lt; obtain _ := hS; (try simp at hD); (try simp only [hD]); (first | (go_simp; done) | (go_simp; rfl)))
        simp only [List.nil_append, List.cons_append]
        refine seqi_run ?_ (fun vs W hD => (by first | rfl | (simp at hD; simp [Region.wanted, yielded, hD]))) (fun vs W hS hD => ?_) ?_
        rotate_left
        · (obtain ⟨c0, c1, c2, _, _, _⟩ := hS.2.cells; have c0 : _ = some (Value.int .u8 3) := c0; have cl := hS.2.lt; obtain _ := hS; (try simp at hD); (try simp only [hD]); (first | (go_simp; done) | (go_simp; rfl)))
        simp only [List.nil_append, List.cons_append]
        refine seqi_run ?_ (fun vs W hD => (by first | rfl | (simp at hD; simp [Region.wanted, yielded, hD]))) (fun vs W hS hD => ?_) ?_
        rotate_left
        · (obtain ⟨c0, c1, c2, _, _, _⟩ := hS.2.cells; have c0 : _ = some (Value.int .u8 3) := c0; have cl := hS.2.lt; obtain _ := hS; (try simp at hD); (try simp only [hD]); (first | (go_simp; done) | (go_simp; rfl)))
        simp only [List.nil_append, List.cons_append]
        refine seqi_run ?_ (fun vs W hD => (by first | rfl | (simp at hD; simp [Region.wanted, yielded, hD]))) (fun vs W hS hD => ?_) ?_
        rotate_left
        · (obtain ⟨c0, c1, c2, _, _, _⟩ := hS.2.cells; have c0 : _ = some (Value.int .u8 3) := c0; have cl := hS.2.lt; obtain _ := hS; (try simp at hD); (try simp only [hD]); (first | (go_simp; done) | (go_simp; rfl)))
        simp only [List.nil_append, List.cons_append]
        refine seqi_call (f := 10) (fun v _ => v = .bool true) (stable_val _) (fun vs => #[]) (fun vs W hD => (by first | rfl | (simp at hD; simp [Region.wanted, yielded, hD]))) (fun vs W hS hD => ?_) (fun vs W hS hD => ?_) ?_
        · (try simp at hD); (try simp only [hD]); go_simp; done
        · exact (HAW.out W hS.1).mono fun e W' ⟨he, hB⟩ => ⟨⟨_, he, rfl⟩, hB⟩
        simp only [List.nil_append, List.cons_append]
        refine seqi_run ?_ (fun vs W hD => (by first | rfl | (simp at hD; simp [Region.wanted, yielded, hD]))) (fun vs W hS hD => ?_) ?_
        rotate_left
        · (obtain ⟨c0, c1, c2, _, _, _⟩ := hS.2.cells; have c0 : _ = some (Value.int .u8 3) := c0; have cl := hS.2.lt; obtain _ := hS; (try simp at hD); (try simp only [hD]); (first | (go_simp; done) | (go_simp; rfl)))
        simp only [List.nil_append, List.cons_append]
        refine seqi_run ?_ (fun vs W hD => (by first | rfl | (simp at hD; simp [Region.wanted, yielded, hD]))) (fun vs W hS hD => ?_) ?_
        rotate_left
        · (obtain ⟨c0, c1, c2, _, _, _⟩ := hS.2.cells; have c0 : _ = some (Value.int .u8 3) := c0; have cl := hS.2.lt; obtain _ := hS; (try simp at hD); (try simp only [hD]); (first | (go_simp; done) | (go_simp; rfl)))
        simp only [List.nil_append, List.cons_append]
        refine seqi_end fun vs W hS hv => ?_
        simp only [AllF, Nat.zero_add, Nat.reduceAdd] at hv
        obtain ⟨h0, h1, h2, h3, h4, h5, h6, h7, h8, h9, h10, h11, h12, h13, h14, h15, h16, h17, h18, h19, h20, h21, h22, h23, h24, h25, h26, h27, h28, h29, h30, h31, h32, h33, h34, h35, h36, h37, _⟩ := hv
        obtain ⟨sa29, sc29, h29, _⟩ := h29
        simp only [h0, h1, h2, h3, h4, h5, h6, h7, h8, h9, h10, h11, h12, h13, h14, h15, h16, h17, h18, h19, h20, h21, h22, h23, h24, h25, h26, h27, h28, h29, h30, h31, h32, h33, h34, h35, h36, h37]
        clear h0 h1 h2 h3 h4 h5 h6 h7 h8 h9 h10 h11 h12 h13 h14 h15 h16 h17 h18 h19 h20 h21 h22 h23 h24 h25 h26 h27 h28 h29 h30 h31 h32 h33 h34 h35 h36 h37
        have HBE := Lib.hid hS.1
        clear hS
        go_wp2_with fail
        go_ret
        exact ⟨rfl, HBE.out⟩
end Go.Proofs.YthgnhdfppmoooaaGreatDoor.Va
/- The law: for every array of three strings and every number that come in. -/
namespace Go.Proofs.YthgnhdfppmoooaaGreatDoor.Va
open Go Go.RowKit GM
set_option linter.unusedVariables false
structure V9 where
  a : ByteArray
  b : ByteArray
  c : ByteArray
def cells9 (v : V9) : List Value := [.string v.a, .string v.b, .string v.c]
theorem okWide_array {P : Program} {w : World} {r : Reach} {base : Nat} {t : TypeId} {v : Value} {n : Nat} {e : TypeId} (ht : P.underlying t = some (.array n e)) (h : Value.okWide P w r base t v) : ∃ cs, v = .agg cs ∧ cs.size = P.cellsOf t := by
  simp only [Value.okWide, ht] at h
  obtain ⟨cs, h1, h2, _⟩ := h
  exact ⟨cs, h1, h2⟩
theorem arr_came {H : Type} {enc : TypeId × Value → H} {w : World} {base : Nat} {spare : Nat → Bool} {held : Bool} {fuel : Nat} {cs : List Value} {y : DataW H × List MemPlace} (h : DataW.trod enc Tryz.prog w base spare held fuel 32 cs = some y) : ∃ r : V9, cs = cells9 r := by
  obtain ⟨xs, m, _, _, hl, hlen, hf⟩ := DataW.trod_array Tryz.underlying32 h
  have hl' : cs.length = 3 := hl.trans (by kernel_rfl)
  rw [show Tryz.prog.cellsOf 9 = 1 by kernel_rfl] at hf
  have hx : ∀ i, i < 3 → ∃ x, xs[i]? = some x := fun i hi => ⟨_, List.getElem?_eq_getElem (by rw [hlen]; exact hi)⟩
  match cs, hl' with
  | [c0, c1, c2], _ =>
    obtain ⟨x0, e0⟩ := hx 0 (by decide)
    obtain ⟨x1, e1⟩ := hx 1 (by decide)
    obtain ⟨x2, e2⟩ := hx 2 (by decide)
    obtain ⟨s0, q0, _, _⟩ := DataW.trod_string Tryz.underlying9 ((hf 0 (by decide)).trans e0)
    obtain ⟨s1, q1, _, _⟩ := DataW.trod_string Tryz.underlying9 ((hf 1 (by decide)).trans e1)
    obtain ⟨s2, q2, _, _⟩ := DataW.trod_string Tryz.underlying9 ((hf 2 (by decide)).trans e2)
    simp at q0 q1 q2
    refine ⟨⟨s0, s1, s2⟩, ?_⟩
    rw [q0, q1, q2]
    rfl
theorem ftextJoins_law (v : V9) (n : Int) (w : World) (hl : laidMetH Tryz.prog Rows.ftextJoinsRow.laid w) :
    Calls Tryz.prog 5 #[.agg (cells9 v).toArray, .int .i64 n] w fun e w' => e = .returned (.bool true) ∧ Below w.heap.size w w' :=
  ftextJoins_any v.a v.b v.c n w (tb_of (MakeChecks.laidMetH_plain _ _ _ (by kernel_rfl)) hl)
end Go.Proofs.YthgnhdfppmoooaaGreatDoor.Va
