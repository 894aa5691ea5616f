/- ftext.pattern and ftext.Call. -/
import Derived.Test.YtdhahiodnmmkeaaGreatDoorMgg
import Derived.Test.YtdhahiodnmmkeaaGreatDoorFtC
namespace Go.Proofs.YtdhahiodnmmkeaaGreatDoor.Va
open Go Go.RowKit GM
set_option linter.unusedVariables false
set_option linter.unusedSimpArgs false
theorem yax (w : World) : Calls Tryz.prog 78 #[.int .u8 31] w fun e w' => e = .returned (.tuple #[.string ⟨#[115]⟩, .int .i64 1]) ∧ Below w.heap.size w w' := by
 go_enter Tryz.func78, Tryz.ntmps78
 go_wp2_with fail
 go_ret2
 exact ⟨rfl, Below.refl _ _⟩
theorem yaw (w : World) : Calls Tryz.prog 78 #[.int .u8 32] w fun e w' => e = .returned (.tuple #[.string ⟨#[115, 110]⟩, .int .i64 1]) ∧ Below w.heap.size w w' := by
 go_enter Tryz.func78, Tryz.ntmps78
 go_wp2_with fail
 go_ret2
 exact ⟨rfl, Below.refl _ _⟩
theorem yav (w : World) : Calls Tryz.prog 78 #[.int .u8 33] w fun e w' => e = .returned (.tuple #[.string ⟨#[115, 110]⟩, .int .i64 1]) ∧ Below w.heap.size w w' := by
 go_enter Tryz.func78, Tryz.ntmps78
 go_wp2_with fail
 go_ret2
 exact ⟨rfl, Below.refl _ _⟩
theorem yau (w : World) : Calls Tryz.prog 78 #[.int .u8 34] w fun e w' => e = .returned (.tuple #[.string ⟨#[115, 110, 110]⟩, .int .i64 3]) ∧ Below w.heap.size w w' := by
 go_enter Tryz.func78, Tryz.ntmps78
 go_wp2_with fail
 go_ret2
 exact ⟨rfl, Below.refl _ _⟩
theorem yat (w : World) : Calls Tryz.prog 78 #[.int .u8 35] w fun e w' => e = .returned (.tuple #[.string ⟨#[115]⟩, .int .i64 1]) ∧ Below w.heap.size w w' := by
 go_enter Tryz.func78, Tryz.ntmps78
 go_wp2_with fail
 go_ret2
 exact ⟨rfl, Below.refl _ _⟩
theorem yas (w : World) : Calls Tryz.prog 78 #[.int .u8 36] w fun e w' => e = .returned (.tuple #[.string ⟨#[115]⟩, .int .i64 1]) ∧ Below w.heap.size w w' := by
 go_enter Tryz.func78, Tryz.ntmps78
 go_wp2_with fail
 go_ret2
 exact ⟨rfl, Below.refl _ _⟩
theorem yar (w : World) : Calls Tryz.prog 78 #[.int .u8 37] w fun e w' => e = .returned (.tuple #[.string ⟨#[115]⟩, .int .i64 1]) ∧ Below w.heap.size w w' := by
 go_enter Tryz.func78, Tryz.ntmps78
 go_wp2_with fail
 go_ret2
 exact ⟨rfl, Below.refl _ _⟩
theorem yaq (w : World) : Calls Tryz.prog 78 #[.int .u8 38] w fun e w' => e = .returned (.tuple #[.string ⟨#[115, 115, 115, 115, 115, 115, 115, 115, 115, 115, 115, 115, 115, 115, 115, 115]⟩, .int .i64 1]) ∧ Below w.heap.size w w' := by
 go_enter Tryz.func78, Tryz.ntmps78
 go_wp2_with fail
 refine (Tryz.strings_Repeat ⟨#[115]⟩ 16 _ (by decide) (by decide)).mono ?_
 rintro e w2 ⟨rfl, hB2⟩
 have HB2 := Lib.hid hB2
 have hr : (⟨(Lib.repeatL (⟨#[115]⟩ : ByteArray).data.toList 16).toArray⟩ : ByteArray) = ⟨#[115, 115, 115, 115, 115, 115, 115, 115, 115, 115, 115, 115, 115, 115, 115, 115]⟩ := rfl
 rw [hr]
 clear hB2 hr
 go_wp2_with fail
 go_ret2
 exact ⟨rfl, HB2.out⟩
theorem yap (w : World) : Calls Tryz.prog 78 #[.int .u8 39] w fun e w' => e = .returned (.tuple #[.string ⟨#[115, 110]⟩, .int .i64 2]) ∧ Below w.heap.size w w' := by
 go_enter Tryz.func78, Tryz.ntmps78
 go_wp2_with fail
 go_ret2
 exact ⟨rfl, Below.refl _ _⟩
theorem yao (w : World) : Calls Tryz.prog 78 #[.int .u8 40] w fun e w' => e = .returned (.tuple #[.string ⟨#[115, 115]⟩, .int .i64 2]) ∧ Below w.heap.size w w' := by
 go_enter Tryz.func78, Tryz.ntmps78
 go_wp2_with fail
 go_ret2
 exact ⟨rfl, Below.refl _ _⟩
theorem yan (w : World) : Calls Tryz.prog 78 #[.int .u8 41] w fun e w' => e = .returned (.tuple #[.string ⟨#[115, 115, 110]⟩, .int .i64 2]) ∧ Below w.heap.size w w' := by
 go_enter Tryz.func78, Tryz.ntmps78
 go_wp2_with fail
 go_ret2
 exact ⟨rfl, Below.refl _ _⟩
theorem yam (w : World) : Calls Tryz.prog 78 #[.int .u8 42] w fun e w' => e = .returned (.tuple #[.string ⟨#[115]⟩, .int .i64 1]) ∧ Below w.heap.size w w' := by
 go_enter Tryz.func78, Tryz.ntmps78
 go_wp2_with fail
 go_ret2
 exact ⟨rfl, Below.refl _ _⟩
set_option maxRecDepth 100000 in
set_option maxHeartbeats 12800000 in
theorem zbt (fn : Nat) (mf : FuncId) (ks : ByteArray) (least : Nat) (hf1 : 31 ≤ fn) (hf2 : fn ≤ 42) (a : Option Addr) (n cap : Nat) (L : List V3) (w : World) (hL : IsV w a n L)
 (hpat : ∀ W : World, Calls Tryz.prog 78 #[.int .u8 (fn : Int)] W fun e w' => e = .returned (.tuple #[.string ks, .int .i64 (least : Int)]) ∧ Below W.heap.size W w')
 (hl : least ≤ n) (hn : n ≤ ks.size) (hk20 : ks.size ≤ 20) (hks : ∀ c ∈ ks.data.toList, c = 115 ∨ c = 110)
 (hv : ∀ v ∈ L, v.2.2.size ≤ 2000 ∧ InI v.2.1) (hvn : ∀ k (h1 : k < L.length) (h2 : k < ks.data.toList.length), ks.data.toList[k] = 110 → InI (cvR 1 L[k].1 L[k].2.1 L[k].2.2).2.1) (hck : ∀ v ∈ L, vE v.1 v.2.1 v.2.2.data.toList = 0) (hT : Tb w)
 (hlook : ∀ (W : World) (q : Nat) (x y : Value), FTab W q x y → (Instr.lookup 86 (.map (some q)) (.int .u8 (fn : Int)) false).run Tryz.prog W = .ok (.func (.func mf) #[.agg #[x, y]] #[]) W)
 (heg : ∀ (args : Array Value) (W : World), (callFunc mf args).run Tryz.prog W = .ok (.enter mf args) W)
 (r : V3) (hres : ∀ T W0, zag ks.data.toList L [] [] = .inl (T, W0) → ∀ (ta : Option Addr) (tn tc : Nat) (wa : Option Addr) (wn wc : Nat) (W : World), Below w.heap.size w W → IsT W ta tn T → tn ≤ tc → IsW W wa wn W0 → Calls Tryz.prog mf #[.agg #[.slice ta tn tc, .slice wa wn wc]] W fun e w' => e = .returned (vOf r) ∧ Below W.heap.size W w')
 (hbad : ∀ x, zag ks.data.toList L [] [] = .inr x → x = r) :
 Calls Tryz.prog 37 #[.int .u8 (fn : Int), .slice a n cap] w fun e w' => e = .returned (.tuple #[vOf r, .int .i64 0]) ∧ Below w.heap.size w w' := by
 have HL := Lib.hid hL
 have HNL := Lib.hid hL.1
 have HPAT := Lib.hid hpat
 have HCV := Lib.hid (fun (W : World) (h : Below w.heap.size w W) => zpz ks a n cap L W (IsOf.later hL h) hn hk20 hks hv hvn (hT.later h))
 have HV : Hid (∀ v ∈ L, ∀ W : World, Calls Tryz.prog 49 #[.agg #[.int .u8 (v.1 : Int), .int .i64 v.2.1, .string v.2.2]] W fun e w' => e = .returned (.int .i64 0) ∧ Below W.heap.size W w') := fun v hvm W => by
  have h1 := hv v hvm
  have h := zex v.1 v.2.1 v.2.2 (zeo h1.1) (by have := h1.2; unfold InI at this; unfold zau; omega) W
  rw [hck v hvm] at h
  exact h
 have HLOOK := Lib.hid hlook
 have HEG := Lib.hid heg
 have HRES := Lib.hid hres
 have HBAD := Lib.hid hbad
 clear hL hpat hks hv hvn hck hT hlook hres hbad heg
 generalize zag ks.data.toList L [] [] = R at *
 have HX : Hid (B3 (w.alloc (.cells #[.int .u8 0, .int .i64 0, .string ⟨#[]⟩] 26)) w.heap.size 0 0 ⟨#[]⟩) := B3.start w 0 0 ⟨#[]⟩
 have HW := Lib.hid (zaa w (.cells #[.int .u8 0, .int .i64 0, .string ⟨#[]⟩] 26))
 have d1 : decide ((fn : Int) < 31) = false := by simp; omega
 have d2 : decide ((42 : Int) < (fn : Int)) = false := by simp; omega
 have d3 : decide (n < least) = false := decide_eq_false (by omega)
 have d4 : decide (ks.size < n) = false := decide_eq_false (by omega)
 go_enter Tryz.func37, Tryz.ntmps37
 go_wp2_with fail
 generalize w.alloc (.cells #[.int .u8 0, .int .i64 0, .string ⟨#[]⟩] 26) = w0 at *
 refine (HPAT.out _).mono ?_
 rintro e w1 ⟨rfl, hB1⟩
 have HX1 := Lib.hid (HX.out.later hB1)
 have HB1 := Lib.hid (zab HW.out hB1)
 clear hB1 HX HW HPAT
 go_wp2_with fail
 go_loopw [39] (fun i wr => ∃ k : Nat, k ≤ n ∧ i = .int .i64 (k : Int) ∧ Hid (Below w.heap.size w wr) ∧ Hid (B3 wr w.heap.size 0 0 ⟨#[]⟩)) (fun i _ => n - (intOf i).toNat)
 case atStart => exact ⟨0, Nat.zero_le _, rfl, HB1.out, HX1.out⟩
 case round =>
  obtain ⟨k, hk, rfl, HB, HX⟩ := hrel
  clear HB1 HX1
  by_cases hlt : k < n
  · have hkl : k < L.length := by rw [HNL.out]; exact hlt
    have HVk := Lib.hid (HV.out L[k] (List.getElem_mem hkl))
    obtain ⟨b, off, rfl, hrow⟩ := (IsOf.later HL.out HB.out).2 (by omega)
    have c1 : wr.cell? ⟨b, off + k * 3, none⟩ = some (.int .u8 (L[k].1 : Int)) := by have := hrow.2 k hkl 0 _ rfl; rwa [Nat.add_zero] at this
    have c2 : wr.cell? ⟨b, off + k * 3 + 1, none⟩ = some (.int .i64 L[k].2.1) := hrow.2 k hkl 1 _ rfl
    have c3 : wr.cell? ⟨b, off + k * 3 + 2, none⟩ = some (.string L[k].2.2) := hrow.2 k hkl 2 _ rfl
    have hbl := hrow.1
    clear hrow
    generalize L[k] = vv at *
    obtain ⟨kd, nm, tx⟩ := vv
    dsimp only at c1 c2 c3 HVk
    have HBa := Lib.hid (zab HB.out (zaa wr (.cells #[.int .u8 (kd : Int), .int .i64 nm, .string tx] 26)))
    have HXa := Lib.hid (HX.out.later (zaa wr (.cells #[.int .u8 (kd : Int), .int .i64 nm, .string tx] 26)))
    go_wp2_with fail
    generalize wr.alloc (.cells #[.int .u8 (kd : Int), .int .i64 nm, .string tx] 26) = wb at *
    refine (HVk.out _).mono ?_
    rintro e w2 ⟨rfl, hB2⟩
    have HB2 := Lib.hid (zab HBa.out hB2)
    have HX2 := Lib.hid (HXa.out.later hB2)
    clear hB2 HBa HXa c1 c2 c3 hbl
    go_wp2_with fail
    exact ⟨⟨k + 1, by omega, by go_num, HB2.out, HX2.out⟩, by simp [intOf]; omega⟩
  · obtain rfl : k = n := by omega
    go_wp2_with fail
    refine (HCV.out _ HB.out).mono ?_
    rintro e w2 ⟨hcv, hB2⟩
    have HB2 := Lib.hid (zab HB.out hB2)
    have HX2 := Lib.hid (HX.out.later hB2)
    clear hB2 HB HX HCV
    unfold CvP at hcv
    cases R with
    | inr x =>
     dsimp only at hcv
     subst hcv
     obtain rfl := HBAD.out x rfl
     obtain ⟨rk, rn, rs⟩ := x
     unfold vOf
     dsimp only
     have HB3 := Lib.hid (zab HB2.out (zab (zaa w2 (.cells #[.slice none 0 0, .slice none 0 0] 82)) (zaa (w2.alloc (.cells #[.slice none 0 0, .slice none 0 0] 82)) (.cells #[.int .u8 (rk : Int), .int .i64 rn, .string rs] 26))))
     have HX3 := Lib.hid (HX2.out.later (zab (zaa w2 (.cells #[.slice none 0 0, .slice none 0 0] 82)) (zaa (w2.alloc (.cells #[.slice none 0 0, .slice none 0 0] 82)) (.cells #[.int .u8 (rk : Int), .int .i64 rn, .string rs] 26))))
     have hY := B3.start (w2.alloc (.cells #[.slice none 0 0, .slice none 0 0] 82)) rk rn rs
     rw [World.size_alloc] at hY
     have HY := Lib.hid hY
     clear hY HB2 HX2
     go_upto_region 14 with fail
     generalize ((w2.alloc (.cells #[.slice none 0 0, .slice none 0 0] 82)).alloc (.cells #[.int .u8 (rk : Int), .int .i64 rn, .string rs] 26)) = w3 at *
     have hX3 := HX3.out
     obtain ⟨x0, x1, x2, z0, z1, z2⟩ := hX3.cells
     have hXl := hX3.lt
     obtain ⟨y0, y1, y2, _, _, _⟩ := HY.out.cells
     have hYl := HY.out.lt
     obtain ⟨hq, hg⟩ := zae hX3 rk rn rs
     have hb5 := HB3.out.grown hg HB3.out.size (fun q hq => by injection hq with hq; omega)
     clear hg
     go_wp2_with fail
     generalize ((w3.setCell ⟨w.heap.size, 0, none⟩ (.int .u8 (rk : Int))).setCell ⟨w.heap.size, 1, none⟩ (.int .i64 rn)).setCell ⟨w.heap.size, 2, none⟩ (.string rs) = w5 at *
     obtain ⟨v0, v1, v2, _, _, _⟩ := hq.cells
     refine bodyPost_ret (v := .tuple #[.agg #[.int .u8 (rk : Int), .int .i64 rn, .string rs], .int .i64 0]) (by simp [results, Tryz.results37, go_sem, v0, v1, v2]) rfl ⟨rfl, hb5⟩
    | inl p =>
     obtain ⟨u, v, rfl, ho1, ho2⟩ := hcv
     obtain ⟨T, W0⟩ := p
     dsimp only at ho1 ho2
     obtain ⟨ua, uc, rfl, hiT⟩ := OwnOf.isOf zaq ho1
     obtain ⟨va, vc, rfl, hiW⟩ := OwnOf.isOf zap ho2
     have huc := OwnOf.capLe ho1
     have hv0 : vOf (0, 0, ⟨#[]⟩) = .agg #[.int .u8 0, .int .i64 0, .string ⟨#[]⟩] := rfl
     rw [hv0]
     clear hv0
     have hbb := zab (zaa w2 (.cells #[.slice ua T.length uc, .slice va W0.length vc] 82)) (zaa (w2.alloc (.cells #[.slice ua T.length uc, .slice va W0.length vc] 82)) (.cells #[.int .u8 0, .int .i64 0, .string ⟨#[]⟩] 26))
     have HB3 := Lib.hid (zab HB2.out hbb)
     have HX3 := Lib.hid (HX2.out.later hbb)
     have HIT := Lib.hid (IsOf.later hiT hbb)
     have HIW := Lib.hid (IsOf.later hiW hbb)
     have hA : A2 (w2.alloc (.cells #[.slice ua T.length uc, .slice va W0.length vc] 82)) w2.heap.size (.slice ua T.length uc) (.slice va W0.length vc) := World.alloc_heap_new w2 _
     have HA := Lib.hid (hA.later (zaa (w2.alloc (.cells #[.slice ua T.length uc, .slice va W0.length vc] 82)) (.cells #[.int .u8 0, .int .i64 0, .string ⟨#[]⟩] 26)))
     have HRS := Lib.hid (HRES.out T W0 rfl)
     clear hA hbb ho1 ho2 hiT hiW HB2 HX2 HRES HBAD
     go_upto_region 15 with fail
     generalize (w2.alloc (.cells #[.slice ua T.length uc, .slice va W0.length vc] 82)).alloc (.cells #[.int .u8 0, .int .i64 0, .string ⟨#[]⟩] 26) = w3 at *
     obtain ⟨a0, a1, _, _⟩ := HA.out.cells
     have hal := HA.out.lt
     go_wp2_with fail
     refine (zv8 (.slice ua T.length uc) (.slice va W0.length vc) rfl rfl _).mono ?_
     rintro e w4 ⟨rfl, hF, hB4⟩
     have HB4 := Lib.hid (zab HB3.out hB4)
     have HX4 := Lib.hid (HX3.out.later hB4)
     have HIT4 := Lib.hid (IsOf.later HIT.out hB4)
     have HIW4 := Lib.hid (IsOf.later HIW.out hB4)
     have hlk := HLOOK.out w4 _ _ _ hF
     clear hF hB4 HB3 HX3 HIT HIW HA a0 a1 hal HLOOK
     generalize w3.heap.size + 1 = qm at *
     have heg := HEG.out
     go_wp2_with fail
     clear heg
     refine (HRS.out ua T.length uc va W0.length vc _ HB4.out HIT4.out huc HIW4.out).mono ?_
     obtain ⟨rk, rn, rs⟩ := r
     rintro e w1 ⟨rfl, hB⟩
     unfold vOf
     dsimp only
     have hX : B3 w1 w.heap.size 0 0 ⟨#[]⟩ := HX4.out.later hB
     have HBW := Lib.hid (zab HB4.out hB)
     obtain ⟨x0, x1, x2, z0, z1, z2⟩ := hX.cells
     have hXl := hX.lt
     obtain ⟨hq, hg⟩ := zae hX rk rn rs
     have hb5 := HBW.out.grown hg HBW.out.size (fun q hq => by injection hq with hq; omega)
     clear hB hg hlk
     go_wp2_with fail
     generalize ((w1.setCell ⟨w.heap.size, 0, none⟩ (.int .u8 (rk : Int))).setCell ⟨w.heap.size, 1, none⟩ (.int .i64 rn)).setCell ⟨w.heap.size, 2, none⟩ (.string rs) = w5 at *
     obtain ⟨v0, v1, v2, _, _, _⟩ := hq.cells
     refine bodyPost_ret (v := .tuple #[.agg #[.int .u8 (rk : Int), .int .i64 rn, .string rs], .int .i64 0]) (by simp [results, Tryz.results37, go_sem, v0, v1, v2]) rfl ⟨rfl, hb5⟩
end Go.Proofs.YtdhahiodnmmkeaaGreatDoor.Va
