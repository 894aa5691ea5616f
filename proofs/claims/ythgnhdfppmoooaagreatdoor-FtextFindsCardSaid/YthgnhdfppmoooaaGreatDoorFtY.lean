/- Merged: FtX FtL. -/
import Derived.Test.YthgnhdfppmoooaaGreatDoorFtG
import Derived.DataShut
import Derived.Test.YthgnhdfppmoooaaGreatDoorOwnB
import Derived.Test.YthgnhdfppmoooaaGreatDoorSeqI
/- Merged: FtH FtI FtJ FtK. -/
/- ftext: the examples of the chapter; the law's helpers; of. -/
namespace Go.Proofs.YthgnhdfppmoooaaGreatDoor.Va
open Go Go.RowKit GM Sx
set_option linter.unusedVariables false
set_option linter.unusedSimpArgs false
theorem rep_lit (s : ByteArray) (k : Nat) (r : ByteArray) (h1 : k ≤ 9223372036854775807) (h2 : s.size * k ≤ 140737488355328) (h : (⟨(Lib.repeatL s.data.toList k).toArray⟩ : ByteArray) = r) (w : World) : Calls Tryz.prog 17 #[.string s, .int .i64 (k : Int)] w fun e w' => e = .returned (.string r) ∧ Below w.heap.size w w' :=
  (Tryz.strings_Repeat s k w h1 h2).mono fun e w' ⟨he, hB⟩ => ⟨by rw [he, h], hB⟩
theorem idx_lit (s : ByteArray) (b : UInt8) (r : Int) (h : Lib.indexByte s.data.toList b = r) (w : World) : Calls Tryz.prog 64 #[.string s, .string ⟨#[b]⟩] w fun e w' => e = .returned (.int .i64 r) ∧ Below w.heap.size w w' :=
  (Tryz.stringslite_Index_one s b w).mono fun e w' ⟨he, hw⟩ => ⟨by rw [he, h], hw ▸ Below.refl _ _⟩
theorem ton_lit (k : Nat) (n : Int) (s : ByteArray) (r : V3) (h1 : s.size ≤ 2000) (h2 : -9223372036854775808 ≤ n ∧ n ≤ 9223372036854775807) (h : cvR 1 k n s = r) (w : World) (hT : Tb w) : Calls Tryz.prog 20 #[.agg #[.int .u8 (k : Int), .int .i64 n, .string s]] w fun e w' => e = .returned (.agg #[.int .u8 (r.1 : Int), .int .i64 r.2.1, .string r.2.2]) ∧ Below w.heap.size w w' :=
  (vto_num k n s h1 h2 w hT).mono fun e w' ⟨he, hB⟩ => ⟨by rw [he, h], hB⟩
theorem tot_lit (k : Nat) (n : Int) (s : ByteArray) (r : V3) (h1 : s.size ≤ 2000) (h2 : -9223372036854775808 ≤ n ∧ n ≤ 9223372036854775807) (h : cvR 3 k n s = r) (w : World) (hT : Tb w) : Calls Tryz.prog 19 #[.agg #[.int .u8 (k : Int), .int .i64 n, .string s]] w fun e w' => e = .returned (.agg #[.int .u8 (r.1 : Int), .int .i64 r.2.1, .string r.2.2]) ∧ Below w.heap.size w w' :=
  (vto_text k n s h1 h2 w hT).mono fun e w' ⟨he, hB⟩ => ⟨by rw [he, h], hB⟩
set_option maxRecDepth 100000 in
theorem awake14 (w : World) (hT : Tb w) : Calls Tryz.prog 10 #[] w fun e w' => e = .returned (.bool true) ∧ Below w.heap.size w w' :=
  va_call (facts := []) (tab := [(17, [.string ⟨#[97, 98]⟩, .int .i64 2], .string ⟨#[97, 98, 97, 98]⟩), (17, [.string ⟨#[97, 98]⟩, .int .i64 200], .string ⟨#[97, 98, 97, 98, 97, 98, 97, 98, 97, 98, 97, 98, 97, 98, 97, 98, 97, 98, 97, 98, 97, 98, 97, 98, 97, 98, 97, 98, 97, 98, 97, 98, 97, 98, 97, 98, 97, 98, 97, 98, 97, 98, 97, 98, 97, 98, 97, 98, 97, 98, 97, 98, 97, 98, 97, 98, 97, 98, 97, 98, 97, 98, 97, 98, 97, 98, 97, 98, 97, 98, 97, 98, 97, 98, 97, 98, 97, 98, 97, 98, 97, 98, 97, 98, 97, 98, 97, 98, 97, 98, 97, 98, 97, 98, 97, 98, 97, 98, 97, 98, 97, 98, 97, 98, 97, 98, 97, 98, 97, 98, 97, 98, 97, 98, 97, 98, 97, 98, 97, 98, 97, 98, 97, 98, 97, 98, 97, 98, 97, 98, 97, 98, 97, 98, 97, 98, 97, 98, 97, 98, 97, 98, 97, 98, 97, 98, 97, 98, 97, 98, 97, 98, 97, 98, 97, 98, 97, 98, 97, 98, 97, 98, 97, 98, 97, 98, 97, 98, 97, 98, 97, 98, 97, 98, 97, 98, 97, 98, 97, 98, 97, 98, 97, 98, 97, 98, 97, 98, 97, 98, 97, 98, 97, 98, 97, 98, 97, 98, 97, 98, 97, 98, 97, 98, 97, 98, 97, 98, 97, 98, 97, 98, 97, 98, 97, 98, 97, 98, 97, 98, 97, 98, 97, 98, 97, 98, 97, 98, 97, 98, 97, 98, 97, 98, 97, 98, 97, 98, 97, 98, 97, 98, 97, 98, 97, 98, 97, 98, 97, 98, 97, 98, 97, 98, 97, 98, 97, 98, 97, 98, 97, 98, 97, 98, 97, 98, 97, 98, 97, 98, 97, 98, 97, 98, 97, 98, 97, 98, 97, 98, 97, 98, 97, 98, 97, 98, 97, 98, 97, 98, 97, 98, 97, 98, 97, 98, 97, 98, 97, 98, 97, 98, 97, 98, 97, 98, 97, 98, 97, 98, 97, 98, 97, 98, 97, 98, 97, 98, 97, 98, 97, 98, 97, 98, 97, 98, 97, 98, 97, 98, 97, 98, 97, 98, 97, 98, 97, 98, 97, 98, 97, 98, 97, 98, 97, 98, 97, 98, 97, 98, 97, 98, 97, 98, 97, 98, 97, 98, 97, 98, 97, 98, 97, 98, 97, 98, 97, 98, 97, 98, 97, 98, 97, 98, 97, 98, 97, 98, 97, 98, 97, 98, 97, 98, 97, 98, 97, 98, 97, 98, 97, 98, 97, 98, 97, 98, 97, 98, 97, 98]⟩), (64, [.string ⟨#[97, 98, 99, 98]⟩, .string ⟨#[98]⟩], .int .i64 1), (64, [.string ⟨#[99, 98]⟩, .string ⟨#[98]⟩], .int .i64 1), (64, [.string ⟨#[97, 98, 99]⟩, .string ⟨#[66]⟩], .int .i64 (-1)), (20, [.agg #[.int .u8 3, .int .i64 0, .string ⟨#[49, 46, 53]⟩]], .agg #[.int .u8 1, .int .i64 15000, .string ⟨#[]⟩]), (20, [.agg #[.int .u8 3, .int .i64 0, .string ⟨#[120]⟩]], .agg #[.int .u8 4, .int .i64 2, .string ⟨#[]⟩]), (19, [.agg #[.int .u8 1, .int .i64 125000, .string ⟨#[]⟩]], .agg #[.int .u8 3, .int .i64 0, .string ⟨#[49, 50, 46, 53]⟩])]) (σ := symOf []) (symOf_one rfl) hT (foks_nil) (toks_cons (Sx.tok rfl rfl rfl rfl (fun W _ => rep_lit ⟨#[97, 98]⟩ 2 _ (by decide) (by decide) (by kernel_rfl) W)) (toks_cons (Sx.tok rfl rfl rfl rfl (fun W _ => rep_lit ⟨#[97, 98]⟩ 200 _ (by decide) (by decide) (by kernel_rfl) W)) (toks_cons (Sx.tok rfl rfl rfl rfl (fun W _ => idx_lit ⟨#[97, 98, 99, 98]⟩ 98 _ (by kernel_rfl) W)) (toks_cons (Sx.tok rfl rfl rfl rfl (fun W _ => idx_lit ⟨#[99, 98]⟩ 98 _ (by kernel_rfl) W)) (toks_cons (Sx.tok rfl rfl rfl rfl (fun W _ => idx_lit ⟨#[97, 98, 99]⟩ 66 _ (by kernel_rfl) W)) (toks_cons (Sx.tok rfl rfl rfl rfl (fun W hW => ton_lit 3 0 ⟨#[49, 46, 53]⟩ (1, 15000, ⟨#[]⟩) (by decide) (by decide) (by kernel_rfl) W (hT.at hW))) (toks_cons (Sx.tok rfl rfl rfl rfl (fun W hW => ton_lit 3 0 ⟨#[120]⟩ (4, 2, ⟨#[]⟩) (by decide) (by decide) (by kernel_rfl) W (hT.at hW))) (toks_cons (Sx.tok rfl rfl rfl rfl (fun W hW => tot_lit 1 125000 ⟨#[]⟩ (3, 0, ⟨#[49, 50, 46, 53]⟩) (by decide) (by decide) (by kernel_rfl) W (hT.at hW))) (toks_nil))))))))) (args := []) (v := .bool true) (by kernel_rfl) rfl rfl
end Go.Proofs.YthgnhdfppmoooaaGreatDoor.Va
/- ftext: what the law's of returns, function by function. -/
namespace Go.Proofs.YthgnhdfppmoooaaGreatDoor.Va
open Go Go.RowKit GM
set_option linter.unusedVariables false
set_option linter.unusedSimpArgs false
def tv (s : ByteArray) : V3 := (3, 0, s)
def nv (n : Int) : V3 := (1, n, ⟨#[]⟩)
theorem vE_t {s : ByteArray} (h : chk s.data.toList = 0) : vE 3 0 s.data.toList = 0 := by unfold vE vldV; simp [h]
theorem vE_n {n : Int} (h : n ≠ leastI) : vE 1 n (⟨#[]⟩ : ByteArray).data.toList = 0 := by unfold vE vldV; simp [h]
theorem chk_size {s : ByteArray} (h : chk s.data.toList = 0) : s.size ≤ 256 := chk_z h
theorem cvK_t {s : ByteArray} (h : chk s.data.toList = 0) : cvK 115 (tv s) = tv s := cv_same (vE_t h) (.inl rfl)
theorem cvK_n {n : Int} (h : n ≠ leastI) : cvK 110 (nv n) = nv n := cv_same (vE_n h) (.inl rfl)
theorem trunc_k {k : Int} (h : 0 ≤ k) : (truncZ (k * 10000)).tdiv 10000 = k := by
  have h1 : (k * 10000).tdiv 10000 = k := Int.mul_tdiv_cancel k (by decide)
  unfold truncZ
  first
    | rw [h1]; exact h1
    | (rw [Int.mul_tmod_left, Int.sub_zero]; exact h1)
/-- The arguments, of the kinds that are asked. -/
def Kd : List UInt8 → List V3 → List ByteArray → List Int → Prop
  | _, [], T, W => T = [] ∧ W = []
  | c :: cs, v :: L, T, W => (∃ s T', c = 115 ∧ v = tv s ∧ chk s.data.toList = 0 ∧ T = s :: T' ∧ Kd cs L T' W) ∨ (∃ k W', c = 110 ∧ v = nv (k * 10000) ∧ 0 ≤ k ∧ k ≤ 1000000000 ∧ W = k :: W' ∧ Kd cs L T W')
  | [], _ :: _, _, _ => False
theorem kd_conv : ∀ (cs : List UInt8) (L : List V3) (T : List ByteArray) (W : List Int) (T0 : List ByteArray) (W0 : List Int), Kd cs L T W → convR cs L T0 W0 = .inl (T0 ++ T, W0 ++ W ++ [1])
  | cs, [], T, W, T0, W0, h => by
    unfold Kd at h
    obtain ⟨rfl, rfl⟩ := h
    cases cs <;> simp [convR]
  | [], v :: L, T, W, T0, W0, h => h.elim
  | c :: cs, v :: L, T, W, T0, W0, h => by
    unfold Kd at h
    rcases h with ⟨s, T', rfl, rfl, hs, rfl, h⟩ | ⟨k, W', rfl, rfl, h0, h1, rfl, h⟩
    · have e : convR (115 :: cs) (tv s :: L) T0 W0 = convR cs L (T0 ++ [s]) W0 := by
        show (if (cvK 115 (tv s)).1 = 4 then _ else if (115 : UInt8) = 115 then _ else _) = _
        rw [cvK_t hs]; rfl
      rw [e, kd_conv cs L T' W _ _ h]
      simp
    · have e : convR (110 :: cs) (nv (k * 10000) :: L) T0 W0 = convR cs L T0 (W0 ++ [k]) := by
        show (if (cvK 110 (nv (k * 10000))).1 = 4 then _ else if (110 : UInt8) = 115 then _ else _) = _
        rw [cvK_n (by unfold leastI; omega)]
        show convR cs L T0 (W0 ++ [(truncZ (k * 10000)).tdiv 10000]) = _
        rw [trunc_k h0]
      rw [e, kd_conv cs L T W' _ _ h]
      simp
theorem kd_hv : ∀ (cs : List UInt8) (L : List V3) (T : List ByteArray) (W : List Int), Kd cs L T W → ∀ v ∈ L, (v.2.2.size ≤ 2000 ∧ InI v.2.1) ∧ vE v.1 v.2.1 v.2.2.data.toList = 0
  | cs, [], T, W, h => fun v hv => by cases hv
  | [], v :: L, T, W, h => h.elim
  | c :: cs, v :: L, T, W, h => by
    unfold Kd at h
    rcases h with ⟨s, T', rfl, rfl, hs, rfl, h⟩ | ⟨k, W', rfl, rfl, h0, h1, rfl, h⟩
    · intro x hx
      rcases List.mem_cons.1 hx with rfl | hx
      · exact ⟨⟨by have := chk_size hs; show s.size ≤ 2000; omega, by show InI 0; unfold InI; omega⟩, vE_t hs⟩
      · exact kd_hv cs L T' W h x hx
    · intro x hx
      rcases List.mem_cons.1 hx with rfl | hx
      · exact ⟨⟨by show (⟨#[]⟩ : ByteArray).size ≤ 2000; decide, by show InI (k * 10000); unfold InI; omega⟩, vE_n (n := k * 10000) (by unfold leastI; omega)⟩
      · exact kd_hv cs L T W' h x hx
theorem kd_hvn : ∀ (cs : List UInt8) (L : List V3) (T : List ByteArray) (W : List Int), Kd cs L T W → ∀ k (h1 : k < L.length) (h2 : k < cs.length), cs[k] = 110 → InI (cvR 1 L[k].1 L[k].2.1 L[k].2.2).2.1
  | cs, [], T, W, h => fun k h1 => by cases h1
  | [], v :: L, T, W, h => h.elim
  | c :: cs, v :: L, T, W, h => by
    unfold Kd at h
    rcases h with ⟨s, T', rfl, rfl, hs, rfl, h⟩ | ⟨k, W', rfl, rfl, h0, h1, rfl, h⟩
    · intro i hi1 hi2 hc
      cases i with
      | zero => simp at hc
      | succ i => exact kd_hvn cs L T' W h i (by simpa using hi1) (by simpa using hi2) (by simpa using hc)
    · intro i hi1 hi2 hc
      cases i with
      | zero =>
        have e : cvR 1 1 (k * 10000) ⟨#[]⟩ = (1, k * 10000, ⟨#[]⟩) := cv_same (vE_n (by unfold leastI; omega)) (.inl rfl)
        show InI (cvR 1 1 (k * 10000) ⟨#[]⟩).2.1
        rw [e]; unfold InI; dsimp only; omega
      | succ i => exact kd_hvn cs L T W' h i (by simpa using hi1) (by simpa using hi2) (by simpa using hc)
set_option maxHeartbeats 3200000 in
theorem of_any (fn : Nat) (a : Option Addr) (n cap : Nat) (r : V3) (w : World) (hc : ∀ W, Below w.heap.size w W → Calls Tryz.prog 11 #[.int .u8 (fn : Int), .slice a n cap] W fun e w' => e = .returned (.tuple #[vOf r, .int .i64 0]) ∧ Below W.heap.size W w') :
    Calls Tryz.prog 7 #[.int .u8 (fn : Int), .slice a n cap] w fun e w' => e = .returned (vOf r) ∧ Below w.heap.size w w' := by
  have HC := Lib.hid hc
  clear hc
  have HX : Hid (B3 (w.alloc (.cells #[.int .u8 0, .int .i64 0, .string ⟨#[]⟩] 24)) w.heap.size 0 0 ⟨#[]⟩) := B3.start w 0 0 ⟨#[]⟩
  have HW := Lib.hid (valloc w (.cells #[.int .u8 0, .int .i64 0, .string ⟨#[]⟩] 24))
  obtain ⟨rk, rn, rs⟩ := r
  unfold vOf at *
  dsimp only at *
  go_enter Tryz.func7, Tryz.ntmps7
  go_wp2_with fail
  generalize w.alloc (.cells #[.int .u8 0, .int .i64 0, .string ⟨#[]⟩] 24) = w0 at *
  refine (HC.out _ HW.out).mono ?_
  rintro e w1 ⟨rfl, hB⟩
  have hbb := valloc w1 (.cells #[.int .u8 (rk : Int), .int .i64 rn, .string rs] 24)
  have HX2 := Lib.hid ((HX.out.later hB).later hbb)
  have HB2 := Lib.hid (vnext (vnext HW.out hB) hbb)
  have HR := Lib.hid (B3.start w1 rk rn rs)
  clear hB hbb HX HW
  go_upto_region 2 with fail
  generalize w1.alloc (.cells #[.int .u8 (rk : Int), .int .i64 rn, .string rs] 24) = w2 at *
  obtain ⟨y0, y1, y2, _, _, _⟩ := HR.out.cells
  have hyl := HR.out.lt
  have hX := HX2.out
  obtain ⟨x0, x1, x2, z0, z1, z2⟩ := hX.cells
  have hXl := hX.lt
  obtain ⟨hq, hg⟩ := b3_set hX rk rn rs
  have hb5 := HB2.out.grown hg HB2.out.size (fun q hq => by injection hq with hq; omega)
  clear hg
  go_wp2_with fail
  generalize ((w2.setCell ⟨w.heap.size, 0, none⟩ (.int .u8 (rk : Int))).setCell ⟨w.heap.size, 1, none⟩ (.int .i64 rn)).setCell ⟨w.heap.size, 2, none⟩ (.string rs) = w5 at *
  obtain ⟨v0, v1, v2, _, _, _⟩ := hq.cells
  refine bodyPost_ret (v := .agg #[.int .u8 (rk : Int), .int .i64 rn, .string rs]) (by simp [results, Tryz.results7, go_sem, v0, v1, v2]) rfl ⟨rfl, hb5⟩
theorem of_kd (fn : Nat) (mf : FuncId) (ks : ByteArray) (least : Nat) (hf1 : 31 ≤ fn) (hf2 : fn ≤ 42) (a : Option Addr) (n cap : Nat) (L : List V3) (T : List ByteArray) (W0 : List Int) (w : World) (hL : IsV w a n L)
    (hpat : ∀ W : World, Calls Tryz.prog 13 #[.int .u8 (fn : Int)] W fun e w' => e = .returned (.tuple #[.string ks, .int .i64 (least : Int)]) ∧ Below W.heap.size W w')
    (hl : least ≤ n) (hn : n ≤ ks.size) (hk20 : ks.size ≤ 20) (hks : ∀ c ∈ ks.data.toList, c = 115 ∨ c = 110) (hK : Kd ks.data.toList L T W0) (hT : Tb w)
    (hlook : ∀ (W : World) (q : Nat) (x y : Value), FTab W q x y → (Instr.lookup 49 (.map (some q)) (.int .u8 (fn : Int)) false).run Tryz.prog W = .ok (.func (.func mf) #[.agg #[x, y]] #[]) W)
    (heg : ∀ (args : Array Value) (W : World), (callFunc mf args).run Tryz.prog W = .ok (.enter mf args) W)
    (r : V3) (hres : ∀ (ta : Option Addr) (tn tc : Nat) (wa : Option Addr) (wn wc : Nat) (W : World), Below w.heap.size w W → IsT W ta tn T → tn ≤ tc → IsW W wa wn (W0 ++ [1]) → Calls Tryz.prog mf #[.agg #[.slice ta tn tc, .slice wa wn wc]] W fun e w' => e = .returned (vOf r) ∧ Below W.heap.size W w') :
    Calls Tryz.prog 7 #[.int .u8 (fn : Int), .slice a n cap] w fun e w' => e = .returned (vOf r) ∧ Below w.heap.size w w' := by
  have hcv := kd_conv _ _ _ _ [] [] hK
  simp only [List.nil_append] at hcv
  exact of_any fn a n cap r w fun W hW => call_any fn mf ks least hf1 hf2 a n cap L W (IsOf.later hL hW) hpat hl hn hk20 hks (fun v hv => (kd_hv _ _ _ _ hK v hv).1) (kd_hvn _ _ _ _ hK) (fun v hv => (kd_hv _ _ _ _ hK v hv).2) (hT.later hW) hlook heg r
    (fun T' W' h => by rw [hcv] at h; injection h with h; injection h with h1 h2; subst h1 h2; exact fun ta tn tc wa wn wc X hX => hres ta tn tc wa wn wc X (vnext hW hX))
    (fun x h => by rw [hcv] at h; cases h)
theorem of_len (s : ByteArray) (hs : chk s.data.toList = 0) (a : Option Addr) (cap : Nat) (w : World) (hL : IsV w a 1 [tv s]) (hT : Tb w) :
    Calls Tryz.prog 7 #[.int .u8 31, .slice a 1 cap] w fun e w' => e = .returned (vOf (cnV (s.size : Int))) ∧ Below w.heap.size w w' :=
  of_kd 31 22 ⟨#[115]⟩ 1 (by decide) (by decide) a 1 cap _ [s] [] w hL pat_31 (by decide) (by decide) (by decide) (by decide) (.inl ⟨s, _, rfl, rfl, hs, rfl, ⟨rfl, rfl⟩⟩) hT (fun W q x y h => look_length h) (enters_of Tryz.func22 (by kernel_rfl) rfl) (cnV (s.size : Int))
    (fun ta tn tc wa wn wc X hX h1 hc h2 => m_len ta wa tn tc wn wc _ _ X h1 h2 s rfl (by have := chk_size hs; omega))
theorem of_left (s : ByteArray) (k : Int) (hs : chk s.data.toList = 0) (hk : 0 ≤ k ∧ k ≤ 1000000) (a : Option Addr) (cap : Nat) (w : World) (hL : IsV w a 2 [tv s, nv (k * 10000)]) (hT : Tb w) :
    Calls Tryz.prog 7 #[.int .u8 32, .slice a 2 cap] w fun e w' => e = .returned (vOf (leftV s k)) ∧ Below w.heap.size w w' :=
  of_kd 32 23 ⟨#[115, 110]⟩ 1 (by decide) (by decide) a 2 cap _ [s] [k] w hL pat_32 (by decide) (by decide) (by decide) (by decide) (.inl ⟨s, _, rfl, rfl, hs, rfl, .inr ⟨k, _, rfl, rfl, hk.1, by omega, rfl, ⟨rfl, rfl⟩⟩⟩) hT (fun W q x y h => look_left h) (enters_of Tryz.func23 (by kernel_rfl) rfl) (leftV s k)
    (fun ta tn tc wa wn wc X hX h1 hc h2 => m_left ta wa tn tc wn wc _ _ X h1 h2 s k rfl rfl (by have := chk_size hs; omega))
theorem of_right (s : ByteArray) (k : Int) (hs : chk s.data.toList = 0) (hk : 0 ≤ k ∧ k ≤ 1000000) (a : Option Addr) (cap : Nat) (w : World) (hL : IsV w a 2 [tv s, nv (k * 10000)]) (hT : Tb w) :
    Calls Tryz.prog 7 #[.int .u8 33, .slice a 2 cap] w fun e w' => e = .returned (vOf (rightV s k)) ∧ Below w.heap.size w w' :=
  of_kd 33 24 ⟨#[115, 110]⟩ 1 (by decide) (by decide) a 2 cap _ [s] [k] w hL pat_33 (by decide) (by decide) (by decide) (by decide) (.inl ⟨s, _, rfl, rfl, hs, rfl, .inr ⟨k, _, rfl, rfl, hk.1, by omega, rfl, ⟨rfl, rfl⟩⟩⟩) hT (fun W q x y h => look_right h) (enters_of Tryz.func24 (by kernel_rfl) rfl) (rightV s k)
    (fun ta tn tc wa wn wc X hX h1 hc h2 => m_right ta wa tn tc wn wc _ _ X h1 h2 s k rfl rfl (by have := chk_size hs; omega))
theorem of_mid (s : ByteArray) (f : Int) (k : Int) (hs : chk s.data.toList = 0) (hf : 0 ≤ f ∧ f ≤ 1000000) (hk : 0 ≤ k ∧ k ≤ 1000000) (a : Option Addr) (cap : Nat) (w : World) (hL : IsV w a 3 [tv s, nv (f * 10000), nv (k * 10000)]) (hT : Tb w) :
    Calls Tryz.prog 7 #[.int .u8 34, .slice a 3 cap] w fun e w' => e = .returned (vOf (midV s f k)) ∧ Below w.heap.size w w' :=
  of_kd 34 25 ⟨#[115, 110, 110]⟩ 3 (by decide) (by decide) a 3 cap _ [s] [f, k] w hL pat_34 (by decide) (by decide) (by decide) (by decide) (.inl ⟨s, _, rfl, rfl, hs, rfl, .inr ⟨f, _, rfl, rfl, hf.1, by omega, rfl, .inr ⟨k, _, rfl, rfl, hk.1, by omega, rfl, ⟨rfl, rfl⟩⟩⟩⟩) hT (fun W q x y h => look_middle h) (enters_of Tryz.func25 (by kernel_rfl) rfl) (midV s f k)
    (fun ta tn tc wa wn wc X hX h1 hc h2 => m_mid ta wa tn tc wn wc _ _ X h1 h2 s f k rfl rfl rfl (by omega) (by have := chk_size hs; omega))
theorem of_upper (s : ByteArray) (hs : chk s.data.toList = 0) (a : Option Addr) (cap : Nat) (w : World) (hL : IsV w a 1 [tv s]) (hT : Tb w) :
    Calls Tryz.prog 7 #[.int .u8 35, .slice a 1 cap] w fun e w' => e = .returned (vOf (txV (upS s))) ∧ Below w.heap.size w w' :=
  of_kd 35 26 ⟨#[115]⟩ 1 (by decide) (by decide) a 1 cap _ [s] [] w hL pat_35 (by decide) (by decide) (by decide) (by decide) (.inl ⟨s, _, rfl, rfl, hs, rfl, ⟨rfl, rfl⟩⟩) hT (fun W q x y h => look_upper h) (enters_of Tryz.func26 (by kernel_rfl) rfl) (txV (upS s))
    (fun ta tn tc wa wn wc X hX h1 hc h2 => m_upper ta wa tn tc wn wc _ _ X h1 h2 s rfl (by have := chk_size hs; omega))
theorem of_lower (s : ByteArray) (hs : chk s.data.toList = 0) (a : Option Addr) (cap : Nat) (w : World) (hL : IsV w a 1 [tv s]) (hT : Tb w) :
    Calls Tryz.prog 7 #[.int .u8 36, .slice a 1 cap] w fun e w' => e = .returned (vOf (txV (loS s))) ∧ Below w.heap.size w w' :=
  of_kd 36 27 ⟨#[115]⟩ 1 (by decide) (by decide) a 1 cap _ [s] [] w hL pat_36 (by decide) (by decide) (by decide) (by decide) (.inl ⟨s, _, rfl, rfl, hs, rfl, ⟨rfl, rfl⟩⟩) hT (fun W q x y h => look_lower h) (enters_of Tryz.func27 (by kernel_rfl) rfl) (txV (loS s))
    (fun ta tn tc wa wn wc X hX h1 hc h2 => m_lower ta wa tn tc wn wc _ _ X h1 h2 s rfl (by have := chk_size hs; omega))
theorem join_two (s t : ByteArray) : joinB [s, t] = s ++ t := by
  apply ByteArray.ext
  unfold joinB
  rw [show (s ++ t).data = s.data ++ t.data from ByteArray.data_append]
  simp [Lib.join, List.intercalate]
theorem join_three (s t u : ByteArray) : joinB [s, t, u] = s ++ t ++ u := by
  apply ByteArray.ext
  unfold joinB
  rw [show (s ++ t ++ u).data = s.data ++ t.data ++ u.data from by rw [ByteArray.data_append, ByteArray.data_append]]
  simp [Lib.join, List.intercalate]
theorem join_sz2 {s t : ByteArray} (hs : chk s.data.toList = 0) (ht : chk t.data.toList = 0) : (joinB [s, t]).size ≤ 1000000 := by
  have := chk_size hs; have := chk_size ht; rw [join_two, ByteArray.size_append]; omega
theorem join_sz3 {s t u : ByteArray} (hs : chk s.data.toList = 0) (ht : chk t.data.toList = 0) (hu : chk u.data.toList = 0) : (joinB [s, t, u]).size ≤ 1000000 := by
  have := chk_size hs; have := chk_size ht; have := chk_size hu; rw [join_three, ByteArray.size_append, ByteArray.size_append]; omega
theorem of_cat2 (s : ByteArray) (t : ByteArray) (hs : chk s.data.toList = 0) (ht : chk t.data.toList = 0) (a : Option Addr) (cap : Nat) (w : World) (hL : IsV w a 2 [tv s, tv t]) (hT : Tb w) :
    Calls Tryz.prog 7 #[.int .u8 38, .slice a 2 cap] w fun e w' => e = .returned (vOf (txV (joinB [s, t]))) ∧ Below w.heap.size w w' :=
  of_kd 38 29 ⟨#[115, 115, 115, 115, 115, 115, 115, 115, 115, 115, 115, 115, 115, 115, 115, 115]⟩ 1 (by decide) (by decide) a 2 cap _ [s, t] [] w hL pat_38 (by decide) (by decide) (by decide) (by decide) (.inl ⟨s, _, rfl, rfl, hs, rfl, .inl ⟨t, _, rfl, rfl, ht, rfl, ⟨rfl, rfl⟩⟩⟩) hT (fun W q x y h => look_concat h) (enters_of Tryz.func29 (by kernel_rfl) rfl) (txV (joinB [s, t]))
    (fun ta tn tc wa wn wc X hX h1 hc h2 => m_cat ta wa tn tc wn wc _ _ X h1 h2 (by rw [← h1.1]; simp) hc (join_sz2 hs ht))
theorem of_cat3 (s : ByteArray) (t : ByteArray) (u : ByteArray) (hs : chk s.data.toList = 0) (ht : chk t.data.toList = 0) (hu : chk u.data.toList = 0) (a : Option Addr) (cap : Nat) (w : World) (hL : IsV w a 3 [tv s, tv t, tv u]) (hT : Tb w) :
    Calls Tryz.prog 7 #[.int .u8 38, .slice a 3 cap] w fun e w' => e = .returned (vOf (txV (joinB [s, t, u]))) ∧ Below w.heap.size w w' :=
  of_kd 38 29 ⟨#[115, 115, 115, 115, 115, 115, 115, 115, 115, 115, 115, 115, 115, 115, 115, 115]⟩ 1 (by decide) (by decide) a 3 cap _ [s, t, u] [] w hL pat_38 (by decide) (by decide) (by decide) (by decide) (.inl ⟨s, _, rfl, rfl, hs, rfl, .inl ⟨t, _, rfl, rfl, ht, rfl, .inl ⟨u, _, rfl, rfl, hu, rfl, ⟨rfl, rfl⟩⟩⟩⟩) hT (fun W q x y h => look_concat h) (enters_of Tryz.func29 (by kernel_rfl) rfl) (txV (joinB [s, t, u]))
    (fun ta tn tc wa wn wc X hX h1 hc h2 => m_cat ta wa tn tc wn wc _ _ X h1 h2 (by rw [← h1.1]; simp) hc (join_sz3 hs ht hu))
theorem of_rept (s : ByteArray) (k : Int) (hs : chk s.data.toList = 0) (hk : 0 ≤ k ∧ k ≤ 1000000) (a : Option Addr) (cap : Nat) (w : World) (hL : IsV w a 2 [tv s, nv (k * 10000)]) (hT : Tb w) :
    Calls Tryz.prog 7 #[.int .u8 39, .slice a 2 cap] w fun e w' => e = .returned (vOf (reptV s k)) ∧ Below w.heap.size w w' :=
  of_kd 39 30 ⟨#[115, 110]⟩ 2 (by decide) (by decide) a 2 cap _ [s] [k] w hL pat_39 (by decide) (by decide) (by decide) (by decide) (.inl ⟨s, _, rfl, rfl, hs, rfl, .inr ⟨k, _, rfl, rfl, hk.1, by omega, rfl, ⟨rfl, rfl⟩⟩⟩) hT (fun W q x y h => look_repeat h) (enters_of Tryz.func30 (by kernel_rfl) rfl) (reptV s k)
    (fun ta tn tc wa wn wc X hX h1 hc h2 => m_rept ta wa tn tc wn wc _ _ X h1 h2 s k rfl rfl (by have := chk_size hs; omega))
theorem of_exact (s : ByteArray) (t : ByteArray) (hs : chk s.data.toList = 0) (ht : chk t.data.toList = 0) (a : Option Addr) (cap : Nat) (w : World) (hL : IsV w a 2 [tv s, tv t]) (hT : Tb w) :
    Calls Tryz.prog 7 #[.int .u8 40, .slice a 2 cap] w fun e w' => e = .returned (vOf (exactV s t)) ∧ Below w.heap.size w w' :=
  of_kd 40 31 ⟨#[115, 115]⟩ 2 (by decide) (by decide) a 2 cap _ [s, t] [] w hL pat_40 (by decide) (by decide) (by decide) (by decide) (.inl ⟨s, _, rfl, rfl, hs, rfl, .inl ⟨t, _, rfl, rfl, ht, rfl, ⟨rfl, rfl⟩⟩⟩) hT (fun W q x y h => look_exact h) (enters_of Tryz.func31 (by kernel_rfl) rfl) (exactV s t)
    (fun ta tn tc wa wn wc X hX h1 hc h2 => m_exact ta wa tn tc wn wc _ _ X h1 h2 s t rfl rfl)
theorem of_find (s : ByteArray) (t : ByteArray) (k : Int) (hs : chk s.data.toList = 0) (ht : chk t.data.toList = 0) (hk : 0 ≤ k ∧ k ≤ 1000000) (a : Option Addr) (cap : Nat) (w : World) (hL : IsV w a 3 [tv s, tv t, nv (k * 10000)]) (hT : Tb w) (hM : ML w) :
    Calls Tryz.prog 7 #[.int .u8 41, .slice a 3 cap] w fun e w' => e = .returned (vOf (findV s t k)) ∧ Below w.heap.size w w' :=
  of_kd 41 32 ⟨#[115, 115, 110]⟩ 2 (by decide) (by decide) a 3 cap _ [s, t] [k] w hL pat_41 (by decide) (by decide) (by decide) (by decide) (.inl ⟨s, _, rfl, rfl, hs, rfl, .inl ⟨t, _, rfl, rfl, ht, rfl, .inr ⟨k, _, rfl, rfl, hk.1, by omega, rfl, ⟨rfl, rfl⟩⟩⟩⟩) hT (fun W q x y h => look_find h) (enters_of Tryz.func32 (by kernel_rfl) rfl) (findV s t k)
    (fun ta tn tc wa wn wc X hX h1 hc h2 => m_find ta wa tn tc wn wc _ _ X h1 h2 s t k rfl rfl rfl (by have := chk_size ht; omega) (hM.later hX))
end Go.Proofs.YthgnhdfppmoooaaGreatDoor.Va
/- ftext: the law's helpers. -/
namespace Go.Proofs.YthgnhdfppmoooaaGreatDoor.Va
open Go Go.RowKit GM
set_option linter.unusedVariables false
set_option linter.unusedSimpArgs false
theorem ltext_any (s : ByteArray) (w : World) : Calls Tryz.prog 8 #[.string s] w fun e w' => e = .returned (.agg #[.int .u8 3, .int .i64 0, .string s]) ∧ Below w.heap.size w w' := by
  go_enter Tryz.func8, Tryz.ntmps8
  go_wp2_with fail
  refine bodyPost_ret (v := .agg #[.int .u8 3, .int .i64 0, .string s]) (by simp [results, Tryz.results8, go_sem]) rfl ⟨rfl, valloc _ _⟩
theorem lnum_any (n : Int) (w : World) : Calls Tryz.prog 9 #[.int .i64 n] w fun e w' => e = .returned (.agg #[.int .u8 1, .int .i64 n, .string ⟨#[]⟩]) ∧ Below w.heap.size w w' := by
  go_enter Tryz.func9, Tryz.ntmps9
  go_wp2_with fail
  refine bodyPost_ret (v := .agg #[.int .u8 1, .int .i64 n, .string ⟨#[]⟩]) (by simp [results, Tryz.results9, go_sem]) rfl ⟨rfl, valloc _ _⟩
def plB (s : ByteArray) (m : Nat) : List UInt8 := (s.data.toList.take m).map fun b => 32 + b % 95
def plS (s : ByteArray) (m : Nat) : ByteArray := str (plB s m)
theorem plB_byte (b : UInt8) : ((32 + b % 95 : UInt8).toNat : Int) = 32 + (b.toNat : Int) % 95 := by
  rw [UInt8.toNat_add, UInt8.toNat_mod, show (32 : UInt8).toNat = 32 from rfl, show (95 : UInt8).toNat = 95 from rfl]
  have := b.toNat_lt
  omega
theorem plS_ok (s : ByteArray) (m : Nat) (hm : m ≤ 256) : chk (plS s m).data.toList = 0 ∧ (plS s m).size ≤ m := by
  have hd : (plS s m).data.toList = plB s m := by unfold plS; rw [str_data]
  have hl : (plB s m).length ≤ m := by unfold plB; rw [List.length_map, List.length_take]; omega
  have hz : (plS s m).size = (plB s m).length := by unfold plS; rw [str_size]
  refine ⟨?_, by omega⟩
  rw [hd]
  unfold chk
  rw [if_neg (by omega), if_pos]
  unfold plain plB
  rw [List.all_map, List.all_eq_true]
  intro b _
  have := plB_byte b
  have := b.toNat_lt
  simp only [Function.comp_apply, Bool.and_eq_true, decide_eq_true_iff]
  omega
theorem OwnB.later {B : Nat} {w w1 : World} {v : Value} {l : List UInt8} (h : OwnB B w v l) (hb : Below w.heap.size w w1) : OwnB B w1 v l := by
  obtain ⟨h1, h2⟩ := h
  refine ⟨h1, ?_⟩
  rcases h2 with h2 | ⟨g, cap, cur, rfl, hg, hh, hrest⟩
  · exact .inl h2
  · refine .inr ⟨g, cap, cur, rfl, hg, ?_, hrest⟩
    rw [hb.block g (Array.getElem?_eq_some_iff.1 hh).1]; exact hh
theorem map_next (f : UInt8 → UInt8) (s : ByteArray) (k : Nat) (h : k < s.size) : (s.data.toList.take (k + 1)).map f = (s.data.toList.take k).map f ++ [f s[k]] := by
  rw [take_snoc s k h, List.map_append]; rfl
set_option maxRecDepth 100000 in
set_option maxHeartbeats 3200000 in
theorem lplain_any (s : ByteArray) (m : Nat) (hm : m ≤ 1000) (w : World) : Calls Tryz.prog 6 #[.string s, .int .i64 (m : Int)] w fun e w' => e = .returned (.string (plS s m)) ∧ Below w.heap.size w w' := by
  obtain ⟨f, hf⟩ : ∃ f : UInt8 → UInt8, f = fun b => 32 + b % 95 := ⟨_, rfl⟩
  have HP : Hid (plS s m = str ((s.data.toList.take m).map f)) := by rw [hf]; exact rfl
  have HF : Hid (∀ b, ((f b).toNat : Int) = 32 + (b.toNat : Int) % 95) := fun b => by rw [hf]; exact plB_byte b
  clear hf
  generalize plS s m = R at *
  go_enter Tryz.func6, Tryz.ntmps6
  go_wp2_with fail
  go_loopw [5, 6] (fun v i wr => ∃ k : Nat, k ≤ s.size ∧ k ≤ m ∧ i = .int .i64 k ∧ Hid (OwnB w.heap.size wr v ((s.data.toList.take k).map f)) ∧ Hid (Below w.heap.size w wr)) (fun _ i _ => s.size - (intOf i).toNat)
  case atStart => exact ⟨0, Nat.zero_le _, Nat.zero_le _, rfl, OwnB.nil _ _, Below.refl _ _⟩
  case round =>
    obtain ⟨k, hk, hkm, rfl, HO, HB⟩ := hrel
    by_cases hlt : k < s.size
    · by_cases hlm : k < m
      · have HE := Lib.hid (map_next f s k hlt)
        have hfb := HF.out s[k]
        have hln : ((s.data.toList.take k).map f).length ≤ 1000000 := by rw [List.length_map, List.length_take]; omega
        have HLN := Lib.hid hln
        have hb8 := s[k].toNat_lt
        have hz := HB.out.size
        clear hln
        go_wp2_with (at_builtin; refine wpList_app1 rfl _ _ rfl w.heap.size _ _ rfl (HO.out.alloc _) wr.heap.size (f s[k]) rfl (by rw [HF.out]; simp) HLN.out (by simp; omega) ?_; intro v5 w5 ho5 hb5)
        have HO5 := Lib.hid ho5
        rw [← HE.out] at HO5
        have HB5 := Lib.hid ((HB.out.alloc hz _).trans hb5)
        clear ho5 hb5
        go_wp2_with fail
        exact ⟨⟨k + 1, by omega, by omega, by go_num, HO5.out, HB5.out⟩, by simp [intOf]; omega⟩
      · obtain rfl : k = m := by omega
        have hx := HO.out.str
        rw [← HP.out] at hx
        clear HP
        go_wp2_with fail
        go_ret
        exact ⟨rfl, HB.out⟩
    · obtain rfl : k = s.size := by omega
      have hx := HO.out.str
      have e : s.data.toList.take s.size = s.data.toList.take m := by
        have hl : s.data.toList.length = s.size := Array.length_toList
        rw [List.take_of_length_le (by omega), List.take_of_length_le (by omega)]
      rw [e, ← HP.out] at hx
      clear HP e
      go_wp2_with fail
      go_ret
      exact ⟨rfl, HB.out⟩
end Go.Proofs.YthgnhdfppmoooaaGreatDoor.Va
/- ftext: what repeating and joining keep. -/
namespace Go.Proofs.YthgnhdfppmoooaaGreatDoor.Va
open Go Go.RowKit GM
set_option linter.unusedVariables false
set_option linter.unusedSimpArgs false
theorem chk_parts {l : List UInt8} (h : chk l = 0) : l.length ≤ 256 ∧ plain l = true := by
  unfold chk at h
  split at h
  · cases h
  · split at h
    · rename_i h1 h2; exact ⟨by omega, h2⟩
    · cases h
theorem chk_of {l : List UInt8} (h1 : l.length ≤ 256) (h2 : plain l = true) : chk l = 0 := by unfold chk; rw [if_neg (by omega), if_pos h2]
theorem dlen (s : ByteArray) : s.data.toList.length = s.size := Array.length_toList
theorem app_data (s t : ByteArray) : (s ++ t).data.toList = s.data.toList ++ t.data.toList := by rw [ByteArray.data_append]; simp
theorem chk_app {s t : ByteArray} (hs : chk s.data.toList = 0) (ht : chk t.data.toList = 0) (h : s.size + t.size ≤ 256) : chk (s ++ t).data.toList = 0 := by
  rw [app_data]
  refine chk_of (by rw [List.length_append, dlen, dlen]; exact h) ?_
  have h1 := (chk_parts hs).2
  have h2 := (chk_parts ht).2
  unfold plain at *
  rw [List.all_append, h1, h2]; rfl
theorem plain_rep {l : List UInt8} (h : plain l = true) : ∀ c, plain (Lib.repeatL l c) = true
  | 0 => rfl
  | c + 1 => by
    have ih := plain_rep h c
    show plain (l ++ Lib.repeatL l c) = true
    unfold plain at *
    rw [List.all_append, h, ih]; rfl
theorem rep_data (s : ByteArray) (c : Nat) : (repS s c).data.toList = Lib.repeatL s.data.toList c := rfl
theorem rep_size (s : ByteArray) (c : Nat) : (repS s c).size = c * s.size := by
  have h := Lib.repeatL_length s.data.toList c
  rw [← rep_data, dlen, dlen] at h; exact h
theorem rep_head (s : ByteArray) (c : Nat) : (repS s (c + 1)).extract 0 s.size = s := by
  apply ByteArray.ext
  rw [ByteArray.data_extract]
  apply Array.toList_inj.1
  rw [Array.toList_extract, rep_data]
  show List.take (s.size - 0) (List.drop 0 (s.data.toList ++ Lib.repeatL s.data.toList c)) = _
  rw [List.drop_zero, Nat.sub_zero, ← dlen s, List.take_left]
theorem rep_empty (c : Nat) : repS ⟨#[]⟩ c = ⟨#[]⟩ := by
  have h : ∀ c, Lib.repeatL ([] : List UInt8) c = [] := fun c => by
    induction c with
    | zero => rfl
    | succ c ih => show [] ++ Lib.repeatL [] c = []; rw [ih]; rfl
  unfold repS
  rw [show (⟨#[]⟩ : ByteArray).data.toList = [] from rfl, h]
theorem size_pos {s : ByteArray} (h : s ≠ ⟨#[]⟩) : 0 < s.size := by
  rcases empty_or s with e | ⟨e, _⟩
  · exact absurd e h
  · rw [← dlen]; cases hs : s.data.toList with
    | nil => rw [hs] at e; cases e
    | cons a l => simp
theorem rept_ok {A : ByteArray} (hA : chk A.data.toList = 0) {m : Nat} (h : A.size * m ≤ 256) : ∃ R, reptV A m = (3, 0, R) ∧ R.size = A.size * m ∧ (m = 0 ∨ R.extract 0 A.size = A) ∧ chk R.data.toList = 0 := by
  by_cases he : A = ⟨#[]⟩
  · subst he
    refine ⟨⟨#[]⟩, ?_, by rw [show (⟨#[]⟩ : ByteArray).size = 0 from rfl, Nat.zero_mul], .inr rfl, rfl⟩
    unfold reptV
    rw [if_neg (by rintro (h | ⟨h, _⟩); omega; exact h rfl), rep_empty]
    rfl
  · have hp := size_pos he
    have hm : m ≤ 256 := Nat.le_trans (Nat.le_mul_of_pos_left m hp) h
    have hz : (repS A m).size = A.size * m := by rw [rep_size, Nat.mul_comm]
    refine ⟨repS A m, ?_, hz, ?_, ?_⟩
    · unfold reptV
      rw [if_neg (by rintro (h | ⟨_, h⟩) <;> omega), show (min (m : Int) 256).toNat = m by omega]
      unfold txV
      rw [if_neg (by omega)]
    · cases m with
      | zero => exact .inl rfl
      | succ c => exact .inr (rep_head A c)
    · refine chk_of (by rw [dlen, hz]; exact h) ?_
      rw [rep_data]
      exact plain_rep (chk_parts hA).2 m
theorem rept_bad {A : ByteArray} {m : Nat} (h : 256 < A.size * m) : reptV A m = badV := by
  have he : A ≠ ⟨#[]⟩ := fun e => by subst e; rw [show (⟨#[]⟩ : ByteArray).size = 0 from rfl, Nat.zero_mul] at h; omega
  unfold reptV
  by_cases hm : 256 < (m : Int)
  · rw [if_pos (.inr ⟨he, hm⟩)]
  · rw [if_neg (by rintro (h | ⟨_, h⟩) <;> omega), show (min (m : Int) 256).toNat = m by omega]
    unfold txV
    rw [if_pos (by rw [rep_size, Nat.mul_comm]; exact h)]
theorem rept_one {R : ByteArray} (h : R.size ≤ 256) : reptV R 1 = (3, 0, R) := by
  unfold reptV
  rw [if_neg (by rintro (h | ⟨_, h⟩) <;> omega), show (min (1 : Int) 256).toNat = 1 from rfl]
  have e : repS R 1 = R := by
    apply ByteArray.ext; apply Array.toList_inj.1
    rw [rep_data]; show R.data.toList ++ [] = _; simp
  rw [e]; unfold txV; rw [if_neg (by omega)]
theorem txV_ok {s : ByteArray} (h : s.size ≤ 256) : txV s = (3, 0, s) := by unfold txV; rw [if_neg (by omega)]
theorem txV_bad {s : ByteArray} (h : 256 < s.size) : txV s = badV := by unfold txV; rw [if_pos h]
end Go.Proofs.YthgnhdfppmoooaaGreatDoor.Va
/- ftext: pieces of a text. -/
namespace Go.Proofs.YthgnhdfppmoooaaGreatDoor.Va
open Go Go.RowKit GM
set_option linter.unusedVariables false
set_option linter.unusedSimpArgs false
theorem ext_data (s : ByteArray) (i j : Nat) : (s.extract i j).data.toList = (s.data.toList.drop i).take (j - i) := by
  rw [ByteArray.data_extract, Array.toList_extract]
theorem ba_ext {s t : ByteArray} (h : s.data.toList = t.data.toList) : s = t := ByteArray.ext (Array.toList_inj.1 h)
theorem chk_ext {s : ByteArray} (h : chk s.data.toList = 0) (i j : Nat) : chk (s.extract i j).data.toList = 0 := by
  obtain ⟨h1, h2⟩ := chk_parts h
  rw [ext_data]
  refine chk_of (by rw [List.length_take, List.length_drop]; omega) ?_
  unfold plain at *
  rw [List.all_eq_true] at *
  exact fun x hx => h2 x (List.mem_of_mem_drop (List.mem_of_mem_take hx))
theorem pieces {P : ByteArray} {N : Nat} : P.extract 0 (min (N : Int) P.size).toNat ++ midS P ((N : Int) + 1) P.size = P := by
  apply ba_ext
  unfold midS
  rw [app_data, ext_data, ext_data, ext_data, show ((N : Int) + 1 - 1) = (N : Int) by omega]
  have hz := dlen P
  have e : (min (N : Int) (P.size : Int)).toNat = min N P.size := by omega
  rw [e]
  generalize P.data.toList = l at *
  generalize P.size = z at *
  have e2 : (min (z : Int) ((z - min N z : Nat) : Int)).toNat = z - min N z := by omega
  rw [e2, List.drop_zero, Nat.sub_zero, Nat.sub_zero, List.drop_zero, List.take_take, Nat.min_self, List.take_of_length_le (i := z - min N z) (by rw [List.length_drop]; omega)]
  exact List.take_append_drop _ l
theorem ext_size0 (s : ByteArray) (k : Nat) : (s.extract 0 k).size = min k s.size := by rw [ByteArray.size_extract]; omega
theorem left_left {P : ByteArray} {M N : Nat} : (P.extract 0 (min (M : Int) P.size).toNat).extract 0 (min (N : Int) (P.extract 0 (min (M : Int) P.size).toNat).size).toNat = P.extract 0 (min (min (M : Int) (N : Int)) P.size).toNat := by
  apply ba_ext
  rw [ext_size0, ext_data, ext_data, ext_data]
  simp only [List.drop_zero, Nat.sub_zero, List.take_take]
  congr 1
  omega
theorem left_all {P : ByteArray} {N : Nat} : P.extract 0 (min (N : Int) P.size).toNat = P ↔ P.size ≤ N := by
  constructor
  · intro h
    have := congrArg ByteArray.size h
    rw [ext_size0] at this
    omega
  · intro h
    apply ba_ext
    rw [ext_data, List.drop_zero, Nat.sub_zero, List.take_of_length_le]
    rw [dlen]; omega
theorem up_byte (c : UInt8) (h : 32 ≤ c.toNat ∧ c.toNat ≤ 126) : (32 ≤ (up c).toNat ∧ (up c).toNat ≤ 126) ∧ 32 ≤ (lo c).toNat ∧ (lo c).toNat ≤ 126 := by
  rw [up_nat, lo_nat]
  split <;> split <;> omega
theorem upS_data (s : ByteArray) : (upS s).data.toList = s.data.toList.map up := by unfold upS; rw [str_data]
theorem loS_data (s : ByteArray) : (loS s).data.toList = s.data.toList.map lo := by unfold loS; rw [str_data]
theorem upS_lo (s : ByteArray) : upS (loS s) = upS s := by
  apply ba_ext
  rw [upS_data, upS_data, loS_data, List.map_map]
  exact List.map_congr_left fun c _ => up_lo c
theorem upS_size (s : ByteArray) : (upS s).size = s.size := by
  have := congrArg List.length (upS_data s)
  rw [List.length_map, dlen, dlen] at this
  exact this
theorem loS_size (s : ByteArray) : (loS s).size = s.size := by
  have := congrArg List.length (loS_data s)
  rw [List.length_map, dlen, dlen] at this
  exact this
theorem chk_up {s : ByteArray} (h : chk s.data.toList = 0) : chk (upS s).data.toList = 0 ∧ chk (loS s).data.toList = 0 := by
  obtain ⟨h1, h2⟩ := chk_parts h
  unfold plain at h2
  rw [List.all_eq_true] at h2
  have key : ∀ c ∈ s.data.toList, 32 ≤ c.toNat ∧ c.toNat ≤ 126 := fun c hc => by have := h2 c hc; simpa using this
  constructor
  · rw [upS_data]
    refine chk_of (by rw [List.length_map]; exact h1) ?_
    unfold plain
    rw [List.all_map, List.all_eq_true]
    intro c hc
    have := (up_byte c (key c hc)).1
    simpa using this
  · rw [loS_data]
    refine chk_of (by rw [List.length_map]; exact h1) ?_
    unfold plain
    rw [List.all_map, List.all_eq_true]
    intro c hc
    have := (up_byte c (key c hc)).2
    simpa using this
def SlV (L : List V3) : Fact := fun v X => ∃ a cap, v = .slice a L.length cap ∧ IsV X a L.length L
theorem slV_stable (L : List V3) : Stable (SlV L) := fun _ _ _ hB ⟨a, c, e, h⟩ => ⟨a, c, e, IsOf.later h hB⟩
theorem isV_new (w : World) (cs : Array Value) (t : TypeId) (M : List V3) (h : cs = (M.flatMap cellsV).toArray) : IsV (w.alloc (.cells cs t)) (some ⟨w.heap.size, 0, none⟩) M.length M := by
  subst h
  refine ⟨rfl, fun _ => ⟨w.heap.size, 0, rfl, by simp, fun k hk j v hv => ?_⟩⟩
  have hj : j < 3 := by rw [← cellsV_len M[k]]; exact (List.getElem?_eq_some_iff.1 hv).1
  have := flat_at cellsV_len M k hk j hj
  rw [hv] at this
  simp [this]
/-- Values that lie in blocks of their own, all behind the world at the start. -/
def St (w X : World) (L : List (Nat × V3)) : Prop := Below w.heap.size w X ∧ ∀ q ∈ L, B3 X q.1 q.2.1 q.2.2.1 q.2.2.2
theorem St.next {w X X2 : World} {L : List (Nat × V3)} (h : St w X L) (hB : Below X.heap.size X X2) : St w X2 L := ⟨vnext h.1 hB, fun q hq => (h.2 q hq).later hB⟩
theorem St.add {w X : World} {L : List (Nat × V3)} (h : St w X L) (v : V3) : St w (X.alloc (.cells #[.int .u8 (v.1 : Int), .int .i64 v.2.1, .string v.2.2] 24)) ((X.heap.size, v) :: L) :=
  ⟨vnext h.1 (valloc _ _), fun q hq => by
    rcases List.mem_cons.1 hq with rfl | hq
    · exact B3.start _ _ _ _
    · exact (h.2 q hq).later (valloc _ _)⟩
theorem St.drew {w X : World} {L : List (Nat × V3)} (h : St w X L) : St w { heap := X.heap, tape := X.tape, drawn := X.drawn + 1, os := X.os, output := X.output } L := ⟨h.1.drew, h.2⟩
theorem St.tv {w X : World} {L : List (Nat × V3)} (h : St w X L) {p : Nat} {A : ByteArray} (hm : (p, tv A) ∈ L) : X.cell? ⟨p, 0, none⟩ = some (.int .u8 3) ∧ X.cell? ⟨p, 1, none⟩ = some (.int .i64 0) ∧ X.cell? ⟨p, 2, none⟩ = some (.string A) ∧ p < X.heap.size :=
  have b : B3 X p 3 0 A := h.2 _ hm
  ⟨b.cells.1, b.cells.2.1, b.cells.2.2.1, b.lt⟩
theorem leftV_ok {s : ByteArray} {k : Int} (hk : 0 ≤ k) (hs : s.size ≤ 256) : leftV s k = (3, 0, s.extract 0 (min k s.size).toNat) := by
  unfold leftV txV
  rw [if_neg (by omega), if_neg (by rw [ByteArray.size_extract]; omega)]
theorem rightV_ok {s : ByteArray} {k : Int} (hk : 0 ≤ k) (hs : s.size ≤ 256) : rightV s k = (3, 0, s.extract ((s.size : Int) - min k s.size).toNat s.size) := by
  unfold rightV txV
  rw [if_neg (by omega), if_neg (by rw [ByteArray.size_extract]; omega)]
theorem midV_ok {s : ByteArray} {f k : Int} (hf : 1 ≤ f) (hk : 0 ≤ k) (hs : s.size ≤ 256) : midV s f k = (3, 0, midS s f k) := by
  unfold midV txV
  rw [if_neg (by omega), if_neg (by unfold midS; rw [ByteArray.size_extract, ByteArray.size_extract]; omega)]
end Go.Proofs.YthgnhdfppmoooaaGreatDoor.Va
