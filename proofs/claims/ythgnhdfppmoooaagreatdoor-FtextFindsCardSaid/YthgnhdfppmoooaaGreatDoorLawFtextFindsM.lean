/- Merged: GlyphML FtM FtN LawFtextFinds. -/
import Derived.Test.YthgnhdfppmoooaaGreatDoorGlyphE
import Derived.Shelf.Vars
import Derived.Test.YthgnhdfppmoooaaGreatDoorFtY
import Derived.Test.YthgnhdfppmoooaaGreatDoorSeqT
import Derived.Deep.DeepCutAuto
import Derived.Deep.CutBlock
/- The library's bound on a needle holds some number in every world of the form. -/
namespace Go.Proofs.YthgnhdfppmoooaaGreatDoor
theorem ml_of {w : World} (h : w.ShapedOpen Tryz.prog) : ML w := by
  obtain ⟨m, hm⟩ := cell_of_shapedOpen_int (P := Tryz.prog) (g := 0) (t := 3) (zero := #[.int .i64 0]) h (of_decide_eq_true (by kernel_rfl)) (by kernel_rfl) rfl (by kernel_rfl) (by kernel_rfl) Tryz.underlying3
  exact ⟨World.block_lt_of_cell? w _ hm, m, hm⟩
end Go.Proofs.YthgnhdfppmoooaaGreatDoor
/- ftext: FIND from any number on; the first place. -/
namespace Go.Proofs.YthgnhdfppmoooaaGreatDoor.Va
open Go Go.RowKit GM
set_option linter.unusedVariables false
set_option linter.unusedSimpArgs false
theorem trunc_z {k : Int} (h : -1000000000 ≤ k) : (truncZ (k * 10000)).tdiv 10000 = k := by
  have h1 : (k * 10000).tdiv 10000 = k := Int.mul_tdiv_cancel k (by decide)
  unfold truncZ
  first
    | rw [h1]; exact h1
    | (rw [Int.mul_tmod_left, Int.sub_zero]; exact h1)
def Kz : List UInt8 → List V3 → List ByteArray → List Int → Prop
  | _, [], T, W => T = [] ∧ W = []
  | c :: cs, v :: L, T, W => (∃ s T', c = 115 ∧ v = tv s ∧ chk s.data.toList = 0 ∧ T = s :: T' ∧ Kz cs L T' W) ∨ (∃ k W', c = 110 ∧ v = nv (k * 10000) ∧ -1000000000 ≤ k ∧ k ≤ 1000000000 ∧ W = k :: W' ∧ Kz cs L T W')
  | [], _ :: _, _, _ => False
theorem kz_conv : ∀ (cs : List UInt8) (L : List V3) (T : List ByteArray) (W : List Int) (T0 : List ByteArray) (W0 : List Int), Kz cs L T W → convR cs L T0 W0 = .inl (T0 ++ T, W0 ++ W ++ [1])
  | cs, [], T, W, T0, W0, h => by
    unfold Kz at h
    obtain ⟨rfl, rfl⟩ := h
    cases cs <;> simp [convR]
  | [], v :: L, T, W, T0, W0, h => h.elim
  | c :: cs, v :: L, T, W, T0, W0, h => by
    unfold Kz at h
    rcases h with ⟨s, T', rfl, rfl, hs, rfl, h⟩ | ⟨k, W', rfl, rfl, h0, h1, rfl, h⟩
    · have e : convR (115 :: cs) (tv s :: L) T0 W0 = convR cs L (T0 ++ [s]) W0 := by
        show (if (cvK 115 (tv s)).1 = 4 then _ else if (115 : UInt8) = 115 then _ else _) = _
        rw [cvK_t hs]; rfl
      rw [e, kz_conv cs L T' W _ _ h]
      simp
    · have e : convR (110 :: cs) (nv (k * 10000) :: L) T0 W0 = convR cs L T0 (W0 ++ [k]) := by
        show (if (cvK 110 (nv (k * 10000))).1 = 4 then _ else if (110 : UInt8) = 115 then _ else _) = _
        rw [cvK_n (by unfold leastI; omega)]
        show convR cs L T0 (W0 ++ [(truncZ (k * 10000)).tdiv 10000]) = _
        rw [trunc_z h0]
      rw [e, kz_conv cs L T W' _ _ h]
      simp
theorem kz_hv : ∀ (cs : List UInt8) (L : List V3) (T : List ByteArray) (W : List Int), Kz cs L T W → ∀ v ∈ L, (v.2.2.size ≤ 2000 ∧ InI v.2.1) ∧ vE v.1 v.2.1 v.2.2.data.toList = 0
  | cs, [], T, W, h => fun v hv => by cases hv
  | [], v :: L, T, W, h => h.elim
  | c :: cs, v :: L, T, W, h => by
    unfold Kz at h
    rcases h with ⟨s, T', rfl, rfl, hs, rfl, h⟩ | ⟨k, W', rfl, rfl, h0, h1, rfl, h⟩
    · intro x hx
      rcases List.mem_cons.1 hx with rfl | hx
      · exact ⟨⟨by have := chk_size hs; show s.size ≤ 2000; omega, by show InI 0; unfold InI; omega⟩, vE_t hs⟩
      · exact kz_hv cs L T' W h x hx
    · intro x hx
      rcases List.mem_cons.1 hx with rfl | hx
      · exact ⟨⟨by show (⟨#[]⟩ : ByteArray).size ≤ 2000; decide, by show InI (k * 10000); unfold InI; omega⟩, vE_n (n := k * 10000) (by unfold leastI; omega)⟩
      · exact kz_hv cs L T W' h x hx
theorem kz_hvn : ∀ (cs : List UInt8) (L : List V3) (T : List ByteArray) (W : List Int), Kz cs L T W → ∀ k (h1 : k < L.length) (h2 : k < cs.length), cs[k] = 110 → InI (cvR 1 L[k].1 L[k].2.1 L[k].2.2).2.1
  | cs, [], T, W, h => fun k h1 => by cases h1
  | [], v :: L, T, W, h => h.elim
  | c :: cs, v :: L, T, W, h => by
    unfold Kz at h
    rcases h with ⟨s, T', rfl, rfl, hs, rfl, h⟩ | ⟨k, W', rfl, rfl, h0, h1, rfl, h⟩
    · intro i hi1 hi2 hc
      cases i with
      | zero => simp at hc
      | succ i => exact kz_hvn cs L T' W h i (by simpa using hi1) (by simpa using hi2) (by simpa using hc)
    · intro i hi1 hi2 hc
      cases i with
      | zero =>
        have e : cvR 1 1 (k * 10000) ⟨#[]⟩ = (1, k * 10000, ⟨#[]⟩) := cv_same (vE_n (by unfold leastI; omega)) (.inl rfl)
        show InI (cvR 1 1 (k * 10000) ⟨#[]⟩).2.1
        rw [e]; unfold InI; dsimp only; omega
      | succ i => exact kz_hvn cs L T W' h i (by simpa using hi1) (by simpa using hi2) (by simpa using hc)
theorem of_kz (fn : Nat) (mf : FuncId) (ks : ByteArray) (least : Nat) (hf1 : 31 ≤ fn) (hf2 : fn ≤ 42) (a : Option Addr) (n cap : Nat) (L : List V3) (T : List ByteArray) (W0 : List Int) (w : World) (hL : IsV w a n L)
    (hpat : ∀ W : World, Calls Tryz.prog 13 #[.int .u8 (fn : Int)] W fun e w' => e = .returned (.tuple #[.string ks, .int .i64 (least : Int)]) ∧ Below W.heap.size W w')
    (hl : least ≤ n) (hn : n ≤ ks.size) (hk20 : ks.size ≤ 20) (hks : ∀ c ∈ ks.data.toList, c = 115 ∨ c = 110) (hK : Kz ks.data.toList L T W0) (hT : Tb w)
    (hlook : ∀ (W : World) (q : Nat) (x y : Value), FTab W q x y → (Instr.lookup 49 (.map (some q)) (.int .u8 (fn : Int)) false).run Tryz.prog W = .ok (.func (.func mf) #[.agg #[x, y]] #[]) W)
    (heg : ∀ (args : Array Value) (W : World), (callFunc mf args).run Tryz.prog W = .ok (.enter mf args) W)
    (r : V3) (hres : ∀ (ta : Option Addr) (tn tc : Nat) (wa : Option Addr) (wn wc : Nat) (W : World), Below w.heap.size w W → IsT W ta tn T → tn ≤ tc → IsW W wa wn (W0 ++ [1]) → Calls Tryz.prog mf #[.agg #[.slice ta tn tc, .slice wa wn wc]] W fun e w' => e = .returned (vOf r) ∧ Below W.heap.size W w') :
    Calls Tryz.prog 7 #[.int .u8 (fn : Int), .slice a n cap] w fun e w' => e = .returned (vOf r) ∧ Below w.heap.size w w' := by
  have hcv := kz_conv _ _ _ _ [] [] hK
  simp only [List.nil_append] at hcv
  exact of_any fn a n cap r w fun W hW => call_any fn mf ks least hf1 hf2 a n cap L W (IsOf.later hL hW) hpat hl hn hk20 hks (fun v hv => (kz_hv _ _ _ _ hK v hv).1) (kz_hvn _ _ _ _ hK) (fun v hv => (kz_hv _ _ _ _ hK v hv).2) (hT.later hW) hlook heg r
    (fun T' W' h => by rw [hcv] at h; injection h with h; injection h with h1 h2; subst h1 h2; exact fun ta tn tc wa wn wc X hX => hres ta tn tc wa wn wc X (vnext hW hX))
    (fun x h => by rw [hcv] at h; cases h)
theorem of_findz (s : ByteArray) (t : ByteArray) (k : Int) (hs : chk s.data.toList = 0) (ht : chk t.data.toList = 0) (hk : -1000 ≤ k ∧ k ≤ 1000000) (a : Option Addr) (cap : Nat) (w : World) (hL : IsV w a 3 [tv s, tv t, nv (k * 10000)]) (hT : Tb w) (hM : ML w) :
    Calls Tryz.prog 7 #[.int .u8 41, .slice a 3 cap] w fun e w' => e = .returned (vOf (findV s t k)) ∧ Below w.heap.size w w' :=
  of_kz 41 32 ⟨#[115, 115, 110]⟩ 2 (by decide) (by decide) a 3 cap _ [s, t] [k] w hL pat_41 (by decide) (by decide) (by decide) (by decide) (.inl ⟨s, _, rfl, rfl, hs, rfl, .inl ⟨t, _, rfl, rfl, ht, rfl, .inr ⟨k, _, rfl, rfl, by omega, by omega, rfl, ⟨rfl, rfl⟩⟩⟩⟩) hT (fun W q x y h => look_find h) (enters_of Tryz.func32 (by kernel_rfl) rfl) (findV s t k)
    (fun ta tn tc wa wn wc X hX h1 hc h2 => m_find ta wa tn tc wn wc _ _ X h1 h2 s t k rfl rfl rfl (by have := chk_size ht; omega) (hM.later hX))

theorem index_cons (a : UInt8) (l s : List UInt8) : Lib.index (a :: l) s = if s.isPrefixOf (a :: l) = true then 0 else if (Lib.index l s == -1) = true then -1 else Lib.index l s + 1 := by
  rw [Lib.index.eq_def]
theorem index_nil (s : List UInt8) : Lib.index [] s = if s.isEmpty = true then 0 else -1 := by
  rw [Lib.index.eq_def]
theorem index_lo : ∀ (l s : List UInt8), -1 ≤ Lib.index l s
  | [], s => by rw [index_nil]; split <;> omega
  | a :: l, s => by
    have := index_lo l s
    rw [index_cons]
    split
    · omega
    · split <;> omega
theorem pre_take {s l : List UInt8} : s.isPrefixOf l = true ↔ l.take s.length = s := by
  rw [List.isPrefixOf_iff_prefix, List.prefix_iff_eq_take]
  exact eq_comm
theorem index_yes {l s : List UInt8} (h : l.take s.length = s) : Lib.index l s = 0 := by
  cases l with
  | nil => rw [index_nil, if_pos]; simp at h; simp [h]
  | cons a l => rw [index_cons, if_pos (pre_take.2 h)]
theorem index_short : ∀ (l s : List UInt8), l.length < s.length → Lib.index l s = -1
  | [], s, h => by rw [index_nil, if_neg]; cases s <;> simp at h ⊢
  | a :: l, s, h => by
    rw [index_cons, if_neg, if_pos]
    · rw [index_short l s (by simp at h; omega)]; rfl
    · intro hp
      have := congrArg List.length (pre_take.1 hp)
      rw [List.length_take] at this
      omega
theorem index_at : ∀ (l s : List UInt8), 0 ≤ Lib.index l s → (l.drop (Lib.index l s).toNat).take s.length = s ∧ (Lib.index l s).toNat ≤ l.length
  | [], s, h => by
    rw [index_nil] at h ⊢
    split at h
    · next e => rw [if_pos e]; simp at e; simp [e]
    · omega
  | a :: l, s, h => by
    have lo := index_lo l s
    rw [index_cons] at h ⊢
    by_cases hp : s.isPrefixOf (a :: l) = true
    · rw [if_pos hp]; exact ⟨pre_take.1 hp, by simp⟩
    · rw [if_neg hp] at h ⊢
      by_cases hm : (Lib.index l s == -1) = true
      · rw [if_pos hm] at h; omega
      · rw [if_neg hm] at h ⊢
        have hm' : Lib.index l s ≠ -1 := by simpa using hm
        obtain ⟨h1, h2⟩ := index_at l s (by omega)
        have e : (Lib.index l s + 1).toNat = (Lib.index l s).toNat + 1 := by omega
        rw [e, List.drop_succ_cons]
        exact ⟨h1, by simp; omega⟩
/-- The least place from k on at which X is in Y; 0 where there is none. -/
def fstP (X Y : List UInt8) (k : Int) : Int := if (Y.length : Int) - X.length + 1 < k then 0 else if Lib.index (Y.drop (k - 1).toNat) X < 0 then 0 else k + Lib.index (Y.drop (k - 1).toNat) X
theorem fstP_none {X Y : List UInt8} {k : Int} (h : (Y.length : Int) - X.length + 1 < k) : fstP X Y k = 0 := if_pos h
theorem fstP_hit {X Y : List UInt8} {k : Int} (h1 : 1 ≤ k) (hk : k ≤ (Y.length : Int) - X.length + 1) (h : (Y.drop (k - 1).toNat).take X.length = X) : fstP X Y k = k := by
  unfold fstP
  rw [if_neg (by omega), index_yes h]
  simp
theorem fstP_miss {X Y : List UInt8} {k : Int} (h1 : 1 ≤ k) (hk : k ≤ (Y.length : Int) - X.length + 1) (h : ¬ (Y.drop (k - 1).toNat).take X.length = X) : fstP X Y k = fstP X Y (k + 1) := by
  have hX : X ≠ [] := fun e => h (by rw [e]; simp)
  have hx0 : 0 < X.length := List.length_pos_iff.2 hX
  have hlt : (k - 1).toNat < Y.length := by omega
  have lo := index_lo (Y.drop k.toNat) X
  have e : Y.drop (k - 1).toNat = Y[(k - 1).toNat] :: Y.drop k.toNat := by
    rw [List.drop_eq_getElem_cons hlt]
    congr 2
    omega
  have hnp : ¬ X.isPrefixOf (Y.drop (k - 1).toNat) = true := fun hp => h (pre_take.1 hp)
  have hi : Lib.index (Y.drop (k - 1).toNat) X = if (Lib.index (Y.drop k.toNat) X == -1) = true then -1 else Lib.index (Y.drop k.toNat) X + 1 := by
    rw [e, index_cons, if_neg (by rw [← e]; exact hnp)]
  unfold fstP
  rw [if_neg (by omega), show k + 1 - 1 = k by omega]
  by_cases hk2 : (Y.length : Int) - X.length + 1 < k + 1
  · rw [if_pos hk2]
    have := index_short (Y.drop k.toNat) X (by rw [List.length_drop]; omega)
    rw [this] at hi
    rw [if_pos (by rw [hi]; decide)]
  · rw [if_neg hk2, hi]
    by_cases hm : Lib.index (Y.drop k.toNat) X = -1
    · rw [hm]; simp
    · rw [if_neg (show ¬ (Lib.index (Y.drop k.toNat) X == -1) = true by simpa using hm), if_neg (show ¬ (Lib.index (Y.drop k.toNat) X + 1 < 0) by omega), if_neg (show ¬ (Lib.index (Y.drop k.toNat) X < 0) by omega)]
      omega
theorem findV_none {s t : ByteArray} {f : Int} (h : f < 1 ∨ fstP s.data.toList t.data.toList f = 0) : findV s t f = badV := by
  unfold findV
  by_cases h1 : f < 1 ∨ (t.size : Int) + 1 < f
  · rw [if_pos h1]
  · rw [if_neg h1]
    have h2 := h.resolve_left (fun e => h1 (.inl e))
    unfold fstP at h2
    have e : (t.extract (f.toNat - 1) t.size).data.toList = t.data.toList.drop (f - 1).toNat := by
      rw [ext_data, show f.toNat - 1 = (f - 1).toNat by omega, List.take_of_length_le]
      rw [List.length_drop, dlen]; omega
    unfold fndI
    rw [e]
    rw [dlen, dlen] at h2
    by_cases h3 : (t.size : Int) - s.size + 1 < f
    · have := index_short (t.data.toList.drop (f - 1).toNat) s.data.toList (by rw [List.length_drop, dlen, dlen]; omega)
      rw [if_pos (by rw [this]; decide)]
    · rw [if_neg h3] at h2
      by_cases h4 : Lib.index (t.data.toList.drop (f - 1).toNat) s.data.toList < 0
      · rw [if_pos h4]
      · rw [if_neg h4] at h2; omega
theorem findV_some {s t : ByteArray} {f p : Int} (hf : 1 ≤ f) (h : fstP s.data.toList t.data.toList f = p) (hp : p ≠ 0) : findV s t f = (1, p * 10000, ⟨#[]⟩) ∧ 1 ≤ p ∧ p ≤ (t.size : Int) + 1 ∧ (t.data.toList.drop (p - 1).toNat).take s.size = s.data.toList := by
  unfold fstP at h
  rw [dlen, dlen] at h
  by_cases h3 : (t.size : Int) - s.size + 1 < f
  · rw [if_pos h3] at h; omega
  rw [if_neg h3] at h
  have e : (t.extract (f.toNat - 1) t.size).data.toList = t.data.toList.drop (f - 1).toNat := by
    rw [ext_data, show f.toNat - 1 = (f - 1).toNat by omega, List.take_of_length_le]
    rw [List.length_drop, dlen]; omega
  have lo := index_lo (t.data.toList.drop (f - 1).toNat) s.data.toList
  by_cases h4 : Lib.index (t.data.toList.drop (f - 1).toNat) s.data.toList < 0
  · rw [if_pos h4] at h; omega
  rw [if_neg h4] at h
  obtain ⟨a1, a2⟩ := index_at _ _ (by omega : 0 ≤ Lib.index (t.data.toList.drop (f - 1).toNat) s.data.toList)
  rw [List.length_drop, dlen] at a2
  rw [List.drop_drop, dlen] at a1
  refine ⟨?_, by omega, by omega, ?_⟩
  · unfold findV fndI
    rw [if_neg (by omega), e, if_neg (by omega)]
    unfold cnV
    rw [show f - 1 + Lib.index (t.data.toList.drop (f - 1).toNat) s.data.toList + 1 = p by omega]
  · rw [show (p - 1).toNat = (f - 1).toNat + (Lib.index (t.data.toList.drop (f - 1).toNat) s.data.toList).toNat by omega]
    exact a1
theorem midS_at {s t : ByteArray} {p : Int} (h1 : 1 ≤ p) (h2 : p ≤ (t.size : Int) + 1) (h : (t.data.toList.drop (p - 1).toNat).take s.size = s.data.toList) : midS t p s.size = s := by
  apply ba_ext
  unfold midS
  have hl := congrArg List.length h
  rw [List.length_take, List.length_drop, dlen, dlen] at hl
  rw [ext_data, ext_data, List.drop_zero, Nat.sub_zero, List.take_take, show (min (p - 1) (t.size : Int)).toNat = (p - 1).toNat by omega, ← h]
  congr 1
  omega
end Go.Proofs.YthgnhdfppmoooaaGreatDoor.Va
/- ftext: rows of bytes that the law makes; a part of one. -/
namespace Go.Proofs.YthgnhdfppmoooaaGreatDoor.Va
open Go Go.RowKit GM
set_option linter.unusedVariables false
set_option linter.unusedSimpArgs false
theorem ab_byte (b : UInt8) : ((97 + b % 2 : UInt8).toNat : Int) = 97 + (b.toNat : Int) % 2 := by
  rw [UInt8.toNat_add, UInt8.toNat_mod, show (97 : UInt8).toNat = 97 from rfl, show (2 : UInt8).toNat = 2 from rfl]
  have := b.toNat_lt
  omega
theorem ab_ok (f : UInt8 → UInt8) (hf : ∀ b, ((f b).toNat : Int) = 97 + (b.toNat : Int) % 2) (l : List UInt8) (hl : l.length ≤ 256) : chk (str (l.map f)).data.toList = 0 := by
  rw [str_data]
  refine chk_of (by rw [List.length_map]; exact hl) ?_
  unfold plain
  rw [List.all_map, List.all_eq_true]
  intro b _
  have := hf b
  simp only [Function.comp_apply, Bool.and_eq_true, decide_eq_true_iff]
  omega
theorem add_at (g o j : Nat) : (⟨g, o, none⟩ : Addr).add j = ⟨g, o + j, none⟩ := by unfold Addr.add; split <;> simp_all
/-- A part of a row of bytes. -/
def SubB (M : List UInt8) : Fact := fun v X => (v = .slice none 0 0 ∧ M = []) ∨ ∃ g o cap, v = .slice (some ⟨g, o, none⟩) M.length cap ∧ g < X.heap.size ∧ ∀ j (h : j < M.length), X.cell? ⟨g, o + j, none⟩ = some (bV M[j])
theorem subB_stable (M : List UInt8) : Stable (SubB M) := by
  rintro v X X2 hB (h | ⟨g, o, cap, e, hg, hc⟩)
  · exact .inl h
  · exact .inr ⟨g, o, cap, e, Nat.lt_of_lt_of_le hg hB.size, fun j h => (hB.cell (p := ⟨g, o + j, none⟩) hg).trans (hc j h)⟩
theorem SubB.str {M : List UInt8} {v : Value} {w : World} (h : SubB M v w) : (convert 30 9 v).run Tryz.prog w = .ok (.string (str M)) w := by
  rcases h with ⟨rfl, rfl⟩ | ⟨g, o, cap, rfl, hg, hc⟩
  · rw [run_convert_bytes_nil w 30 5 Tryz.underlying30 Tryz.underlying5 0 0 9 Tryz.underlying9]
    rfl
  · rw [run_convert_bytes_back w 30 9 5 ⟨g, o, none⟩ cap M Tryz.underlying30 Tryz.underlying5 Tryz.underlying9 (fun j hj => by
      rw [add_at]; exact hc j hj)]
    rfl
theorem OwnB.parts {B : Nat} {w : World} {v : Value} {l : List UInt8} (h : OwnB B w v l) : (v = .slice none 0 0 ∧ l = []) ∨ ∃ g cap, v = .slice (some ⟨g, 0, none⟩) l.length cap ∧ l.length ≤ cap ∧ g < w.heap.size ∧ ∀ j (h : j < l.length), w.cell? ⟨g, j, none⟩ = some (bV l[j]) := by
  rcases h.2 with ⟨rfl, h0⟩ | ⟨g, cap, cur, rfl, hg, hh, hc, hrest⟩
  · exact .inl ⟨rfl, List.length_eq_zero_iff.1 h0⟩
  · have hcl := World.ownsRow.cells h (g := g) rfl
    exact .inr ⟨g, cap, rfl, hc, (Array.getElem?_eq_some_iff.1 hh).1, fun j hj => by have := hcl j (bV l[j]) (by simp [hj]); rw [add_at, Nat.zero_add] at this; exact this⟩
theorem str_eq {l m : List UInt8} : str l = str m ↔ l = m := by
  constructor
  · intro h
    have := congrArg (fun s : ByteArray => s.data.toList) h
    simpa only [str_data] using this
  · rintro rfl; rfl
end Go.Proofs.YthgnhdfppmoooaaGreatDoor.Va
/- The walk of the law. -/
namespace Go.Proofs.YthgnhdfppmoooaaGreatDoor.Va
open Go Go.RowKit GM
set_option linter.unusedVariables false
set_option linter.unusedSimpArgs false
attribute [local simp] DepA isB rsAt
set_option maxRecDepth 100000 in
set_option maxHeartbeats 25600000 in
theorem ftextFinds_any (s t : ByteArray) (N0 : Int) (w : World) (hT : Tb w) (hM : ML w) :
    Calls Tryz.prog 4 #[.string s, .string t, .int .i64 N0] w fun e w' => e = .returned (.bool true) ∧ Below w.heap.size w w' := by
  have HT := Lib.hid hT
  have HM := Lib.hid hM
  clear hT hM
  obtain ⟨f, hf⟩ : ∃ f : UInt8 → UInt8, f = fun b => 97 + b % 2 := ⟨_, rfl⟩
  have HF : Hid (∀ b, ((f b).toNat : Int) = 97 + (b.toNat : Int) % 2) := fun b => by rw [hf]; exact ab_byte b
  clear hf
  go_enter Tryz.func4, Tryz.ntmps4
  go_upto_block 0 with fail
  obtain ⟨X, hX⟩ : ∃ l, (s.data.toList.take 5).map f = l := ⟨_, rfl⟩
  have ZX : X.length ≤ 5 := by rw [← hX, List.length_map, List.length_take]; omega
  have KX : Hid (chk (str X).data.toList = 0) := by rw [← hX]; exact ab_ok f HF.out _ (by rw [List.length_take]; omega)
  have HX := Lib.hid hX
  clear hX
  go_cut [7] (fun z wx => ∃ a c, z = .slice a X.length c ∧ Hid (OwnB w.heap.size wx (.slice a X.length c) X) ∧ Hid (Below w.heap.size w wx))
  case first =>
    go_wp2_with fail
    go_loopw [7, 9] (fun v i wr => ∃ k : Nat, k ≤ s.size ∧ k ≤ 5 ∧ i = .int .i64 k ∧ Hid (OwnB w.heap.size wr v ((s.data.toList.take k).map f)) ∧ Hid (Below w.heap.size w wr)) (fun _ i _ => s.size - (intOf i).toNat)
    case atStart => exact ⟨0, Nat.zero_le _, Nat.zero_le _, rfl, OwnB.nil _ _, Below.refl _ _⟩
    case round =>
      obtain ⟨k, hk, hkm, rfl, HO, HB⟩ := hrel
      by_cases hlt : k < s.size
      · by_cases hlm : k < 5
        · have HE := Lib.hid (map_next f s k hlt)
          have hfb := HF.out s[k]
          have hln : ((s.data.toList.take k).map f).length ≤ 1000000 := by rw [List.length_map, List.length_take]; omega
          have HLN := Lib.hid hln
          have hb8 := s[k].toNat_lt
          have hz := HB.out.size
          clear hln
          go_wp2_with (at_builtin; refine wpList_app1 rfl _ _ rfl w.heap.size _ _ rfl (HO.out.alloc _) wr.heap.size (f s[k]) rfl (by rw [HF.out]; simp) HLN.out (by simp; omega) ?_; intro v5 w5 ho5 hb5)
          have HO5 := Lib.hid ho5
          rw [← HE.out] at HO5
          have HB5 := Lib.hid ((HB.out.alloc hz _).trans hb5)
          clear ho5 hb5
          go_wp2_with fail
          exact ⟨⟨k + 1, by omega, by omega, by go_num, HO5.out, HB5.out⟩, by simp [intOf]; omega⟩
        · obtain rfl : k = 5 := by omega
          have ho := HO.out
          rw [HX.out] at ho
          obtain ⟨a, c, rfl, _⟩ := ho.shape
          have HOE := Lib.hid ho
          clear ho HO
          go_wp2_with fail
          go_meet
          case rel => exact ⟨_, _, rfl, HOE, HB⟩
      · obtain rfl : k = s.size := by omega
        have ho := HO.out
        have e : s.data.toList.take s.size = s.data.toList.take 5 := by
          rw [List.take_of_length_le (by rw [dlen]; omega), List.take_of_length_le (by rw [dlen]; omega)]
        rw [e, HX.out] at ho
        obtain ⟨a, c, rfl, _⟩ := ho.shape
        have HOE := Lib.hid ho
        clear ho HO e
        go_wp2_with fail
        go_meet
        case rel => exact ⟨_, _, rfl, HOE, HB⟩
  case rest =>
  obtain ⟨aX, cX, rfl, HOX, HBX⟩ := hcut
  clear HX
  generalize wc = w1 at *
  go_upto_block 2 with fail
  obtain ⟨Y, hY⟩ : ∃ l, (t.data.toList.take 100).map f = l := ⟨_, rfl⟩
  have ZY : Y.length ≤ 100 := by rw [← hY, List.length_map, List.length_take]; omega
  have KY : Hid (chk (str Y).data.toList = 0) := by rw [← hY]; exact ab_ok f HF.out _ (by rw [List.length_take]; omega)
  have HY := Lib.hid hY
  clear hY
  go_cut [8] (fun z wx => ∃ a c, z = .slice a Y.length c ∧ Hid (OwnB w1.heap.size wx (.slice a Y.length c) Y) ∧ Hid (Below w1.heap.size w1 wx))
  case first =>
    go_wp2_with fail
    go_loopw [8, 10] (fun v i wr => ∃ k : Nat, k ≤ t.size ∧ k ≤ 100 ∧ i = .int .i64 k ∧ Hid (OwnB w1.heap.size wr v ((t.data.toList.take k).map f)) ∧ Hid (Below w1.heap.size w1 wr)) (fun _ i _ => t.size - (intOf i).toNat)
    case atStart => exact ⟨0, Nat.zero_le _, Nat.zero_le _, rfl, OwnB.nil _ _, Below.refl _ _⟩
    case round =>
      obtain ⟨k, hk, hkm, rfl, HO, HB⟩ := hrel
      by_cases hlt : k < t.size
      · by_cases hlm : k < 100
        · have HE := Lib.hid (map_next f t k hlt)
          have hfb := HF.out t[k]
          have hln : ((t.data.toList.take k).map f).length ≤ 1000000 := by rw [List.length_map, List.length_take]; omega
          have HLN := Lib.hid hln
          have hb8 := t[k].toNat_lt
          have hz := HB.out.size
          clear hln
          go_wp2_with (at_builtin; refine wpList_app1 rfl _ _ rfl w1.heap.size _ _ rfl (HO.out.alloc _) wr.heap.size (f t[k]) rfl (by rw [HF.out]; simp) HLN.out (by simp; omega) ?_; intro v5 w5 ho5 hb5)
          have HO5 := Lib.hid ho5
          rw [← HE.out] at HO5
          have HB5 := Lib.hid ((HB.out.alloc hz _).trans hb5)
          clear ho5 hb5
          go_wp2_with fail
          exact ⟨⟨k + 1, by omega, by omega, by go_num, HO5.out, HB5.out⟩, by simp [intOf]; omega⟩
        · obtain rfl : k = 100 := by omega
          have ho := HO.out
          rw [HY.out] at ho
          obtain ⟨a, c, rfl, _⟩ := ho.shape
          have HOE := Lib.hid ho
          clear ho HO
          go_wp2_with fail
          go_meet
          case rel => exact ⟨_, _, rfl, HOE, HB⟩
      · obtain rfl : k = t.size := by omega
        have ho := HO.out
        have e : t.data.toList.take t.size = t.data.toList.take 100 := by
          rw [List.take_of_length_le (by rw [dlen]; omega), List.take_of_length_le (by rw [dlen]; omega)]
        rw [e, HY.out] at ho
        obtain ⟨a, c, rfl, _⟩ := ho.shape
        have HOE := Lib.hid ho
        clear ho HO e
        go_wp2_with fail
        go_meet
        case rel => exact ⟨_, _, rfl, HOE, HB⟩
  case rest =>
  obtain ⟨aY, cY, rfl, HOY, HBY⟩ := hcut
  clear HY
  generalize wc = w2 at *
  clear HF
  have HOX2 := Lib.hid (OwnB.later HOX.out HBY.out)
  have HB2 := Lib.hid (vnext HBX.out HBY.out)
  clear HOX
  have t1 : -107 < N0.tmod 107 := neg_lt_tmod N0 (by decide)
  have t2 : N0.tmod 107 < 107 := Int.tmod_lt_of_pos N0 (by decide)
  go_upto_region 11 with fail
  obtain ⟨F, hF⟩ : ∃ F : Int, N0.tmod 107 % 107 - 1 = F := ⟨_, rfl⟩
  have hF1 : -1 ≤ F := by omega
  have hF2 : F ≤ 105 := by omega
  rw [hF]
  clear hF t1 t2
  obtain ⟨sX, hsX⟩ : ∃ x, str X = x := ⟨_, rfl⟩
  obtain ⟨sY, hsY⟩ : ∃ x, str Y = x := ⟨_, rfl⟩
  have zX : sX.size = X.length := by rw [← hsX, str_size]
  have zY : sY.size = Y.length := by rw [← hsY, str_size]
  have dX : sX.data.toList = X := by rw [← hsX, str_data]
  have dY : sY.data.toList = Y := by rw [← hsY, str_data]
  rw [hsX] at KX
  rw [hsY] at KY
  have CF : Hid (∀ a cap W, Below w.heap.size w W → IsV W a 3 [tv sX, tv sY, nv (F * 10000)] → Calls Tryz.prog 7 #[.int .u8 41, .slice a 3 cap] W fun e w' => e = .returned (vOf (findV sX sY F)) ∧ Below W.heap.size W w') := fun a cap W hB h => of_findz sX sY F KX.out KY.out (by omega) a cap W h (HT.out.later hB) (HM.out.later hB)
  have HAW : Hid (∀ W : World, Below w.heap.size w W → Calls Tryz.prog 10 #[] W fun e w' => e = .returned (.bool true) ∧ Below W.heap.size W w') := fun W h => awake14 W (HT.out.later h)
  obtain ⟨kv, hkv⟩ : ∃ x, findV sX sY F = x := ⟨_, rfl⟩
  rw [hkv] at CF
  have HKV := Lib.hid hkv
  clear hkv
  obtain ⟨vk, vn, vs⟩ := kv
  have SX := Lib.hid hsX
  have SY := Lib.hid hsY
  have DX := Lib.hid dX
  have DY := Lib.hid dY
  clear hsX hsY dX dY
  have hwF : IntKind.i64.wrap (F * 10000) = F * 10000 := IntWalk.i64_in _ (by omega)
  refine wp_region_sts 12 (fun X => Below w2.heap.size w2 X) ((fun (q0 : Nat → Option Addr → Nat → Act) (act : Act) (T : Nat → Bool) (X : World) => ∃ p a c, act = q0 p a c ∧ B3 X p (if T 12 then vk else 0) (if T 12 then vn else 0) (if T 12 then vs else ⟨#[]⟩) ∧ w2.heap.size ≤ p ∧ Below w2.heap.size w2 X) ?act) (fun X X2 hB h => vnext h hB) (by kernel_rfl) (by kernel_rfl) (by kernel_rfl) (by kernel_rfl) (by decide) (Below.refl _ w2).drew ?pre ?sto ?fin
  case pre =>
    simp only [List.take, putsL, Act.put, List.setIfInBounds_toArray, List.set_cons_zero, List.set_cons_succ, Nat.zero_add, Nat.reduceAdd]
    refine seqi_run ?_ (fun vs W hD => (by first | rfl | (simp at hD; simp [Region.wanted, yielded, hD]))) (fun vs W hS hD => ?_) ?_
    rotate_left
    · (have hx := OwnB.str (OwnB.later HOX2.out hS); have hy := OwnB.str (OwnB.later HOY.out hS); rw [SX.out] at hx; rw [SY.out] at hy; have hsz := hS.size; obtain _ := hS; (try simp at hD); (try simp only [hD]); (first | (go_simp; done) | (go_simp; rfl)))
    simp only [List.nil_append, List.cons_append]
    refine seqi_run ?_ (fun vs W hD => (by first | rfl | (simp at hD; simp [Region.wanted, yielded, hD]))) (fun vs W hS hD => ?_) ?_
    rotate_left
    · (have hx := OwnB.str (OwnB.later HOX2.out hS); have hy := OwnB.str (OwnB.later HOY.out hS); rw [SX.out] at hx; rw [SY.out] at hy; have hsz := hS.size; obtain _ := hS; (try simp at hD); (try simp only [hD]); (first | (go_simp; done) | (go_simp; rfl)))
    simp only [List.nil_append, List.cons_append]
    refine seqi_call (f := 8) (fun v _ => v = .agg #[.int .u8 3, .int .i64 0, .string sX]) (stable_val _) (fun vs => #[.string sX]) (fun vs W hD => (by first | rfl | (simp at hD; simp [Region.wanted, yielded, hD]))) (fun vs W hS hD => ?_) (fun vs W hS hD => ?_) ?_
    · (try simp at hD); (try simp only [hD]); go_simp; done
    · exact (ltext_any sX W).mono fun e W' ⟨he, hB⟩ => ⟨⟨_, he, rfl⟩, hB⟩
    simp only [List.nil_append, List.cons_append]
    refine seqi_run ?_ (fun vs W hD => (by first | rfl | (simp at hD; simp [Region.wanted, yielded, hD]))) (fun vs W hS hD => ?_) ?_
    rotate_left
    · (have hx := OwnB.str (OwnB.later HOX2.out hS); have hy := OwnB.str (OwnB.later HOY.out hS); rw [SX.out] at hx; rw [SY.out] at hy; have hsz := hS.size; obtain _ := hS; (try simp at hD); (try simp only [hD]); (first | (go_simp; done) | (go_simp; rfl)))
    simp only [List.nil_append, List.cons_append]
    refine seqi_run ?_ (fun vs W hD => (by first | rfl | (simp at hD; simp [Region.wanted, yielded, hD]))) (fun vs W hS hD => ?_) ?_
    rotate_left
    · (have hx := OwnB.str (OwnB.later HOX2.out hS); have hy := OwnB.str (OwnB.later HOY.out hS); rw [SX.out] at hx; rw [SY.out] at hy; have hsz := hS.size; obtain _ := hS; (try simp at hD); (try simp only [hD]); (first | (go_simp; done) | (go_simp; rfl)))
    simp only [List.nil_append, List.cons_append]
    refine seqi_call (f := 8) (fun v _ => v = .agg #[.int .u8 3, .int .i64 0, .string sY]) (stable_val _) (fun vs => #[.string sY]) (fun vs W hD => (by first | rfl | (simp at hD; simp [Region.wanted, yielded, hD]))) (fun vs W hS hD => ?_) (fun vs W hS hD => ?_) ?_
    · (try simp at hD); (try simp only [hD]); go_simp; done
    · exact (ltext_any sY W).mono fun e W' ⟨he, hB⟩ => ⟨⟨_, he, rfl⟩, hB⟩
    simp only [List.nil_append, List.cons_append]
    refine seqi_run ?_ (fun vs W hD => (by first | rfl | (simp at hD; simp [Region.wanted, yielded, hD]))) (fun vs W hS hD => ?_) ?_
    rotate_left
    · (have hx := OwnB.str (OwnB.later HOX2.out hS); have hy := OwnB.str (OwnB.later HOY.out hS); rw [SX.out] at hx; rw [SY.out] at hy; have hsz := hS.size; obtain _ := hS; (try simp at hD); (try simp only [hD]); (first | (go_simp; done) | (go_simp; rfl)))
    simp only [List.nil_append, List.cons_append]
    refine seqi_run (.int .i64 (F * 10000)) (fun vs W hD => (by first | rfl | (simp at hD; simp [Region.wanted, yielded, hD]))) (fun vs W hS hD => ?_) ?_
    · (have hx := OwnB.str (OwnB.later HOX2.out hS); have hy := OwnB.str (OwnB.later HOY.out hS); rw [SX.out] at hx; rw [SY.out] at hy; have hsz := hS.size; obtain _ := hS; (try simp at hD); (try simp only [hD]); (first | (go_simp; done) | (go_simp; rfl)))
    simp only [List.nil_append, List.cons_append]
    refine seqi_call (f := 9) (fun v _ => v = .agg #[.int .u8 1, .int .i64 (F * 10000), .string ⟨#[]⟩]) (stable_val _) (fun vs => #[.int .i64 (F * 10000)]) (fun vs W hD => (by first | rfl | (simp at hD; simp [Region.wanted, yielded, hD]))) (fun vs W hS hD => ?_) (fun vs W hS hD => ?_) ?_
    · (try simp at hD); (try simp only [hD]); go_simp; done
    · exact (lnum_any (F * 10000) W).mono fun e W' ⟨he, hB⟩ => ⟨⟨_, he, rfl⟩, hB⟩
    simp only [List.nil_append, List.cons_append]
    refine seqi_oper (SlV [tv sX, tv sY, nv (F * 10000)]) (slV_stable _) (fun vs W hD => (by first | rfl | (simp at hD; simp [Region.wanted, yielded, hD]))) (fun vs W hS hD => ?_) ?_
    · (try simp at hD); unfold OperR; (try simp only [hD]); go_simp; exact ⟨⟨_, _, rfl, isV_new _ _ _ _ rfl⟩, valloc _ _⟩
    simp only [List.nil_append, List.cons_append]
    refine seqi_call (f := 7) (fun v _ => v = .agg #[.int .u8 (vk : Int), .int .i64 vn, .string vs]) (stable_val _) (fun vs => #[.int .u8 41, vs 9]) (fun vs W hD => (by first | rfl | (simp at hD; simp [Region.wanted, yielded, hD]))) (fun vs W hS hD => ?_) (fun vs W hS hD => ?_) ?_
    · (try simp at hD); (try simp only [hD]); go_simp; done
    · ((try simp [DepA, isB, rsAt] at hD); obtain ⟨ya, yc, ye, yi⟩ := (by first | exact hD | exact hD.1 : SlV _ _ _); rw [ye]; exact (CF.out ya yc W (vnext HB2.out hS) yi).mono fun e W' ⟨he, hB⟩ => ⟨⟨_, he, rfl⟩, hB⟩)
    simp only [List.nil_append, List.cons_append]
    refine seqi_oper (fun v X => ∃ p, v = .pointer (some ⟨p, 0, none⟩) ∧ w2.heap.size ≤ p ∧ B3 X p 0 0 ⟨#[]⟩) (fun _ _ _ hB ⟨p, h1, h2, h3⟩ => ⟨p, h1, h2, h3.later hB⟩) (fun vs W hD => (by first | rfl | (simp at hD; simp [Region.wanted, yielded, hD]))) (fun vs W hS hD => ?_) ?_
    · have hsz := hS.size; (try simp at hD); unfold OperR; (try simp only [hD]); go_simp; exact ⟨B3.start _ 0 0 _, valloc _ _⟩
    simp only [List.nil_append, List.cons_append]
    refine seqi_end fun vs W hS hv => ?_
    simp only [AllF, Nat.zero_add, Nat.reduceAdd] at hv
    obtain ⟨h0, h1, h2, h3, h4, h5, h6, h7, h8, h9, h10, h11, _⟩ := hv
    obtain ⟨sa, sc, h9, _⟩ := h9
    obtain ⟨p, h11, hp1, hp2⟩ := h11
    simp only [h0, h1, h2, h3, h4, h5, h6, h7, h8, h9, h10, h11]
    refine ⟨p, sa, sc, ?_, hp2, hp1, hS⟩
    rfl
  case sto =>
    rintro i o act T X ho hi hTi ⟨p, a, c, rfl, hX1, hp1, hX3⟩
    match i, hi with
    | 12, _ =>
      obtain rfl := Option.some.inj ho
      refine ⟨rfl, ?_⟩
      rw [hTi] at hX1
      simp only [Bool.false_eq_true, if_false] at hX1
      obtain ⟨c0, c1, c2, f0, f1, f2⟩ := hX1.cells
      have hl := hX1.lt
      obtain ⟨q1, q2⟩ := b3_set hX1 vk vn vs
      have hB : Below w2.heap.size w2 (((X.setCell ⟨p, 0, none⟩ (.int .u8 (vk : Int))).setCell ⟨p, 1, none⟩ (.int .i64 vn)).setCell ⟨p, 2, none⟩ (.string vs)) := hX3.grown q2 hX3.size (fun q hq => by injection hq with hq; omega)
      unfold OperR
      go_simp
      have hu : updB T 12 12 = true := by simp [updB]
      simp only [hu, if_true]
      exact q1
    | j + 13, _ => cases ho
  case fin =>
  rintro act T X9 hT ⟨p, sa, sc, rfl, hX1, hp1, hX3⟩
  rw [hT 12 (by decide) (by decide)] at hX1
  simp only [if_true] at hX1
  generalize X9 = w3 at *
  have HB3 := Lib.hid (vnext HB2.out hX3)
  have HOX3 := Lib.hid (OwnB.later HOX2.out hX3)
  have HOY3 := Lib.hid (OwnB.later HOY.out hX3)
  have HV3 := Lib.hid hX1
  clear hX3 hX1 hp1 hT HOX2 HOY HB2 CF hwF
  generalize (N0.tmod 107 + 107) % 107 = n3
  generalize N0.tmod 107 + 107 = n4
  generalize N0.tmod 107 = n5
  go_upto_block 4 with fail
  go_cut [12] (fun z wx => ∃ q : Int, z = .int .i64 q ∧ (1 ≤ F → q = fstP X Y F) ∧ Hid (Below w3.heap.size w3 wx))
  case first =>
    go_wp2_with fail
    go_loopw [12, 13] (fun z i wr => ∃ k : Int, i = .int .i64 k ∧ z = .int .i64 (fstP X Y (k + 1)) ∧ k ≤ (Y.length : Int) - X.length + 1 ∧ (F - 1 ≤ k ∨ k = (Y.length : Int) - X.length + 1) ∧ (0 ≤ k ∨ k = (Y.length : Int) - X.length + 1) ∧ Hid (Below w3.heap.size w3 wr)) (fun _ i _ => (intOf i).toNat)
    case atStart => exact ⟨_, rfl, by rw [fstP_none (by omega)], by omega, .inr rfl, .inr rfl, Below.refl _ _⟩
    case round =>
      obtain ⟨k, rfl, rfl, hk1, hk2, hk3, HB⟩ := hrel
      obtain ⟨q, hq⟩ : ∃ q, fstP X Y (k + 1) = q := ⟨_, rfl⟩
      rw [hq]
      have HQ := Lib.hid hq
      clear hq
      have hkl : -10 ≤ k := by omega
      have hkh : k ≤ 101 := by omega
      have HK1 := Lib.hid hk1
      have HK2 := Lib.hid hk2
      have HK3 := Lib.hid hk3
      clear hk1 hk2 hk3
      by_cases hkF : F ≤ k
      · by_cases hk0 : 1 ≤ k
        · obtain ⟨M, hM⟩ : ∃ M, (Y.drop (k - 1).toNat).take X.length = M := ⟨_, rfl⟩
          have lM : M.length = X.length := by have := HK1.out; rw [← hM, List.length_take, List.length_drop]; omega
          have eM : ∀ j (h : j < M.length) (h2 : (k - 1).toNat + j < Y.length), M[j] = Y[(k - 1).toNat + j] := fun j h h2 => by simp only [← hM]; rw [List.getElem_take, List.getElem_drop]
          obtain ⟨b, hb⟩ : ∃ b, decide (M = X) = b := ⟨_, rfl⟩
          obtain ⟨sM, hsM⟩ : ∃ m, str M = m := ⟨_, rfl⟩
          have hbb : (sM.toList == sX.toList) = b := by rw [tl_eq, ← hb, ← hsM, ← SX.out, decide_eq_decide]; exact str_eq
          have HMM := Lib.hid hM
          have hw1 : IntKind.i64.wrap (k - 1) = k - 1 := IntWalk.i64_in _ (by omega)
          have hw2 : IntKind.i64.wrap (k - 1 + (X.length : Int)) = k - 1 + (X.length : Int) := IntWalk.i64_in _ (by omega)
          have HSM := Lib.hid hsM
          have HBB := Lib.hid hb
          have HEM := Lib.hid eM
          clear hM hsM hb eM
          go_upto_region 16 with fail
          refine wp_region_seqi (fun X => Below w3.heap.size w3 X) (fun X X2 hB h => vnext h hB) (by kernel_rfl) (by kernel_rfl) (by kernel_rfl) HB.out.drew ?_
          simp only [putsL, Act.put, List.setIfInBounds_toArray, List.set_cons_zero, List.set_cons_succ, Nat.zero_add, Nat.reduceAdd]
          refine seqi_run ?_ (fun vs W hD => (by first | rfl | (simp at hD; simp [Region.wanted, yielded, hD]))) (fun vs W hS hD => ?_) ?_
          rotate_left
          · (have hx := OwnB.str (OwnB.later HOX3.out hS); rw [SX.out] at hx; have hsz := hS.size; obtain _ := hS; (try simp at hD); (try simp only [hD]); (first | (go_simp; done) | (go_simp; rfl)))
          simp only [List.nil_append, List.cons_append]
          refine seqi_run ?_ (fun vs W hD => (by first | rfl | (simp at hD; simp [Region.wanted, yielded, hD]))) (fun vs W hS hD => ?_) ?_
          rotate_left
          · (have hx := OwnB.str (OwnB.later HOX3.out hS); rw [SX.out] at hx; have hsz := hS.size; obtain _ := hS; (try simp at hD); (try simp only [hD]); (first | (go_simp; done) | (go_simp; rfl)))
          simp only [List.nil_append, List.cons_append]
          refine seqi_run (.int .i64 (k - 1)) (fun vs W hD => (by first | rfl | (simp at hD; simp [Region.wanted, yielded, hD]))) (fun vs W hS hD => ?_) ?_
          · (have hx := OwnB.str (OwnB.later HOX3.out hS); rw [SX.out] at hx; have hsz := hS.size; obtain _ := hS; (try simp at hD); (try simp only [hD]); (first | (go_simp; done) | (go_simp; rfl)))
          simp only [List.nil_append, List.cons_append]
          refine seqi_run ?_ (fun vs W hD => (by first | rfl | (simp at hD; simp [Region.wanted, yielded, hD]))) (fun vs W hS hD => ?_) ?_
          rotate_left
          · (have hx := OwnB.str (OwnB.later HOX3.out hS); rw [SX.out] at hx; have hsz := hS.size; obtain _ := hS; (try simp at hD); (try simp only [hD]); (first | (go_simp; done) | (go_simp; rfl)))
          simp only [List.nil_append, List.cons_append]
          refine seqi_run (.int .i64 (k - 1)) (fun vs W hD => (by first | rfl | (simp at hD; simp [Region.wanted, yielded, hD]))) (fun vs W hS hD => ?_) ?_
          · (have hx := OwnB.str (OwnB.later HOX3.out hS); rw [SX.out] at hx; have hsz := hS.size; obtain _ := hS; (try simp at hD); (try simp only [hD]); (first | (go_simp; done) | (go_simp; rfl)))
          simp only [List.nil_append, List.cons_append]
          refine seqi_run ?_ (fun vs W hD => (by first | rfl | (simp at hD; simp [Region.wanted, yielded, hD]))) (fun vs W hS hD => ?_) ?_
          rotate_left
          · (have hx := OwnB.str (OwnB.later HOX3.out hS); rw [SX.out] at hx; have hsz := hS.size; obtain _ := hS; (try simp at hD); (try simp only [hD]); (first | (go_simp; done) | (go_simp; rfl)))
          simp only [List.nil_append, List.cons_append]
          refine seqi_run ?_ (fun vs W hD => (by first | rfl | (simp at hD; simp [Region.wanted, yielded, hD]))) (fun vs W hS hD => ?_) ?_
          rotate_left
          · (have hx := OwnB.str (OwnB.later HOX3.out hS); rw [SX.out] at hx; have hsz := hS.size; obtain _ := hS; (try simp at hD); (try simp only [hD]); (first | (go_simp; done) | (go_simp; rfl)))
          simp only [List.nil_append, List.cons_append]
          refine seqi_run (.int .i64 (k - 1 + (X.length : Int))) (fun vs W hD => (by first | rfl | (simp at hD; simp [Region.wanted, yielded, hD]))) (fun vs W hS hD => ?_) ?_
          · (have hx := OwnB.str (OwnB.later HOX3.out hS); rw [SX.out] at hx; have hsz := hS.size; obtain _ := hS; (try simp at hD); (try simp only [hD]); (first | (go_simp; done) | (go_simp; rfl)))
          simp only [List.nil_append, List.cons_append]
          refine seqi_oper (SubB M) (subB_stable M) (fun vs W hD => (by first | rfl | (simp at hD; simp [Region.wanted, yielded, hD]))) (fun vs W hS hD => ?_) ?_
          · have hk1 := HK1.out
            try simp at hD
            unfold OperR
            try simp only [hD]
            rcases OwnB.parts (OwnB.later HOY3.out hS) with ⟨e, e2⟩ | ⟨g, cap, e, hc, hg, hcl⟩
            · injection e with ea el ec
              have hX0 : X.length = 0 := by omega
              have hk : k = 1 := by omega
              have hM0 : M = [] := List.length_eq_zero_iff.1 (lM.trans hX0)
              rw [ea, ec, el, hX0, hk, hM0]
              go_simp
              exact ⟨.inl ⟨rfl, rfl⟩, Below.refl _ _⟩
            · injection e with ea el ec
              rw [ea, ec]
              go_simp
              rw [if_pos ⟨by omega, by omega⟩, if_pos (by omega)]
              refine ⟨?_, Below.refl _ _⟩
              rw [show (k - 1 + (X.length : Int)).toNat - (k.toNat - 1) = M.length by omega]
              by_cases hcap : cap = k.toNat - 1
              · rw [if_pos hcap]
                exact .inr ⟨g, 0, _, rfl, hg, fun j hj => by omega⟩
              · rw [if_neg hcap]
                exact .inr ⟨g, k.toNat - 1, _, rfl, hg, fun j hj => by rw [HEM.out j hj (by omega), show k.toNat - 1 + j = (k - 1).toNat + j by omega]; exact hcl _ _⟩
          simp only [List.nil_append, List.cons_append]
          refine seqi_run (.string sM) (fun vs W hD => (by first | rfl | (simp at hD; simp [Region.wanted, yielded, hD]))) (fun vs W hS hD => ?_) ?_
          · ((try simp at hD); have hm := SubB.str (by first | exact hD | exact hD.1 : SubB M (vs 8) W); rw [HSM.out] at hm; clear hD; go_simp; done)
          simp only [List.nil_append, List.cons_append]
          refine seqi_run ?_ (fun vs W hD => (by first | rfl | (simp at hD; simp [Region.wanted, yielded, hD]))) (fun vs W hS hD => ?_) ?_
          rotate_left
          · (have hx := OwnB.str (OwnB.later HOX3.out hS); rw [SX.out] at hx; have hsz := hS.size; obtain _ := hS; (try simp at hD); (try simp only [hD]); (first | (go_simp; done) | (go_simp; rfl)))
          simp only [List.nil_append, List.cons_append]
          refine seqi_run ?_ (fun vs W hD => (by first | rfl | (simp at hD; simp [Region.wanted, yielded, hD]))) (fun vs W hS hD => ?_) ?_
          rotate_left
          · (have hx := OwnB.str (OwnB.later HOX3.out hS); rw [SX.out] at hx; have hsz := hS.size; obtain _ := hS; (try simp at hD); (try simp only [hD]); (first | (go_simp; done) | (go_simp; rfl)))
          simp only [List.nil_append, List.cons_append]
          refine seqi_run (.bool b) (fun vs W hD => (by first | rfl | (simp at hD; simp [Region.wanted, yielded, hD]))) (fun vs W hS hD => ?_) ?_
          · (have hx := OwnB.str (OwnB.later HOX3.out hS); rw [SX.out] at hx; have hsz := hS.size; obtain _ := hS; (try simp at hD); (try simp only [hD]); (first | (go_simp; done) | (go_simp; rfl)))
          simp only [List.nil_append, List.cons_append]
          refine seqi_end fun vs W hS hv => ?_
          simp only [AllF, Nat.zero_add, Nat.reduceAdd] at hv
          obtain ⟨h0, h1, h2, h3, h4, h5, h6, h7, h8, h9, h10, h11, h12, _⟩ := hv
          simp only [h0, h1, h2, h3, h4, h5, h6, h7, h9, h10, h11, h12]
          clear h0 h1 h2 h3 h4 h5 h6 h7 h9 h10 h11 h12
          clear hw1 hw2 hbb HEM HSM lM
          cases b
          · have hne : ¬ M = X := of_decide_eq_false HBB.out
            rw [← HMM.out] at hne
            have HFP := Lib.hid (fstP_miss hk0 HK1.out hne)
            clear hne HBB HMM
            go_wp2_with fail
            refine ⟨⟨k - 1, rfl, ?_, ?_, ?_, ?_, hS⟩, ?_⟩
            · rw [show k - 1 + 1 = k by omega, HFP.out, HQ.out]
            · have := HK1.out; omega
            · omega
            · omega
            · simp [intOf]; omega
          · have heq : M = X := of_decide_eq_true HBB.out
            rw [← HMM.out] at heq
            have HFP := Lib.hid (fstP_hit hk0 HK1.out heq)
            clear heq HBB HMM
            go_wp2_with fail
            refine ⟨⟨k - 1, rfl, ?_, ?_, ?_, ?_, hS⟩, ?_⟩
            · rw [show k - 1 + 1 = k by omega, HFP.out]
            · have := HK1.out; omega
            · omega
            · omega
            · simp [intOf]; omega
        · go_wp2_with fail
          go_meet
          case rel => exact ⟨q, rfl, fun h => by omega, HB⟩
      · go_wp2_with fail
        go_meet
        case rel =>
          refine ⟨q, rfl, fun h => ?_, HB⟩
          have hk2 := HK2.out
          have hk1 := HK1.out
          by_cases e : k + 1 = F
          · rw [← HQ.out, e]
          · rw [← HQ.out, fstP_none (by omega), fstP_none (by omega)]
  case rest =>
  obtain ⟨q, rfl, HQF, HB4⟩ := hcut
  generalize wc = w4 at *
  have HV4 := Lib.hid (HV3.out.later HB4.out)
  have HOX4 := Lib.hid (OwnB.later HOX3.out HB4.out)
  have HOY4 := Lib.hid (OwnB.later HOY3.out HB4.out)
  have HW4 := Lib.hid (vnext HB3.out HB4.out)
  clear HV3 HOX3 HOY3 HB3 HB4
  by_cases hq0 : q = 0
  · subst hq0
    have hkv : findV sX sY F = badV := findV_none (by by_cases h : F < 1; exact .inl h; exact .inr (by rw [DX.out, DY.out]; exact (HQF (by omega)).symm))
    have hk2 := HKV.out
    rw [hkv] at hk2
    unfold badV at hk2
    injection hk2 with e0 e1
    injection e1 with e1 e2
    subst e0 e1 e2
    have HV5 : Hid (B3 w4 p 4 2 ⟨#[]⟩) := HV4
    obtain ⟨c0, c1, c2, _, _, _⟩ := HV5.out.cells
    have c0 : _ = some (Value.int .u8 4) := c0
    have cl := HV5.out.lt
    clear HV4 HKV hkv
    go_wp2_with fail
    refine (HAW.out _ HW4.out).mono ?_
    rintro e w5 ⟨rfl, hB⟩
    have HBE := Lib.hid (vnext HW4.out hB)
    clear hB
    go_wp2_with fail
    go_ret
    exact ⟨rfl, HBE.out⟩
  have hqe : (q == 0) = false := by simpa using hq0
  by_cases hF0 : F < 1
  · clear hq0
    have hkv : findV sX sY F = badV := findV_none (.inl hF0)
    have hk2 := HKV.out
    rw [hkv] at hk2
    unfold badV at hk2
    injection hk2 with e0 e1
    injection e1 with e1 e2
    subst e0 e1 e2
    have HV5 : Hid (B3 w4 p 4 2 ⟨#[]⟩) := HV4
    obtain ⟨c0, c1, c2, _, _, _⟩ := HV5.out.cells
    have c0 : _ = some (Value.int .u8 4) := c0
    have cl := HV5.out.lt
    clear HV4 HKV hkv
    go_wp2_with fail
    refine (HAW.out _ HW4.out).mono ?_
    rintro e w5 ⟨rfl, hB⟩
    have HBE := Lib.hid (vnext HW4.out hB)
    clear hB
    go_wp2_with fail
    go_ret
    exact ⟨rfl, HBE.out⟩
  obtain ⟨f1, f2, f3, f4⟩ := findV_some (s := sX) (t := sY) (f := F) (p := q) (by omega) (by rw [DX.out, DY.out]; exact (HQF (by omega)).symm) hq0
  have hmid := midS_at f2 f3 f4
  have hk2 := HKV.out
  rw [f1] at hk2
  injection hk2 with e0 e1
  injection e1 with e1 e2
  subst e0 e1 e2
  have HV5 : Hid (B3 w4 p 1 (q * 10000) ⟨#[]⟩) := HV4
  have hqh : q ≤ 101 := by omega
  have HSZ := Lib.hid zX
  rw [zX] at hmid
  have CM : Hid (∀ a cap W, Below w.heap.size w W → IsV W a 3 [tv sY, nv (q * 10000), nv ((X.length : Int) * 10000)] → Calls Tryz.prog 7 #[.int .u8 34, .slice a 3 cap] W fun e w' => e = .returned (.agg #[.int .u8 3, .int .i64 0, .string sX]) ∧ Below W.heap.size W w') := fun a cap W hB h => by
    have h2 := of_mid sY q X.length KY.out (by omega) (by omega) a cap W h (HT.out.later hB)
    rw [midV_ok f2 (by omega) (chk_size KY.out), hmid] at h2
    exact h2
  clear HV4 HKV f1 f3 f4 hmid zX zY
  have hw1 : IntKind.i64.wrap (q * 10000) = q * 10000 := IntWalk.i64_in _ (by omega)
  have hw2 : IntKind.i64.wrap ((X.length : Int) * 10000) = (X.length : Int) * 10000 := IntWalk.i64_in _ (by omega)
  go_upto_region 20 with fail
  refine wp_region_seqi (fun X => Below w4.heap.size w4 X) (fun X X2 hB h => vnext h hB) (by kernel_rfl) (by kernel_rfl) (by kernel_rfl) (Below.refl _ w4).drew ?_
  simp only [putsL, Act.put, List.setIfInBounds_toArray, List.set_cons_zero, List.set_cons_succ, Nat.zero_add, Nat.reduceAdd]
  refine seqi_run ?_ (fun vs W hD => (by first | rfl | (simp at hD; simp [Region.wanted, yielded, hD]))) (fun vs W hS hD => ?_) ?_
  rotate_left
  · (have hx := OwnB.str (OwnB.later HOX4.out hS); have hy := OwnB.str (OwnB.later HOY4.out hS); rw [SX.out] at hx; rw [SY.out] at hy; obtain ⟨c0, c1, c2, _, _, _⟩ := (HV5.out.later hS).cells; have c0 : _ = some (Value.int .u8 1) := c0; have cl := (HV5.out.later hS).lt; obtain _ := hS; (try simp at hD); (try simp only [hD]); (first | (go_simp; done) | (go_simp; rfl)))
  simp only [List.nil_append, List.cons_append]
  refine seqi_run ?_ (fun vs W hD => (by first | rfl | (simp at hD; simp [Region.wanted, yielded, hD]))) (fun vs W hS hD => ?_) ?_
  rotate_left
  · (have hx := OwnB.str (OwnB.later HOX4.out hS); have hy := OwnB.str (OwnB.later HOY4.out hS); rw [SX.out] at hx; rw [SY.out] at hy; obtain ⟨c0, c1, c2, _, _, _⟩ := (HV5.out.later hS).cells; have c0 : _ = some (Value.int .u8 1) := c0; have cl := (HV5.out.later hS).lt; obtain _ := hS; (try simp at hD); (try simp only [hD]); (first | (go_simp; done) | (go_simp; rfl)))
  simp only [List.nil_append, List.cons_append]
  refine seqi_run (.int .i64 (q * 10000)) (fun vs W hD => (by first | rfl | (simp at hD; simp [Region.wanted, yielded, hD]))) (fun vs W hS hD => ?_) ?_
  · (have hx := OwnB.str (OwnB.later HOX4.out hS); have hy := OwnB.str (OwnB.later HOY4.out hS); rw [SX.out] at hx; rw [SY.out] at hy; obtain ⟨c0, c1, c2, _, _, _⟩ := (HV5.out.later hS).cells; have c0 : _ = some (Value.int .u8 1) := c0; have cl := (HV5.out.later hS).lt; obtain _ := hS; (try simp at hD); (try simp only [hD]); (first | (go_simp; done) | (go_simp; rfl)))
  simp only [List.nil_append, List.cons_append]
  refine seqi_call (f := 9) (fun v _ => v = .agg #[.int .u8 1, .int .i64 (q * 10000), .string ⟨#[]⟩]) (stable_val _) (fun vs => #[.int .i64 (q * 10000)]) (fun vs W hD => (by first | rfl | (simp at hD; simp [Region.wanted, yielded, hD]))) (fun vs W hS hD => ?_) (fun vs W hS hD => ?_) ?_
  · (try simp at hD); (try simp only [hD]); go_simp; done
  · exact (lnum_any (q * 10000) W).mono fun e W' ⟨he, hB⟩ => ⟨⟨_, he, rfl⟩, hB⟩
  simp only [List.nil_append, List.cons_append]
  refine seqi_run (.bool true) (fun vs W hD => (by first | rfl | (simp at hD; simp [Region.wanted, yielded, hD]))) (fun vs W hS hD => ?_) ?_
  · (have hx := OwnB.str (OwnB.later HOX4.out hS); have hy := OwnB.str (OwnB.later HOY4.out hS); rw [SX.out] at hx; rw [SY.out] at hy; obtain ⟨c0, c1, c2, _, _, _⟩ := (HV5.out.later hS).cells; have c0 : _ = some (Value.int .u8 1) := c0; have cl := (HV5.out.later hS).lt; obtain _ := hS; (try simp at hD); (try simp only [hD]); (first | (go_simp; done) | (go_simp; rfl)))
  simp only [List.nil_append, List.cons_append]
  refine seqi_run ?_ (fun vs W hD => (by first | rfl | (simp at hD; simp [Region.wanted, yielded, hD]))) (fun vs W hS hD => ?_) ?_
  rotate_left
  · (have hx := OwnB.str (OwnB.later HOX4.out hS); have hy := OwnB.str (OwnB.later HOY4.out hS); rw [SX.out] at hx; rw [SY.out] at hy; obtain ⟨c0, c1, c2, _, _, _⟩ := (HV5.out.later hS).cells; have c0 : _ = some (Value.int .u8 1) := c0; have cl := (HV5.out.later hS).lt; obtain _ := hS; (try simp at hD); (try simp only [hD]); (first | (go_simp; done) | (go_simp; rfl)))
  simp only [List.nil_append, List.cons_append]
  refine seqi_run ?_ (fun vs W hD => (by first | rfl | (simp at hD; simp [Region.wanted, yielded, hD]))) (fun vs W hS hD => ?_) ?_
  rotate_left
  · (have hx := OwnB.str (OwnB.later HOX4.out hS); have hy := OwnB.str (OwnB.later HOY4.out hS); rw [SX.out] at hx; rw [SY.out] at hy; obtain ⟨c0, c1, c2, _, _, _⟩ := (HV5.out.later hS).cells; have c0 : _ = some (Value.int .u8 1) := c0; have cl := (HV5.out.later hS).lt; obtain _ := hS; (try simp at hD); (try simp only [hD]); (first | (go_simp; done) | (go_simp; rfl)))
  simp only [List.nil_append, List.cons_append]
  refine seqi_run ?_ (fun vs W hD => (by first | rfl | (simp at hD; simp [Region.wanted, yielded, hD]))) (fun vs W hS hD => ?_) ?_
  rotate_left
  · (have hx := OwnB.str (OwnB.later HOX4.out hS); have hy := OwnB.str (OwnB.later HOY4.out hS); rw [SX.out] at hx; rw [SY.out] at hy; obtain ⟨c0, c1, c2, _, _, _⟩ := (HV5.out.later hS).cells; have c0 : _ = some (Value.int .u8 1) := c0; have cl := (HV5.out.later hS).lt; obtain _ := hS; (try simp at hD); (try simp only [hD]); (first | (go_simp; done) | (go_simp; rfl)))
  simp only [List.nil_append, List.cons_append]
  refine seqi_call (f := 8) (fun v _ => v = .agg #[.int .u8 3, .int .i64 0, .string sY]) (stable_val _) (fun vs => #[.string sY]) (fun vs W hD => (by first | rfl | (simp at hD; simp [Region.wanted, yielded, hD]))) (fun vs W hS hD => ?_) (fun vs W hS hD => ?_) ?_
  · (try simp at hD); (try simp only [hD]); go_simp; done
  · exact (ltext_any sY W).mono fun e W' ⟨he, hB⟩ => ⟨⟨_, he, rfl⟩, hB⟩
  simp only [List.nil_append, List.cons_append]
  refine seqi_run (.agg #[.int .u8 1, .int .i64 (q * 10000), .string ⟨#[]⟩]) (fun vs W hD => (by first | rfl | (simp at hD; simp [Region.wanted, yielded, hD]))) (fun vs W hS hD => ?_) ?_
  · (have hx := OwnB.str (OwnB.later HOX4.out hS); have hy := OwnB.str (OwnB.later HOY4.out hS); rw [SX.out] at hx; rw [SY.out] at hy; obtain ⟨c0, c1, c2, _, _, _⟩ := (HV5.out.later hS).cells; have c0 : _ = some (Value.int .u8 1) := c0; have cl := (HV5.out.later hS).lt; obtain _ := hS; (try simp at hD); (try simp only [hD]); (first | (go_simp; done) | (go_simp; rfl)))
  simp only [List.nil_append, List.cons_append]
  refine seqi_run ?_ (fun vs W hD => (by first | rfl | (simp at hD; simp [Region.wanted, yielded, hD]))) (fun vs W hS hD => ?_) ?_
  rotate_left
  · (have hx := OwnB.str (OwnB.later HOX4.out hS); have hy := OwnB.str (OwnB.later HOY4.out hS); rw [SX.out] at hx; rw [SY.out] at hy; obtain ⟨c0, c1, c2, _, _, _⟩ := (HV5.out.later hS).cells; have c0 : _ = some (Value.int .u8 1) := c0; have cl := (HV5.out.later hS).lt; obtain _ := hS; (try simp at hD); (try simp only [hD]); (first | (go_simp; done) | (go_simp; rfl)))
  simp only [List.nil_append, List.cons_append]
  refine seqi_run ?_ (fun vs W hD => (by first | rfl | (simp at hD; simp [Region.wanted, yielded, hD]))) (fun vs W hS hD => ?_) ?_
  rotate_left
  · (have hx := OwnB.str (OwnB.later HOX4.out hS); have hy := OwnB.str (OwnB.later HOY4.out hS); rw [SX.out] at hx; rw [SY.out] at hy; obtain ⟨c0, c1, c2, _, _, _⟩ := (HV5.out.later hS).cells; have c0 : _ = some (Value.int .u8 1) := c0; have cl := (HV5.out.later hS).lt; obtain _ := hS; (try simp at hD); (try simp only [hD]); (first | (go_simp; done) | (go_simp; rfl)))
  simp only [List.nil_append, List.cons_append]
  refine seqi_run (.int .i64 ((X.length : Int) * 10000)) (fun vs W hD => (by first | rfl | (simp at hD; simp [Region.wanted, yielded, hD]))) (fun vs W hS hD => ?_) ?_
  · (have hx := OwnB.str (OwnB.later HOX4.out hS); have hy := OwnB.str (OwnB.later HOY4.out hS); rw [SX.out] at hx; rw [SY.out] at hy; obtain ⟨c0, c1, c2, _, _, _⟩ := (HV5.out.later hS).cells; have c0 : _ = some (Value.int .u8 1) := c0; have cl := (HV5.out.later hS).lt; obtain _ := hS; (try simp at hD); (try simp only [hD]); (first | (go_simp; done) | (go_simp; rfl)))
  simp only [List.nil_append, List.cons_append]
  refine seqi_call (f := 9) (fun v _ => v = .agg #[.int .u8 1, .int .i64 ((X.length : Int) * 10000), .string ⟨#[]⟩]) (stable_val _) (fun vs => #[.int .i64 ((X.length : Int) * 10000)]) (fun vs W hD => (by first | rfl | (simp at hD; simp [Region.wanted, yielded, hD]))) (fun vs W hS hD => ?_) (fun vs W hS hD => ?_) ?_
  · (try simp at hD); (try simp only [hD]); go_simp; done
  · exact (lnum_any ((X.length : Int) * 10000) W).mono fun e W' ⟨he, hB⟩ => ⟨⟨_, he, rfl⟩, hB⟩
  simp only [List.nil_append, List.cons_append]
  refine seqi_oper (SlV [tv sY, nv (q * 10000), nv ((X.length : Int) * 10000)]) (slV_stable _) (fun vs W hD => (by first | rfl | (simp at hD; simp [Region.wanted, yielded, hD]))) (fun vs W hS hD => ?_) ?_
  · (try simp at hD); unfold OperR; (try simp only [hD]); go_simp; exact ⟨⟨_, _, rfl, isV_new _ _ _ _ rfl⟩, valloc _ _⟩
  simp only [List.nil_append, List.cons_append]
  refine seqi_call (f := 7) (fun v _ => v = .agg #[.int .u8 3, .int .i64 0, .string sX]) (stable_val _) (fun vs => #[.int .u8 34, vs 14]) (fun vs W hD => (by first | rfl | (simp at hD; simp [Region.wanted, yielded, hD]))) (fun vs W hS hD => ?_) (fun vs W hS hD => ?_) ?_
  · (try simp at hD); (try simp only [hD]); go_simp; done
  · ((try simp [DepA, isB, rsAt] at hD); obtain ⟨ya, yc, ye, yi⟩ := (by first | exact hD | exact hD.1 : SlV _ _ _); rw [ye]; exact (CM.out ya yc W (vnext HW4.out hS) yi).mono fun e W' ⟨he, hB⟩ => ⟨⟨_, he, rfl⟩, hB⟩)
  simp only [List.nil_append, List.cons_append]
  refine seqi_run ?_ (fun vs W hD => (by first | rfl | (simp at hD; simp [Region.wanted, yielded, hD]))) (fun vs W hS hD => ?_) ?_
  rotate_left
  · (have hx := OwnB.str (OwnB.later HOX4.out hS); have hy := OwnB.str (OwnB.later HOY4.out hS); rw [SX.out] at hx; rw [SY.out] at hy; obtain ⟨c0, c1, c2, _, _, _⟩ := (HV5.out.later hS).cells; have c0 : _ = some (Value.int .u8 1) := c0; have cl := (HV5.out.later hS).lt; obtain _ := hS; (try simp at hD); (try simp only [hD]); (first | (go_simp; done) | (go_simp; rfl)))
  simp only [List.nil_append, List.cons_append]
  refine seqi_run ?_ (fun vs W hD => (by first | rfl | (simp at hD; simp [Region.wanted, yielded, hD]))) (fun vs W hS hD => ?_) ?_
  rotate_left
  · (have hx := OwnB.str (OwnB.later HOX4.out hS); have hy := OwnB.str (OwnB.later HOY4.out hS); rw [SX.out] at hx; rw [SY.out] at hy; obtain ⟨c0, c1, c2, _, _, _⟩ := (HV5.out.later hS).cells; have c0 : _ = some (Value.int .u8 1) := c0; have cl := (HV5.out.later hS).lt; obtain _ := hS; (try simp at hD); (try simp only [hD]); (first | (go_simp; done) | (go_simp; rfl)))
  simp only [List.nil_append, List.cons_append]
  refine seqi_call (f := 8) (fun v _ => v = .agg #[.int .u8 3, .int .i64 0, .string sX]) (stable_val _) (fun vs => #[.string sX]) (fun vs W hD => (by first | rfl | (simp at hD; simp [Region.wanted, yielded, hD]))) (fun vs W hS hD => ?_) (fun vs W hS hD => ?_) ?_
  · (try simp at hD); (try simp only [hD]); go_simp; done
  · exact (ltext_any sX W).mono fun e W' ⟨he, hB⟩ => ⟨⟨_, he, rfl⟩, hB⟩
  simp only [List.nil_append, List.cons_append]
  refine seqi_run (.bool true) (fun vs W hD => (by first | rfl | (simp at hD; simp [Region.wanted, yielded, hD]))) (fun vs W hS hD => ?_) ?_
  · (have hx := OwnB.str (OwnB.later HOX4.out hS); have hy := OwnB.str (OwnB.later HOY4.out hS); rw [SX.out] at hx; rw [SY.out] at hy; obtain ⟨c0, c1, c2, _, _, _⟩ := (HV5.out.later hS).cells; have c0 : _ = some (Value.int .u8 1) := c0; have cl := (HV5.out.later hS).lt; obtain _ := hS; (try simp at hD); (try simp only [hD]); (first | (go_simp; done) | (go_simp; rfl)))
  simp only [List.nil_append, List.cons_append]
  refine seqi_run ?_ (fun vs W hD => (by first | rfl | (simp at hD; simp [Region.wanted, yielded, hD]))) (fun vs W hS hD => ?_) ?_
  rotate_left
  · (have hx := OwnB.str (OwnB.later HOX4.out hS); have hy := OwnB.str (OwnB.later HOY4.out hS); rw [SX.out] at hx; rw [SY.out] at hy; obtain ⟨c0, c1, c2, _, _, _⟩ := (HV5.out.later hS).cells; have c0 : _ = some (Value.int .u8 1) := c0; have cl := (HV5.out.later hS).lt; obtain _ := hS; (try simp at hD); (try simp only [hD]); (first | (go_simp; done) | (go_simp; rfl)))
  simp only [List.nil_append, List.cons_append]
  refine seqi_run ?_ (fun vs W hD => (by first | rfl | (simp at hD; simp [Region.wanted, yielded, hD]))) (fun vs W hS hD => ?_) ?_
  rotate_left
  · (have hx := OwnB.str (OwnB.later HOX4.out hS); have hy := OwnB.str (OwnB.later HOY4.out hS); rw [SX.out] at hx; rw [SY.out] at hy; obtain ⟨c0, c1, c2, _, _, _⟩ := (HV5.out.later hS).cells; have c0 : _ = some (Value.int .u8 1) := c0; have cl := (HV5.out.later hS).lt; obtain _ := hS; (try simp at hD); (try simp only [hD]); (first | (go_simp; done) | (go_simp; rfl)))
  simp only [List.nil_append, List.cons_append]
  refine seqi_call (f := 10) (fun v _ => v = .bool true) (stable_val _) (fun vs => #[]) (fun vs W hD => (by first | rfl | (simp at hD; simp [Region.wanted, yielded, hD]))) (fun vs W hS hD => ?_) (fun vs W hS hD => ?_) ?_
  · (try simp at hD); (try simp only [hD]); go_simp; done
  · exact (HAW.out W (vnext HW4.out hS)).mono fun e W' ⟨he, hB⟩ => ⟨⟨_, he, rfl⟩, hB⟩
  simp only [List.nil_append, List.cons_append]
  refine seqi_run ?_ (fun vs W hD => (by first | rfl | (simp at hD; simp [Region.wanted, yielded, hD]))) (fun vs W hS hD => ?_) ?_
  rotate_left
  · (have hx := OwnB.str (OwnB.later HOX4.out hS); have hy := OwnB.str (OwnB.later HOY4.out hS); rw [SX.out] at hx; rw [SY.out] at hy; obtain ⟨c0, c1, c2, _, _, _⟩ := (HV5.out.later hS).cells; have c0 : _ = some (Value.int .u8 1) := c0; have cl := (HV5.out.later hS).lt; obtain _ := hS; (try simp at hD); (try simp only [hD]); (first | (go_simp; done) | (go_simp; rfl)))
  simp only [List.nil_append, List.cons_append]
  refine seqi_run ?_ (fun vs W hD => (by first | rfl | (simp at hD; simp [Region.wanted, yielded, hD]))) (fun vs W hS hD => ?_) ?_
  rotate_left
  · (have hx := OwnB.str (OwnB.later HOX4.out hS); have hy := OwnB.str (OwnB.later HOY4.out hS); rw [SX.out] at hx; rw [SY.out] at hy; obtain ⟨c0, c1, c2, _, _, _⟩ := (HV5.out.later hS).cells; have c0 : _ = some (Value.int .u8 1) := c0; have cl := (HV5.out.later hS).lt; obtain _ := hS; (try simp at hD); (try simp only [hD]); (first | (go_simp; done) | (go_simp; rfl)))
  simp only [List.nil_append, List.cons_append]
  refine seqi_end fun vs W hS hv => ?_
  simp only [AllF, Nat.zero_add, Nat.reduceAdd] at hv
  obtain ⟨h0, h1, h2, h3, h4, h5, h6, h7, h8, h9, h10, h11, h12, h13, h14, h15, h16, h17, h18, h19, h20, h21, h22, h23, h24, _⟩ := hv
  obtain ⟨sa14, sc14, h14, _⟩ := h14
  simp only [h0, h1, h2, h3, h4, h5, h6, h7, h8, h9, h10, h11, h12, h13, h14, h15, h16, h17, h18, h19, h20, h21, h22, h23, h24]
  clear h0 h1 h2 h3 h4 h5 h6 h7 h8 h9 h10 h11 h12 h13 h14 h15 h16 h17 h18 h19 h20 h21 h22 h23 h24
  have HBE := Lib.hid (vnext HW4.out hS)
  clear hS
  go_wp2_with fail
  go_ret
  exact ⟨rfl, HBE.out⟩
theorem ftextFinds_law (s t : ByteArray) (n : Int) (w : World) (hl : laidMetH Tryz.prog Rows.ftextFindsRow.laid w) (hM : ML w) :
    Calls Tryz.prog 4 #[.string s, .string t, .int .i64 n] w fun e w' => e = .returned (.bool true) ∧ Below w.heap.size w w' :=
  ftextFinds_any s t n w (tb_of (MakeChecks.laidMetH_plain _ _ _ (by kernel_rfl)) hl) hM
end Go.Proofs.YthgnhdfppmoooaaGreatDoor.Va
