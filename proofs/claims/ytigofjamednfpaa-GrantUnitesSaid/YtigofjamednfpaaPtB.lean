/- The contract of cuts. -/
import Derived.Test.YtigofjamednfpaaPtA
import Derived.Deep.RegionLaw
namespace Go.Proofs.Ytigofjamednfpaa.Re
open Go.RowKit AM
def cells1 (x : Int) : List Value := [.int .i64 x]
theorem cells1_len (x : Int) : (cells1 x).length = 1 := rfl
theorem cells1_one (x : Int) : ∀ u ∈ cells1 x, u.oneCell' = true := by
  intro u hu; simp [cells1] at hu; subst hu; rfl
theorem infoInt1 : (Try.prog.info? 3).map (fun i => (i.zero, i.size, i.bytes)) = some (some (.int .i64 0), 1, 8) := by kernel_rfl
theorem zero1 : (Value.int .i64 0).cells.size = 1 := rfl
abbrev OwnN (B : Nat) (w : World) (v : Value) (L : List Int) : Prop := OwnOf 3 cells1 1 B w v L
abbrev IsN (w : World) (a : Option Addr) (n : Nat) (L : List Int) : Prop := IsOf cells1 1 w a n L
theorem RowOf.one_ {w : World} {b off : Nat} {L : List Int} (h : RowOf cells1 1 w b off L) (k : Nat) (hk : k < L.length) : w.cell? ⟨b, off + k, none⟩ = some (.int .i64 L[k]) := by
  have := h.2 k hk 0 _ rfl
  rwa [Nat.mul_one, Nat.add_zero] at this
section
variable {P : Program} {α : Type} {c : α → List Value} {n : Nat} {e : TypeId}
/-- append(s, x...): no block but the list's own has turned. -/
theorem wpList_appG {ops : Array Oper} {rest : List Oper} {o : Oper} {a : Act} {w : World} {Q : Exit → Act → World → Prop} (hgd : o.guard = none) (s x : Operand) (t : TypeId)
    (ho : o.op = .call { callee := .builtin .append, args := #[s, x], argTypes := #[t, t] }) (ht : P.underlying t = some (.slice e)) (z : Value) (bytes : Nat)
    (hinfo : (P.info? e).map (fun i => (i.zero, i.size, i.bytes)) = some (some z, n, bytes)) (hzs : z.cells.size = n) (hn0 : 0 < n) (hbl : 0 < bytes)
    (hn : ∀ x, (c x).length = n) (h1 : ∀ x, ∀ u ∈ c x, u.oneCell' = true)
    (B : Nat) (v : Value) (L : List α) (hs : a.eval s = v) (hown : OwnOf e c n B w v L) (A : Option Addr) (m cp : Nat) (M : List α) (hx : a.eval x = .slice A m cp) (hM : IsOf c n w A m M)
    (hl : (L.length + m) * bytes ≤ 140737488355328) (hB : B ≤ w.heap.size)
    (h : ∀ v' w', OwnOf e c n B w' v' (L ++ M) → w.grownBy w' v.ownBlock → (v'.ownBlock = v.ownBlock ∨ v'.ownBlock = some w.heap.size) → wpList P ops Q rest (a.put o.dst v') w') : wpList P ops Q (o :: rest) a w := by
  obtain ⟨i0, hi, hz0, hz1, hz2⟩ := info_parts hinfo
  refine wpList_append_any w hgd s x t ho B e i0 z n bytes ht hi hz0 hz1 hz2 hzs hn0 v L.length (L.flatMap c) hs hown w.heap.size A m cp (M.flatMap c) hx (hM.reads hn) ?_ ?_ ?_ hB ?_
  · intro u hu
    obtain ⟨y, _, hy⟩ := List.mem_flatMap.1 hu
    exact h1 y u hy
  · have : L.length + m ≤ (L.length + m) * bytes := Nat.le_mul_of_pos_right _ hbl
    unfold maxLen; omega
  · exact hl
  · intro v' w' ho' hg hr
    refine h v' w' ?_ hg hr
    unfold OwnOf
    rw [List.length_append, List.flatMap_append, hM.1]; exact ho'
end
set_option maxHeartbeats 3200000 in
theorem cuts_any (lo hi : Int) (a : Option Addr) (len cap : Nat) (B : List Int) (n : Nat) (h1 : 1 ≤ lo) (h2 : hi ≤ 1024) (hn : n = (hi - lo + 1).toNat) (hl : len ≤ 100000) (w : World) (hL : IsN w a len B) :
    Calls Try.prog 59 #[.int .i64 lo, .int .i64 hi, .slice a len cap] w fun e w' => (∃ v, e = .returned v ∧ OwnN w.heap.size w' v (cutL lo B n)) ∧ Below w.heap.size w w' := by
  have HL := Lib.hid hL
  have HLL := Lib.hid hL.1
  have HN := Lib.hid hn
  have hn' : n ≤ 1024 := by omega
  clear hL hn
  go_enter Try.func59, Try.ntmps59
  go_wp2_with fail
  go_loopw [7, 8] (fun l x wr => ∃ k : Nat, k ≤ n ∧ x = .int .i64 (lo + (k : Int)) ∧ Hid (OwnN w.heap.size wr l (cutL lo B k)) ∧ Below w.heap.size w wr) (fun _ x _ => n - (intOf x - lo).toNat)
  case atStart => exact ⟨0, Nat.zero_le _, by simp, OwnOf.nil _ _ _ _ _, Below.refl _ _⟩
  case round =>
    obtain ⟨k, hk, rfl, HOr, hB⟩ := hrel
    have HB := Lib.hid hB
    clear hB
    by_cases hlt : k < n
    · have hle : lo + (k : Int) ≤ hi := by have := HN.out; omega
      have hcl := cutL_len lo B k
      have HCL := Lib.hid hcl
      clear hcl
      have HST : Hid (cutL lo B (k + 1) = cutL lo B k ++ (if cutB lo (lo + k) B = true then [lo + (k : Int)] else [])) := rfl
      obtain ⟨x, hx⟩ : ∃ x : Int, x = lo + (k : Int) := ⟨_, rfl⟩
      have HX := Lib.hid hx
      rw [← hx] at hle ⊢
      rw [← hx] at HST
      have hx1 : 1 ≤ x := by omega
      clear hx
      have HCB : Hid (cutB lo x B = (x == lo || (B.take len).any (· == x))) := by unfold Hid cutB; rw [List.take_of_length_le (by rw [HLL.out]; exact Nat.le_refl _)]
      go_wp2_with fail
      go_loopw [9, 10] (fun z i ws => ∃ j : Nat, j ≤ len ∧ i = .int .i64 (j : Int) ∧ z = .bool (x == lo || (B.take j).any (· == x)) ∧ ws = wr) (fun _ i _ => len - (intOf i).toNat)
      case atStart => exact ⟨0, Nat.zero_le _, rfl, by simp, rfl⟩
      case round =>
        obtain ⟨j, hj, rfl, rfl, rfl⟩ := hrel
        by_cases hjt : j < len
        · obtain ⟨b, off, rfl, hrow⟩ := (HL.out.later HB.out).2 (by omega)
          have hjl : j < B.length := by rw [HLL.out]; exact hjt
          have c1 := RowOf.one_ hrow j hjl
          have hbl := hrow.1
          have HS : Hid ((x == lo || (B.take (j + 1)).any (· == x)) = ((x == lo || (B.take j).any (· == x)) || B[j] == x)) := by
            unfold Hid
            rw [List.take_succ_eq_append_getElem hjl, List.any_append]
            simp [Bool.or_assoc]
          clear hrow
          generalize B[j] = y at *
          generalize (x == lo || (B.take j).any (· == x)) = z at *
          cases z
          all_goals
            go_wp2_with fail
            go_roundw
            case rel => exact ⟨j + 1, by omega, by go_num, by rw [HS.out]; rfl, by simp⟩
            case measure => simp [intOf]; omega
        · obtain rfl : j = len := by omega
          rw [← HCB.out]
          cases hcb : cutB lo x B
          · rw [hcb] at HST
            have HST2 : Hid (cutL lo B (k + 1) = cutL lo B k) := by unfold Hid; rw [HST.out]; simp
            clear hcb HST HCB
            go_wp2_with fail
            exact ⟨⟨k + 1, by omega, by rw [HX.out]; simp; omega, by rw [HST2.out]; exact HOr.out, HB.out⟩, by simp [intOf]; have := HX.out; omega⟩
          · rw [hcb] at HST
            have HST2 : Hid (cutL lo B (k + 1) = cutL lo B k ++ [x]) := by unfold Hid; rw [HST.out]; simp
            clear hcb HST HCB
            have HO1 := Lib.hid (HOr.out.alloc (.cells #[.int .i64 x] 3))
            have HI1 := Lib.hid (isOf_new (c := cells1) (n := 1) wr #[.int .i64 x] 3 x rfl)
            have hbs := HB.out.size
            go_wp2_with (at_builtin; refine wpList_appOf rfl (.tmp 36) (.tmp 38) 58 rfl Try.underlying58 _ 8 infoInt1 zero1 (by decide) (by decide) cells1_len cells1_one w.heap.size _ _ rfl HO1.out _ 1 1 [x] rfl HI1.out (by have := HCL.out; omega) (by simp; omega) ?_)
            intro v2 w2 ho2 hb2
            have HO2 := Lib.hid ho2
            have HB2 := Lib.hid ((HB.out.alloc HB.out.size (.cells #[.int .i64 x] 3)).trans hb2)
            clear ho2 hb2
            go_wp2_with fail
            exact ⟨⟨k + 1, by omega, by rw [HX.out]; simp; omega, by rw [HST2.out]; exact HO2.out, HB2.out⟩, by simp [intOf]; have := HX.out; omega⟩
    · have hgt : hi < lo + (k : Int) := by have := HN.out; omega
      obtain rfl : k = n := by omega
      go_wp2_with fail
      go_ret
      exact ⟨⟨_, rfl, HOr.out⟩, HB.out⟩
end Go.Proofs.Ytigofjamednfpaa.Re
