/- A region within a round of a range over a function, that draws its order and ends in operations that wait for all before them. -/
import Derived.Test.YtelanmknimapoaaGreatDoorMgd
import Derived.Test.YtelanmknimapoaaGreatDoorRow
import Derived.OrdersIn
namespace Go.Proofs.YtelanmknimapoaaGreatDoor
set_option linter.unusedVariables false
open Go Go.RowKit
theorem zvc {l n : Nat} {P : Program} {o : Oper} {a : Act} {w : World} {K : Act → World → Prop} {Q : Exit → Act → World → Prop} (hd : ∀ c, o.op ≠ .defer c) (hQ : ¬ LetsOut Q) (h : o.wp P a w K Q) : o.wpIn (Fence.wide.inRound l) n P a w K Q := by
 refine ⟨fun _ _ => trivial, ?_⟩
 rw [Oper.semAt_eq _ _ _ hd]
 unfold Oper.wp at h
 generalize (execOp a.eval o).run P w = r at *
 cases r with
 | halt x w' => cases x <;> first | exact h | exact h.elim
 | ok v w' =>
  cases v with
  | value u => exact h
  | skip => exact h
  | defer d => exact h
  | enter f args => exact ⟨fun h0 => by simp [Fence.inRound, Fence.wide] at h0, callsIn_wide.2 h⟩
  | row row args =>
   refine ⟨fun h0 => by simp [Fence.inRound, Fence.wide] at h0, fun c cs _ => ?_⟩
   obtain ⟨v, w2, h1, h2⟩ := h c cs
   exact ⟨v, w2, h1, stepsIn_wide.2 h2⟩
  | _ => exact h.elim
theorem zev {l n : Nat} {P : Program} {ops : Array Oper} {md : Region.Mode} {Q : Exit → Act → World → Prop} (hd : ∀ (i : Nat) (o : Oper), ops[i]? = some o → ∀ c, o.op ≠ .defer c) (hQ : ¬ LetsOut Q) : ∀ (fuel : Nat) (listed : Array Bool) (a : Act) (w : World),
 wpAny P md ops Q fuel listed a w → wpAnyIn (Fence.wide.inRound l) n P md ops Q fuel listed a w
 | 0, _, _, _, h => h
 | fuel + 1, listed, a, w, h => by
  refine ⟨h.1, fun i hi => ?_⟩
  have h2 := h.2 i hi
  unfold wpOp at h2
  unfold wpOpIn
  cases ho : ops[i]? with
  | none => rw [ho] at h2; exact zev hd hQ fuel _ _ _ h2
  | some o =>
   rw [ho] at h2
   dsimp only at h2 ⊢
   split at h2
   · rename_i hw
     rw [if_pos hw]
     rcases h2 with h2 | ⟨_, h2⟩
     · exact Oper.wpIn_mono (fun a w h => zev hd hQ fuel _ _ _ h) (zvc (hd i o ho) hQ h2)
     · exact absurd h2 hQ
   · rename_i hw
     rw [if_neg hw]
     exact ⟨fun _ _ => trivial, zev hd hQ fuel _ _ _ h2⟩
def zpg (ops : Array Oper) : Bool := ops.all fun o => match o.op with | .defer _ => false | _ => true
theorem noDefer_iff {ops : Array Oper} : zpg ops = true ↔ ∀ (i : Nat) (o : Oper), ops[i]? = some o → ∀ c, o.op ≠ .defer c := by
 unfold zpg
 constructor
 · intro h i o ho c hc
   have := Array.all_eq_true_iff_forall_mem.1 h o (Array.mem_of_getElem? ho)
   rw [hc] at this
   cases this
 · intro h
   rw [Array.all_eq_true_iff_forall_mem]
   intro o ho
   obtain ⟨i, hi, rfl⟩ := Array.mem_iff_getElem.1 ho
   have := h i ops[i] (Array.getElem?_eq_getElem hi)
   split
   · rename_i c hc; exact absurd hc (this c)
   · rfl
theorem zsw {α : Type} {c : α → List Value} {n : Nat} {e : TypeId} {B B' : Nat} {w : World} {v : Value} {L : List α} (h : OwnOf e c n B w v L) (hB : B' ≤ B) : OwnOf e c n B' w v L := by
 obtain ⟨h1, h2⟩ := h
 refine ⟨h1, ?_⟩
 rcases h2 with h2 | ⟨g, cap, cur, rfl, hg, hrest⟩
 · exact .inl h2
 · exact .inr ⟨g, cap, cur, rfl, Nat.le_trans hB hg, hrest⟩
theorem zve {α : Type} {c : α → List Value} {n : Nat} {e : TypeId} {P : Program} {o : Oper} {a : Act} {w : World} {F : Value → World → Prop} (s x : Operand) (t : TypeId)
 (ho : o.op = .call { callee := .builtin .append, args := #[s, x], argTypes := #[t, t] }) (ht : P.underlying t = some (.slice e)) (z : Value) (bytes : Nat)
 (hinfo : (P.info? e).map (fun i => (i.zero, i.size, i.bytes)) = some (some z, n, bytes)) (hzs : z.cells.size = n) (hn0 : 0 < n) (hbl : 0 < bytes)
 (hn : ∀ x, (c x).length = n) (h1 : ∀ x, ∀ u ∈ c x, u.oneCell' = true)
 (B : Nat) (v : Value) (L : List α) (hs : a.eval s = v) (hown : OwnOf e c n B w v L) (A : Option Addr) (m cp : Nat) (M : List α) (hx : a.eval x = .slice A m cp) (hM : IsOf c n w A m M)
 (hl : (L.length + m) * bytes ≤ 140737488355328) (hB : B ≤ w.heap.size)
 (h : ∀ v' w', OwnOf e c n B w' v' (L ++ M) → w.grownBy w' v.ownBlock → (v'.ownBlock = v.ownBlock ∨ v'.ownBlock = some w.heap.size) → F v' w') : OperR P o a.eval w F := by
 obtain ⟨i0, hi, hz0, hz1, hz2⟩ := info_parts hinfo
 have hone : ∀ u ∈ M.flatMap c, u.oneCell' = true := fun u hu => by
  obtain ⟨y, _, hy⟩ := List.mem_flatMap.1 hu
  exact h1 y u hy
 have hml : L.length + m ≤ maxLen := by
  have : L.length + m ≤ (L.length + m) * bytes := Nat.le_mul_of_pos_right _ hbl
  unfold maxLen; omega
 obtain ⟨v', w', hrun, h2, h3, h4⟩ := zfb (P := P) w B t o.type e i0 z n bytes ht hi hz0 hz1 hz2 hzs hn0 v L.length (L.flatMap c) hown w.heap.size A m cp (M.flatMap c) (hM.reads hn) hone hml hl hB
 unfold OperR execOp
 simp only [ho, resolve, invoke, builtin, Sem.run_bind, Sem.run_pure, Result.andThen_ok, List.map_toArray, List.map_cons, List.map_nil, hs, hx, hrun]
 refine h v' w' ?_ h3 h4
 unfold OwnOf
 rw [List.length_append, List.flatMap_append, hM.1]; exact h2
section
variable {P : Program} {ops : Array Oper} {Q : Exit → Act → World → Prop}
def stuC (ops : Array Oper) (k : Nat) : Bool := (List.range ops.size).all fun i => decide (i < k) || ((ops[i]?).map (fun o => (List.range k).all fun j => (zfc o).contains j || (zfc o).any fun m => (zdq ops m).contains j || (zdq ops m).any fun m2 => (zdq ops m2).contains j)).getD false
theorem zir {lp n : Nat} {id : Nat} {a : Act} {w : World} (k : Nat) (S : World → Prop) (J : Act → (Nat → Bool) → World → Prop) (hst : ∀ w w', Below w.heap.size w w' → S w → S w') (hm : P.follows Departure.mixedOrders = true) (hd : zoc ops = true) (hc : zz8 ops = true)
 (hk : stuC ops k = true) (hkn : k ≤ ops.size) (hnd : zpg ops = true) (hnl : ¬ LetsOut Q) (hS : S { w with drawn := w.drawn + 1 })
 (h : SeqI P ops S (fun _ act w => J act (fun _ => false) w) (fun vs => zst vs 0 ops.toList a) (ops.toList.take k) [])
 (hsto : ∀ i o act T w, ops[i]? = some o → k ≤ i → T i = false → (∀ e ∈ o.after, Region.binds .any e = true → k ≤ e.on → T e.on = true) → J act T w → Region.wanted o (yielded ops act.tmps) = true ∧ OperR P o act.eval w (fun v w' => J (act.put o.dst v) (updB T i) w'))
 (hend : ∀ act T w, (∀ i, k ≤ i → i < ops.size → T i = true) → J act T w → Q .normal act w) : (Code.region id ops true).wpIn (Fence.wide.inRound lp) n P Q a w := by
 rw [← ztb] at h
 obtain ⟨Rs, h1, _, h3, h4, h5⟩ := SeqI.all (ops.toList.take k) [] h (fun i hi => by simp at hi)
 simp only [List.length_nil, Nat.zero_add, List.length_take, Array.length_toList, Nat.min_eq_left hkn] at h1 h4
 have hback : ∀ i o, ops[i]? = some o → ∀ e ∈ o.after, Region.binds .any e = true → e.on < i := by
  intro i o ho e he hb
  obtain ⟨hlt, _⟩ := Array.getElem?_eq_some_iff.1 ho
  have h1 := List.all_eq_true.1 hc i (List.mem_range.2 hlt)
  rw [ho] at h1
  simp only [Option.map_some, Option.getD_some, Array.all_eq_true_iff_forall_mem] at h1
  have := h1 e he
  rw [hb] at this
  simpa using this
 have hstk : ∀ i o, ops[i]? = some o → k ≤ i → ∀ j, j < k → j ∈ zfc o ∨ ∃ m ∈ zfc o, (j ∈ zdq ops m ∨ ∃ m2 ∈ zdq ops m, j ∈ zdq ops m2) := by
  intro i o ho hki
  obtain ⟨hlt, _⟩ := Array.getElem?_eq_some_iff.1 ho
  have h1 := List.all_eq_true.1 hk i (List.mem_range.2 hlt)
  rw [ho] at h1
  simp only [Option.map_some, Option.getD_some, Bool.or_eq_true, decide_eq_true_eq] at h1
  rcases h1 with h1 | h2
  · omega
  · refine fun j hj => ?_
    have h3 := List.all_eq_true.1 h2 j (List.mem_range.2 hj)
    rw [Bool.or_eq_true] at h3
    rcases h3 with h3 | h3
    · exact .inl (List.contains_iff_mem.1 h3)
    · obtain ⟨m, hm1, hm2⟩ := List.any_eq_true.1 h3
      rw [Bool.or_eq_true] at hm2
      rcases hm2 with hm2 | hm2
      · exact .inr ⟨m, hm1, .inl (List.contains_iff_mem.1 hm2)⟩
      · obtain ⟨m2, hm3, hm4⟩ := List.any_eq_true.1 hm2
        exact .inr ⟨m, hm1, .inr ⟨m2, hm3, List.contains_iff_mem.1 hm4⟩⟩
 refine wpIn_region_any hm (zev (noDefer_iff.1 hnd) hnl _ _ _ _ ?_)
 have e1 : a = full ops a (fun j => match zd8 ops j with | some d => a.eval (.tmp d) | none => undef) := (zu4 a _).symm
 rw [e1]
 refine zsg hd (fun T vs w => (((∀ j, k ≤ j → T j = false) ∧ S w ∧ ∀ j, j < k → T j = true → rsAt Rs j (vs j) w) ∨ ((∀ i, i < k → T i = true) ∧ J (full ops a vs) (mskU k T) w)) ∧ ∀ m, T m = true → ∀ j ∈ zdq ops m, T j = true) a ?_ ?_ hback ops.size (List.range ops.size) _ _ _ (by simp) List.pairwise_lt_range ?_ (by simp) ?_
 · rintro i o vs T w ho hTi hT ⟨hI, hcl⟩
   have hdo : zdq ops i = zfc o := by unfold zdq; rw [ho]; rfl
   have hTd : ∀ j ∈ zfc o, T j = true := fun j hj => by
    obtain ⟨e, hem, rfl⟩ := List.mem_map.1 hj
    obtain ⟨hem1, hem2⟩ := List.mem_filter.1 hem
    exact hT e (by simpa using hem1) hem2
   have hcn : ∀ m, updB T i m = true → ∀ j ∈ zdq ops m, updB T i j = true := by
    intro m hm j hj
    unfold updB at hm ⊢
    by_cases hmi : m = i
    · rw [hmi, hdo] at hj
      have h8 := hTd j hj
      show (if j = i then true else T j) = true
      rw [h8]; split <;> rfl
    · simp only [hmi, if_false] at hm
      have h8 := hcl m hm j hj
      show (if j = i then true else T j) = true
      rw [h8]; split <;> rfl
   have hi : i < ops.size := (Array.getElem?_eq_some_iff.1 ho).1
   by_cases hik : i < k
   · obtain ⟨hn, hSw, hv⟩ | ⟨hall, _⟩ := hI
     · have ho' : (ops.toList.take k)[i]? = some o := by rw [List.getElem?_take_of_lt hik]; simpa using ho
       have hob := h4 i o ho' (fun j hj => by
        obtain ⟨e, hem, rfl⟩ := List.mem_map.1 hj
        obtain ⟨hem1, hem2⟩ := List.mem_filter.1 hem
        exact hback i o ho e (by simpa using hem1) hem2) vs w hSw (DepF.of _ fun j hj => by
        obtain ⟨e, hem, rfl⟩ := List.mem_map.1 hj
        obtain ⟨hem1, hem2⟩ := List.mem_filter.1 hem
        have hlt := hback i o ho e (by simpa using hem1) hem2
        exact hv e.on (by omega) (hT e (by simpa using hem1) hem2))
       have hmono : ∀ (v : Value) (w' : World), rsAt Rs i v w' → Below w.heap.size w w' → ∀ j, j < k → updB T i j = true → rsAt Rs j (upd vs i v j) w' := by
        intro v w' hF hB j hj hj2
        unfold upd
        by_cases hji : j = i
        · rw [if_pos hji, hji]; exact hF
        · rw [if_neg hji]
          unfold updB at hj2
          rw [if_neg hji] at hj2
          exact h3 j (by omega) _ w w' hB (hv j hj hj2)
       have hno : ∀ j, k ≤ j → updB T i j = false := fun j hj => by unfold updB; rw [if_neg (by omega)]; exact hn j hj
       rcases hob with ⟨hw, hr⟩ | ⟨hw, hF⟩
       · refine .inl ⟨hw, ?_⟩
         have h7 := OperR.wp hr
         unfold Oper.wp at h7 ⊢
         exact zfw h7 (fun u w' ⟨v, e1, e2, e3⟩ => ⟨v, e1, .inl ⟨hno, hst _ _ e3 hSw, hmono v w' e2 e3⟩, hcn⟩) (fun d w' ⟨v, e1, _⟩ => by have h1 := congrArg (fun x => x.defers.length) e1; simp [zi3] at h1)
       · exact .inr ⟨hw, .inl ⟨hno, hSw, hmono undef w hF (Below.refl _ _)⟩, hcn⟩
     · rw [hall i hik] at hTi; cases hTi
   · have hdep := hstk i o ho (by omega)
     have hall : ∀ j, j < k → T j = true := fun j hj => by
      rcases hdep j hj with h8 | ⟨m, hm1, hm2⟩
      · exact hTd j h8
      · rcases hm2 with hm2 | ⟨m2, hm3, hm4⟩
        · exact hcl m (hTd m hm1) j hm2
        · exact hcl m2 (hcl m (hTd m hm1) m2 hm3) j hm4
     have hJ : J (full ops a vs) (mskU k T) w := by
      obtain ⟨hn, hSw, hv⟩ | ⟨_, hJ⟩ := hI
      · have h6 := h5 vs w hSw fun j hj => hv j (by omega) (hall j (by omega))
        have e : mskU k T = fun _ => false := by
         funext j
         unfold mskU
         by_cases hj : k ≤ j
         · rw [hn j hj, Bool.and_false]
         · rw [decide_eq_false hj, Bool.false_and]
        rw [e]; exact h6
      · exact hJ
     obtain ⟨hw, hr⟩ := hsto i o _ _ w ho (by omega) (by unfold mskU; rw [hTi, Bool.and_false]) (fun e he hb hke => by unfold mskU; rw [decide_eq_true hke, hT e he hb]; rfl) hJ
     refine .inl ⟨hw, ?_⟩
     have h7 := OperR.wp hr
     have em : updB (mskU k T) i = mskU k (updB T i) := by
      funext j
      unfold updB mskU
      by_cases hj : j = i
      · simp only [hj, if_true]; rw [decide_eq_true (by omega)]; rfl
      · simp only [hj, if_false]
     have efull : ∀ v, full ops a (upd vs i v) = (full ops a vs).put o.dst v := fun v => by
      have hdi : zd8 ops i = o.dst := by unfold zd8; rw [ho]; rfl
      have h8 := zq5 vs i v (List.range ops.size) a List.nodup_range (fun j hj hne d hdj hdj2 => by
       have h9 := List.all_eq_true.1 (List.all_eq_true.1 hd i (List.mem_range.2 hi)) j hj
       rw [hdj2, hdj] at h9
       simp [hne] at h9) (List.mem_range.2 hi)
      rw [hdi] at h8
      exact h8
     unfold Oper.wp at h7 ⊢
     refine zfw h7 (fun u w' ⟨v, e1, e2⟩ => ⟨v, e1, .inr ⟨fun j hj => ?_, ?_⟩, hcn⟩) (fun d w' ⟨v, e1, _⟩ => by have h1 := congrArg (fun x => x.defers.length) e1; simp [zi3] at h1)
     · unfold updB; rw [if_neg (by omega)]; exact hall j hj
     · rw [efull, ← em]; exact e2
 · rintro vs T w hall ⟨hI, _⟩
   obtain ⟨hn, hSw, hv⟩ | ⟨_, hJ⟩ := hI
   · have h6 := h5 vs w hSw fun j hj => hv j (by omega) (hall j (by omega))
     exact hend _ _ w (fun i hki his => by have := hn i hki; rw [hall i his] at this; cases this) h6
   · exact hend _ _ w (fun i hki his => by unfold mskU; rw [decide_eq_true hki, hall i his]; rfl) hJ
 · intro i
   rw [List.mem_range]
   constructor
   · intro h; refine ⟨h, ?_⟩; simp [Array.getD, h]
   · exact fun h => h.1
 · have hrep : ∀ j, (Array.replicate ops.size false).getD j false = false := by
    intro j
    simp only [Array.getD]
    split
    · simp
    · rfl
   exact ⟨.inl ⟨fun j _ => hrep j, hS, fun j hj hj2 => by have h1 := (hrep j).symm.trans hj2; cases h1⟩, fun j hj => by have h1 := (hrep j).symm.trans hj; cases h1⟩
end
end Go.Proofs.YtelanmknimapoaaGreatDoor
