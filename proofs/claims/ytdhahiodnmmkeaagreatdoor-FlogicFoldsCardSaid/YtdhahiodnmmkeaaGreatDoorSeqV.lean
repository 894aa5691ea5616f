/- A region that draws its order, appends to lists that were there before it, and ends in operations that wait for all before them. -/
import Derived.Test.YtdhahiodnmmkeaaGreatDoorSeqP
import Derived.Test.YtdhahiodnmmkeaaGreatDoorSeqU
namespace Go.Proofs.YtdhahiodnmmkeaaGreatDoor
open Go Go.RowKit
section
variable {P : Program} {ops : Array Oper} {Q : Exit → Act → World → Prop} {S : World → Prop} {Z : Nat} {L : List FB} {E U D : List (List Nat)}
theorem eval_put_ne (a : Act) (x : Option Tmp) (v : Value) (d : Tmp) (h : x ≠ some d) : (a.put x v).eval (.tmp d) = a.eval (.tmp d) := by
  cases x with
  | none => rfl
  | some y =>
    have hne : y ≠ d := fun e => h (by rw [e])
    simp [Act.put, Act.eval, hne]
theorem puts_tail (vs : Nat → Value) : ∀ (l1 l2 : List Nat) (a : Act), (∀ j ∈ l2, vs j = match dstOf ops j with | some d => a.eval (.tmp d) | none => undef) → (∀ i ∈ l1, ∀ j ∈ l2, ∀ d, dstOf ops j = some d → dstOf ops i ≠ some d) →
    puts ops vs (l1 ++ l2) a = puts ops vs l1 a := by
  intro l1
  induction l1 with
  | nil =>
    intro l2
    induction l2 with
    | nil => intro a _ _; rfl
    | cons j l ih =>
      intro a h _
      show puts ops vs l (a.put (dstOf ops j) (vs j)) = a
      have e : a.put (dstOf ops j) (vs j) = a := by rw [h j (List.mem_cons_self ..)]; exact put_self a _
      rw [e]
      exact ih a (fun k hk => h k (List.mem_cons_of_mem _ hk)) (fun i hi => by cases hi)
  | cons i l1 ih =>
    intro l2 a h hd
    show puts ops vs (l1 ++ l2) (a.put (dstOf ops i) (vs i)) = puts ops vs l1 (a.put (dstOf ops i) (vs i))
    refine ih l2 _ (fun j hj => ?_) (fun i' hi' => hd i' (List.mem_cons_of_mem _ hi'))
    rw [h j hj]
    cases hdj : dstOf ops j with
    | none => rfl
    | some d => exact (eval_put_ne a _ _ d (hd i (List.mem_cons_self ..) j hj d hdj)).symm
theorem puts_congr {vs vs' : Nat → Value} : ∀ (l : List Nat) (a : Act), (∀ j ∈ l, vs j = vs' j) → puts ops vs l a = puts ops vs' l a := by
  intro l
  induction l with
  | nil => intro a _; rfl
  | cons j l ih => intro a h; unfold puts; rw [h j (List.mem_cons_self ..)]; exact ih _ (fun m hm => h m (List.mem_cons_of_mem _ hm))
theorem full_head {a : Act} {vs : Nat → Value} {k : Nat} (hd : dstsApart ops = true) (hkn : k ≤ ops.size) (h : ∀ j, k ≤ j → j < ops.size → vs j = match dstOf ops j with | some d => a.eval (.tmp d) | none => undef) :
    full ops a vs = putsL vs 0 (ops.toList.take k) a := by
  have e1 : full ops a vs = puts ops vs (List.range k) a := by
    unfold full
    have : List.range ops.size = List.range k ++ (List.range' k (ops.size - k)) := by
      have h9 := List.range'_append_1 (s := 0) (m := k) (n := ops.size - k)
      rw [Nat.zero_add, show k + (ops.size - k) = ops.size by omega] at h9
      rw [List.range_eq_range', List.range_eq_range', h9]
    rw [this]
    refine puts_tail vs _ _ a (fun j hj => ?_) (fun i hi j hj d hdj => ?_)
    · have := List.mem_range'_1.1 hj
      exact h j this.1 (by omega)
    · have h1 := List.mem_range'_1.1 hj
      have h2 := List.mem_range.1 hi
      have h3 := List.all_eq_true.1 (List.all_eq_true.1 hd j (List.mem_range.2 (by omega))) i (List.mem_range.2 (by omega))
      rw [hdj] at h3
      simpa [show i ≠ j by omega] using h3
  rw [e1]
  have key : ∀ (n m : Nat) (a : Act), m + n = k → puts ops vs (List.range' m n) a = putsL vs m ((ops.toList.take k).drop m) a := by
    intro n
    induction n with
    | zero => intro m a hm; rw [List.drop_of_length_le (by simp; omega)]; rfl
    | succ n ih =>
      intro m a hm
      have hlt : m < ops.size := by omega
      rw [List.drop_eq_getElem_cons (by simp; omega), List.range'_succ]
      unfold puts putsL
      rw [ih (m + 1) _ (by omega)]
      simp [dstOf, hlt]
  rw [List.range_eq_range', key k 0 a (by omega), List.drop_zero]
def virT (n : Nat) (T : Nat → Bool) : Nat → Bool := fun j => T j || decide (n ≤ j)
theorem virT_upd {n i : Nat} (T : Nat → Bool) : virT n (updB T i) = updB (virT n T) i := by
  funext j
  unfold updB virT
  by_cases h : j = i
  · simp [h]
  · simp [h]
def bitsOf (l : List Nat) : Nat := l.foldl (fun m j => m ||| 2 ^ j) 0
theorem bitsOf_mem {l : List Nat} {x : Nat} (h : (bitsOf l).testBit x = true) : x ∈ l := by
  have key : ∀ (l : List Nat) (acc : Nat), (l.foldl (fun m j => m ||| 2 ^ j) acc).testBit x = true → acc.testBit x = true ∨ x ∈ l := by
    intro l
    induction l with
    | nil => exact fun acc h => .inl h
    | cons j l ih =>
      intro acc h
      rcases ih _ h with h1 | h1
      · rw [Nat.testBit_or, Bool.or_eq_true, Nat.testBit_two_pow, decide_eq_true_iff] at h1
        rcases h1 with h1 | h1
        · exact .inl h1
        · exact .inr (h1 ▸ List.mem_cons_self ..)
      · exact .inr (List.mem_cons_of_mem _ h1)
  rcases key l 0 h with h1 | h1
  · simp at h1
  · exact h1
/-- What an operation waits for, through whatever others. -/
def cloD (ops : Array Oper) : Nat → Nat → Nat
  | 0, m => m
  | j + 1, m => cloD ops j (if m.testBit j then m ||| bitsOf (depsAt ops j) else m)
theorem cloD_sound {T : Nat → Bool} (hcl : ∀ m, T m = true → ∀ j ∈ depsAt ops m, T j = true) : ∀ (n m : Nat), (∀ x, m.testBit x = true → T x = true) → ∀ x, (cloD ops n m).testBit x = true → T x = true
  | 0, m, h, x, hx => h x hx
  | j + 1, m, h, x, hx => by
    refine cloD_sound hcl j _ (fun y hy => ?_) x hx
    split at hy
    · next hj =>
      rw [Nat.testBit_or, Bool.or_eq_true] at hy
      rcases hy with hy | hy
      · exact h y hy
      · exact hcl j (h j hj) y (bitsOf_mem hy)
    · exact h y hy
def stuT (ops : Array Oper) (k : Nat) : Bool := (List.range ops.size).all fun i => decide (i < k) || (cloD ops i (bitsOf (depsAt ops i)) &&& (2 ^ k - 1)) == 2 ^ k - 1
def okSV (ops : Array Oper) (k : Nat) (E U D : List (List Nat)) : Bool :=
  decide (E.length ≤ k) && decide (U.length ≤ k) && (List.range k).all fun i => ((E.getD i []).all fun j => (D.getD i []).contains j) && (((U.getD i []).all fun j => (depsAt ops i).contains j) &&
    (D.getD i []).all fun j => (decide (ops.size ≤ j) || (depsAt ops i).contains j) && (List.range k).all fun m => !(E.getD m []).contains j || (m == i || (depsAt ops m).contains i))
/-- Where everything before the tail is done: what is known, and the own values' blocks apart. -/
def EndD (L : List FB) (E : List (List Nat)) (vs : Nat → Value) : Prop :=
  ∀ i j, i ≠ j → (E.all fun m => !m.contains i) = true → (E.all fun m => !m.contains j) = true → ∀ g, (L.getD i dflFB).2 vs (vs i) = some g → (L.getD j dflFB).2 vs (vs j) ≠ some g
theorem wp_region_sqv {id : Nat} {a : Act} {w : World} (k : Nat) (S : World → Prop) (Z : Nat) (L : List FB) (E U D : List (List Nat)) (vv : Nat → Value) (J : Act → (Nat → Bool) → World → Prop)
    (hS : ∀ w w', Below Z w w' → S w → S w') (hm : P.follows Departure.mixedOrders = true) (hd : dstsApart ops = true) (hc : depsBack ops = true) (hk : stuT ops k = true) (hkn : k ≤ ops.size)
    (hSw : S { w with drawn := w.drawn + 1 }) (hZ : Z ≤ w.heap.size)
    (hV : ∀ j, ops.size ≤ j → (L.getD j dflFB).1 vv (vv j) { w with drawn := w.drawn + 1 } ∧ (∀ g, (L.getD j dflFB).2 vv (vv j) = some g → Z ≤ g ∧ g < w.heap.size) ∧ ∀ j', ops.size ≤ j' → j ≠ j' → ∀ g, (L.getD j dflFB).2 vv (vv j) = some g → (L.getD j' dflFB).2 vv (vv j') ≠ some g)
    (h : SeqO P ops S Z L E U D (fun _ _ _ => True) (fun vs => putsL vs 0 (ops.toList.take k) a) 0 (ops.toList.take k)) (hok : okSV ops k E U D = true) (hg : AllGood Z L U) (hdf : ∀ j, k ≤ j → j < ops.size → L.getD j dflFB = dflFB)
    (hE : ∀ vs w, S w → Z ≤ w.heap.size → EndO L E vs w 0 L → EndD L E vs → J (putsL vs 0 (ops.toList.take k) a) (fun _ => false) w)
    (hsto : ∀ i o act T w, ops[i]? = some o → k ≤ i → T i = false → J act T w → Region.wanted o (yielded ops act.tmps) = true ∧ OperR P o act.eval w (fun v w' => J (act.put o.dst v) (updB T i) w'))
    (hend : ∀ act T w, (∀ i, k ≤ i → i < ops.size → T i = true) → J act T w → Q .normal act w) : (Code.region id ops true).wp P Q a w := by
  obtain ⟨hob, _⟩ := SeqO.at (ops.toList.take k) 0 h
  have hg' := AllGood.at L U hg
  have hback : ∀ i o, ops[i]? = some o → ∀ e ∈ o.after, Region.binds .any e = true → e.on < i := by
    intro i o ho e he hb
    obtain ⟨hlt, _⟩ := Array.getElem?_eq_some_iff.1 ho
    have h1 := List.all_eq_true.1 hc i (List.mem_range.2 hlt)
    rw [ho] at h1
    simp only [Option.map_some, Option.getD_some, Array.all_eq_true_iff_forall_mem] at h1
    have := h1 e he
    rw [hb] at this
    simpa using this
  have hdep : ∀ i o, ops[i]? = some o → ∀ j, j ∈ depsAt ops i ↔ ∃ e ∈ o.after, Region.binds .any e = true ∧ e.on = j := by
    intro i o ho j
    unfold depsAt depsOf
    rw [ho]
    simp only [Option.map_some, Option.getD_some, List.mem_map, List.mem_filter, Array.mem_toList_iff]
    constructor
    · rintro ⟨e, ⟨h1, h2⟩, h3⟩; exact ⟨e, h1, h2, h3⟩
    · rintro ⟨e, h1, h2, h3⟩; exact ⟨e, ⟨h1, h2⟩, h3⟩
  have hstk : ∀ i, i < ops.size → k ≤ i → ∀ T : Nat → Bool, (∀ j ∈ depsAt ops i, T j = true) → (∀ m, T m = true → ∀ j ∈ depsAt ops m, T j = true) → ∀ j, j < k → T j = true := by
    intro i hlt hki T hTd hcl j hj
    have h1 := List.all_eq_true.1 hk i (List.mem_range.2 hlt)
    rw [Bool.or_eq_true, decide_eq_true_iff, beq_iff_eq] at h1
    rcases h1 with h1 | h1
    · omega
    · have h2 : (cloD ops i (bitsOf (depsAt ops i)) &&& (2 ^ k - 1)).testBit j = true := by rw [h1, Nat.testBit_two_pow_sub_one]; exact decide_eq_true hj
      rw [Nat.testBit_and, Bool.and_eq_true] at h2
      exact cloD_sound hcl i _ (fun x hx => hTd x (bitsOf_mem hx)) j h2.1
  unfold okSV at hok
  rw [Bool.and_eq_true, Bool.and_eq_true] at hok
  obtain ⟨⟨hEl, hUl⟩, hok⟩ := hok
  have hEl := of_decide_eq_true hEl
  have hUl := of_decide_eq_true hUl
  have ok : ∀ i, i < k → (∀ j ∈ E.getD i [], j ∈ D.getD i []) ∧ (∀ j ∈ U.getD i [], j ∈ depsAt ops i) ∧ ∀ j ∈ D.getD i [], (ops.size ≤ j ∨ j ∈ depsAt ops i) ∧ ∀ m, m < k → j ∈ E.getD m [] → m = i ∨ i ∈ depsAt ops m := by
    intro i hi
    have h1 := List.all_eq_true.1 hok i (List.mem_range.2 hi)
    rw [Bool.and_eq_true, Bool.and_eq_true] at h1
    refine ⟨fun j hj => List.contains_iff_mem.1 (List.all_eq_true.1 h1.1 j hj), fun j hj => List.contains_iff_mem.1 (List.all_eq_true.1 h1.2.1 j hj), fun j hj => ?_⟩
    have h3 := List.all_eq_true.1 h1.2.2 j hj
    rw [Bool.and_eq_true, Bool.or_eq_true] at h3
    refine ⟨h3.1.imp of_decide_eq_true List.contains_iff_mem.1, fun m hm hjm => ?_⟩
    have h2 := List.all_eq_true.1 h3.2 m (List.mem_range.2 hm)
    simp only [Bool.or_eq_true, Bool.not_eq_true', beq_iff_eq, List.contains_eq_mem, decide_eq_true_eq, decide_eq_false_iff_not] at h2
    rcases h2 with h2 | h2
    · exact absurd hjm h2
    · exact h2
  have hEn : ∀ m, ¬ m < k → E.getD m [] = [] := fun m hm => by rw [List.getD_eq_getElem?_getD, List.getElem?_eq_none (by omega)]; rfl
  have hUn : ∀ m, ¬ m < k → U.getD m [] = [] := fun m hm => by rw [List.getD_eq_getElem?_getD, List.getElem?_eq_none (by omega)]; rfl
  have hlow : ∀ m j, j ∈ depsAt ops m → j < m := by
    intro m j hj
    by_cases hm : m < ops.size
    · obtain ⟨e, he, hb, rfl⟩ := (hdep m _ (Array.getElem?_eq_getElem hm) j).1 hj
      exact hback m _ (Array.getElem?_eq_getElem hm) e he hb
    · unfold depsAt at hj; rw [Array.getElem?_eq_none (by omega)] at hj; simp at hj
  -- what is known at the end of the head
  have hnotE : ∀ j, (E.all fun m => !m.contains j) = true → ∀ m, j ∉ E.getD m [] := by
    intro j hj m hm
    have h1 : E.getD m [] ∈ E ∨ E.getD m [] = [] := by
      rw [List.getD_eq_getElem?_getD]
      cases hm' : E[m]? with
      | none => right; rfl
      | some y => left; exact List.mem_of_getElem? hm'
    rcases h1 with h1 | h1
    · have := List.all_eq_true.1 hj _ h1
      simp only [List.contains_eq_mem, Bool.not_eq_true', decide_eq_false_iff_not] at this
      exact this hm
    · rw [h1] at hm; cases hm
  have hheadEnd : ∀ (T : Nat → Bool) vs w, (∀ j, j < k → T j = true) → InvO S Z (spOf L E U) (virT ops.size T) vs w → EndO L E vs w 0 L ∧ EndD L E vs := by
    intro T vs w hT hI
    have hlv : ∀ j, (E.all fun m => !m.contains j) = true → ¬ (k ≤ j ∧ j < ops.size) → Live (spOf L E U) (virT ops.size T) j := fun j hj hnt => ⟨by
      unfold virT
      by_cases h1 : j < k
      · rw [hT j h1]; rfl
      · rw [decide_eq_true (by omega)]; exact Bool.or_true _, fun m _ hm => hnotE j hj m hm⟩
    refine ⟨?_, fun i j hij hi hj g hgi hgj => ?_⟩
    · have key : ∀ (m : List FB) (q : Nat), (∀ x, x < m.length → m.getD x dflFB = L.getD (q + x) dflFB) → EndO L E vs w q m := by
        intro m
        induction m with
        | nil => intro _ _; trivial
        | cons x m ih =>
          intro q hq
          refine ⟨fun hne => ?_, ih (q + 1) (fun y hy => ?_)⟩
          · have hx : x = L.getD q dflFB := by have := hq 0 (by simp); simpa using this
            by_cases ht : k ≤ q ∧ q < ops.size
            · rw [hx, hdf q ht.1 ht.2]; trivial
            · rw [hx]; exact hI.2.2.1 q (hlv q hne ht)
          · have := hq (y + 1) (by simpa using hy)
            rw [show q + (y + 1) = q + 1 + y by omega] at this
            simpa using this
      exact key L 0 (fun x _ => by rw [Nat.zero_add])
    · by_cases hti : k ≤ i ∧ i < ops.size
      · rw [hdf i hti.1 hti.2] at hgi; cases hgi
      · by_cases htj : k ≤ j ∧ j < ops.size
        · rw [hdf j htj.1 htj.2] at hgj; cases hgj
        · exact hI.2.2.2.2 i j g hij (hlv i hi hti) (hlv j hj htj) hgi hgj
  obtain ⟨v0, hv0d⟩ : ∃ v0 : Nat → Value, v0 = fun j => if ops.size ≤ j then vv j else match dstOf ops j with | some d => a.eval (.tmp d) | none => undef := ⟨_, rfl⟩
  have hv0n : ∀ j, j < ops.size → v0 j = match dstOf ops j with | some d => a.eval (.tmp d) | none => undef := fun j hj => by rw [hv0d]; exact if_neg (by omega)
  have hv0v : ∀ j, ops.size ≤ j → v0 j = vv j := fun j hj => by rw [hv0d]; exact if_pos hj
  have e1 : a = full ops a v0 := by
    have h1 : full ops a v0 = full ops a (fun j => match dstOf ops j with | some d => a.eval (.tmp d) | none => undef) := puts_congr _ a (fun j hj => hv0n j (List.mem_range.1 hj))
    rw [h1]
    exact (puts_self a _).symm
  have hfl : ∀ vs : Nat → Value, (∀ j, k ≤ j → j < ops.size → vs j = v0 j) → full ops a vs = putsL vs 0 (ops.toList.take k) a := fun vs hv => full_head hd hkn (fun j h1 h2 => (hv j h1 h2).trans (hv0n j h2))
  refine wp_region_any hm ?_
  rw [e1]
  refine wpAny_glob hd (fun T vs w => (((∀ j, k ≤ j → T j = false) ∧ InvO S Z (spOf L E U) (virT ops.size T) vs w ∧ ∀ j, k ≤ j → j < ops.size → vs j = v0 j) ∨ ((∀ i, i < k → T i = true) ∧ J (full ops a vs) (mskU k T) w)) ∧ ∀ m, T m = true → ∀ j ∈ depsAt ops m, T j = true) a ?_ ?_ hback ops.size (List.range ops.size) _ _ _ (by simp) List.pairwise_lt_range ?_ (by simp) ?_
  · rintro i o vs T w ho hTi hT ⟨hI, hcl⟩
    have hdo : depsAt ops i = depsOf o := by unfold depsAt; rw [ho]; rfl
    have hTd : ∀ j ∈ depsOf o, T j = true := fun j hj => by
      obtain ⟨e, hem, rfl⟩ := List.mem_map.1 hj
      obtain ⟨hem1, hem2⟩ := List.mem_filter.1 hem
      exact hT e (by simpa using hem1) hem2
    have hcn : ∀ m, updB T i m = true → ∀ j ∈ depsAt ops m, updB T i j = true := by
      intro m hm j hj
      unfold updB at hm ⊢
      by_cases hmi : m = i
      · rw [hmi, hdo] at hj
        have h8 := hTd j hj
        show (if j = i then true else T j) = true
        rw [h8]; split <;> rfl
      · simp only [hmi, if_false] at hm
        have h8 := hcl m hm j hj
        show (if j = i then true else T j) = true
        rw [h8]; split <;> rfl
    have hi : i < ops.size := (Array.getElem?_eq_some_iff.1 ho).1
    by_cases hik : i < k
    · obtain ⟨hn, hIv, hv0⟩ | ⟨hall, _⟩ := hI
      · obtain ⟨okE, okU, okL⟩ := ok i hik
        have hlive : ∀ j ∈ D.getD i [], Live (spOf L E U) (virT ops.size T) j := fun j hj => ⟨by
          unfold virT
          rcases (okL j hj).1 with h1 | h1
          · rw [decide_eq_true h1]; exact Bool.or_true _
          · rw [hTd j (hdo ▸ h1)]; rfl, fun m hm hjm => by
          have hmk : m < k := by
            by_cases hc : m < k
            · exact hc
            · have h3 : j ∈ E.getD m [] := hjm
              rw [hEn m hc] at h3; cases h3
          have hTm : T m = true := by
            unfold virT at hm
            rw [decide_eq_false (by omega), Bool.or_false] at hm; exact hm
          rcases (okL j hj).2 m hmk hjm with h | h
          · subst h; rw [hTi] at hTm; cases hTm
          · have := hcl m hTm i h; rw [hTi] at this; cases this⟩
        have hvi : virT ops.size T i = false := by unfold virT; rw [hTi, decide_eq_false (by omega)]; rfl
        have hnext : ∀ v w', Leaves (spOf L E U) i vs w v w' → InvO S Z (spOf L E U) (virT ops.size (updB T i)) (upd vs i v) w' := fun v w' hl => by
          rw [virT_upd]
          exact InvO.next hS (fun j vs v w w' => (hg' j).1 vs v w w') (fun j vs vs' v w => (hg' j).2.1 vs vs' v w) (fun j vs vs' v => (hg' j).2.2 vs vs' v)
            (fun j hj m hm hmi => by
              rw [hmi] at hm
              by_cases hjk : j < k
              · have hd1 := (ok j hjk).2.1 i hm
                rcases hj with hj | hj
                · have hTj : T j = true := by
                    unfold virT at hj
                    rw [decide_eq_false (by omega), Bool.or_false] at hj; exact hj
                  have := hcl j hTj i hd1; rw [hTi] at this; cases this
                · rw [hj] at hd1; have := hlow i i hd1; omega
              · have hm' : i ∈ U.getD j [] := hm
                rw [hUn j hjk] at hm'; cases hm')
            (fun j hj => hlive j (okE j hj)) (fun hj => by
              rcases (okL i (okE i hj)).1 with h1 | h1
              · omega
              · have := hlow i i h1; omega) hvi hIv hl
        have hDep : DepO L vs w (D.getD i []) := by
          have key : ∀ l : List Nat, (∀ j ∈ l, j ∈ D.getD i []) → DepO L vs w l := by
            intro l
            induction l with
            | nil => intro _; trivial
            | cons j l ih => intro hl; exact ⟨hIv.2.2.1 j (hlive j (hl j (List.mem_cons_self ..))), ih fun x hx => hl x (List.mem_cons_of_mem _ hx)⟩
          exact key _ fun j hj => hj
        have ho' : (ops.toList.take k)[i]? = some o := by rw [List.getElem?_take_of_lt hik]; simpa using ho
        have hob' := hob i o ho' vs w hIv.1 hIv.2.1
        rw [Nat.zero_add] at hob'
        have hfull := hfl vs hv0
        have hv0' : ∀ v j, k ≤ j → j < ops.size → upd vs i v j = v0 j := fun v j h1 h2 => by unfold upd; rw [if_neg (by omega)]; exact hv0 j h1 h2
        have hno : ∀ j, k ≤ j → updB T i j = false := fun j hj => by unfold updB; rw [if_neg (by omega)]; exact hn j hj
        rcases hob' hDep with ⟨hw, hr⟩ | ⟨hw, hl⟩
        · dsimp only at hw hr
          rw [← hfull] at hw hr
          refine .inl ⟨hw, ?_⟩
          have h7 := OperR.wp hr
          unfold Oper.wp at h7 ⊢
          exact upon_way h7 (fun u w' ⟨v, e1, e2⟩ => ⟨v, e1, .inl ⟨hno, hnext v w' e2, hv0' v⟩, hcn⟩) (fun d w' ⟨v, e1, _⟩ => by have h1 := congrArg (fun x => x.defers.length) e1; simp [put_def] at h1)
        · dsimp only at hw
          rw [← hfull] at hw
          exact .inr ⟨hw, .inl ⟨hno, hnext undef w hl, hv0' undef⟩, hcn⟩
      · rw [hall i hik] at hTi; cases hTi
    · have hall : ∀ j, j < k → T j = true := hstk i hi (by omega) T (fun j hj => hTd j (hdo ▸ hj)) hcl
      have hJ : J (full ops a vs) (mskU k T) w := by
        obtain ⟨hn, hIv, hv0⟩ | ⟨_, hJ⟩ := hI
        · obtain ⟨x1, x2⟩ := hheadEnd T vs w hall hIv
          have h6 := hE vs w hIv.1 hIv.2.1 x1 x2
          have e : mskU k T = fun _ => false := by
            funext j
            unfold mskU
            by_cases hj : k ≤ j
            · rw [hn j hj, Bool.and_false]
            · rw [decide_eq_false hj, Bool.false_and]
          rw [e, hfl vs hv0]; exact h6
        · exact hJ
      obtain ⟨hw, hr⟩ := hsto i o _ _ w ho (by omega) (by unfold mskU; rw [hTi, Bool.and_false]) hJ
      refine .inl ⟨hw, ?_⟩
      have h7 := OperR.wp hr
      have em : updB (mskU k T) i = mskU k (updB T i) := by
        funext j
        unfold updB mskU
        by_cases hj : j = i
        · simp only [hj, if_true]; rw [decide_eq_true (by omega)]; rfl
        · simp only [hj, if_false]
      have efull : ∀ v, full ops a (upd vs i v) = (full ops a vs).put o.dst v := fun v => by
        have hdi : dstOf ops i = o.dst := by unfold dstOf; rw [ho]; rfl
        have h8 := puts_upd vs i v (List.range ops.size) a List.nodup_range (fun j hj hne d hdj hdj2 => by
          have h9 := List.all_eq_true.1 (List.all_eq_true.1 hd i (List.mem_range.2 hi)) j hj
          rw [hdj2, hdj] at h9
          simp [hne] at h9) (List.mem_range.2 hi)
        rw [hdi] at h8
        exact h8
      unfold Oper.wp at h7 ⊢
      refine upon_way h7 (fun u w' ⟨v, e1, e2⟩ => ⟨v, e1, .inr ⟨fun j hj => ?_, ?_⟩, hcn⟩) (fun d w' ⟨v, e1, _⟩ => by have h1 := congrArg (fun x => x.defers.length) e1; simp [put_def] at h1)
      · unfold updB; rw [if_neg (by omega)]; exact hall j hj
      · rw [efull, ← em]; exact e2
  · rintro vs T w hall ⟨hI, _⟩
    obtain ⟨hn, hIv, hv0⟩ | ⟨_, hJ⟩ := hI
    · obtain ⟨x1, x2⟩ := hheadEnd T vs w (fun j hj => hall j (by omega)) hIv
      have h6 := hE vs w hIv.1 hIv.2.1 x1 x2
      rw [← hfl vs hv0] at h6
      exact hend _ _ w (fun i hki his => by have := hn i hki; rw [hall i his] at this; cases this) h6
    · exact hend _ _ w (fun i hki his => by unfold mskU; rw [decide_eq_true hki, hall i his]; rfl) hJ
  · intro i
    rw [List.mem_range]
    constructor
    · intro h; refine ⟨h, ?_⟩; simp [Array.getD, h]
    · exact fun h => h.1
  · have hrep : ∀ j, (Array.replicate ops.size false).getD j false = false := by
      intro j
      simp only [Array.getD]
      split
      · simp
      · rfl
    have hvt : ∀ j, virT ops.size (fun q => (Array.replicate ops.size false).getD q false) j = true → ops.size ≤ j := fun j hj => by
      unfold virT at hj
      dsimp only at hj
      rw [hrep j, Bool.false_or] at hj
      exact of_decide_eq_true hj
    have hbl : ∀ j, ops.size ≤ j → ∀ v, (L.getD j dflFB).2 v0 v = (L.getD j dflFB).2 vv v := fun j hj v => (hg' j).2.2 v0 vv v (fun q hq => by rw [hUn j (by omega)] at hq; cases hq)
    refine ⟨.inl ⟨fun j _ => hrep j, ⟨hSw, hZ, fun j hl => ?_, fun j g hl hb => ?_, fun i j g hij hi hj hbi hbj => ?_⟩, fun j _ _ => rfl⟩, fun j hj => by have h1 := (hrep j).symm.trans hj; cases h1⟩
    · have hj := hvt j hl.1
      show (L.getD j dflFB).1 v0 (v0 j) _
      rw [hv0v j hj]
      exact (hg' j).2.1 vv v0 (vv j) _ (fun q hq => by rw [hUn j (by omega)] at hq; cases hq) (hV j hj).1
    · have hj := hvt j hl.1
      have hb' : (L.getD j dflFB).2 v0 (v0 j) = some g := hb
      rw [hv0v j hj, hbl j hj] at hb'
      exact (hV j hj).2.1 g hb'
    · have h1 := hvt i hi.1
      have h2 := hvt j hj.1
      have hbi' : (L.getD i dflFB).2 v0 (v0 i) = some g := hbi
      have hbj' : (L.getD j dflFB).2 v0 (v0 j) = some g := hbj
      rw [hv0v i h1, hbl i h1] at hbi'
      rw [hv0v j h2, hbl j h2] at hbj'
      exact (hV i h1).2.2 j h2 hij g hbi' hbj'
variable {α : Type} {e : TypeId} {c : α → List Value} {n : Nat} {M : List α} {A : (Nat → Value) → Act} {o : Oper} {i : Nat}
/-- A list that was there before the region: its value is known. -/
def fbV (e : TypeId) (c : α → List Value) (n Z : Nat) (L : List α) (u : Value) : FB := (fun _ v w => v = u ∧ OwnOf e c n Z w v L, fun _ v => v.ownBlock)
theorem good_V {u : Value} (us : List Nat) : GoodO Z (fbV e c n Z M u) us := by
  have h := good_L (e := e) (c := c) (n := n) (Z := Z) (M := M) us
  exact ⟨fun vs v w w' h1 h2 h3 => ⟨h3.1, h.1 vs v w w' h1 h2 h3.2⟩, fun vs vs' v w h1 h3 => ⟨h3.1, h.2.1 vs vs' v w h1 h3.2⟩, h.2.2⟩
/-- append(s, x...) where s is a list that was there, value j, and eaten. -/
theorem obo_appV {N : List α} {j : Nat} {u0 : Value} (hx : L.getD i dflFB = fbL e c n Z (M ++ N)) (hj : L.getD j dflFB = fbV e c n Z M u0) (hE : j ∈ E.getD i []) (hw : ∀ vs w, DepO L vs w (D.getD i []) → Region.wanted o (yielded ops (A vs).tmps) = true)
    (s x : Operand) (t : TypeId) (ho : o.op = .call { callee := .builtin .append, args := #[s, x], argTypes := #[t, t] }) (ht : P.underlying t = some (.slice e)) (z : Value) (bytes : Nat)
    (hinfo : (P.info? e).map (fun i => (i.zero, i.size, i.bytes)) = some (some z, n, bytes)) (hzs : z.cells.size = n) (hn0 : 0 < n) (hbl : 0 < bytes)
    (hn : ∀ x, (c x).length = n) (h1 : ∀ x, ∀ u ∈ c x, u.oneCell' = true) (m : Nat) (hl : (M.length + m) * bytes ≤ 140737488355328)
    (h : ∀ vs w, S w → Z ≤ w.heap.size → DepO L vs w (D.getD i []) → (A vs).eval s = vs j ∧ OwnOf e c n Z w (vs j) M ∧ ∃ a cp, (A vs).eval x = .slice a m cp ∧ IsOf c n w a m N) : ObO P ops S Z L E U D A i o :=
  fun vs w hS hZ hD => .inl ⟨hw vs w hD, by
    obtain ⟨hs, hown, a, cp, hxx, hN⟩ := h vs w hS hZ hD
    obtain ⟨i0, hi, hz0, hz1, hz2⟩ := info_parts hinfo
    obtain ⟨v', w', hrun, h2, h3, h4⟩ := run_append_any (P := P) w Z t o.type e i0 z n bytes ht hi hz0 hz1 hz2 hzs hn0 (vs j) M.length (M.flatMap c) hown w.heap.size a m cp (N.flatMap c) (hN.reads hn) (by
      intro u hu
      obtain ⟨y, _, hy⟩ := List.mem_flatMap.1 hu
      exact h1 y u hy) (by
      have : M.length + m ≤ (M.length + m) * bytes := Nat.le_mul_of_pos_right _ hbl
      unfold maxLen; omega) hl hZ
    unfold OperR execOp
    simp only [ho, resolve, invoke, builtin, Sem.run_bind, Sem.run_pure, Result.andThen_ok, List.map_toArray, List.map_cons, List.map_nil, hs, hxx, hrun]
    have hown' : OwnOf e c n Z w' v' (M ++ N) := by
      unfold OwnOf
      rw [List.length_append, List.flatMap_append, hN.1]; exact h2
    have hjb : ∀ g, (vs j).ownBlock = some g → ∃ k, k ∈ (spOf L E U i).eats ∧ (spOf L E U k).blk vs (vs k) = some g := fun g hg => ⟨j, hE, by show (L.getD j dflFB).2 _ _ = _; rw [hj]; exact hg⟩
    refine ⟨(vs j).ownBlock, h3, hjb, by show (L.getD i dflFB).1 _ _ _; rw [hx]; exact hown', fun g hg => ?_⟩
    have hg : (L.getD i dflFB).2 _ _ = some g := hg
    rw [hx] at hg
    have hg : v'.ownBlock = some g := hg
    refine ⟨(World.ownsRow.lt hown' g hg).2, ?_⟩
    rcases h4 with h4 | h4
    · exact .inr (hjb g (h4 ▸ hg))
    · rw [h4] at hg; injection hg with hg; exact .inl (by omega)⟩
end
end Go.Proofs.YtdhahiodnmmkeaaGreatDoor
