/- An executor of closed runs: what its operations say of a world (2). -/
import Derived.Test.YtjdkfdhfodmbeaaDoorAxG
namespace Go.Proofs.YtjdkfdhfodmbeaaDoor.Ax
open Go
variable {P : Program} {G : Nat}

/-! Integers. -/
theorem addI_eq (a b : Int) : addI a b = a + b := by cases a <;> cases b <;> rfl
theorem subI_eq (a b : Int) : subI a b = a - b := by
  cases a <;> cases b <;> try rfl
  rename_i m n
  show pick (Nat.ble n m) (.ofNat (m - n)) (Int.ofNat m - Int.ofNat n) = _
  cases h : Nat.ble n m with
  | false => rfl
  | true => rw [Nat.ble_eq] at h; exact (Int.ofNat_sub h)
theorem mulI_eq (a b : Int) : mulI a b = a * b := by cases a <;> cases b <;> rfl
theorem lt_dec (a b : Nat) : lt a b = decide (a < b) := by
  cases h : lt a b with
  | true => rw [lt_eq] at h; simp [h]
  | false =>
    have : ¬ a < b := fun hh => by rw [← lt_eq] at hh; rw [hh] at h; cases h
    simp [this]
theorem ltI_eq (a b : Int) : ltI a b = decide (a < b) := by
  cases a <;> cases b <;> simp only [ltI, lt_dec]
  · exact decide_eq_decide.2 ⟨fun h => Int.ofNat_lt.2 h, fun h => Int.ofNat_lt.1 h⟩
  · rename_i m n
    have : ¬ (Int.ofNat m < Int.negSucc n) := by
      have h1 := Int.negSucc_lt_zero n
      have h2 := Int.natCast_nonneg m
      intro h
      have : (Int.ofNat m : Int) = (m : Int) := rfl
      omega
    exact (decide_eq_false this).symm
  · rename_i m n
    have : Int.negSucc m < Int.ofNat n := by
      have h1 := Int.negSucc_lt_zero m
      have h2 := Int.natCast_nonneg n
      have : (Int.ofNat n : Int) = (n : Int) := rfl
      omega
    exact (decide_eq_true this).symm
  · rename_i m n
    refine decide_eq_decide.2 ?_
    rw [Int.negSucc_eq, Int.negSucc_eq]
    omega
theorem eqI_eq (a b : Int) : eqI a b = (a == b) := by
  cases a <;> cases b <;> simp only [eqI]
  · rename_i m n
    cases h : Nat.beq m n with
    | true => have := Nat.eq_of_beq_eq_true h; subst this; simp
    | false =>
      have : m ≠ n := fun e => by rw [e] at h; simp at h
      exact (beq_eq_false_iff_ne.2 (fun e => this (Int.ofNat.inj e))).symm
  · rfl
  · rfl
  · rename_i m n
    cases h : Nat.beq m n with
    | true => have := Nat.eq_of_beq_eq_true h; subst this; simp
    | false =>
      have : m ≠ n := fun e => by rw [e] at h; simp at h
      exact (beq_eq_false_iff_ne.2 (fun e => this (Int.negSucc.inj e))).symm
theorem wrapI_eq (k : IntKind) (n : Int) : wrapI k (topOf k) k.signed n = k.wrap n := by
  cases n with
  | ofNat m =>
    show pick (Nat.ble m (topOf k)) (Int.ofNat m) (k.wrap (.ofNat m)) = _
    cases h : Nat.ble m (topOf k) with
    | false => rfl
    | true =>
      rw [Nat.ble_eq] at h
      simp only [pick_true]
      have e : (Int.ofNat m : Int) = (m : Int) := rfl
      cases k <;> simp only [topOf, IntKind.wrap, IntKind.bits, IntKind.signed, e, Int.reducePow, Nat.reduceSub, Bool.true_and, Bool.false_and, decide_eq_true_eq, Bool.false_eq_true, if_false] at h ⊢ <;> (try split) <;> omega
  | negSucc m =>
    show pick (andB k.signed (Nat.ble m (topOf k))) (Int.negSucc m) (k.wrap (.negSucc m)) = _
    cases h : andB k.signed (Nat.ble m (topOf k)) with
    | false => rfl
    | true =>
      rw [andB_eq, Bool.and_eq_true, Nat.ble_eq] at h
      simp only [pick_true]
      obtain ⟨h1, h2⟩ := h
      have e : Int.negSucc m = -(m : Int) - 1 := by rw [Int.negSucc_eq]; omega
      cases k <;> simp only [topOf, IntKind.wrap, IntKind.bits, IntKind.signed, e, Int.reducePow, Nat.reduceSub, Bool.true_and, decide_eq_true_eq, Bool.false_eq_true] at h1 h2 ⊢ <;> split <;> omega
theorem kindN_inj {a b : IntKind} (h : Nat.beq (kindN a) (kindN b) = true) : a = b := by cases a <;> cases b <;> first | rfl | cases h

theorem eqB_eq : ∀ l m : List UInt8, eqB l m = (l == m)
  | [], [] => rfl
  | [], _ :: _ => rfl
  | _ :: _, [] => rfl
  | a :: x, b :: y => by
    show pick (Nat.beq a.toNat b.toNat) (eqB x y) false = _
    rw [eqB_eq x y]
    cases h : Nat.beq a.toNat b.toNat with
    | true =>
      have := UInt8.toNat_inj.1 (Nat.eq_of_beq_eq_true h)
      subst this
      simp
    | false =>
      have : a ≠ b := fun e => by subst e; simp at h
      simp [this]

theorem bR_ok {q hp : Hp} {b : Bool} {v : Value} (h : bR q b = .ok v hp) : v = .bool b ∧ q = hp := by
  unfold bR at h; rw [fBool_eq] at h; cases h; exact ⟨rfl, rfl⟩
theorem iR_ok {q hp : Hp} {k : IntKind} {n : Int} {v : Value} (h : iR k q n = .ok v hp) : v = .int k n ∧ q = hp := by
  unfold iR at h; rw [fInt_eq] at h; cases h; exact ⟨rfl, rfl⟩
theorem ints_ok {k : IntKind} {x y : Value} {f : Int → Int → R} {v : Value} {hp : Hp} (h : ints k x y f = .ok v hp) : ∃ a b, x = .int k a ∧ y = .int k b ∧ f a b = .ok v hp := by
  unfold ints at h
  replace h := onInt_ok h
  obtain ⟨j, a, rfl, h⟩ := h
  replace h := pick_ok h
  obtain ⟨h1, h2⟩ := h
  obtain ⟨j2, b, rfl, h3⟩ := onInt_ok h2
  obtain ⟨h4, h5⟩ := pick_ok h3
  obtain rfl := kindN_inj h1
  obtain rfl := kindN_inj h4
  exact ⟨a, b, rfl, rfl, h5⟩

def binS (op : BinOp) (t : TypeId) (x y : Operand) (a b : Value) : Sem Next := valN (do eqGuard op t x y a b; binOp op t a b)
theorem int_ok {k : IntKind} {op : BinOp} {t : TypeId} {x y : Operand} {f : Hp → Int → Int → R}
    (hf : ∀ hp a b v hp', f hp a b = .ok v hp' → hp = hp' ∧ pl v = true ∧ ∀ w, (do eqGuard op t x y (.int k a) (.int k b); binOp op t (.int k a) (.int k b) : Sem Value).run P w = .ok v w) :
    Ok2 P G (fun x y hp => ints k x y (f hp)) (binS op t x y) := by
  intro a b hp v hp' h ρ w N a' b' c ha hb hN
  replace h := ints_ok h
  obtain ⟨n, m, rfl, rfl, h⟩ := h
  cases ha; cases hb
  obtain ⟨rfl, h1, h2⟩ := hf _ _ _ _ _ h
  exact good_pure c (h2 w) (pl_vr h1)

theorem strs_ok {x y : Value} {f : List UInt8 → List UInt8 → R} {v : Value} {hp : Hp} (h : strs x y f = .ok v hp) : ∃ a b, x = .string a ∧ y = .string b ∧ f a.data.toList b.data.toList = .ok v hp := by
  unfold strs at h
  replace h := onStr_ok h
  obtain ⟨a, rfl, h⟩ := h
  replace h := onStr_ok h
  obtain ⟨b, rfl, h⟩ := h
  exact ⟨a, b, rfl, rfl, h⟩

theorem pick_not (b : Bool) : pick b false true = !b := by cases b <;> rfl

theorem bxInt_ok {o : Oper} {k : IntKind} {op : BinOp} {t yt : TypeId} {x y : Operand} (ho : o.op = .binOp op t x y yt) {f : T Value → Hp → R} (h : bxInt P o k (topOf k) k.signed op x y = .op f) : BxOk P G o f := by
  have hsel : ∀ cs b, o.op ≠ .select cs b := by rw [ho]; intro cs b e; cases e
  have hx : x ∈ o.op.operands := by rw [ho]; simp [Op.operands]
  have hy : y ∈ o.op.operands := by rw [ho]; simp [Op.operands]
  have he : ∀ ev, execOp ev o = binS op t x y (ev x) (ev y) := fun ev => by unfold execOp; rw [ho]; rfl
  unfold bxInt at h
  split at h
  all_goals first
    | (refine bx2p hsel h (int_ok ?_) hx hy he
       intro hp a b v hp' hr
       first
         | (obtain ⟨rfl, rfl⟩ := iR_ok hr; exact ⟨rfl, rfl, fun w => by simp [eqGuard, binOp, Op.intArith, wrapI_eq, addI_eq, subI_eq, mulI_eq]⟩)
         | (obtain ⟨rfl, rfl⟩ := bR_ok hr; refine ⟨rfl, rfl, fun w => ?_⟩; simp [eqGuard, binOp, Op.intCmp, eqI_eq, ltI_eq, pick_not]; done)
         | (obtain ⟨rfl, rfl⟩ := bR_ok hr; refine ⟨rfl, rfl, fun w => ?_⟩; simp [eqGuard, binOp, Op.intCmp, eqI_eq, ltI_eq, pick_not]; first | rfl | (rw [← decide_not]; exact decide_eq_decide.2 (by omega))))
    | (unfold plainBx at h; cases h; exact plain_ok hsel)

theorem bxStr_ok {o : Oper} {op : BinOp} {t yt : TypeId} {x y : Operand} (ho : o.op = .binOp op t x y yt) {f : T Value → Hp → R} (h : bxStr P o op x y = .op f) : BxOk P G o f := by
  have hsel : ∀ cs b, o.op ≠ .select cs b := by rw [ho]; intro cs b e; cases e
  have hx : x ∈ o.op.operands := by rw [ho]; simp [Op.operands]
  have hy : y ∈ o.op.operands := by rw [ho]; simp [Op.operands]
  have he : ∀ ev, execOp ev o = binS op t x y (ev x) (ev y) := fun ev => by unfold execOp; rw [ho]; rfl
  unfold bxStr at h
  split at h
  · refine bx2p hsel h (S := binS .eql t x y) ?_ hx hy he
    intro a b hp v hp' hr ρ w N a' b' c ha hb hN
    replace hr := strs_ok hr
    obtain ⟨s, u, rfl, rfl, hr⟩ := hr
    obtain ⟨rfl, rfl⟩ := bR_ok hr
    cases ha; cases hb
    refine good_pure c ?_ (.bool _)
    rw [eqB_eq]
    simp [eqGuard, binOp, Op.stringOp, ByteArray.toList_eq]
  · refine bx2p hsel h (S := binS .neq t x y) ?_ hx hy he
    intro a b hp v hp' hr ρ w N a' b' c ha hb hN
    replace hr := strs_ok hr
    obtain ⟨s, u, rfl, rfl, hr⟩ := hr
    obtain ⟨rfl, rfl⟩ := bR_ok hr
    cases ha; cases hb
    refine good_pure c ?_ (.bool _)
    rw [eqB_eq, pick_not]
    simp [eqGuard, binOp, Op.stringOp, ByteArray.toList_eq]
  · unfold plainBx at h; cases h; exact plain_ok hsel

theorem eqNil_ok {op : BinOp} {t : TypeId} {x y : Operand} : Ok2 P G (fun a b hp => okV hp (xeqNil P op t a b)) (binS op t x y) := by
  intro a b hp v hp' h ρ w N a' b' c ha hb hN
  replace h := okV_ok h
  obtain ⟨h, rfl⟩ := h
  unfold xeqNil at h
  cases hnp : nilPair P t a b with
  | false => rw [hnp] at h; cases h
  | true =>
    rw [hnp] at h
    have key : ∀ w, (eqGuard op t x y a' b').run P w = .ok () w ∧ (Op.equal t a' b').run P w = .ok false w ∧ (op = .eql → binOp op t a' b' = do pure (.bool (← Op.equal t a' b'))) ∧ (op = .neq → binOp op t a' b' = do pure (.bool (!(← Op.equal t a' b')))) := by
      intro w
      unfold nilPair at hnp
      split at hnp <;> try (simp only [reduceCtorEq] at hnp)
      all_goals rename_i hu
      all_goals (cases ha <;> cases hb)
      all_goals refine ⟨?_, ?_, ?_, ?_⟩
      all_goals first
        | (intro e; subst e; rfl)
        | (unfold eqGuard; split <;> rfl)
        | (unfold Op.equal; rw [show Op.maxDepth = 9999 + 1 from rfl]; unfold Op.equalIn; rw [Sem.run_bind, run_underlying hu]; rfl)
    obtain ⟨k1, k2, k3, k4⟩ := key w
    split at h
    · cases h
      refine good_pure c ?_ (.bool _)
      rw [Sem.run_bind, k1, k3 rfl]
      simp only [Result.andThen_ok]
      rw [Sem.run_bind, k2]; rfl
    · cases h
      refine good_pure c ?_ (.bool _)
      rw [Sem.run_bind, k1, k4 rfl]
      simp only [Result.andThen_ok]
      rw [Sem.run_bind, k2]; rfl
    · cases h

theorem bxBin_ok {o : Oper} {op : BinOp} {t yt : TypeId} {x y : Operand} (ho : o.op = .binOp op t x y yt) {f : T Value → Hp → R} (h : bxBin P o op t x y = .op f) : BxOk P G o f := by
  have hsel : ∀ cs b, o.op ≠ .select cs b := by rw [ho]; intro cs b e; cases e
  have hx : x ∈ o.op.operands := by rw [ho]; simp [Op.operands]
  have hy : y ∈ o.op.operands := by rw [ho]; simp [Op.operands]
  have he : ∀ ev, execOp ev o = binS op t x y (ev x) (ev y) := fun ev => by unfold execOp; rw [ho]; rfl
  unfold bxBin at h
  split at h
  · rw [fNat_eq, fBool_eq] at h; exact bxInt_ok ho h
  · exact bxStr_ok ho h
  all_goals first
    | exact bx2p hsel h eqNil_ok hx hy he
    | (unfold plainBx at h; cases h; exact plain_ok hsel)

theorem bxUn_ok {o : Oper} {op : UnOp} {t : TypeId} {x : Operand} (ho : o.op = .unOp op t x) {f : T Value → Hp → R} (h : bxUn P o op x = .op f) : BxOk P G o f := by
  have hsel : ∀ cs b, o.op ≠ .select cs b := by rw [ho]; intro cs b e; cases e
  have hx : x ∈ o.op.operands := by rw [ho]; simp [Op.operands]
  have he : ∀ ev, execOp ev o = valN (Op.unary op (ev x)) := fun ev => by unfold execOp; rw [ho]; rfl
  unfold bxUn at h
  split at h
  · refine bx1 h (S := fun a => valN (Op.unary .not a)) ?_ hx he
    intro a hp v hp' hr ρ w N a' c ha hN
    replace hr := onBool_ok (show onBool a .no (fun b => bR hp (pick b false true)) = .ok v hp' from hr)
    obtain ⟨b, rfl, hr⟩ := hr
    obtain ⟨rfl, rfl⟩ := bR_ok hr
    cases ha
    rw [pick_not]
    exact good_pure c (by rfl) (.bool _)
  · unfold plainBx at h; cases h; exact plain_ok hsel

/-! Parts of values. -/
theorem subL_spec : ∀ (l : List Value) (off n : Nat) (r : List Value), subL l off n = some r → r = (l.drop off).take n ∧ r.length = n
  | l, off, 0, r, h => by cases l <;> (cases h; simp)
  | [], off, n + 1, r, h => by cases h
  | v :: vs, 0, n + 1, r, h => by
    have h' : onSome (subL vs 0 n) none (fun l => some (v :: l)) = some r := h
    cases hs : subL vs 0 n with
    | none => rw [hs] at h'; cases h'
    | some l =>
      rw [hs] at h'; cases h'
      obtain ⟨h1, h2⟩ := subL_spec vs 0 n l hs
      refine ⟨?_, by simp [h2]⟩
      simp only [List.drop_zero, List.take_succ_cons] at h1 ⊢
      rw [h1]
  | v :: vs, m + 1, n + 1, r, h => by
    have h' : subL vs m (n + 1) = some r := h
    obtain ⟨h1, h2⟩ := subL_spec vs m (n + 1) r h'
    exact ⟨by rw [h1]; rfl, h2⟩

theorem part_agg {ρ : Rho} {t : TypeId} {n off : Nat} {l l' r : List Value} (hk : kindT P t = .agg n) (hl : LR ρ l l') (h1 : ∀ v ∈ l, oneC v = true) (hs : subL l off n = some r) (w : World) :
    ∃ r', (part t ⟨l'⟩ off).run P w = .ok (.agg ⟨r'⟩) w ∧ VR ρ (.agg ⟨r⟩) (.agg ⟨r'⟩) := by
  obtain ⟨rfl, hlen⟩ := subL_spec _ _ _ _ hs
  refine ⟨(l'.drop off).take n, ?_, .agg _ _ (fun v hv => h1 v (List.mem_of_mem_drop (List.mem_of_mem_take hv))) ((hl.drop off).take n)⟩
  unfold part
  rw [Sem.run_bind, isAgg_run (kind_agg hk).1]
  simp only [Result.andThen_ok, if_true]
  rw [Sem.run_bind, sizeOf_run (kind_agg hk).2]
  simp only [Result.andThen_ok, Sem.run_pure]
  congr 2
  apply Array.ext'
  simp
theorem part_one {ρ : Rho} {t : TypeId} {off : Nat} {l l' : List Value} {v : Value} (hk : kindT P t = .one) (hl : LR ρ l l') (hs : nthL l off = some v) (w : World) :
    ∃ v', (part t ⟨l'⟩ off).run P w = .ok v' w ∧ VR ρ v v' := by
  obtain ⟨v', h1, h2⟩ := hl.get_some hs
  refine ⟨v', ?_, h2⟩
  unfold part
  rw [Sem.run_bind, isAgg_run (kind_one hk).1]
  simp only [Result.andThen_ok, Bool.false_eq_true, if_false]
  have : (⟨l'⟩ : Array Value)[off]? = some v' := by simpa using h1
  rw [this]; rfl

theorem partAgg_ok {n off : Nat} {l : List Value} {hp hp' : Hp} {v : Value} (h : partAgg n l off hp = .ok v hp') : ∃ r, subL l off n = some r ∧ v = .agg ⟨r⟩ ∧ hp = hp' := by
  replace h := onSome_ok h
  obtain ⟨r, h1, h2⟩ := h
  cases h2
  exact ⟨r, h1, rfl, rfl⟩

theorem field_run {t : TypeId} {fs : Array Field} {f : Nat} {fd : Field} (hu : P.underlying t = some (.struct fs)) (hf : fs.toList[f]? = some fd) (l : List Value) (w : World) : (Instr.field t (.agg ⟨l⟩) f).run P w = (part fd.type ⟨l⟩ fd.offset).run P w := by
  have hf' : fs[f]? = some fd := by simpa using hf
  unfold Instr.field
  rw [Sem.run_bind, run_underlying hu]
  simp only [Result.andThen_ok, hf']
  rw [Sem.run_bind]
  simp [asAgg]

theorem bxField_ok {o : Oper} {t : TypeId} {x : Operand} {fi : Nat} (ho : o.op = .field t x fi) {f : T Value → Hp → R} (h : bxField P t x fi = .op f) : BxOk P G o f := by
  have hx : x ∈ o.op.operands := by rw [ho]; simp [Op.operands]
  have he : ∀ ev, execOp ev o = valN (Instr.field t (ev x) fi) := fun ev => by unfold execOp; rw [ho]; rfl
  unfold bxField at h
  split at h <;> try (simp only [reduceCtorEq] at h)
  rename_i fs hu
  split at h <;> try (simp only [reduceCtorEq] at h)
  rename_i fd hf
  rw [fNat_eq] at h
  split at h <;> try (simp only [reduceCtorEq] at h)
  · rename_i n hk
    refine bx1 (S := fun a => valN (Instr.field t a fi)) h ?_ hx he
    intro a hp v hp' hr ρ w N a' c ha hN
    replace hr := onAgg_ok hr
    obtain ⟨l, rfl, hr⟩ := hr
    obtain ⟨r, h1, rfl, rfl⟩ := partAgg_ok hr
    cases ha with
    | agg _ l' h2 hl =>
      obtain ⟨r', h3, h4⟩ := part_agg hk hl h2 h1 w
      exact good_pure c ((field_run hu hf l' w).trans h3) h4
  · rename_i hk
    refine bx1 (S := fun a => valN (Instr.field t a fi)) h ?_ hx he
    intro a hp v hp' hr ρ w N a' c ha hN
    replace hr := onAgg_ok hr
    obtain ⟨l, rfl, hr⟩ := hr
    obtain ⟨h1, rfl⟩ := okV_ok hr
    cases ha with
    | agg _ l' h2 hl =>
      obtain ⟨v', h3, h4⟩ := part_one hk hl h1 w
      exact good_pure c ((field_run hu hf l' w).trans h3) h4
end Go.Proofs.YtjdkfdhfodmbeaaDoor.Ax
