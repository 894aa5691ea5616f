/- An executor of closed runs: what its operations say of a world (3). -/
import Derived.Test.YtjdkfdhfodmbeaaDoorAxH
import Derived.Laws.BytesArg
import Derived.Great.BuildSlice
namespace Go.Proofs.YtjdkfdhfodmbeaaDoor.Ax
open Go
variable {P : Program} {G : Nat}

theorem index_run {t : TypeId} {len : Nat} {e : TypeId} {n i : Nat} (hu : P.underlying t = some (.array len e)) (hn : size? P e = some n) (hi : i < len) (k : IntKind) (l : List Value) (w : World) :
    (Instr.index t (.agg ⟨l⟩) (.int k (Int.ofNat i))).run P w = (part e ⟨l⟩ (i * n)).run P w := by
  unfold Instr.index
  simp only [asIntOf, Sem.run_bind, Sem.run_pure, Result.andThen_ok, run_underlying hu]
  have : (0 : Int) ≤ (i : Int) ∧ (i : Int) < (len : Int) := ⟨Int.natCast_nonneg _, Int.ofNat_lt.2 hi⟩
  simp only [Int.ofNat_eq_natCast]
  rw [if_pos this, Sem.run_bind, sizeOf_run hn]
  simp

theorem bxIndex_ok {o : Oper} {t : TypeId} {x i : Operand} (ho : o.op = .index t x i) {f : T Value → Hp → R} (h : bxIndex P t x i = .op f) : BxOk P G o f := by
  have hx : x ∈ o.op.operands := by rw [ho]; simp [Op.operands]
  have hi : i ∈ o.op.operands := by rw [ho]; simp [Op.operands]
  have he : ∀ ev, execOp ev o = valN (Instr.index t (ev x) (ev i)) := fun ev => by unfold execOp; rw [ho]; rfl
  unfold bxIndex at h
  split at h <;> try (simp only [reduceCtorEq] at h)
  · rename_i len e hu
    split at h <;> try (simp only [reduceCtorEq] at h)
    · rename_i n hk
      refine bx2 (S := fun a b => valN (Instr.index t a b)) h ?_ hx hi he
      intro a b hp v hp' hr ρ w N a' b' c ha hb hN
      replace hr := onAgg_ok hr
      obtain ⟨l, rfl, hr⟩ := hr
      replace hr := natV_ok hr
      obtain ⟨k, j, rfl, hr⟩ := hr
      replace hr := pick_ok hr
      obtain ⟨hlt, hr⟩ := hr
      rw [lt_eq] at hlt
      obtain ⟨r, h1, rfl, rfl⟩ := partAgg_ok hr
      cases hb
      cases ha with
      | agg _ l' h2 hl =>
        obtain ⟨r', h3, h4⟩ := part_agg hk hl h2 h1 w
        exact good_pure c ((index_run hu (kind_agg hk).2 hlt k l' w).trans h3) h4
    · rename_i hk
      refine bx2 (S := fun a b => valN (Instr.index t a b)) h ?_ hx hi he
      intro a b hp v hp' hr ρ w N a' b' c ha hb hN
      replace hr := onAgg_ok hr
      obtain ⟨l, rfl, hr⟩ := hr
      replace hr := natV_ok hr
      obtain ⟨k, j, rfl, hr⟩ := hr
      replace hr := pick_ok hr
      obtain ⟨hlt, hr⟩ := hr
      rw [lt_eq] at hlt
      obtain ⟨h1, rfl⟩ := okV_ok hr
      cases hb
      cases ha with
      | agg _ l' h2 hl =>
        obtain ⟨v', h3, h4⟩ := part_one hk hl h1 w
        refine good_pure c ((index_run hu (kind_one hk).2 hlt k l' w).trans ?_) h4
        rw [Nat.mul_one]; exact h3
  · rename_i hu
    refine bx2 (S := fun a b => valN (Instr.index t a b)) h ?_ hx hi he
    intro a b hp v hp' hr ρ w N a' b' c ha hb hN
    replace hr := onStr_ok hr
    obtain ⟨s, rfl, hr⟩ := hr
    replace hr := natV_ok hr
    obtain ⟨k, j, rfl, hr⟩ := hr
    unfold byteAt at hr
    replace hr := onSome_ok hr
    obtain ⟨y, hy, hr⟩ := hr
    rw [fNat_eq] at hr
    cases hr
    cases ha; cases hb
    refine good_pure c ?_ (.int _ _)
    unfold Instr.index
    simp only [asIntOf, Sem.run_bind, Sem.run_pure, Result.andThen_ok, run_underlying hu]
    have h0 : (0 : Int) ≤ Int.ofNat j := Int.natCast_nonneg _
    rw [if_pos h0]
    have : s[(Int.ofNat j).toNat]? = some y := by
      have hj : j < s.data.toList.length := (List.getElem?_eq_some_iff.1 hy).1
      have hj' : j < s.size := by simpa using hj
      have := (List.getElem?_eq_some_iff.1 hy).2
      simp only [Int.ofNat_eq_natCast, Int.toNat_natCast]
      rw [getElem?_pos s j hj']
      exact congrArg some (show s.data[j]'(by simpa using hj) = y by simpa using this)
    rw [this]
    rfl

theorem extract_ok (i : Nat) : Ok1 P G (extractV i) (fun t => valN (Instr.extract t i)) := by
  intro a hp v hp' h ρ w N a' c ha hN
  replace h := onTuple_ok h
  obtain ⟨l, rfl, h⟩ := h
  replace h := okV_ok h
  obtain ⟨h1, rfl⟩ := h
  cases ha with
  | tuple _ l' hl =>
    obtain ⟨v', h2, h3⟩ := hl.get_some h1
    refine good_pure c ?_ h3
    have : (⟨l'⟩ : Array Value)[i]? = some v' := by simpa using h2
    show (match (⟨l'⟩ : Array Value)[i]? with | some v => pure v | none => stuck _ : Sem Value).run P w = _
    rw [this]; rfl

theorem iface_ok {t : TypeId} (hn : notIface P t = true) : Ok1 P G (ifaceV t) (fun x => valN (Instr.makeInterface t x)) := by
  intro a hp v hp' h ρ w N a' c ha hN
  cases h
  refine good_pure c ?_ (.iface t _ _ ha)
  unfold notIface at hn
  unfold Instr.makeInterface
  split at hn <;> try (simp only [reduceCtorEq] at hn)
  rename_i d hne hu
  rw [Sem.run_bind, run_underlying hu]
  cases d <;> first | rfl | exact absurd rfl (hne _)

theorem nil_ok : Ok1 P G nilV (fun x => match x with
    | .pointer none | .nilIface | .nilFunc => runtimePanic .nilDeref
    | .func (.method name) first captured =>
      match (first[0]? : Option Value) with
      | some .nilIface => runtimePanic .nilDeref
      | some (.iface t w) => do
        if (← nilAhead ((← program).types.size + Made.depth) t w name) != some false then
          unsupported (.noEntry "op/nilCheck.the method's receiver behind this interface value is a nil pointer, or cannot be seen to be none, and the arguments act or may panic (ledger 612)")
        pure (.value (.func (.method name) first captured))
      | _ => pure (.value (.func (.method name) first captured))
    | x => pure (.value x)) := by
  intro a hp v hp' h ρ w N a' c ha hN
  unfold nilV at h
  split at h <;> cases h
  · have ha' := ha
    cases ha
    exact ⟨_, _, ρ, w, rfl, .inl rfl, ha', .refl c.sat⟩
  · have ha' := ha
    cases ha
    exact ⟨_, _, ρ, w, rfl, .inl rfl, ha', .refl c.sat⟩
  · have ha' := ha
    cases ha
    exact ⟨_, _, ρ, w, rfl, .inl rfl, ha', .refl c.sat⟩

theorem failed_ok {t : TypeId} {ok : Bool} {v : Value} (h : failed P t ok = some v) : ok = true ∧ ∃ z, zero? P t = some z ∧ v = .tuple #[z, .bool false] ∧ pl z = true := by
  unfold failed at h
  split at h
  · rename_i z hz
    cases hp : pl z with
    | false => rw [hp] at h; cases h
    | true => rw [hp] at h; cases h; exact ⟨rfl, z, hz, rfl, hp⟩
  · cases h
theorem held_ok {v r : Value} {ok : Bool} (h : held v ok = some r) : r = if ok then .tuple #[v, .bool true] else v := by
  unfold held at h; rw [fHead_eq] at h
  cases ok <;> (cases h; rfl)

theorem typeAssert_ok {t xt : TypeId} {ok : Bool} : Ok1 P G (fun v hp => okV hp (xtypeAssert P t ok v)) (fun x => valN (Instr.typeAssert x xt t ok)) := by
  intro a hp v hp' h ρ w N a' c ha hN
  replace h := okV_ok h
  obtain ⟨h, rfl⟩ := h
  have hfail : ∀ {z : Value}, zero? P t = some z → pl z = true → VR ρ (.tuple #[z, .bool false]) (.tuple #[z, .bool false]) := fun _ hz => .tuple [_, _] [_, _] (.cons _ _ _ _ (pl_vr hz) (.cons _ _ _ _ (.bool _) .nil))
  have hheld : ∀ {u u' r : Value}, VR ρ u u' → held u ok = some r → VR ρ r (if ok then .tuple #[u', .bool true] else u') := fun hu hr => by
    rw [held_ok hr]
    cases ok with
    | false => exact hu
    | true => exact .tuple [_, _] [_, _] (.cons _ _ _ _ hu (.cons _ _ _ _ (.bool _) .nil))
  unfold xtypeAssert at h
  split at h
  · rename_i want ty u hu
    split at h <;> try (simp only [reduceCtorEq] at h)
    rename_i i hi
    cases ha with
    | iface _ _ u' hv =>
      split at h
      · rename_i hm
        refine good_pure c ?_ (hheld (.iface ty _ _ hv) h)
        unfold Instr.typeAssert
        simp only [Sem.run_bind, run_underlying hu, Result.andThen_ok, run_typeInfo _ hi, hm]
        cases ok <;> rfl
      · rename_i m hm
        replace h := failed_ok h
        obtain ⟨rfl, z, hz, rfl, hpz⟩ := h
        refine good_pure c ?_ (hfail hz hpz)
        unfold Instr.typeAssert
        simp only [Sem.run_bind, run_underlying hu, Result.andThen_ok, run_typeInfo _ hi, hm, if_true, zero_run hz, Sem.run_pure]
  · rename_i want hu
    cases ha
    replace h := failed_ok h
    obtain ⟨rfl, z, hz, rfl, hpz⟩ := h
    refine good_pure c ?_ (hfail hz hpz)
    unfold Instr.typeAssert
    simp only [Sem.run_bind, run_underlying hu, Result.andThen_ok, if_true, zero_run hz, Sem.run_pure]
  · rename_i d ty u hne hu
    cases ha with
    | iface _ _ u' hv =>
      cases he : Nat.beq ty t with
      | true =>
        rw [he] at h
        have := Nat.eq_of_beq_eq_true he
        subst this
        refine good_pure c ?_ (hheld hv h)
        unfold Instr.typeAssert
        simp only [Sem.run_bind, run_underlying hu, Result.andThen_ok]
        cases d <;> first
          | exact absurd rfl (hne _)
          | (cases ok <;> simp)
      | false =>
        rw [he] at h
        have hne2 : ¬ ty = t := fun e => by rw [e] at he; simp at he
        replace h := failed_ok h
        obtain ⟨rfl, z, hz, rfl, hpz⟩ := h
        refine good_pure c ?_ (hfail hz hpz)
        unfold Instr.typeAssert
        simp only [Sem.run_bind, run_underlying hu, Result.andThen_ok]
        cases d <;> first
          | exact absurd rfl (hne _)
          | (simp only [hne2, if_false, if_true, Sem.run_bind, zero_run hz, Result.andThen_ok, Sem.run_pure])
  · rename_i d hne hu
    cases ha
    replace h := failed_ok h
    obtain ⟨rfl, z, hz, rfl, hpz⟩ := h
    refine good_pure c ?_ (hfail hz hpz)
    unfold Instr.typeAssert
    simp only [Sem.run_bind, run_underlying hu, Result.andThen_ok]
    cases d <;> first
      | exact absurd rfl (hne _)
      | (simp only [if_true, Sem.run_bind, zero_run hz, Result.andThen_ok, Sem.run_pure])
  · cases h
end Go.Proofs.YtjdkfdhfodmbeaaDoor.Ax
