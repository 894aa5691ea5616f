/- An executor of closed runs: what its operations say of a world (8). -/
import Derived.Test.YtjdkfdhfodmbeaaDoorAxM
import Derived.RangeFuncRecord
namespace Go.Proofs.YtjdkfdhfodmbeaaDoor.Ax
open Go
variable {P : Program} {G : Nat}

theorem appK_eq (l : List Value) : ∀ (cs : List Value) (k : List Value → R), appK cs l k = k (cs ++ l)
  | [], k => rfl
  | v :: cs, k => by
    show appK cs l (fun r => k (v :: r)) = _
    rw [appK_eq l cs]; rfl

theorem setSome_getElem {z : List Value} {k : Nat} {c : Array Value} (h : c[k]? = z[k]?) : c[k]? = z[k]? := h

/-- A value built of its fields. -/
theorem flat_ok {ρ : Rho} {z : List Value} (hz : all1 z = true) (tm : T Value) (ev : Operand → Value) (place : Nat → Option (Nat × Nat)) : ∀ (fs : List Field) (j off : Nat) (ps : List (Nat × Operand)) (h : T Value → (List Value → R) → R),
    flatBx P z fs j off ps = some (.mk h) →
    (∀ (m : Nat) (fd : Field) (n : Nat), fs[m]? = some fd → size? P fd.type = some n → place (j + m) = some (fd.offset, n)) →
    (∀ x ∈ ps, VR ρ (evA tm x.2) (ev x.2)) → ∀ (k : List Value → R) (v : Value) (hp' : Hp), h tm k = .ok v hp' →
    off ≤ z.length ∧ ∃ L, k L = .ok v hp' ∧ (∀ u ∈ L, oneC u = true) ∧ ∀ c : Array Value, c.size = z.length → (∀ i, off ≤ i → c[i]? = z[i]?) →
      ∃ (c' : Array Value) (L' : List Value), Instr.fill place c (ps.map fun x => (x.1, ev x.2)) = some c' ∧ c'.size = c.size ∧ LR ρ L L' ∧ L.length = z.length - off ∧ (∀ i, c'[i]? = if i < off then c[i]? else L'[i - off]?)
  | [], j, off, ps, h, hf, hpl, hv, k, v, hp', hr => by
    cases ps with
    | cons x l => cases hf
    | nil =>
      have hf' : pick (Nat.beq off z.length) (some (LBx.mk fun _ k => k [])) none = some (.mk h) := hf
      cases hb : Nat.beq off z.length with
      | false => rw [hb] at hf'; cases hf'
      | true =>
        rw [hb] at hf'
        cases hf'
        have hoff := Nat.eq_of_beq_eq_true hb
        refine ⟨Nat.le_of_eq hoff, [], hr, (fun u hu => by cases hu), fun c hc hcz => ⟨c, [], rfl, rfl, .nil, by simp [hoff], fun i => ?_⟩⟩
        by_cases hi : i < off
        · rw [if_pos hi]
        · rw [if_neg hi]
          rw [Array.getElem?_eq_none (by omega)]; simp
  | fd :: fs, j, off, ps, h, hf, hpl, hv, k, v, hp', hr => by
    have hf' : pick (Nat.beq fd.offset off)
      (match size? P fd.type with
      | some n => match ps with
        | (i, x) :: ps' => pick (Nat.beq i j)
          (onSome (flatBx P z fs (j + 1) (off + n) ps') none fun h => pieceBx (kindT P fd.type) x h)
          (onSome (flatBx P z fs (j + 1) (off + n) ((i, x) :: ps')) none fun h => zeroBx ((z.drop off).take n) h)
        | [] => onSome (flatBx P z fs (j + 1) (off + n) []) none fun h => zeroBx ((z.drop off).take n) h
      | none => none) none = some (.mk h) := by cases ps <;> exact hf
    cases hb : Nat.beq fd.offset off with
    | false => rw [hb] at hf'; cases hf'
    | true =>
      rw [hb] at hf'
      have hoff := Nat.eq_of_beq_eq_true hb
      cases hs : size? P fd.type with
      | none => rw [hs] at hf'; cases hf'
      | some n =>
        rw [hs] at hf'
        have hpl' : ∀ (m : Nat) (fd : Field) (n : Nat), fs[m]? = some fd → size? P fd.type = some n → place (j + 1 + m) = some (fd.offset, n) := fun m fd' n' h1 h2 => by
          have := hpl (m + 1) fd' n' (by simpa using h1) h2
          rwa [show j + (m + 1) = j + 1 + m by omega] at this
        -- cells of the zero
        have zeroCase : ∀ ps' : List (Nat × Operand), (∀ x ∈ ps', VR ρ (evA tm x.2) (ev x.2)) → (onSome (flatBx P z fs (j + 1) (off + n) ps') none fun h => zeroBx ((z.drop off).take n) h) = some (.mk h) →
            off ≤ z.length ∧ ∃ L, k L = .ok v hp' ∧ (∀ u ∈ L, oneC u = true) ∧ ∀ c : Array Value, c.size = z.length → (∀ i, off ≤ i → c[i]? = z[i]?) →
            ∃ (c' : Array Value) (L' : List Value), Instr.fill place c (ps'.map fun x => (x.1, ev x.2)) = some c' ∧ c'.size = c.size ∧ LR ρ L L' ∧ L.length = z.length - off ∧ (∀ i, c'[i]? = if i < off then c[i]? else L'[i - off]?) := by
          intro ps' hv' hh
          cases hfl : flatBx P z fs (j + 1) (off + n) ps' with
          | none => rw [hfl] at hh; cases hh
          | some hb2 =>
            obtain ⟨g⟩ := hb2
            rw [hfl] at hh
            have hh' : fHeads ((z.drop off).take n) (fun zl => some (LBx.mk fun tm k => g tm fun l => appK zl l k)) = some (.mk h) := hh
            rw [fHeads_eq] at hh'
            cases hh'
            have hr' : g tm (fun l => appK ((z.drop off).take n) l k) = .ok v hp' := hr
            obtain ⟨hle, L, h1, h2, h3⟩ := flat_ok hz tm ev place fs (j + 1) (off + n) ps' g hfl hpl' hv' _ v hp' hr'
            rw [appK_eq] at h1
            have hzl : ((z.drop off).take n).length = n := by simp; omega
            have hz1 : ∀ u ∈ (z.drop off).take n, pl1 u = true := fun u hu => all1_mem hz u (List.mem_of_mem_drop (List.mem_of_mem_take hu))
            refine ⟨by omega, (z.drop off).take n ++ L, h1, fun u hu => (List.mem_append.1 hu).elim (fun hu => pl1_one (hz1 u hu)) (h2 u), fun c hc hcz => ?_⟩
            obtain ⟨c', L', g1, g2, g3, g4, g5⟩ := h3 c hc fun i hi => hcz i (by omega)
            refine ⟨c', (z.drop off).take n ++ L', g1, g2, .append ?_ g3, by rw [List.length_append, hzl, g4]; omega, fun i => ?_⟩
            · exact .of_get rfl fun i u hi => ⟨u, hi, pl1_vr (hz1 u (List.mem_of_getElem? hi))⟩
            · rw [g5]
              by_cases h6 : i < off
              · rw [if_pos (by omega), if_pos h6]
              · rw [if_neg h6]
                by_cases h7 : i < off + n
                · rw [if_pos h7, hcz i (by omega), List.getElem?_append_left (by rw [hzl]; omega)]
                  rw [List.getElem?_take, if_pos (by omega), List.getElem?_drop]
                  congr 1; omega
                · rw [if_neg h7, List.getElem?_append_right (by rw [hzl]; omega), hzl]
                  congr 1; omega
        cases ps with
        | nil => exact zeroCase [] (fun x hx => by cases hx) hf'
        | cons y ps' =>
          obtain ⟨i, x⟩ := y
          cases hij : Nat.beq i j with
          | false =>
            have hf2 : (onSome (flatBx P z fs (j + 1) (off + n) ((i, x) :: ps')) none fun h => zeroBx ((z.drop off).take n) h) = some (.mk h) := by
              have := hf'
              simp only [hij, pick_true, pick_false] at this
              exact this
            exact zeroCase _ hv hf2
          | true =>
            have hij' := Nat.eq_of_beq_eq_true hij
            subst hij'
            have hf2 : (onSome (flatBx P z fs (i + 1) (off + n) ps') none fun h => pieceBx (kindT P fd.type) x h) = some (.mk h) := by
              have := hf'
              simp only [hij, pick_true] at this
              exact this
            cases hfl : flatBx P z fs (i + 1) (off + n) ps' with
            | none => rw [hfl] at hf2; cases hf2
            | some hb2 =>
              obtain ⟨g⟩ := hb2
              rw [hfl] at hf2
              have hf3 : pieceBx (kindT P fd.type) x (.mk g) = some (.mk h) := hf2
              obtain ⟨gx, ex, sx⟩ := opBx_spec x
              have hvx := hv (i, x) (List.mem_cons_self ..)
              have hplace : place i = some (off, n) := by
                have := hpl 0 fd n rfl hs
                rw [Nat.add_zero, hoff] at this
                exact this
              -- what both kinds of pieces give
              have fin : ∀ cs : List Value, cellsOf (evA tm x) = cs → cs.length = n → (∀ u ∈ cs, oneC u = true) → g tm (fun l => k (cs ++ l)) = .ok v hp' →
                  off ≤ z.length ∧ ∃ L, k L = .ok v hp' ∧ (∀ u ∈ L, oneC u = true) ∧ ∀ c : Array Value, c.size = z.length → (∀ i, off ≤ i → c[i]? = z[i]?) →
                  ∃ (c' : Array Value) (L' : List Value), Instr.fill place c (((i, x) :: ps').map fun x => (x.1, ev x.2)) = some c' ∧ c'.size = c.size ∧ LR ρ L L' ∧ L.length = z.length - off ∧ (∀ i, c'[i]? = if i < off then c[i]? else L'[i - off]?) := by
                intro cs hcs hlen hone hg
                obtain ⟨hle, L, h1, h2, h3⟩ := flat_ok hz tm ev place fs (i + 1) (off + n) ps' g hfl hpl' (fun y hy => hv y (List.mem_cons_of_mem _ hy)) _ v hp' hg
                have hl : LR ρ cs (ev x).cells.toList := by rw [← hcs]; exact hvx.cells
                refine ⟨by omega, cs ++ L, h1, fun u hu => (List.mem_append.1 hu).elim (hone u) (h2 u), fun c hc hcz => ?_⟩
                obtain ⟨c1, e1, e2, e3⟩ := fill_cons (place := place) (c := c) (i := i) (v := ev x) (rest := ps'.map fun x => (x.1, ev x.2)) hplace (by rw [← hlen, hl.length]; simp) (by omega)
                obtain ⟨c', L', g1, g2, g3, g4, g5⟩ := h3 c1 (by rw [e2]; exact hc) fun m hm => by rw [e3, if_neg (by omega)]; exact hcz m (by omega)
                refine ⟨c', (ev x).cells.toList ++ L', by rw [List.map_cons, e1]; exact g1, by rw [g2, e2], hl.append g3, by rw [List.length_append, hlen, g4]; omega, fun m => ?_⟩
                have hl2 : (ev x).cells.toList.length = n := by rw [← hl.length, hlen]
                rw [g5]
                by_cases h6 : m < off
                · rw [if_pos (by omega), if_pos h6, e3, if_neg (by omega)]
                · rw [if_neg h6]
                  by_cases h7 : m < off + n
                  · rw [if_pos h7, e3, if_pos (by omega), List.getElem?_append_left (by omega)]
                  · rw [if_neg h7, List.getElem?_append_right (by omega), hl2]
                    congr 1; omega
              unfold pieceBx at hf3
              rw [ex] at hf3
              cases hk : kindT P fd.type with
              | bad => rw [hk] at hf3; cases hf3
              | agg n' =>
                rw [hk] at hf3
                cases hf3
                have hn' : n' = n := by have := (kind_agg hk).2; rw [hs] at this; exact (Option.some.inj this).symm
                subst hn'
                have hr' : g tm (fun l => gx tm fun v => pieceAgg n' v k l) = .ok v hp' := hr
                have conv : (fun l => gx tm fun v => pieceAgg n' v k l) = fun l => pieceAgg n' (evA tm x) k l := funext fun l => sx _ _
                rw [conv] at hr'
                cases hagg : isAggV (evA tm x) with
                | some cs =>
                  have hx := isAggV_some hagg
                  rw [hx] at hvx hr'
                  have hcs : cellsOf (evA tm x) = cs := by rw [hx]; rfl
                  have conv2 : (fun l => pieceAgg n' (.agg ⟨cs⟩) k l) = fun l => pick (Nat.beq cs.length n') (k (cs ++ l)) .no := funext fun l => by
                    show pick (Nat.beq cs.length n') (appK cs l k) .no = _
                    rw [appK_eq]
                  rw [conv2] at hr'
                  cases hbl : Nat.beq cs.length n' with
                  | false =>
                    rw [hbl] at hr'
                    obtain ⟨_, L, h1, _⟩ := flat_ok hz tm ev place fs (i + 1) (off + n') ps' g hfl hpl' (fun y hy => hv y (List.mem_cons_of_mem _ hy)) _ v hp' hr'
                    cases h1
                  | true =>
                    rw [hbl] at hr'
                    have hone : ∀ u ∈ cs, oneC u = true := by
                      generalize ev (i, x).2 = y at hvx
                      cases hvx with
                      | agg _ _ h1 _ => exact h1
                    exact fin cs hcs (Nat.eq_of_beq_eq_true hbl) hone hr'
                | none =>
                  have conv2 : (fun l => pieceAgg n' (evA tm x) k l) = fun _ => .no := funext fun l => by
                    unfold pieceAgg
                    generalize evA tm x = y at hagg
                    cases y <;> first | rfl | cases hagg
                  rw [conv2] at hr'
                  obtain ⟨_, L, h1, _⟩ := flat_ok hz tm ev place fs (i + 1) (off + n') ps' g hfl hpl' (fun y hy => hv y (List.mem_cons_of_mem _ hy)) _ v hp' hr'
                  cases h1
              | one =>
                rw [hk] at hf3
                cases hf3
                have hn' : n = 1 := by have := (kind_one hk).2; rw [hs] at this; exact Option.some.inj this
                subst hn'
                have hr' : g tm (fun l => gx tm fun v => pieceOne v k l) = .ok v hp' := hr
                have conv : (fun l => gx tm fun v => pieceOne v k l) = fun l => pick (oneC (evA tm x)) (k ([evA tm x] ++ l)) .no := funext fun l => sx _ _
                rw [conv] at hr'
                cases ho : oneC (evA tm x) with
                | false =>
                  rw [ho] at hr'
                  obtain ⟨_, L, h1, _⟩ := flat_ok hz tm ev place fs (i + 1) (off + 1) ps' g hfl hpl' (fun y hy => hv y (List.mem_cons_of_mem _ hy)) _ v hp' hr'
                  cases h1
                | true =>
                  rw [ho] at hr'
                  have hcs : cellsOf (evA tm x) = [evA tm x] := by
                    generalize evA tm x = y at ho
                    cases y <;> first | rfl | cases ho
                  exact fin _ hcs rfl (fun u hu => by rw [List.mem_singleton.1 hu]; exact ho) hr'

theorem places_run : ∀ (fs : List Field) (w : World), (∀ fd ∈ fs, ∃ n, size? P fd.type = some n) →
    (fs.mapM (m := Sem) fun f => do pure (f.offset, ← sizeOf f.type)).run P w = .ok (fs.map fun f => (f.offset, (size? P f.type).getD 0)) w
  | [], w, _ => rfl
  | fd :: fs, w, h => by
    obtain ⟨n, hn⟩ := h fd (List.mem_cons_self ..)
    rw [List.mapM_cons, Sem.run_bind, Sem.run_bind, sizeOf_run hn]
    simp only [Result.andThen_ok, Sem.run_pure]
    rw [Sem.run_bind, places_run fs w fun f hf => h f (List.mem_cons_of_mem _ hf)]
    simp [hn]

theorem flat_sizes {z : List Value} : ∀ (fs : List Field) (j off : Nat) (ps : List (Nat × Operand)) (h : LBx R), flatBx P z fs j off ps = some h → ∀ fd ∈ fs, ∃ n, size? P fd.type = some n
  | [], _, _, _, _, _, fd, hfd => by cases hfd
  | fd :: fs, j, off, ps, h, hf, fd', hfd => by
    have hf' : pick (Nat.beq fd.offset off)
      (match size? P fd.type with
      | some n => match ps with
        | (i, x) :: ps' => pick (Nat.beq i j)
          (onSome (flatBx P z fs (j + 1) (off + n) ps') none fun h => pieceBx (kindT P fd.type) x h)
          (onSome (flatBx P z fs (j + 1) (off + n) ((i, x) :: ps')) none fun h => zeroBx ((z.drop off).take n) h)
        | [] => onSome (flatBx P z fs (j + 1) (off + n) []) none fun h => zeroBx ((z.drop off).take n) h
      | none => none) none = some h := by cases ps <;> exact hf
    cases hb : Nat.beq fd.offset off with
    | false => rw [hb] at hf'; cases hf'
    | true =>
      rw [hb] at hf'
      cases hs : size? P fd.type with
      | none => rw [hs] at hf'; cases hf'
      | some n =>
        rcases List.mem_cons.1 hfd with rfl | hfd
        · exact ⟨n, hs⟩
        · rw [hs] at hf'
          have some_of : ∀ (ps' : List (Nat × Operand)) (k : LBx R → Option (LBx R)), onSome (flatBx P z fs (j + 1) (off + n) ps') none k = some h → ∃ n, size? P fd'.type = some n := fun ps' k hk => by
            cases hfl : flatBx P z fs (j + 1) (off + n) ps' with
            | none => rw [hfl] at hk; cases hk
            | some g => exact flat_sizes fs (j + 1) (off + n) ps' g hfl fd' hfd
          cases ps with
          | nil => exact some_of _ _ hf'
          | cons y ps' =>
            obtain ⟨i, x⟩ := y
            cases hij : Nat.beq i j with
            | true => simp only [hij, pick_true] at hf'; exact some_of _ _ hf'
            | false => simp only [hij, pick_true, pick_false] at hf'; exact some_of _ _ hf'

/-- A value of an array type, built of parts. -/
theorem arr_ok {o : Oper} {t e : TypeId} {len size : Nat} {z : List Value} {ps : Array (Nat × Operand)} (hps : ∀ x ∈ ps.toList, x.2 ∈ o.op.operands) (he : ∀ ev, execOp ev o = valN (Instr.build t (ps.map fun (i, x) => (i, ev x))))
    (hu : P.underlying t = some (.array len e)) (hz : zeroL P t = some z) (hs : size? P e = some size) {f : T Value → Hp → R}
    (h : (cond (Nat.ble 1 size && Nat.beq z.length (Nat.mul len size) && bnd len ps.toList) (match T.putList z .leaf 0 fun ct => fNat z.length fun n => TBx.mk ct n with | .mk ct n => Bx.op fun tm hp => arrParts size n ct (opd2 tm ps.toList) hp) .bad) = .op f) : BxOk P G o f := by
  rw [T.putList_eq, fNat_eq] at h
  cases hc : (Nat.ble 1 size && Nat.beq z.length (Nat.mul len size) && bnd len ps.toList) with
  | false => rw [hc] at h; cases h
  | true =>
    rw [hc] at h
    cases h
    simp only [Bool.and_eq_true, Nat.ble_eq] at hc
    obtain ⟨⟨h1, h2⟩, h3⟩ := hc
    have hzl : z.length = len * size := Nat.eq_of_beq_eq_true h2
    intro tm hp v hp' hr ρ w N ev c hev hN
    rw [he]
    replace hr : arrParts size z.length (T.setList z .leaf 0) (opd2 tm ps.toList) hp = .ok v hp' := hr
    unfold arrParts at hr
    rw [fParts_eq] at hr
    obtain ⟨zv, hz1, hz2, hz3⟩ := zeroL_some hz
    have hzc : zv.cells = ⟨z⟩ := by rw [cells_of_all1 (by rw [hz2]; exact hz3), hz2]
    obtain ⟨t', c', g1, g2, g3, g4⟩ := fill_ok (ρ := ρ) (len := len) tm ev (by omega) ps.toList (T.setList z .leaf 0) ⟨z⟩ _ v hp' (fun x hx => hev x.2 (hps x hx)) (bnd_mem h3) (by simpa using hzl) (fun i u hu => by
      have hg := get_list_leaf z i u hu
      have hp1 := all1_mem hz3 u (List.mem_of_getElem? hg)
      exact ⟨pl1_one hp1, u, by simpa using hg, pl1_vr hp1⟩) hr
    replace g1 := onSome_ok g1
    obtain ⟨l, hl, g1⟩ := g1
    cases g1
    obtain ⟨hlen, hget⟩ := readCells_spec t' z.length 0 l hl
    have hsz : c'.size = z.length := by rw [g3]; simp
    have at_ : ∀ i (hi : i < l.length), t'.get i = some l[i] := fun i hi => by
      have := hget i (by omega)
      rw [Nat.zero_add] at this
      rw [this]; exact List.getElem?_eq_getElem hi
    refine good_pure c (v' := .agg c') ?_ (.agg l c'.toList (fun u hm => ?_) (.of_get (by simp [hlen, hsz]) fun i u hi => ?_))
    · unfold Instr.build
      rw [Sem.run_bind, zero_run hz1]
      simp only [Result.andThen_ok, hzc]
      rw [Sem.run_bind, run_underlying hu]
      simp only [Result.andThen_ok]
      rw [Sem.run_bind, sizeOf_run hs]
      simp only [Result.andThen_ok]
      have : (ps.map fun (x : Nat × Operand) => (x.1, ev x.2)).toList = ps.toList.map fun x => (x.1, ev x.2) := by simp
      rw [this, g2]
      rfl
    · obtain ⟨i, hi, rfl⟩ := List.mem_iff_getElem.1 hm
      exact (g4 i _ (at_ i hi)).1
    · have hi' := (List.getElem?_eq_some_iff.1 hi).1
      have hu' := (List.getElem?_eq_some_iff.1 hi).2
      obtain ⟨_, u', k1, k2⟩ := g4 i _ (at_ i hi')
      rw [hu'] at k2
      exact ⟨u', by simpa using k1, k2⟩

theorem bxBuild_ok {o : Oper} {t : TypeId} {ps : Array (Nat × Operand)} (ho : o.op = .build t ps) {f : T Value → Hp → R} (h : bxBuild P t ps.toList = .op f) : BxOk P G o f := by
  have hps : ∀ x ∈ ps.toList, x.2 ∈ o.op.operands := by
    intro x hx
    rw [ho]
    simp [Op.operands]
    exact ⟨x.1, by simpa using hx⟩
  have he : ∀ ev, execOp ev o = valN (Instr.build t (ps.map fun (i, x) => (i, ev x))) := fun ev => by unfold execOp; rw [ho]; rfl
  unfold bxBuild at h
  split at h <;> try (simp only [reduceCtorEq] at h)
  rotate_left
  · rename_i len e z hu hz
    split at h <;> try (simp only [reduceCtorEq] at h)
    rename_i size hs
    exact arr_ok hps he hu hz hs h
  rename_i fs z hu hz
  split at h <;> try (simp only [reduceCtorEq] at h)
  rename_i g hfl
  cases h
  intro tm hp v hp' hr ρ w N ev c hev hN
  rw [he]
  obtain ⟨zv, hz1, hz2, hz3⟩ := zeroL_some hz
  have hzc : zv.cells = ⟨z⟩ := by rw [cells_of_all1 (by rw [hz2]; exact hz3), hz2]
  let places : Array (Nat × Nat) := (fs.toList.map fun f => (f.offset, (size? P f.type).getD 0)).toArray
  replace hr : g tm (fun l => .ok (.agg ⟨l⟩) hp) = .ok v hp' := hr
  obtain ⟨_, L, h1, h2, h3⟩ := flat_ok (ρ := ρ) hz3 tm ev (places[·]?) fs.toList 0 0 ps.toList g hfl (fun m fd n hm hn => by
    simp only [Nat.zero_add]
    show (fs.toList.map fun f => (f.offset, (size? P f.type).getD 0)).toArray[m]? = _
    simp only [List.getElem?_toArray, List.getElem?_map, hm, Option.map_some, hn, Option.getD_some]) (fun x hx => hev x.2 (hps x hx)) _ v hp' hr
  cases h1
  obtain ⟨c', L', g1, g2, g3, g4, g5⟩ := h3 ⟨z⟩ (by simp) (fun i _ => by simp)
  have hc : c' = ⟨L'⟩ := by
    apply Array.ext'
    apply List.ext_getElem?
    intro i
    have := g5 i
    rw [if_neg (by omega), Nat.sub_zero] at this
    simpa using this
  refine good_pure c (v' := .agg ⟨L'⟩) ?_ (.agg _ _ h2 g3)
  unfold Instr.build
  rw [Sem.run_bind, zero_run hz1]
  simp only [Result.andThen_ok, hzc]
  rw [Sem.run_bind, run_underlying hu]
  simp only [Result.andThen_ok]
  rw [Sem.run_bind, Array.mapM_eq_mapM_toList, Sem.run_map, places_run fs.toList w (flat_sizes _ _ _ _ _ hfl)]
  simp only [Result.andThen_ok]
  have : (ps.map fun (x : Nat × Operand) => (x.1, ev x.2)).toList = ps.toList.map fun x => (x.1, ev x.2) := by simp
  rw [this]
  have g1' : Instr.fill (fun x => (fs.toList.map fun f => (f.offset, (size? P f.type).getD 0)).toArray[x]?) ⟨z⟩ (ps.toList.map fun x => (x.1, ev x.2)) = some c' := g1
  rw [g1', hc]
  rfl

/-! Builtins that write. -/
theorem repL_length (zl : List Value) : ∀ n, (repL zl n).length = n * zl.length
  | 0 => by simp [repL]
  | n + 1 => by rw [repL, List.length_append, repL_length zl n, Nat.add_mul, Nat.one_mul, Nat.add_comm]
theorem repL_get (zl : List Value) (h0 : 0 < zl.length) : ∀ (n i : Nat), i < n * zl.length → (repL zl n)[i]? = zl[i % zl.length]?
  | 0, i, h => by rw [Nat.zero_mul] at h; omega
  | n + 1, i, h => by
    rw [repL]
    by_cases hi : i < zl.length
    · rw [List.getElem?_append_left hi, Nat.mod_eq_of_lt hi]
    · rw [List.getElem?_append_right (by omega), repL_get zl h0 n _ (by rw [Nat.add_mul, Nat.one_mul] at h; omega)]
      rw [← Nat.mod_eq_sub_mod (by omega)]
theorem repL_mem {zl : List Value} {u : Value} : ∀ {n : Nat}, u ∈ repL zl n → u ∈ zl
  | 0, h => by cases h
  | n + 1, h => (List.mem_append.1 h).elim id repL_mem

theorem zeroCells_list {z : Value} {zl : List Value} (hz : z.cells = ⟨zl⟩) (h0 : 0 < zl.length) (n : Nat) : (Builtin.zeroCells z.cells n).toList = repL zl n := by
  apply List.ext_getElem?
  intro i
  by_cases hi : i < n * zl.length
  · rw [repL_get zl h0 n i hi]
    have hm : i % zl.length < zl.length := Nat.mod_lt _ h0
    have : (Builtin.zeroCells z.cells n).toList[i]? = some (z.cells[i % z.cells.size]!) := by
      unfold Builtin.zeroCells
      have hs : z.cells.size = zl.length := by rw [hz]; rfl
      simp [hs, hi]
    rw [this, hz]
    simp [hm]
  · have h1 : (repL zl n)[i]? = none := List.getElem?_eq_none (by rw [repL_length]; omega)
    have h2 : (Builtin.zeroCells z.cells n).size = n * zl.length := by rw [size_zeroCells, hz]; rfl
    have h3 : (Builtin.zeroCells z.cells n).toList[i]? = none := List.getElem?_eq_none (by rw [Array.length_toList]; omega)
    rw [h1, h3]

theorem clear_ok {t e ty : TypeId} {zl : List Value} (hu : P.underlying t = some (.slice e)) (hz : zeroL P e = some zl) (h0 : 1 ≤ zl.length) : Ok1 P G (xclear zl) (fun x => valN (Builtin.clear_ #[t] ty #[x])) := by
  intro a hp v hp' h ρ w N a' c ha hN
  unfold xclear at h
  replace h := onSlice_ok h
  obtain ⟨base, n, cap, rfl, h⟩ := h
  obtain ⟨z, hz1, hz2, hz3⟩ := zeroL_some hz
  have hzc : z.cells = ⟨zl⟩ := by rw [cells_of_all1 (by rw [hz2]; exact hz3), hz2]
  have still : ∀ x : Value, ((∃ l c, x = .slice none l c) ∨ ∃ q c, x = .slice q 0 c) → (Builtin.clear_ #[t] ty #[x]).run P w = .ok undef w := by
    intro x hx
    have nilCase : ∀ l cc, (Builtin.clear_ #[t] ty #[.slice none l cc]).run P w = .ok undef w := fun l cc => by
      show ((underlying t >>= fun d => (match d, Value.slice none l cc with
        | _, .map none | _, .slice none _ _ | _, .slice _ 0 _ => (pure () : Sem Unit)
        | _, .map (some r) => do
          let .map _ clock ← getObj r | stuck "clear: map expected"
          setObj r (.map #[] clock)
        | .slice elem, .slice (some a) n _ => do storeCells a (Builtin.zeroCells (← zeroValue elem).cells n).toList
        | _, _ => stuck "clear: map or slice expected") >>= fun _ => pure (.tuple #[])) : Sem Value).run P w = _
      rw [Sem.run_bind, run_underlying hu]
      rfl
    rcases hx with ⟨l, cc, rfl⟩ | ⟨q, cc, rfl⟩
    · exact nilCase l cc
    · cases q with
      | none => exact nilCase 0 cc
      | some q =>
        show ((underlying t >>= fun d => (match d, Value.slice (some q) 0 cc with
          | _, .map none | _, .slice none _ _ | _, .slice _ 0 _ => (pure () : Sem Unit)
          | _, .map (some r) => do
            let .map _ clock ← getObj r | stuck "clear: map expected"
            setObj r (.map #[] clock)
          | .slice elem, .slice (some a) n _ => do storeCells a (Builtin.zeroCells (← zeroValue elem).cells n).toList
          | _, _ => stuck "clear: map or slice expected") >>= fun _ => pure (.tuple #[])) : Sem Value).run P w = _
        rw [Sem.run_bind, run_underlying hu]
        rfl
  cases base with
  | none =>
    cases h
    cases ha
    exact good_pure c (still _ (.inl ⟨_, _, rfl⟩)) .undef
  | some q =>
    replace h : onAddr q R.no (fun b o => pick (Nat.beq n 0) (R.ok undef hp) (xwrite hp b o (repL zl n) R.no fun hp => R.ok undef hp)) = R.ok v hp' := h
    replace h := onAddr_ok h
    obtain ⟨b, o, rfl, h⟩ := h
    cases hn : Nat.beq n 0 with
    | true =>
      rw [hn] at h
      cases h
      have := Nat.eq_of_beq_eq_true hn
      subst this
      cases ha <;> exact good_pure c (still _ (.inr ⟨_, _, rfl⟩)) .undef
    | false =>
      rw [hn] at h
      replace h : xwrite hp b o (repL zl n) R.no (fun hp => R.ok undef hp) = R.ok v hp' := h
      have hn0 : 0 < n := by
        cases n with
        | zero => cases hn
        | succ n => omega
      unfold xwrite at h
      replace h := onCells_ok h
      obtain ⟨ct, m, e', hv, h⟩ := h
      replace h := pick_ok h
      obtain ⟨hle, h⟩ := h
      rw [T.putList_eq, Hp.set_eq] at h
      cases h
      rw [Nat.ble_eq] at hle
      have hall : LR ρ (repL zl n) (repL zl n) := .of_get rfl fun i u hi => ⟨u, hi, pl1_vr (all1_mem hz3 u (repL_mem (List.mem_of_getElem? hi)))⟩
      obtain ⟨w', r1, r2⟩ := write_cells c.sat hv hall (fun u hm => pl1_one (all1_mem hz3 u (repL_mem hm))) hle
      have run : ∀ cp : Nat, (Builtin.clear_ #[t] ty #[.slice (some ⟨ρ.blk b, ρ.sh b + o, none⟩) n cp]).run P w = .ok undef w' := by
        intro cp
        obtain ⟨n', rfl⟩ : ∃ n', n = n' + 1 := ⟨n - 1, by omega⟩
        have hz' := zero_run (P := P) hz1 w
        have hc' := zeroCells_list hzc h0 (n' + 1)
        simp [Builtin.clear_, Sem.run_bind, run_underlying hu, hz', hc', r1]
        rfl
      cases ha with
      | slice _ _ _ _ hok hc => exact ⟨_, _, ρ, w', run_valN (run _), .inl rfl, .undef, r2⟩
      | openS _ _ _ x cp hok g1 g2 g3 g4 =>
        have := g3 hn0
        subst this
        exact ⟨_, _, ρ, w', run_valN (run _), .inl rfl, .undef, r2⟩

theorem copy_ok {t xt e ty : TypeId} {size : Nat} (hu : P.underlying t = some (.slice e)) (hs : size? P e = some size) : Ok2 P G (xcopy size) (fun d x => valN (Builtin.copy_ #[t, xt] ty #[d, x])) := by
  intro a b hp v hp' h ρ w N a' b' c ha hb hN
  unfold xcopy at h
  replace h := onSlice_ok h
  obtain ⟨base, dLen, cap, rfl, h⟩ := h
  replace h := onSome_ok h
  obtain ⟨sl, hsl, h⟩ := h
  rw [fNat_eq] at h
  replace h := onSome_ok h
  obtain ⟨l, hl, h⟩ := h
  have hmin : pick (Nat.ble sl dLen) sl dLen = Nat.min sl dLen := by
    cases hb' : Nat.ble sl dLen with
    | true => have := Nat.le_of_ble_eq_true hb'; rw [pick_true]; exact (Nat.min_eq_left this).symm
    | false =>
      have : ¬ sl ≤ dLen := fun h' => by rw [Nat.ble_eq_true_of_le h'] at hb'; cases hb'
      rw [pick_false]; exact (Nat.min_eq_right (by omega)).symm
  rw [hmin] at h hl
  obtain ⟨l', h1, h2, h3, hrun⟩ := first_ok c.sat hb hl ⟨sl, hsl, Nat.min_le_left _ _⟩
  have hlr := goInt_len (P := P) hsl hb w
  have hrun := hrun w rfl
  have run0 : ∀ (q : Option Addr) (cp : Nat) (w' : World), ((match q with | some a => storeCells a l' | none => pure ()) : Sem Unit).run P w = .ok () w' → (Builtin.copy_ #[t, xt] ty #[.slice q dLen cp, b']).run P w = .ok (.int .i64 (.ofNat (Nat.min sl dLen))) w' := by
    intro q cp w' hq
    have : Builtin.copy_ #[t, xt] ty #[.slice q dLen cp, b'] = (do
        let .slice elem ← underlying t | stuck "copy: slice type expected"
        let n := Nat.min (← Builtin.lenOf b') dLen
        let cells ← Builtin.firstCells (← sizeOf elem) n b'
        if let some a := q then storeCells a cells.toList
        pure (goInt n)) := rfl
    rw [this, Sem.run_bind, run_underlying hu, Result.andThen_ok]
    simp only []
    rw [Sem.run_bind, hlr, Result.andThen_ok, Sem.run_bind, sizeOf_run hs, Result.andThen_ok, Sem.run_bind, hrun, Result.andThen_ok]
    cases q with
    | none =>
      cases hq
      rfl
    | some q =>
      replace hq : (storeCells q l').run P w = .ok () w' := hq
      simp only [Sem.run_bind]
      rw [hq]
      rfl
  cases base with
  | none =>
    cases h
    cases ha
    exact good_pure c (run0 none _ w rfl) (.int _ _)
  | some q =>
    replace h : onAddr q R.no (fun b o => xwrite hp b o l R.no fun hp => R.ok (intV (Nat.min sl dLen)) hp) = R.ok v hp' := h
    replace h := onAddr_ok h
    obtain ⟨bb, o, rfl, h⟩ := h
    unfold xwrite at h
    replace h := onCells_ok h
    obtain ⟨ct, m, e', hv, h⟩ := h
    replace h := pick_ok h
    obtain ⟨hle, h⟩ := h
    rw [T.putList_eq, Hp.set_eq] at h
    cases h
    rw [Nat.ble_eq] at hle
    obtain ⟨w', r1, r2⟩ := write_cells c.sat hv h1 h2 hle
    cases ha with
    | slice _ _ _ _ hok hc => exact ⟨_, _, ρ, w', run_valN (run0 (some _) _ w' r1), .inl rfl, .int _ _, r2⟩
    | openS _ _ _ x cp hok g1 g2 g3 g4 =>
      by_cases h0 : 0 < dLen
      · have := g3 h0
        subst this
        exact ⟨_, _, ρ, w', run_valN (run0 (some _) _ w' r1), .inl rfl, .int _ _, r2⟩
      · have hd : dLen = 0 := by omega
        subst hd
        have hl0 : l = [] := by
          have : l.length = Nat.min sl 0 * size := h3
          have hm : Nat.min sl 0 = 0 := Nat.min_eq_right (Nat.zero_le sl)
          rw [hm, Nat.zero_mul] at this
          exact List.eq_nil_of_length_eq_zero this
        subst hl0
        cases h1
        cases r1
        exact ⟨_, _, ρ, w, run_valN (run0 (some _) _ w rfl), .inl rfl, .int _ _, r2⟩

/-! Maps. -/
theorem run_getMap {w : World} {r : Nat} {es : Array MapEntry} {k : Nat} (h : w.heap[r]? = some (.map es k)) : (getObj r).run P w = .ok (.map es k) w := by simp [getObj, Sem.run, h]
theorem putObj_only' (w : World) (b : Nat) (o : Obj) : Only b w (w.putObj b o) :=
  ⟨by simp [World.putObj], fun j hj => World.putObj_heap_other hj, rfl, rfl, rfl⟩
theorem onMapObj_ok {o : Option AObj} {k : List MapEntry → Nat → R} {v : Value} {hp : Hp} (h : onMapObj o .no k = .ok v hp) : ∃ es c, o = some (.map es c) ∧ k es c = .ok v hp := by
  cases o with
  | none => cases h
  | some o => cases o <;> first | exact ⟨_, _, rfl, h⟩ | cases h

theorem sameNow_rel {ρ : Rho} {d : TypeDesc} {k k' e e' : Value} {b : Bool} (h : Instr.sameNow d k e = some b) (hk : VR ρ k k') (he : VR ρ e e') : k' = k ∧ e' = e := by
  unfold Instr.sameNow at h
  split at h
  · cases hk; cases he; exact ⟨rfl, rfl⟩
  · cases hk; cases he; exact ⟨rfl, rfl⟩
  · cases hk; cases he; exact ⟨rfl, rfl⟩
  · cases h

theorem ER.head {ρ : Rho} {e : MapEntry} {es es' : List MapEntry} (h : ER ρ (e :: es) es') : ∃ e' r, es' = e' :: r ∧ VR ρ e.key e'.key ∧ VR ρ e.val e'.val ∧ e'.born = e.born ∧ ER ρ es r := by
  obtain ⟨h1, h2⟩ := h
  cases es' with
  | nil => simp at h1
  | cons e' r =>
    obtain ⟨x, g1, g2, g3, g4⟩ := h2 0 e rfl
    simp at g1; subst g1
    exact ⟨_, r, rfl, g2, g3, g4, by simpa using h1, fun i y hy => by simpa using h2 (i + 1) y (by simpa using hy)⟩

theorem findNow_rel {ρ : Rho} {d : TypeDesc} {k k' : Value} (hk : VR ρ k k') : ∀ (es es' : List MapEntry) (i : Nat) (r : Option (Nat × Value)), ER ρ es es' → Instr.findNow d k es i = some r →
    (r = none ∧ Instr.findNow d k' es' i = some none) ∨ ∃ j v v', r = some (j, v) ∧ Instr.findNow d k' es' i = some (some (j, v')) ∧ VR ρ v v' ∧ i ≤ j ∧ ∃ e, es[j - i]? = some e ∧ Instr.sameNow d k e.key = some true
  | [], es', i, r, h, hf => by
    have : es' = [] := List.eq_nil_of_length_eq_zero h.1.symm
    subst this
    cases hf
    exact .inl ⟨rfl, rfl⟩
  | e :: es, es', i, r, h, hf => by
    obtain ⟨e', l, rfl, g1, g2, g3, g4⟩ := h.head
    unfold Instr.findNow at hf
    cases hs : Instr.sameNow d k e.key with
    | none => rw [hs] at hf; cases hf
    | some b =>
      obtain ⟨q1, q2⟩ := sameNow_rel hs hk g1
      have hs' : Instr.sameNow d k' e'.key = some b := by rw [q1, q2]; exact hs
      rw [hs] at hf
      unfold Instr.findNow
      rw [hs']
      cases b with
      | true =>
        cases hf
        exact .inr ⟨i, e.val, e'.val, rfl, rfl, g2, Nat.le_refl _, e, by simp, hs⟩
      | false =>
        rcases findNow_rel hk es l (i + 1) r g4 hf with h5 | ⟨j, v, v', h5, h6, h7, h8, y, h9, h10⟩
        · exact .inl h5
        · refine .inr ⟨j, v, v', h5, h6, h7, by omega, y, ?_, h10⟩
          have : j - i = (j - (i + 1)) + 1 := by omega
          rw [this]; simpa using h9

theorem nowKind_some {kt : TypeId} {d : TypeDesc} (h : nowKind P kt = some d) : P.underlying kt = some d ∧ ((∃ k, d = .int k) ∨ d = .string ∨ d = .bool) := by
  unfold nowKind at h
  split at h
  · rename_i k hu; cases h; exact ⟨hu, .inl ⟨_, rfl⟩⟩
  · rename_i hu; cases h; exact ⟨hu, .inr (.inl rfl)⟩
  · rename_i hu; cases h; exact ⟨hu, .inr (.inr rfl)⟩
  · cases h

theorem checkKey_run {kt : TypeId} {d : TypeDesc} (h : nowKind P kt = some d) (b : Bool) (v : Value) (w : World) : (Instr.checkKey b 10000 kt v).run P w = .ok () w := by
  obtain ⟨hu, hd⟩ := nowKind_some h
  show (Instr.checkKey b (9999 + 1) kt v).run P w = _
  unfold Instr.checkKey
  rw [Sem.run_bind, run_underlying hu, Result.andThen_ok]
  rcases hd with ⟨k, rfl⟩ | rfl | rfl <;> rfl

theorem findKey_run {kt : TypeId} {d : TypeDesc} (h : nowKind P kt = some d) {k : Value} {es : List MapEntry} {r : Option (Nat × Value)} (hf : Instr.findNow d k es 0 = some r) (w : World) : (Instr.findKey kt k es).run P w = .ok r w := by
  unfold Instr.findKey
  rw [Sem.run_bind, run_underlying (nowKind_some h).1, Result.andThen_ok, hf]
  rfl

theorem looked_ok {v z : Value} {b ok : Bool} {hp hp' : Hp} {ρ : Rho} {z' : Value} (h : looked z b ok hp = .ok v hp') (hz : VR ρ z z') : hp' = hp ∧ VR ρ v (if ok then .tuple #[z', .bool b] else z') := by
  unfold looked at h
  cases ok with
  | true => rw [pick_true] at h; cases h; exact ⟨rfl, .tuple _ _ (.cons _ _ _ _ hz (.cons _ _ _ _ (.bool b) .nil))⟩
  | false => rw [pick_false] at h; cases h; exact ⟨rfl, hz⟩

theorem lookup_ok {t kt et : TypeId} {d : TypeDesc} {z : Value} {ok : Bool} (hu : P.underlying t = some (.map kt et)) (hd : nowKind P kt = some d) (hz : zero? P et = some z) (hpl : pl z = true) :
    Ok2 P G (xlookup d z ok) (fun x k => valN (Instr.lookup t x k ok)) := by
  intro a k hp v hp' h ρ w N a' k' c ha hk hN
  unfold xlookup at h
  replace h := onMap_ok h
  obtain ⟨r, rfl, h⟩ := h
  -- what the entries give
  have fin : ∀ (es : List MapEntry) (es' : Array MapEntry) (x' : Value), lookIn d z ok k hp es = .ok v hp' → ER ρ es es'.toList →
      ((x' = .map none ∧ es' = #[]) ∨ ∃ q clock, x' = .map (some q) ∧ w.heap[q]? = some (.map es' clock)) → Good P G hp hp' ρ w v (valN (Instr.lookup t x' k' ok)) := by
    intro es es' x' h her hes
    unfold lookIn at h
    replace h := onSome_ok h
    obtain ⟨f, hf, h⟩ := h
    have run : ∀ (u : Value) (b : Bool) (r : Option (Nat × Value)), Instr.findNow d k' es'.toList 0 = some r → ((r = none ∧ u = z ∧ b = false) ∨ ∃ j, r = some (j, u) ∧ b = true) →
        (Instr.lookup t x' k' ok).run P w = .ok (if ok then .tuple #[u, .bool b] else u) w := by
      intro u b r hr hor
      unfold Instr.lookup
      rw [Sem.run_bind, run_underlying hu]
      simp only [Result.andThen_ok]
      have fin2 : ∀ s : Sem Value, s.run P w = ((do
          let (v, ok') ← match r with
            | some (_, v) => pure (v, true)
            | none => do pure (← zeroValue et, false)
          pure (if ok then .tuple #[v, .bool ok'] else v) : Sem Value)).run P w → s.run P w = .ok (if ok then .tuple #[u, .bool b] else u) w := by
        intro s hs
        rw [hs]
        rcases hor with ⟨rfl, rfl, rfl⟩ | ⟨j, rfl, rfl⟩
        · simp only [Sem.run_bind]
          rw [zero_run hz]
          rfl
        · rfl
      apply fin2
      rcases hes with ⟨rfl, rfl⟩ | ⟨q, clock, rfl, hh⟩
      · simp only [Sem.run_bind, Sem.run_pure, Result.andThen_ok]
        rw [checkKey_run hd]
        simp only [Result.andThen_ok]
        rw [findKey_run hd hr]
        rfl
      · simp only [Sem.run_bind]
        rw [run_getMap hh]
        simp only [Result.andThen_ok, Sem.run_bind, Sem.run_pure]
        rw [checkKey_run hd]
        simp only [Result.andThen_ok]
        rw [findKey_run hd hr]
        rfl
    rcases findNow_rel hk es es'.toList 0 f her hf with ⟨rfl, g1⟩ | ⟨j, u, u', rfl, g1, g2, _⟩
    · obtain ⟨rfl, g3⟩ := looked_ok (ρ := ρ) h (pl_vr hpl)
      exact good_pure c (run z false none g1 (.inl ⟨rfl, rfl, rfl⟩)) g3
    · obtain ⟨rfl, g3⟩ := looked_ok (ρ := ρ) h g2
      exact good_pure c (run u' true _ g1 (.inr ⟨j, rfl, rfl⟩)) g3
  cases r with
  | none =>
    cases ha
    exact fin [] #[] _ h ⟨rfl, fun i e he => by simp at he⟩ (.inl ⟨rfl, rfl⟩)
  | some r =>
    replace h := onMapObj_ok (o := hp.vis r) h
    obtain ⟨es, clock, hv, h⟩ := h
    obtain ⟨hok, hlt, es', hh, her⟩ := c.sat.vis _ _ hv
    cases ha
    exact fin es es' _ h her (.inr ⟨_, _, rfl, hh⟩)

theorem setEntry_er {ρ : Rho} {k k' v v' : Value} (hk : VR ρ k k') (hv : VR ρ v v') : ∀ (es : List MapEntry) (es' : List MapEntry) (i : Nat), ER ρ es es' → ER ρ (setEntry k v es i) (es'.modify i fun e => { e with key := k', val := v' })
  | [], es', i, h => by
    have : es' = [] := List.eq_nil_of_length_eq_zero h.1.symm
    subst this
    cases i <;> exact h
  | e :: es, es', i, h => by
    obtain ⟨e', l, rfl, g1, g2, g3, g4⟩ := h.head
    cases i with
    | zero =>
      refine ⟨by simp [setEntry, g4.1], fun j x hx => ?_⟩
      cases j with
      | zero => simp [setEntry] at hx; subst hx; exact ⟨{ e' with key := k', val := v' }, by simp, hk, hv, g3⟩
      | succ j => obtain ⟨y, h1, h2⟩ := g4.2 j x (by simpa [setEntry] using hx); exact ⟨y, by simpa using h1, h2⟩
    | succ i =>
      have ih := setEntry_er hk hv es l i g4
      refine ⟨by simpa [setEntry] using ih.1, fun j x hx => ?_⟩
      cases j with
      | zero => simp [setEntry] at hx; subst hx; exact ⟨e', by simp, g1, g2, g3⟩
      | succ j => obtain ⟨y, h1, h2⟩ := ih.2 j x (by simpa [setEntry] using hx); exact ⟨y, by simpa using h1, h2⟩

theorem ER.push {ρ : Rho} {es es' : List MapEntry} {k k' v v' : Value} {c : Nat} (h : ER ρ es es') (hk : VR ρ k k') (hv : VR ρ v v') : ER ρ (es ++ [⟨k, v, c⟩]) (es' ++ [⟨k', v', c⟩]) := by
  refine ⟨by simp [h.1], fun i e he => ?_⟩
  by_cases hi : i < es.length
  · rw [List.getElem?_append_left hi] at he
    obtain ⟨y, h1, h2⟩ := h.2 i e he
    exact ⟨y, by rw [List.getElem?_append_left (by rw [← h.1]; exact hi)]; exact h1, h2⟩
  · rw [List.getElem?_append_right (by omega)] at he
    have : i - es.length = 0 := by
      cases hd : i - es.length with
      | zero => rfl
      | succ n => rw [hd] at he; simp at he
    rw [this] at he
    simp at he; subst he
    exact ⟨⟨k', v', c⟩, by rw [List.getElem?_append_right (by rw [← h.1]; omega), ← h.1, this]; rfl, hk, hv, rfl⟩

theorem run_setMap {w : World} {r : Nat} {es : Array MapEntry} {k : Nat} (h : w.heap[r]? = some (.map es k)) (o : Obj) : (setObj r o).run P w = .ok () (w.putObj r o) := by
  simp [setObj, Sem.run, h, World.putObj]

theorem mapUpdate_ok {t kt et : TypeId} {d : TypeDesc} (hu : P.underlying t = some (.map kt et)) (hd : nowKind P kt = some d) :
    Ok3 P G (xmapUpdate d) (fun m k x => uniN (Instr.mapUpdate t m k x)) := by
  intro a k x hp v hp' h ρ w N a' k' x' c ha hk hx hN
  unfold xmapUpdate at h
  replace h := onMap_ok h
  obtain ⟨r, rfl, h⟩ := h
  replace h := onSome_ok h
  obtain ⟨r, rfl, h⟩ := h
  replace h := onMapObj_ok h
  obtain ⟨es, clock, hv, h⟩ := h
  replace h := onSome_ok h
  obtain ⟨f, hf, h⟩ := h
  obtain ⟨hok, hlt, es', hh, her⟩ := c.sat.vis _ _ hv
  cases ha
  have run : ∀ (r1 : Option (Nat × Value)) (o1 : Obj), Instr.findNow d k' es'.toList 0 = some r1 →
      ((r1 = none ∧ o1 = .map (es'.push { key := k', val := x', born := clock }) (clock + 1)) ∨ ∃ i u, r1 = some (i, u) ∧ Instr.sameBits 10000 (((es'[i]?).map (·.key)).getD k') k' = true ∧ o1 = .map (es'.modify i fun e => { e with key := k', val := x' }) clock) →
      (Instr.mapUpdate t (.map (some (ρ.blk r))) k' x').run P w = .ok () (w.putObj (ρ.blk r) o1) := by
    intro r1 o1 hr1 hor
    unfold Instr.mapUpdate
    rw [Sem.run_bind, run_underlying hu]
    simp only [Result.andThen_ok]
    rw [Sem.run_bind, run_getMap hh]
    simp only [Result.andThen_ok]
    rw [Sem.run_bind, checkKey_run hd]
    simp only [Result.andThen_ok]
    rw [Sem.run_bind, findKey_run hd hr1]
    simp only [Result.andThen_ok]
    rcases hor with ⟨rfl, rfl⟩ | ⟨i, u, rfl, hs, rfl⟩
    · exact run_setMap hh _
    · simp only [Instr.keyThatStays, hs, if_true]
      exact run_setMap hh _
  rcases findNow_rel hk es es'.toList 0 f her hf with ⟨rfl, g1⟩ | ⟨j, u, u', rfl, g1, g2, _, e, g3, g4⟩
  · replace h : fNat (Nat.succ clock) (fun c => putMap hp r (es ++ [⟨k, x, clock⟩]) c fun hp => .ok undef hp) = .ok v hp' := h
    rw [fNat_eq] at h
    unfold putMap at h
    rw [fEntries_eq, Hp.set_eq] at h
    cases h
    have hpost : Post P G hp (hp.upd r (some (.map (es ++ [⟨k, x, clock⟩]) (clock + 1)))) ρ ρ w (w.putObj (ρ.blk r) (.map (es'.push { key := k', val := x', born := clock }) (clock + 1))) :=
      Post.upd c.sat hv (putObj_only' _ _ _) ⟨_, World.putObj_heap_same hlt, by rw [Array.toList_push]; exact her.push hk hx⟩
    exact ⟨.skip, undef, ρ, _, run_uniN (run none _ g1 (.inl ⟨rfl, rfl⟩)), .inr ⟨rfl, rfl⟩, .undef, hpost⟩
  · replace h : updAt k x r es clock hp j = .ok v hp' := h
    unfold updAt at h
    replace h := onSome_ok h
    obtain ⟨e1, he1, h⟩ := h
    replace h := pick_ok h
    obtain ⟨hsb, h⟩ := h
    unfold putMap at h
    rw [fEntries_eq, Hp.set_eq] at h
    cases h
    have hsame : Instr.sameBits 10000 (((es'[j]?).map (·.key)).getD k') k' = true := by
      rw [Nat.sub_zero] at g3
      rw [he1] at g3
      cases g3
      obtain ⟨e', q1, q2, _⟩ := her.2 j _ he1
      have : es'[j]? = some e' := by simpa using q1
      rw [this]
      obtain ⟨q4, q5⟩ := sameNow_rel g4 hk q2
      show Instr.sameBits 10000 e'.key k' = true
      rw [q4, q5]
      exact hsb
    have hpost : Post P G hp (hp.upd r (some (.map (setEntry k x es j) clock))) ρ ρ w (w.putObj (ρ.blk r) (.map (es'.modify j fun e => { e with key := k', val := x' }) clock)) :=
      Post.upd c.sat hv (putObj_only' _ _ _) ⟨_, World.putObj_heap_same hlt, by rw [Array.toList_modify]; exact setEntry_er hk hx _ _ _ her⟩
    exact ⟨.skip, undef, ρ, _, run_uniN (run _ _ g1 (.inr ⟨j, u', rfl, hsame, rfl⟩)), .inr ⟨rfl, rfl⟩, .undef, hpost⟩

theorem mapV_ok {hp : Hp} {ρ : Rho} {w : World} {N : Nat} {v : Value} {hp' : Hp} (h : mapV hp = .ok v hp') (c : Ctx P G hp ρ w N) (hN : hp'.next ≤ N) {s : Sem Value} (hs : s.run P w = .ok (.map (some w.heap.size)) (World.more w (.map #[] 0))) : Good P G hp hp' ρ w v (valN s) := by
  unfold mapV at h
  rw [xnew_eq] at h
  cases h
  have hf := c.fresh hp.next (Nat.le_refl _) hN
  have e2 : (ρ.add hp.next w.heap.size 0 0 0).blk hp.next = w.heap.size := if_pos rfl
  have p : Post P G hp (hp.new (.map [] 0)) ρ (ρ.add hp.next w.heap.size 0 0 0) w (World.more w (.map #[] 0)) :=
    Post.newBlock c.sat hf ⟨#[], by rw [e2]; exact World.more_at _ _, rfl, fun i e he => by simp at he⟩
  have hv := VR.map (ρ := ρ.add hp.next w.heap.size 0 0 0) hp.next (.inl rfl)
  rw [e2] at hv
  exact ⟨_, _, _, _, run_valN hs, .inl rfl, hv, p⟩
end Go.Proofs.YtjdkfdhfodmbeaaDoor.Ax
