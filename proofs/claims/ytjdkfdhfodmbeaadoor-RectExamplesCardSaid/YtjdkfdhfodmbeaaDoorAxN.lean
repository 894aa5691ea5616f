/- An executor of closed runs: what its operations say of a world (8). -/
import Derived.Test.YtjdkfdhfodmbeaaDoorAxM
namespace Go.Proofs.YtjdkfdhfodmbeaaDoor.Ax
open Go
variable {P : Program} {G : Nat}

theorem appK_eq (l : List Value) : ∀ (cs : List Value) (k : List Value → R), appK cs l k = k (cs ++ l)
  | [], k => rfl
  | v :: cs, k => by
    show appK cs l (fun r => k (v :: r)) = _
    rw [appK_eq l cs]; rfl

theorem setSome_getElem {z : List Value} {k : Nat} {c : Array Value} (h : c[k]? = z[k]?) : c[k]? = z[k]? := h

/-- A value built of its fields. -/
theorem flat_ok {ρ : Rho} {z : List Value} (hz : all1 z = true) (tm : T Value) (ev : Operand → Value) (place : Nat → Option (Nat × Nat)) : ∀ (fs : List Field) (j off : Nat) (ps : List (Nat × Operand)) (h : T Value → (List Value → R) → R),
    flatBx P z fs j off ps = some (.mk h) →
    (∀ (m : Nat) (fd : Field) (n : Nat), fs[m]? = some fd → size? P fd.type = some n → place (j + m) = some (fd.offset, n)) →
    (∀ x ∈ ps, VR ρ (evA tm x.2) (ev x.2)) → ∀ (k : List Value → R) (v : Value) (hp' : Hp), h tm k = .ok v hp' →
    off ≤ z.length ∧ ∃ L, k L = .ok v hp' ∧ (∀ u ∈ L, oneC u = true) ∧ ∀ c : Array Value, c.size = z.length → (∀ i, off ≤ i → c[i]? = z[i]?) →
      ∃ (c' : Array Value) (L' : List Value), Instr.fill place c (ps.map fun x => (x.1, ev x.2)) = some c' ∧ c'.size = c.size ∧ LR ρ L L' ∧ L.length = z.length - off ∧ (∀ i, c'[i]? = if i < off then c[i]? else L'[i - off]?)
  | [], j, off, ps, h, hf, hpl, hv, k, v, hp', hr => by
    cases ps with
    | cons x l => cases hf
    | nil =>
      have hf' : pick (Nat.beq off z.length) (some (LBx.mk fun _ k => k [])) none = some (.mk h) := hf
      cases hb : Nat.beq off z.length with
      | false => rw [hb] at hf'; cases hf'
      | true =>
        rw [hb] at hf'
        cases hf'
        have hoff := Nat.eq_of_beq_eq_true hb
        refine ⟨Nat.le_of_eq hoff, [], hr, (fun u hu => by cases hu), fun c hc hcz => ⟨c, [], rfl, rfl, .nil, by simp [hoff], fun i => ?_⟩⟩
        by_cases hi : i < off
        · rw [if_pos hi]
        · rw [if_neg hi]
          rw [Array.getElem?_eq_none (by omega)]; simp
  | fd :: fs, j, off, ps, h, hf, hpl, hv, k, v, hp', hr => by
    have hf' : pick (Nat.beq fd.offset off)
      (match size? P fd.type with
      | some n => match ps with
        | (i, x) :: ps' => pick (Nat.beq i j)
          (onSome (flatBx P z fs (j + 1) (off + n) ps') none fun h => pieceBx (kindT P fd.type) x h)
          (onSome (flatBx P z fs (j + 1) (off + n) ((i, x) :: ps')) none fun h => zeroBx ((z.drop off).take n) h)
        | [] => onSome (flatBx P z fs (j + 1) (off + n) []) none fun h => zeroBx ((z.drop off).take n) h
      | none => none) none = some (.mk h) := by cases ps <;> exact hf
    cases hb : Nat.beq fd.offset off with
    | false => rw [hb] at hf'; cases hf'
    | true =>
      rw [hb] at hf'
      have hoff := Nat.eq_of_beq_eq_true hb
      cases hs : size? P fd.type with
      | none => rw [hs] at hf'; cases hf'
      | some n =>
        rw [hs] at hf'
        have hpl' : ∀ (m : Nat) (fd : Field) (n : Nat), fs[m]? = some fd → size? P fd.type = some n → place (j + 1 + m) = some (fd.offset, n) := fun m fd' n' h1 h2 => by
          have := hpl (m + 1) fd' n' (by simpa using h1) h2
          rwa [show j + (m + 1) = j + 1 + m by omega] at this
        -- cells of the zero
        have zeroCase : ∀ ps' : List (Nat × Operand), (∀ x ∈ ps', VR ρ (evA tm x.2) (ev x.2)) → (onSome (flatBx P z fs (j + 1) (off + n) ps') none fun h => zeroBx ((z.drop off).take n) h) = some (.mk h) →
            off ≤ z.length ∧ ∃ L, k L = .ok v hp' ∧ (∀ u ∈ L, oneC u = true) ∧ ∀ c : Array Value, c.size = z.length → (∀ i, off ≤ i → c[i]? = z[i]?) →
            ∃ (c' : Array Value) (L' : List Value), Instr.fill place c (ps'.map fun x => (x.1, ev x.2)) = some c' ∧ c'.size = c.size ∧ LR ρ L L' ∧ L.length = z.length - off ∧ (∀ i, c'[i]? = if i < off then c[i]? else L'[i - off]?) := by
          intro ps' hv' hh
          cases hfl : flatBx P z fs (j + 1) (off + n) ps' with
          | none => rw [hfl] at hh; cases hh
          | some hb2 =>
            obtain ⟨g⟩ := hb2
            rw [hfl] at hh
            have hh' : fHeads ((z.drop off).take n) (fun zl => some (LBx.mk fun tm k => g tm fun l => appK zl l k)) = some (.mk h) := hh
            rw [fHeads_eq] at hh'
            cases hh'
            have hr' : g tm (fun l => appK ((z.drop off).take n) l k) = .ok v hp' := hr
            obtain ⟨hle, L, h1, h2, h3⟩ := flat_ok hz tm ev place fs (j + 1) (off + n) ps' g hfl hpl' hv' _ v hp' hr'
            rw [appK_eq] at h1
            have hzl : ((z.drop off).take n).length = n := by simp; omega
            have hz1 : ∀ u ∈ (z.drop off).take n, pl1 u = true := fun u hu => all1_mem hz u (List.mem_of_mem_drop (List.mem_of_mem_take hu))
            refine ⟨by omega, (z.drop off).take n ++ L, h1, fun u hu => (List.mem_append.1 hu).elim (fun hu => pl1_one (hz1 u hu)) (h2 u), fun c hc hcz => ?_⟩
            obtain ⟨c', L', g1, g2, g3, g4, g5⟩ := h3 c hc fun i hi => hcz i (by omega)
            refine ⟨c', (z.drop off).take n ++ L', g1, g2, .append ?_ g3, by rw [List.length_append, hzl, g4]; omega, fun i => ?_⟩
            · exact .of_get rfl fun i u hi => ⟨u, hi, pl1_vr (hz1 u (List.mem_of_getElem? hi))⟩
            · rw [g5]
              by_cases h6 : i < off
              · rw [if_pos (by omega), if_pos h6]
              · rw [if_neg h6]
                by_cases h7 : i < off + n
                · rw [if_pos h7, hcz i (by omega), List.getElem?_append_left (by rw [hzl]; omega)]
                  rw [List.getElem?_take, if_pos (by omega), List.getElem?_drop]
                  congr 1; omega
                · rw [if_neg h7, List.getElem?_append_right (by rw [hzl]; omega), hzl]
                  congr 1; omega
        cases ps with
        | nil => exact zeroCase [] (fun x hx => by cases hx) hf'
        | cons y ps' =>
          obtain ⟨i, x⟩ := y
          cases hij : Nat.beq i j with
          | false =>
            have hf2 : (onSome (flatBx P z fs (j + 1) (off + n) ((i, x) :: ps')) none fun h => zeroBx ((z.drop off).take n) h) = some (.mk h) := by
              have := hf'
              simp only [hij, pick_true, pick_false] at this
              exact this
            exact zeroCase _ hv hf2
          | true =>
            have hij' := Nat.eq_of_beq_eq_true hij
            subst hij'
            have hf2 : (onSome (flatBx P z fs (i + 1) (off + n) ps') none fun h => pieceBx (kindT P fd.type) x h) = some (.mk h) := by
              have := hf'
              simp only [hij, pick_true] at this
              exact this
            cases hfl : flatBx P z fs (i + 1) (off + n) ps' with
            | none => rw [hfl] at hf2; cases hf2
            | some hb2 =>
              obtain ⟨g⟩ := hb2
              rw [hfl] at hf2
              have hf3 : pieceBx (kindT P fd.type) x (.mk g) = some (.mk h) := hf2
              obtain ⟨gx, ex, sx⟩ := opBx_spec x
              have hvx := hv (i, x) (List.mem_cons_self ..)
              have hplace : place i = some (off, n) := by
                have := hpl 0 fd n rfl hs
                rw [Nat.add_zero, hoff] at this
                exact this
              -- what both kinds of pieces give
              have fin : ∀ cs : List Value, cellsOf (evA tm x) = cs → cs.length = n → (∀ u ∈ cs, oneC u = true) → g tm (fun l => k (cs ++ l)) = .ok v hp' →
                  off ≤ z.length ∧ ∃ L, k L = .ok v hp' ∧ (∀ u ∈ L, oneC u = true) ∧ ∀ c : Array Value, c.size = z.length → (∀ i, off ≤ i → c[i]? = z[i]?) →
                  ∃ (c' : Array Value) (L' : List Value), Instr.fill place c (((i, x) :: ps').map fun x => (x.1, ev x.2)) = some c' ∧ c'.size = c.size ∧ LR ρ L L' ∧ L.length = z.length - off ∧ (∀ i, c'[i]? = if i < off then c[i]? else L'[i - off]?) := by
                intro cs hcs hlen hone hg
                obtain ⟨hle, L, h1, h2, h3⟩ := flat_ok hz tm ev place fs (i + 1) (off + n) ps' g hfl hpl' (fun y hy => hv y (List.mem_cons_of_mem _ hy)) _ v hp' hg
                have hl : LR ρ cs (ev x).cells.toList := by rw [← hcs]; exact hvx.cells
                refine ⟨by omega, cs ++ L, h1, fun u hu => (List.mem_append.1 hu).elim (hone u) (h2 u), fun c hc hcz => ?_⟩
                obtain ⟨c1, e1, e2, e3⟩ := fill_cons (place := place) (c := c) (i := i) (v := ev x) (rest := ps'.map fun x => (x.1, ev x.2)) hplace (by rw [← hlen, hl.length]; simp) (by omega)
                obtain ⟨c', L', g1, g2, g3, g4, g5⟩ := h3 c1 (by rw [e2]; exact hc) fun m hm => by rw [e3, if_neg (by omega)]; exact hcz m (by omega)
                refine ⟨c', (ev x).cells.toList ++ L', by rw [List.map_cons, e1]; exact g1, by rw [g2, e2], hl.append g3, by rw [List.length_append, hlen, g4]; omega, fun m => ?_⟩
                have hl2 : (ev x).cells.toList.length = n := by rw [← hl.length, hlen]
                rw [g5]
                by_cases h6 : m < off
                · rw [if_pos (by omega), if_pos h6, e3, if_neg (by omega)]
                · rw [if_neg h6]
                  by_cases h7 : m < off + n
                  · rw [if_pos h7, e3, if_pos (by omega), List.getElem?_append_left (by omega)]
                  · rw [if_neg h7, List.getElem?_append_right (by omega), hl2]
                    congr 1; omega
              unfold pieceBx at hf3
              rw [ex] at hf3
              cases hk : kindT P fd.type with
              | bad => rw [hk] at hf3; cases hf3
              | agg n' =>
                rw [hk] at hf3
                cases hf3
                have hn' : n' = n := by have := (kind_agg hk).2; rw [hs] at this; exact (Option.some.inj this).symm
                subst hn'
                have hr' : g tm (fun l => gx tm fun v => pieceAgg n' v k l) = .ok v hp' := hr
                have conv : (fun l => gx tm fun v => pieceAgg n' v k l) = fun l => pieceAgg n' (evA tm x) k l := funext fun l => sx _ _
                rw [conv] at hr'
                cases hagg : isAggV (evA tm x) with
                | some cs =>
                  have hx := isAggV_some hagg
                  rw [hx] at hvx hr'
                  have hcs : cellsOf (evA tm x) = cs := by rw [hx]; rfl
                  have conv2 : (fun l => pieceAgg n' (.agg ⟨cs⟩) k l) = fun l => pick (Nat.beq cs.length n') (k (cs ++ l)) .no := funext fun l => by
                    show pick (Nat.beq cs.length n') (appK cs l k) .no = _
                    rw [appK_eq]
                  rw [conv2] at hr'
                  cases hbl : Nat.beq cs.length n' with
                  | false =>
                    rw [hbl] at hr'
                    obtain ⟨_, L, h1, _⟩ := flat_ok hz tm ev place fs (i + 1) (off + n') ps' g hfl hpl' (fun y hy => hv y (List.mem_cons_of_mem _ hy)) _ v hp' hr'
                    cases h1
                  | true =>
                    rw [hbl] at hr'
                    have hone : ∀ u ∈ cs, oneC u = true := by
                      generalize ev (i, x).2 = y at hvx
                      cases hvx with
                      | agg _ _ h1 _ => exact h1
                    exact fin cs hcs (Nat.eq_of_beq_eq_true hbl) hone hr'
                | none =>
                  have conv2 : (fun l => pieceAgg n' (evA tm x) k l) = fun _ => .no := funext fun l => by
                    unfold pieceAgg
                    generalize evA tm x = y at hagg
                    cases y <;> first | rfl | cases hagg
                  rw [conv2] at hr'
                  obtain ⟨_, L, h1, _⟩ := flat_ok hz tm ev place fs (i + 1) (off + n') ps' g hfl hpl' (fun y hy => hv y (List.mem_cons_of_mem _ hy)) _ v hp' hr'
                  cases h1
              | one =>
                rw [hk] at hf3
                cases hf3
                have hn' : n = 1 := by have := (kind_one hk).2; rw [hs] at this; exact Option.some.inj this
                subst hn'
                have hr' : g tm (fun l => gx tm fun v => pieceOne v k l) = .ok v hp' := hr
                have conv : (fun l => gx tm fun v => pieceOne v k l) = fun l => pick (oneC (evA tm x)) (k ([evA tm x] ++ l)) .no := funext fun l => sx _ _
                rw [conv] at hr'
                cases ho : oneC (evA tm x) with
                | false =>
                  rw [ho] at hr'
                  obtain ⟨_, L, h1, _⟩ := flat_ok hz tm ev place fs (i + 1) (off + 1) ps' g hfl hpl' (fun y hy => hv y (List.mem_cons_of_mem _ hy)) _ v hp' hr'
                  cases h1
                | true =>
                  rw [ho] at hr'
                  have hcs : cellsOf (evA tm x) = [evA tm x] := by
                    generalize evA tm x = y at ho
                    cases y <;> first | rfl | cases ho
                  exact fin _ hcs rfl (fun u hu => by rw [List.mem_singleton.1 hu]; exact ho) hr'

theorem places_run : ∀ (fs : List Field) (w : World), (∀ fd ∈ fs, ∃ n, size? P fd.type = some n) →
    (fs.mapM (m := Sem) fun f => do pure (f.offset, ← sizeOf f.type)).run P w = .ok (fs.map fun f => (f.offset, (size? P f.type).getD 0)) w
  | [], w, _ => rfl
  | fd :: fs, w, h => by
    obtain ⟨n, hn⟩ := h fd (List.mem_cons_self ..)
    rw [List.mapM_cons, Sem.run_bind, Sem.run_bind, sizeOf_run hn]
    simp only [Result.andThen_ok, Sem.run_pure]
    rw [Sem.run_bind, places_run fs w fun f hf => h f (List.mem_cons_of_mem _ hf)]
    simp [hn]

theorem flat_sizes {z : List Value} : ∀ (fs : List Field) (j off : Nat) (ps : List (Nat × Operand)) (h : LBx R), flatBx P z fs j off ps = some h → ∀ fd ∈ fs, ∃ n, size? P fd.type = some n
  | [], _, _, _, _, _, fd, hfd => by cases hfd
  | fd :: fs, j, off, ps, h, hf, fd', hfd => by
    have hf' : pick (Nat.beq fd.offset off)
      (match size? P fd.type with
      | some n => match ps with
        | (i, x) :: ps' => pick (Nat.beq i j)
          (onSome (flatBx P z fs (j + 1) (off + n) ps') none fun h => pieceBx (kindT P fd.type) x h)
          (onSome (flatBx P z fs (j + 1) (off + n) ((i, x) :: ps')) none fun h => zeroBx ((z.drop off).take n) h)
        | [] => onSome (flatBx P z fs (j + 1) (off + n) []) none fun h => zeroBx ((z.drop off).take n) h
      | none => none) none = some h := by cases ps <;> exact hf
    cases hb : Nat.beq fd.offset off with
    | false => rw [hb] at hf'; cases hf'
    | true =>
      rw [hb] at hf'
      cases hs : size? P fd.type with
      | none => rw [hs] at hf'; cases hf'
      | some n =>
        rcases List.mem_cons.1 hfd with rfl | hfd
        · exact ⟨n, hs⟩
        · rw [hs] at hf'
          have some_of : ∀ (ps' : List (Nat × Operand)) (k : LBx R → Option (LBx R)), onSome (flatBx P z fs (j + 1) (off + n) ps') none k = some h → ∃ n, size? P fd'.type = some n := fun ps' k hk => by
            cases hfl : flatBx P z fs (j + 1) (off + n) ps' with
            | none => rw [hfl] at hk; cases hk
            | some g => exact flat_sizes fs (j + 1) (off + n) ps' g hfl fd' hfd
          cases ps with
          | nil => exact some_of _ _ hf'
          | cons y ps' =>
            obtain ⟨i, x⟩ := y
            cases hij : Nat.beq i j with
            | true => simp only [hij, pick_true] at hf'; exact some_of _ _ hf'
            | false => simp only [hij, pick_true, pick_false] at hf'; exact some_of _ _ hf'

/-- A value of an array type, built of parts. -/
theorem arr_ok {o : Oper} {t e : TypeId} {len size : Nat} {z : List Value} {ps : Array (Nat × Operand)} (hps : ∀ x ∈ ps.toList, x.2 ∈ o.op.operands) (he : ∀ ev, execOp ev o = valN (Instr.build t (ps.map fun (i, x) => (i, ev x))))
    (hu : P.underlying t = some (.array len e)) (hz : zeroL P t = some z) (hs : size? P e = some size) {f : T Value → Hp → R}
    (h : (cond (Nat.ble 1 size && Nat.beq z.length (Nat.mul len size) && bnd len ps.toList) (match T.putList z .leaf 0 fun ct => fNat z.length fun n => TBx.mk ct n with | .mk ct n => Bx.op fun tm hp => arrParts size n ct (opd2 tm ps.toList) hp) .bad) = .op f) : BxOk P G o f := by
  rw [T.putList_eq, fNat_eq] at h
  cases hc : (Nat.ble 1 size && Nat.beq z.length (Nat.mul len size) && bnd len ps.toList) with
  | false => rw [hc] at h; cases h
  | true =>
    rw [hc] at h
    cases h
    simp only [Bool.and_eq_true, Nat.ble_eq] at hc
    obtain ⟨⟨h1, h2⟩, h3⟩ := hc
    have hzl : z.length = len * size := Nat.eq_of_beq_eq_true h2
    intro tm hp v hp' hr ρ w N ev c hev hN
    rw [he]
    replace hr : arrParts size z.length (T.setList z .leaf 0) (opd2 tm ps.toList) hp = .ok v hp' := hr
    unfold arrParts at hr
    rw [fParts_eq] at hr
    obtain ⟨zv, hz1, hz2, hz3⟩ := zeroL_some hz
    have hzc : zv.cells = ⟨z⟩ := by rw [cells_of_all1 (by rw [hz2]; exact hz3), hz2]
    obtain ⟨t', c', g1, g2, g3, g4⟩ := fill_ok (ρ := ρ) (len := len) tm ev (by omega) ps.toList (T.setList z .leaf 0) ⟨z⟩ _ v hp' (fun x hx => hev x.2 (hps x hx)) (bnd_mem h3) (by simpa using hzl) (fun i u hu => by
      have hg := get_list_leaf z i u hu
      have hp1 := all1_mem hz3 u (List.mem_of_getElem? hg)
      exact ⟨pl1_one hp1, u, by simpa using hg, pl1_vr hp1⟩) hr
    replace g1 := onSome_ok g1
    obtain ⟨l, hl, g1⟩ := g1
    cases g1
    obtain ⟨hlen, hget⟩ := readCells_spec t' z.length 0 l hl
    have hsz : c'.size = z.length := by rw [g3]; simp
    have at_ : ∀ i (hi : i < l.length), t'.get i = some l[i] := fun i hi => by
      have := hget i (by omega)
      rw [Nat.zero_add] at this
      rw [this]; exact List.getElem?_eq_getElem hi
    refine good_pure c (v' := .agg c') ?_ (.agg l c'.toList (fun u hm => ?_) (.of_get (by simp [hlen, hsz]) fun i u hi => ?_))
    · unfold Instr.build
      rw [Sem.run_bind, zero_run hz1]
      simp only [Result.andThen_ok, hzc]
      rw [Sem.run_bind, run_underlying hu]
      simp only [Result.andThen_ok]
      rw [Sem.run_bind, sizeOf_run hs]
      simp only [Result.andThen_ok]
      have : (ps.map fun (x : Nat × Operand) => (x.1, ev x.2)).toList = ps.toList.map fun x => (x.1, ev x.2) := by simp
      rw [this, g2]
      rfl
    · obtain ⟨i, hi, rfl⟩ := List.mem_iff_getElem.1 hm
      exact (g4 i _ (at_ i hi)).1
    · have hi' := (List.getElem?_eq_some_iff.1 hi).1
      have hu' := (List.getElem?_eq_some_iff.1 hi).2
      obtain ⟨_, u', k1, k2⟩ := g4 i _ (at_ i hi')
      rw [hu'] at k2
      exact ⟨u', by simpa using k1, k2⟩

theorem bxBuild_ok {o : Oper} {t : TypeId} {ps : Array (Nat × Operand)} (ho : o.op = .build t ps) {f : T Value → Hp → R} (h : bxBuild P t ps.toList = .op f) : BxOk P G o f := by
  have hps : ∀ x ∈ ps.toList, x.2 ∈ o.op.operands := by
    intro x hx
    rw [ho]
    simp [Op.operands]
    exact ⟨x.1, by simpa using hx⟩
  have he : ∀ ev, execOp ev o = valN (Instr.build t (ps.map fun (i, x) => (i, ev x))) := fun ev => by unfold execOp; rw [ho]; rfl
  unfold bxBuild at h
  split at h <;> try (simp only [reduceCtorEq] at h)
  rotate_left
  · rename_i len e z hu hz
    split at h <;> try (simp only [reduceCtorEq] at h)
    rename_i size hs
    exact arr_ok hps he hu hz hs h
  rename_i fs z hu hz
  split at h <;> try (simp only [reduceCtorEq] at h)
  rename_i g hfl
  cases h
  intro tm hp v hp' hr ρ w N ev c hev hN
  rw [he]
  obtain ⟨zv, hz1, hz2, hz3⟩ := zeroL_some hz
  have hzc : zv.cells = ⟨z⟩ := by rw [cells_of_all1 (by rw [hz2]; exact hz3), hz2]
  let places : Array (Nat × Nat) := (fs.toList.map fun f => (f.offset, (size? P f.type).getD 0)).toArray
  replace hr : g tm (fun l => .ok (.agg ⟨l⟩) hp) = .ok v hp' := hr
  obtain ⟨_, L, h1, h2, h3⟩ := flat_ok (ρ := ρ) hz3 tm ev (places[·]?) fs.toList 0 0 ps.toList g hfl (fun m fd n hm hn => by
    simp only [Nat.zero_add]
    show (fs.toList.map fun f => (f.offset, (size? P f.type).getD 0)).toArray[m]? = _
    simp only [List.getElem?_toArray, List.getElem?_map, hm, Option.map_some, hn, Option.getD_some]) (fun x hx => hev x.2 (hps x hx)) _ v hp' hr
  cases h1
  obtain ⟨c', L', g1, g2, g3, g4, g5⟩ := h3 ⟨z⟩ (by simp) (fun i _ => by simp)
  have hc : c' = ⟨L'⟩ := by
    apply Array.ext'
    apply List.ext_getElem?
    intro i
    have := g5 i
    rw [if_neg (by omega), Nat.sub_zero] at this
    simpa using this
  refine good_pure c (v' := .agg ⟨L'⟩) ?_ (.agg _ _ h2 g3)
  unfold Instr.build
  rw [Sem.run_bind, zero_run hz1]
  simp only [Result.andThen_ok, hzc]
  rw [Sem.run_bind, run_underlying hu]
  simp only [Result.andThen_ok]
  rw [Sem.run_bind, Array.mapM_eq_mapM_toList, Sem.run_map, places_run fs.toList w (flat_sizes _ _ _ _ _ hfl)]
  simp only [Result.andThen_ok]
  have : (ps.map fun (x : Nat × Operand) => (x.1, ev x.2)).toList = ps.toList.map fun x => (x.1, ev x.2) := by simp
  rw [this]
  have g1' : Instr.fill (fun x => (fs.toList.map fun f => (f.offset, (size? P f.type).getD 0)).toArray[x]?) ⟨z⟩ (ps.toList.map fun x => (x.1, ev x.2)) = some c' := g1
  rw [g1', hc]
  rfl
end Go.Proofs.YtjdkfdhfodmbeaaDoor.Ax
