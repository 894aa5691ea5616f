/- An executor of closed runs: what its operations say of a world (7). -/
import Derived.Test.YtjdkfdhfodmbeaaDoorAxL
namespace Go.Proofs.YtjdkfdhfodmbeaaDoor.Ax
open Go
variable {P : Program} {G : Nat}

theorem get_made {z : Value} {l : List Value} (hz : z.cells = ⟨l⟩) {N i : Nat} (hi : i < N) (h0 : 0 < l.length) : (madeCells z.cells N)[i]? = l[i % l.length]? := by
  unfold madeCells
  rw [hz]
  have : i % l.length < l.length := Nat.mod_lt _ h0
  simp [hi, this]

theorem makeSlice_ok {t e : TypeId} {size : Nat} {zl : List Value} {inf : TypeInfo} (hu : P.underlying t = some (.slice e)) (hs : size? P e = some size) (hz : zeroL P e = some zl) (hi : P.info? e = some inf) (hzl : zl.length = size) (h0 : 1 ≤ size) :
    Ok2 P G (xmakeSlice e size zl inf.bytes) (fun l c => valN (Instr.makeSlice t l c)) := by
  intro a b hp v hp' hr ρ w N a' b' c ha hb hN
  unfold xmakeSlice at hr
  replace hr := natV_ok hr
  obtain ⟨k1, l, rfl, hr⟩ := hr
  replace hr := natV_ok hr
  obtain ⟨k2, cp, rfl, hr⟩ := hr
  replace hr := pick_ok hr
  obtain ⟨hb3, hr⟩ := hr
  simp only [andB_eq, Bool.and_eq_true, Nat.ble_eq] at hb3
  obtain ⟨hlc, hmost, hcm⟩ := hb3
  rw [zeros_eq, fNat_eq, xnew_eq] at hr
  cases hr
  cases ha; cases hb
  obtain ⟨z, hz1, hz2, hz3⟩ := zeroL_some hz
  have hzero : inf.zero = some z := by unfold zero? at hz1; rw [hi] at hz1; exact hz1
  have hisz : inf.size = size := by unfold size? at hs; rw [hi] at hs; simpa using hs
  have hzc : z.cells = ⟨zl⟩ := by rw [cells_of_all1 (by rw [hz2]; exact hz3), hz2]
  have hmost : cp * (inf.bytes + size) ≤ most := hmost
  have hbytes : inf.bytes * cp ≤ most := by
    have : cp * inf.bytes ≤ cp * (inf.bytes + size) := Nat.mul_le_mul_left _ (Nat.le_add_right _ _)
    rw [Nat.mul_comm]; omega
  have hr := run_make (P := P) w t e inf z hu hi hzero k1 k2 (l : Int) (cp : Int) (Int.natCast_nonneg _) (Int.ofNat_le.2 hlc) (by
    have h : ((inf.bytes * cp : Nat) : Int) ≤ 281474976710656 := by unfold most at hbytes; omega
    rwa [Int.natCast_mul] at h) (by unfold most at hcm; omega)
  simp only [Int.toNat_natCast] at hr
  obtain ⟨ρ', r1, r2, r3, r4, r5, r6⟩ := new_cells (P := P) c.sat (c.fresh _ (Nat.le_refl _) hN) (zerosT zl cp 0 .leaf) (cp * size) e (madeCells z.cells (cp * inf.size)) (by rw [size_madeCells, hisz]; exact Nat.le_refl _) fun i u hu => by
    rw [get_zerosT] at hu
    by_cases hh : 0 ≤ i ∧ i < 0 + cp * zl.length
    · rw [if_pos hh] at hu
      have hu' : zl[i % zl.length]? = some u := by simpa using hu
      have hp1 := all1_mem hz3 u (List.mem_of_getElem? hu')
      exact ⟨pl1_one hp1, u, by rw [hisz, get_made hzc (by rw [← hzl]; omega) (by omega)]; exact hu', pl1_vr hp1⟩
    · rw [if_neg hh] at hu; cases hu
  refine ⟨_, _, ρ', _, run_valN (hr.trans rfl), .inl rfl, ?_, r1⟩
  have := VR.slice (ρ := ρ') hp.next 0 l cp r4 (by unfold most at hcm; unfold big; omega)
  rw [r2, r3] at this
  exact this

theorem bnd_mem : ∀ {len : Nat} {ps : List (Nat × Operand)}, bnd len ps = true → ∀ x ∈ ps, x.1 < len
  | _, [], _, x, hx => by cases hx
  | len, (i, o) :: l, h, x, hx => by
    simp only [bnd] at h
    cases hb : Nat.blt i len with
    | false => rw [hb] at h; cases h
    | true =>
      rw [hb] at h
      rcases List.mem_cons.1 hx with rfl | hx
      · have : i + 1 ≤ len := by simpa [Nat.blt, Nat.ble_eq] using hb
        exact this
      · exact bnd_mem h x hx

/-- Parts laid over a tree of cells, and over a row of cells. -/
theorem fill_ok {ρ : Rho} {size len : Nat} (tm : T Value) (ev : Operand → Value) (h0 : 0 < size) : ∀ (ps : List (Nat × Operand)) (t : T Value) (c : Array Value) (k : T Value → R) (v : Value) (hp' : Hp),
    (∀ x ∈ ps, VR ρ (evA tm x.2) (ev x.2)) → (∀ x ∈ ps, x.1 < len) → c.size = len * size →
    (∀ i u, t.get i = some u → oneC u = true ∧ ∃ u', c[i]? = some u' ∧ VR ρ u u') →
    xfill size .no (opd2 tm ps) t k = .ok v hp' →
    ∃ t' c', k t' = .ok v hp' ∧ Instr.fill (fun i => some (i * size, size)) c (ps.map fun x => (x.1, ev x.2)) = some c' ∧ c'.size = c.size ∧ (∀ i u, t'.get i = some u → oneC u = true ∧ ∃ u', c'[i]? = some u' ∧ VR ρ u u')
  | [], t, c, k, v, hp', _, _, _, ht, h => ⟨t, c, h, rfl, rfl, ht⟩
  | (i, x) :: ps, t, c, k, v, hp', hv, hb, hc, ht, h => by
    have h' : onCellsOf (evA tm x) .no (fun l => pick (Nat.beq l.length size) (T.putList l t (Nat.mul i size) fun t => xfill size .no (opd2 tm ps) t k) .no) = .ok v hp' := h
    replace h' := onCellsOf_ok h'
    obtain ⟨hcell, h'⟩ := h'
    replace h' := pick_ok h'
    obtain ⟨hsz, h'⟩ := h'
    have hsz := Nat.eq_of_beq_eq_true hsz
    rw [T.putList_eq] at h'
    have hx := hv (i, x) (List.mem_cons_self ..)
    have hil := hb (i, x) (List.mem_cons_self ..)
    obtain ⟨hl, h1⟩ := cells_rel hx hcell
    have hfit : i * size + size ≤ c.size := by
      rw [hc]
      have : (i + 1) * size ≤ len * size := Nat.mul_le_mul_right _ hil
      rw [Nat.add_mul, Nat.one_mul] at this
      exact this
    have hvs : (ev x).cells.size = size := by rw [← hsz, hl.length]; simp
    obtain ⟨c1, e1, e2, e3⟩ := fill_cons (place := fun i => some (i * size, size)) (c := c) (i := i) (v := ev x) (rest := ps.map fun x => (x.1, ev x.2)) rfl hvs hfit
    obtain ⟨t', c', g1, g2, g3, g4⟩ := fill_ok tm ev h0 ps (T.setList (cellsOf (evA tm x)) t (i * size)) c1 k v hp' (fun y hy => hv y (List.mem_cons_of_mem _ hy)) (fun y hy => hb y (List.mem_cons_of_mem _ hy)) (by rw [e2]; exact hc) (fun j u hu => by
      rw [T.get_setList] at hu
      rw [e3]
      by_cases hh : i * size ≤ j ∧ j < i * size + (cellsOf (evA tm x)).length
      · rw [if_pos hh] at hu
        rw [if_pos (by omega)]
        obtain ⟨u', h5, h6⟩ := hl.get_some hu
        exact ⟨h1 u (List.mem_of_getElem? hu), u', h5, h6⟩
      · rw [if_neg hh] at hu
        rw [if_neg (by omega)]
        exact ht j u hu) h'
    exact ⟨t', c', g1, by rw [List.map_cons, e1]; exact g2, by rw [g3, e2], g4⟩

theorem bxBuildSlice_ok {o : Oper} {t : TypeId} {len : Nat} {ps : Array (Nat × Operand)} (ho : o.op = .buildSlice t len ps) {f : T Value → Hp → R} (h : bxBuildSlice P t len ps.toList = .op f) : BxOk P G o f := by
  have hps : ∀ x ∈ ps.toList, x.2 ∈ o.op.operands := by
    intro x hx
    rw [ho]
    simp [Op.operands]
    exact ⟨x.1, by simpa using hx⟩
  have he : ∀ ev, execOp ev o = valN (Instr.buildSlice t len (ps.map fun (i, x) => (i, ev x))) := fun ev => by unfold execOp; rw [ho]; rfl
  unfold bxBuildSlice at h
  split at h <;> try (simp only [reduceCtorEq] at h)
  rename_i e hu
  split at h <;> try (simp only [reduceCtorEq] at h)
  rename_i size zl hs hz
  rw [zeros_eq, fNat_eq] at h
  cases hc : (Nat.beq zl.length size && bnd len ps.toList && Nat.ble (Nat.mul len size) most && Nat.ble 1 size) with
  | false => rw [hc] at h; cases h
  | true =>
    rw [hc] at h
    cases h
    simp only [Bool.and_eq_true, Nat.ble_eq] at hc
    obtain ⟨⟨⟨h1, h2⟩, h3⟩, h4⟩ := hc
    have hzl := Nat.eq_of_beq_eq_true h1
    have h3 : len * size ≤ most := h3
    intro tm hp v hp' hr ρ w N ev c hev hN
    rw [he]
    replace hr : sliceParts e size (len * size) (zerosT zl len 0 .leaf) len (opd2 tm ps.toList) hp = .ok v hp' := hr
    unfold sliceParts at hr
    rw [fParts_eq] at hr
    obtain ⟨z, hz1, hz2, hz3⟩ := zeroL_some hz
    obtain ⟨inf, hi, hisz⟩ := info_of_size hs
    have hzero : inf.zero = some z := by unfold zero? at hz1; rw [hi] at hz1; exact hz1
    have hzc : z.cells = ⟨zl⟩ := by rw [cells_of_all1 (by rw [hz2]; exact hz3), hz2]
    obtain ⟨t', c', g1, g2, g3, g4⟩ := fill_ok (ρ := ρ) (len := len) tm ev (by omega) ps.toList (zerosT zl len 0 .leaf) (madeCells z.cells (len * size)) _ v hp' (fun x hx => hev x.2 (hps x hx)) (bnd_mem h2) (size_madeCells _ _) (fun i u hu => by
      rw [get_zerosT] at hu
      by_cases hh : 0 ≤ i ∧ i < 0 + len * zl.length
      · rw [if_pos hh] at hu
        have hu' : zl[i % zl.length]? = some u := by simpa using hu
        have hp1 := all1_mem hz3 u (List.mem_of_getElem? hu')
        exact ⟨pl1_one hp1, u, by rw [get_made hzc (by rw [← hzl]; omega) (by omega)]; exact hu', pl1_vr hp1⟩
      · rw [if_neg hh] at hu; cases hu) hr
    rw [xnew_eq] at g1
    cases g1
    rw [size_madeCells] at g3
    obtain ⟨ρ', r1, r2, r3, r4, r5, r6⟩ := new_cells (P := P) c.sat (c.fresh _ (Nat.le_refl _) hN) t' (len * size) e c' (by rw [g3]; exact Nat.le_refl _) g4
    have hlen : len < big := by
      have : len * 1 ≤ len * size := Nat.mul_le_mul_left _ h4
      unfold most at h3; unfold big; omega
    have hv := VR.slice (ρ := ρ') hp.next 0 len len r4 hlen
    rw [r2, r3] at hv
    refine ⟨_, _, ρ', _, run_valN ?_, .inl rfl, hv, r1⟩
    have hfill : Instr.fill (fun i => some (i * inf.size, inf.size)) ((Array.range (len * inf.size)).map (z.cells[· % z.cells.size]!)) (ps.map fun (i, x) => (i, ev x)).toList = some c' := by
      rw [hisz]
      have : (ps.map fun (x : Nat × Operand) => (x.1, ev x.2)).toList = ps.toList.map fun x => (x.1, ev x.2) := by simp
      rw [this]; exact g2
    by_cases hpos : len * inf.size = 0
    · have hl0 : len = 0 := by
        rcases Nat.mul_eq_zero.1 hpos with h | h
        · exact h
        · omega
      subst hl0
      have hps0 : ps = #[] := by
        cases hp0 : ps.toList with
        | nil => apply Array.ext'; simpa using hp0
        | cons x l => have := bnd_mem h2 x (by rw [hp0]; exact List.mem_cons_self ..); omega
      subst hps0
      have hc0 : c' = #[] := by
        rw [Nat.zero_mul] at g3
        exact Array.eq_empty_of_size_eq_zero g3
      subst hc0
      unfold Instr.buildSlice
      rw [Sem.run_bind, run_underlying hu]
      simp only [Result.andThen_ok]
      rw [Sem.run_bind, sizeOf_run hs]
      simp only [Result.andThen_ok, Nat.zero_mul]
      rw [if_neg (by omega), if_pos trivial, Sem.run_bind, Sem.run_pure]
      simp only [Result.andThen_ok]
      have e1 : (Array.map (fun x => (#[] : Array Value)[x % (#[] : Array Value).size]!) (Array.range 0)) = #[] := by simp
      have e2 : (Array.map (fun (x : Nat × Operand) => (x.1, ev x.2)) #[]).toList = [] := by simp
      rw [e1, e2]
      rfl
    · exact (run_buildSlice (P := P) w t e len _ c' inf z hu hi hzero (by rw [hisz]; unfold most at h3; omega) hpos hfill).trans rfl
end Go.Proofs.YtjdkfdhfodmbeaaDoor.Ax
