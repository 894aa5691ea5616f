/- An executor of closed runs: what its operations say of a world (4). -/
import Derived.Test.YtjdkfdhfodmbeaaDoorAxI
import Derived.Laws.MakeOwn
import Derived.Laws.AppendOwn
namespace Go.Proofs.YtjdkfdhfodmbeaaDoor.Ax
open Go
variable {P : Program} {G : Nat}

/-! Lengths. -/
theorem lenR_ok {q hp : Hp} {n : Nat} {v : Value} (h : lenR q n = .ok v hp) : v = intV n ∧ q = hp := by
  unfold lenR at h; rw [fNat_eq] at h; cases h; exact ⟨rfl, rfl⟩
theorem builtin_exec {o : Oper} {cl : Call} {b : Builtin} (ho : o.op = .call cl) (hb : cl.callee = .builtin b) (ev : Operand → Value) :
    execOp ev o = builtin b cl.argTypes o.type (cl.args.map fun | .const _ => true | _ => false) (cl.args.map ev) := by
  unfold execOp; rw [ho]
  show (resolve ev cl o.type >>= fun d => invoke d.target d.args) = _
  unfold resolve; rw [hb]; rfl
theorem bxLen_ok {o : Oper} {cl : Call} {t : TypeId} {x : Operand} (ho : o.op = .call cl) (hb : cl.callee = .builtin .len) (ht : cl.argTypes.toList = [t]) (hx : cl.args.toList = [x]) {f : T Value → Hp → R} (h : bxLen P t x = .op f) : BxOk P G o f := by
  have ht' : cl.argTypes = #[t] := by apply Array.ext'; simpa using ht
  have hx' : cl.args = #[x] := by apply Array.ext'; simpa using hx
  have hmem : x ∈ o.op.operands := by rw [ho]; simp [Op.operands, Call.operands, hb, hx']
  have he : ∀ ev, execOp ev o = valN (Builtin.len_ #[t] o.type #[ev x]) := fun ev => by
    rw [builtin_exec ho hb]; rw [ht', hx']; show valN (Builtin.len_ #[t] o.type (Array.map ev #[x])) = _; simp
  have run : ∀ {d : TypeDesc} {a : Value} {n : Nat} (w : World), P.underlying t = some d → (Builtin.len_ #[t] o.type #[a]).run P w = (match d, a with
      | .string, .string s => pure (goInt s.size)
      | .array n _, _ => pure (goInt n)
      | .pointer arr, _ => do
        let .array n _ ← underlying arr | stuck "len: pointer to array expected"
        pure (goInt n)
      | .slice _, .slice _ n _ => pure (goInt n)
      | .map _ _, .map none | .chan _ _, .chan none => pure (goInt 0)
      | .map _ _, .map (some r) => do
        let .map entries _ ← getObj r | stuck "len: map expected"
        pure (goInt entries.size)
      | .chan _ _, .chan (some r) => do
        let .chan _ buf _ _ _ timer ← getObj r | stuck "len: channel expected"
        pure (goInt (if timer then 0 else buf.size))
      | _, _ => stuck "len: string, array, pointer to array, slice, map or channel expected" : Sem Value).run P w := by
    intro d a n w hu
    show ((underlying t >>= _) : Sem Value).run P w = _
    rw [Sem.run_bind, run_underlying hu]
    rfl
  unfold bxLen at h
  split at h <;> try (simp only [reduceCtorEq] at h)
  · rename_i e hu
    refine bx1 (S := fun a => valN (Builtin.len_ #[t] o.type #[a])) h ?_ hmem he
    intro a hp v hp' hr ρ w N a' c ha hN
    replace hr := onSlice_ok hr
    obtain ⟨ad, n, cp, rfl, hr⟩ := hr
    obtain ⟨rfl, rfl⟩ := lenR_ok hr
    cases ha <;> exact good_pure c ((run (n := 0) w hu).trans rfl) (.int _ _)
  · rename_i hu
    refine bx1 (S := fun a => valN (Builtin.len_ #[t] o.type #[a])) h ?_ hmem he
    intro a hp v hp' hr ρ w N a' c ha hN
    replace hr := onStr_ok hr
    obtain ⟨s, rfl, hr⟩ := hr
    obtain ⟨rfl, rfl⟩ := lenR_ok hr
    cases ha
    refine good_pure c ((run (n := 0) w hu).trans ?_) (.int _ _)
    have : s.size = s.data.toList.length := by simp
    show Result.ok (goInt (s.size : Int)) w = _
    rw [this]; rfl
  · rename_i n e hu
    cases h
    intro tm hp v hp' hr ρ w N ev c hev hN
    obtain ⟨rfl, rfl⟩ := lenR_ok hr
    rw [he]
    refine good_pure c ((run (n := 0) w hu).trans ?_) (.int _ _)
    cases ev x <;> rfl
  · rename_i arr hu
    split at h <;> try (simp only [reduceCtorEq] at h)
    rename_i n e hu2
    cases h
    intro tm hp v hp' hr ρ w N ev c hev hN
    obtain ⟨rfl, rfl⟩ := lenR_ok hr
    rw [he]
    refine good_pure c ((run (n := 0) w hu).trans ?_) (.int _ _)
    have : ∀ a : Value, ((do
        let .array n _ ← underlying arr | stuck "len: pointer to array expected"
        pure (goInt n)) : Sem Value).run P w = .ok (intV n) w := fun _ => by
      rw [Sem.run_bind, run_underlying hu2]; rfl
    cases ev x <;> exact this undef

/-! Slices of slices and arrays. -/
theorem natO_ok {v : Option Value} {d : Nat} {k : Nat → R} {r : Value} {hp : Hp} (h : natO v d k = .ok r hp) : ∃ n, ((v = none ∧ n = d) ∨ ∃ a, v = some (.int a (.ofNat n))) ∧ k n = .ok r hp := by
  unfold natO at h
  cases v with
  | none => exact ⟨d, .inl ⟨rfl, rfl⟩, h⟩
  | some v =>
    obtain ⟨a, n, rfl, h⟩ := natV_ok (show natV v .no k = .ok r hp from h)
    exact ⟨n, .inr ⟨a, rfl⟩, h⟩
theorem bound_run (a : IntKind) (n y : Nat) (code : BoundsCode) (hn : n ≤ y) (w : World) : (Instr.sliceBound (.int a (n : Int)) y code).run P w = .ok n w := by
  unfold Instr.sliceBound
  rw [Sem.run_bind]
  simp only [asIntOf, Sem.run_pure, Result.andThen_ok]
  have : (0 : Int) ≤ (n : Int) ∧ (n : Int) ≤ (y : Int) := ⟨Int.natCast_nonneg _, Int.ofNat_le.2 hn⟩
  rw [if_pos this]; rfl
theorem bounds_run (isS : Bool) (len cap : Nat) {lo hi : Option Value} {l h : Nat} (hl : (lo = none ∧ l = 0) ∨ ∃ a, lo = some (.int a (.ofNat l))) (hh : (hi = none ∧ h = len) ∨ ∃ a, hi = some (.int a (.ofNat h)))
    (h1 : l ≤ h) (h2 : h ≤ cap) (w : World) : (Instr.sliceBounds isS len cap lo hi none).run P w = .ok (l, h, cap) w := by
  unfold Instr.sliceBounds
  rcases hl with ⟨rfl, rfl⟩ | ⟨a, rfl⟩ <;> rcases hh with ⟨rfl, rfl⟩ | ⟨b, rfl⟩ <;>
    simp only [Int.ofNat_eq_natCast, Sem.run_bind, Sem.run_pure, Result.andThen_ok, bound_run (P := P) _ _ _ _ h1, bound_run (P := P) _ _ _ _ h2]
theorem bounds3_run (isS : Bool) (len cap : Nat) {lo : Option Value} {l h m : Nat} {a b : IntKind} (hl : (lo = none ∧ l = 0) ∨ ∃ a, lo = some (.int a (.ofNat l)))
    (h1 : l ≤ h) (h2 : h ≤ m) (h3 : m ≤ cap) (w : World) : (Instr.sliceBounds isS len cap lo (some (.int a (.ofNat h))) (some (.int b (.ofNat m)))).run P w = .ok (l, h, m) w := by
  unfold Instr.sliceBounds
  rcases hl with ⟨rfl, rfl⟩ | ⟨a, rfl⟩ <;>
    simp only [Int.ofNat_eq_natCast, Sem.run_bind, Sem.run_pure, Result.andThen_ok, bound_run (P := P) _ _ _ _ h1, bound_run (P := P) _ _ _ _ h2, bound_run (P := P) _ _ _ _ h3]

theorem getO_vr {ρ : Rho} {tm : T Value} {ev : Operand → Value} {x : Option Operand} (h : ∀ y, x = some y → VR ρ (evA tm y) (ev y)) {n d : Nat} (hn : (getO tm x = none ∧ n = d) ∨ ∃ a, getO tm x = some (.int a (.ofNat n))) :
    (x.map ev = none ∧ n = d) ∨ ∃ a, x.map ev = some (.int a (.ofNat n)) := by
  cases x with
  | none =>
    rcases hn with ⟨_, h2⟩ | ⟨a, h2⟩
    · exact .inl ⟨rfl, h2⟩
    · cases h2
  | some y =>
    rcases hn with ⟨h2, _⟩ | ⟨a, h2⟩
    · cases h2
    · have h3 : evA tm y = .int a (.ofNat n) := Option.some.inj h2
      have := h y rfl
      rw [h3] at this
      refine .inr ⟨a, ?_⟩
      show some (ev y) = _
      generalize ev y = z at this
      cases this; rfl

theorem sliceV_ok {q hp : Hp} {b o l c : Nat} {v : Value} (h : sliceV b o l c q = .ok v hp) : v = .slice (some ⟨b, o, none⟩) l c ∧ q = hp := by
  unfold sliceV at h; rw [fNat_eq, fNat_eq, fNat_eq] at h; cases h; exact ⟨rfl, rfl⟩

theorem slice_run {t e : TypeId} {n : Nat} (hu : P.underlying t = some (.slice e)) (hn : size? P e = some n) (a : Option Addr) (len cap : Nat) (lo hi mx : Option Value) {l h m : Nat} {w : World}
    (hb : (Instr.sliceBounds true len cap lo hi mx).run P w = .ok (l, h, m) w) : (Instr.sliceAt t (.slice a len cap) lo hi mx).run P w = .ok (.slice (if m = l then a else a.map (·.add (l * n))) (h - l) (m - l)) w := by
  unfold Instr.sliceAt
  rw [Sem.run_bind, run_underlying hu]
  show (Instr.slice t _ lo hi mx).run P w = _
  unfold Instr.slice
  rw [Sem.run_bind, run_underlying hu]
  simp only [Result.andThen_ok]
  rw [Sem.run_bind, hb]
  simp only [Result.andThen_ok]
  rw [Sem.run_bind, sizeOf_run hn]
  simp only [Result.andThen_ok, Sem.run_pure]

/-- Where an exact slice leads. -/
theorem exact_vr {ρ : Rho} {b o l n m h : Nat} (hok : ρ.ok b) (hm : m - l < big) :
    VR ρ (.slice (some ⟨b, pick (Nat.beq m l) o (Nat.add o (Nat.mul l n)), none⟩) (h - l) (m - l)) (.slice (if m = l then some ⟨ρ.blk b, ρ.sh b + o, none⟩ else (some ⟨ρ.blk b, ρ.sh b + o, none⟩ : Option Addr).map (·.add (l * n))) (h - l) (m - l)) := by
  by_cases e : m = l
  · have : Nat.beq m l = true := by rw [e]; simp
    rw [if_pos e, this]
    exact .slice b _ _ _ hok hm
  · have : Nat.beq m l = false := by cases hh : Nat.beq m l with
      | false => rfl
      | true => exact absurd (Nat.eq_of_beq_eq_true hh) e
    rw [if_neg e, this]
    show VR ρ _ (.slice (some (Addr.add _ _)) _ _)
    rw [Addr.add_lit]
    have := VR.slice (ρ := ρ) b (o + l * n) (h - l) (m - l) hok hm
    rw [← Nat.add_assoc] at this
    exact this

theorem sliceS_ok {t e : TypeId} {n : Nat} (hu : P.underlying t = some (.slice e)) (hn : size? P e = some n) {tm : T Value} {ev : Operand → Value} {x : Operand} {lo hi mx : Option Operand} {ρ : Rho} (hx : VR ρ (evA tm x) (ev x))
    (hlo : ∀ y, lo = some y → VR ρ (evA tm y) (ev y)) (hhi : ∀ y, hi = some y → VR ρ (evA tm y) (ev y)) (hmx : ∀ y, mx = some y → VR ρ (evA tm y) (ev y)) {hp hp' : Hp} {v : Value} {w : World} {N : Nat} (c : Ctx P G hp ρ w N)
    (hr : sliceS P n (evA tm x) (getO tm lo) (getO tm hi) (getO tm mx) hp = .ok v hp') : Good P G hp hp' ρ w v (valN (Instr.sliceAt t (ev x) (lo.map ev) (hi.map ev) (mx.map ev))) := by
  unfold sliceS at hr
  replace hr := onSlice_ok hr
  obtain ⟨a, len, cap, hax, hr⟩ := hr
  rw [hax] at hx
  generalize ev x = x' at hx
  cases a with
  | none =>
    cases mx with
    | some m => cases hr
    | none =>
      replace hr : natO (getO tm lo) 0 (fun l => natO (getO tm hi) len fun h => xsliceNil len cap l h hp) = .ok v hp' := hr
      replace hr := natO_ok hr
      obtain ⟨l, hl, hr⟩ := hr
      replace hr := natO_ok hr
      obtain ⟨h, hh, hr⟩ := hr
      unfold xsliceNil at hr
      replace hr := pick_ok hr
      obtain ⟨hb, hr⟩ := hr
      rw [fNat_eq, fNat_eq] at hr
      cases hr
      rw [andB_eq, Bool.and_eq_true, Nat.ble_eq, Nat.ble_eq] at hb
      cases hx
      refine good_pure c ((slice_run hu hn none len cap _ _ _ (bounds_run true len cap (getO_vr hlo hl) (getO_vr hhi hh) hb.1 hb.2 w)).trans ?_) (.nilSlice _ _)
      split <;> rfl
  | some ad =>
    replace hr : onAddr ad .no (fun b o => natO (getO tm lo) 0 fun l => onSome (getO tm mx) (natO (getO tm hi) len fun h => xslice2 P n b o len cap l h hp)
      fun m => natV m .no fun m => onSome (getO tm hi) .no fun h => natV h .no fun h => xslice3 n b o len cap l h m hp) = .ok v hp' := hr
    replace hr := onAddr_ok hr
    obtain ⟨b, oo, rfl, hr⟩ := hr
    replace hr := natO_ok hr
    obtain ⟨l, hl, hr⟩ := hr
    cases mx with
    | none =>
      replace hr : natO (getO tm hi) len (fun h => xslice2 P n b oo len cap l h hp) = .ok v hp' := hr
      replace hr := natO_ok hr
      obtain ⟨h, hh, hr⟩ := hr
      unfold xslice2 at hr
      replace hr := pick_ok hr
      obtain ⟨hlh, hr⟩ := hr
      rw [Nat.ble_eq] at hlh
      have brun : ∀ cap', h ≤ cap' → (Instr.sliceBounds true len cap' (lo.map ev) (hi.map ev) none).run P w = .ok (l, h, cap') w := fun cap' hc => bounds_run true len cap' (getO_vr hlo hl) (getO_vr hhi hh) hlh hc w
      cases hcb : Nat.beq cap big with
      | true =>
        rw [hcb] at hr
        replace hr : xsliceOpen P n b oo len l h hp = .ok v hp' := hr
        unfold xsliceOpen at hr
        replace hr := onCells_ok hr
        obtain ⟨ct, m, e2, hv, hr⟩ := hr
        replace hr := pick_ok hr
        obtain ⟨hb, hr⟩ := hr
        rw [andB_eq, Bool.and_eq_true, Nat.ble_eq] at hb
        obtain ⟨hsz, hhl⟩ := hb
        obtain ⟨rfl, rfl⟩ := sliceV_ok hr
        have hcb' := Nat.eq_of_beq_eq_true hcb
        obtain ⟨_, _, _, _, _, _, _, _, hesz, _⟩ := c.sat.vis b _ hv
        have hen : ρ.esz b = n := by
          unfold sizeIs at hsz
          rw [hesz]
          cases hs : size? P e2 with
          | none => rw [hs] at hsz; cases hsz
          | some q => rw [hs] at hsz; exact Nat.eq_of_beq_eq_true hsz
        cases hx with
        | slice _ _ _ _ hok hc => exact absurd hcb' (Nat.ne_of_lt hc)
        | openS _ _ _ y c' hok g1 g2 g3 g4 =>
          refine good_pure c (slice_run hu hn _ len c' _ _ _ (brun c' (by omega))) ?_
          have hle : l ≤ c' := by omega
          have hmul : l * n + (c' - l) * n = c' * n := by rw [← Nat.add_mul, Nat.add_sub_cancel' hle]
          rw [hen] at g4
          by_cases e1 : c' = l
          · rw [if_pos e1]
            refine .openS b _ (h - l) y (c' - l) hok (by omega) (by omega) (fun hpos => by omega) ?_
            rw [e1, Nat.sub_self, Nat.zero_mul]
            omega
          · rw [if_neg e1]
            show VR ρ _ (.slice (some (Addr.add _ _)) _ _)
            rw [Addr.add_lit]
            refine .openS b _ (h - l) _ (c' - l) hok (by omega) (by omega) (fun hpos => ?_) (by rw [hen]; omega)
            rw [g3 (by omega)]
            show _ = ρ.sh b + (oo + l * n)
            omega
      | false =>
        rw [hcb] at hr
        replace hr : xsliceFull n b oo cap l h hp = .ok v hp' := hr
        unfold xsliceFull at hr
        replace hr := pick_ok hr
        obtain ⟨hhc, hr⟩ := hr
        rw [Nat.ble_eq] at hhc
        obtain ⟨rfl, rfl⟩ := sliceV_ok hr
        cases hx with
        | openS => simp at hcb
        | slice _ _ _ _ hok hc => exact good_pure c (slice_run hu hn _ len cap _ _ _ (brun cap hhc)) (exact_vr hok (by omega))
    | some mo =>
      replace hr : natV (evA tm mo) .no (fun m => onSome (getO tm hi) .no fun h => natV h .no fun h => xslice3 n b oo len cap l h m hp) = .ok v hp' := hr
      replace hr := natV_ok hr
      obtain ⟨km, m, hm, hr⟩ := hr
      replace hr := onSome_ok hr
      obtain ⟨hv, hhv, hr⟩ := hr
      replace hr := natV_ok hr
      obtain ⟨kh, h, rfl, hr⟩ := hr
      unfold xslice3 at hr
      replace hr := pick_ok hr
      obtain ⟨hb, hr⟩ := hr
      simp only [andB_eq, Bool.and_eq_true, Nat.ble_eq] at hb
      obtain ⟨hlh, hhm, hmc, hlen, hmm⟩ := hb
      obtain ⟨rfl, rfl⟩ := sliceV_ok hr
      have hmo := hmx mo rfl
      rw [hm] at hmo
      have emo : (some mo : Option Operand).map ev = some (.int km (.ofNat m)) := by
        show some (ev mo) = _
        generalize ev mo = z at hmo
        cases hmo; rfl
      have ehi : hi.map ev = some (.int kh (.ofNat h)) := by
        rcases getO_vr hhi (n := h) (d := 0) (.inr ⟨kh, hhv⟩) with ⟨h1, h2⟩ | ⟨a, h1⟩
        · cases hi with
          | none => cases hhv
          | some y => cases h1
        · cases hi with
          | none => cases hhv
          | some y =>
            have := hhi y rfl
            have h3 : evA tm y = .int kh (.ofNat h) := Option.some.inj hhv
            rw [h3] at this
            show some (ev y) = _
            generalize ev y = z at this
            cases this; rfl
      rw [emo, ehi]
      have hbig : m - l < big := by unfold most at hmm; unfold big; omega
      cases hx with
      | slice _ _ _ _ hok hc =>
        have : m ≤ cap := by
          have hne : Nat.beq cap big = false := by cases hh : Nat.beq cap big with
            | false => rfl
            | true => exact absurd (Nat.eq_of_beq_eq_true hh) (Nat.ne_of_lt hc)
          rw [hne] at hmc; exact hmc
        exact good_pure c (slice_run hu hn _ len cap _ _ _ (bounds3_run true len cap (getO_vr hlo hl) hlh hhm this w)) (exact_vr hok hbig)
      | openS _ _ _ y c' hok g1 g2 g3 g4 =>
        have : m ≤ len := by simpa using hmc
        rw [g3 (by omega)]
        exact good_pure c (slice_run hu hn _ len c' _ _ _ (bounds3_run true len c' (getO_vr hlo hl) hlh hhm (by omega) w)) (exact_vr hok hbig)

theorem bxSlice_ok {o : Oper} {t : TypeId} {x : Operand} {lo hi mx : Option Operand} (ho : o.op = .slice t x lo hi mx) {f : T Value → Hp → R} (h : bxSlice P o t x lo hi mx = .op f) : BxOk P G o f := by
  have hsel : ∀ cs b, o.op ≠ .select cs b := by rw [ho]; intro cs b e; cases e
  have hx : x ∈ o.op.operands := by rw [ho]; simp [Op.operands]
  have hlo : ∀ y, lo = some y → y ∈ o.op.operands := by intro y hy; rw [ho, hy]; simp [Op.operands]
  have hhi : ∀ y, hi = some y → y ∈ o.op.operands := by intro y hy; rw [ho, hy]; simp [Op.operands]
  have hmx : ∀ y, mx = some y → y ∈ o.op.operands := by intro y hy; rw [ho, hy]; simp [Op.operands]
  have he : ∀ ev, execOp ev o = valN (Instr.sliceAt t (ev x) (lo.map ev) (hi.map ev) (mx.map ev)) := fun ev => by unfold execOp; rw [ho]; rfl
  unfold bxSlice at h
  split at h
  · rename_i e hu
    split at h <;> try (simp only [reduceCtorEq] at h)
    rename_i n hn
    rw [fNat_eq] at h
    cases h
    intro tm hp v hp' hr ρ w N ev c hev hN
    rw [he]
    exact sliceS_ok hu hn (hev x hx) (fun y hy => hev y (hlo y hy)) (fun y hy => hev y (hhi y hy)) (fun y hy => hev y (hmx y hy)) c hr
  · rename_i len e hu
    split at h <;> try (simp only [reduceCtorEq] at h)
    rename_i n hn
    rw [fNat_eq] at h
    cases h
    intro tm hp v hp' hr ρ w N ev c hev hN
    rw [he]
    unfold sliceA at hr
    replace hr := onPtr_ok hr
    obtain ⟨b, oo, hax, hr⟩ := hr
    replace hr := natO_ok hr
    obtain ⟨l, hl, hr⟩ := hr
    replace hr := natO_ok hr
    obtain ⟨h, hh, hr⟩ := hr
    unfold xsliceArr at hr
    replace hr := pick_ok hr
    obtain ⟨hb, hr⟩ := hr
    simp only [andB_eq, Bool.and_eq_true, Nat.ble_eq] at hb
    obtain ⟨rfl, rfl⟩ := sliceV_ok hr
    have hvx := hev x hx
    rw [hax] at hvx
    generalize ev x = x' at hvx
    cases hvx with
    | ptr _ _ hok =>
      refine good_pure c ?_ (exact_vr (m := len) hok (by have := hb.2.2; unfold most at this; unfold big; omega))
      unfold Instr.sliceAt
      rw [Sem.run_bind, run_underlying hu]
      simp only [Result.andThen_ok, Option.map_none]
      rw [Sem.run_bind]
      simp only [Instr.sureAddr, Sem.run_pure, Result.andThen_ok]
      rw [Sem.run_bind, bounds_run false len len (getO_vr (fun y hy => hev y (hlo y hy)) hl) (getO_vr (fun y hy => hev y (hhi y hy)) hh) hb.1 hb.2.1 w]
      simp only [Result.andThen_ok]
      rw [Sem.run_bind, sizeOf_run hn]
      simp only [Result.andThen_ok, Sem.run_pure]
      split <;> rfl
  · unfold plainBx at h; cases h; exact plain_ok hsel
end Go.Proofs.YtjdkfdhfodmbeaaDoor.Ax
