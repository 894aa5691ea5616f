/- An executor of closed runs: what its answers say of a world. -/
import Derived.Test.YtjdkfdhfodmbeaaDoorAxB
import Derived.Laws.Sem
import Derived.Laws.Cells
import Derived.Laws.Entries
import Derived.ChangeKeysEq
namespace Go.Proofs.YtjdkfdhfodmbeaaDoor.Ax
open Go

@[simp] theorem pick_true {β : Type} (x y : β) : pick true x y = x := rfl
@[simp] theorem pick_false {β : Type} (x y : β) : pick false x y = y := rfl
@[simp] theorem onSome_some {α β : Type} (a : α) (d : β) (k : α → β) : onSome (some a) d k = k a := rfl
@[simp] theorem onSome_none {α β : Type} (d : β) (k : α → β) : onSome (none : Option α) d k = d := rfl
@[simp] theorem andB_eq (a b : Bool) : andB a b = (a && b) := by cases a <;> rfl
@[simp] theorem orB_eq (a b : Bool) : orB a b = (a || b) := by cases a <;> rfl
@[simp] theorem lt_eq (a b : Nat) : (lt a b = true) = (a < b) := by simp [lt, Nat.ble_eq, Nat.succ_le_iff]

namespace T
variable {α : Type} {β : Type}
@[simp] theorem get_leaf (n : Nat) : (T.leaf : T α).get n = none := rfl
@[simp] theorem get_node_zero (v : Option α) (l r : T α) : (T.node v l r).get 0 = v := rfl
theorem get_node_succ (v : Option α) (l r : T α) (m : Nat) : (T.node v l r).get (m + 1) = if m % 2 = 0 then l.get (m / 2) else r.get (m / 2) := by
  show pick (Nat.beq (m % 2) 0) (l.get (m / 2)) (r.get (m / 2)) = _
  rcases Nat.mod_two_eq_zero_or_one m with h | h <;> rw [h] <;> rfl

def setF : Nat → T α → Nat → Option α → T α
  | 0, t, _, _ => t
  | f + 1, t, n, x =>
    let (v, l, r) := (match t with | .leaf => (none, .leaf, .leaf) | .node v l r => (v, l, r) : Option α × T α × T α)
    match n with
    | 0 => .node x l r
    | m + 1 => if m % 2 = 0 then .node v (setF f l (m / 2) x) r else .node v l (setF f r (m / 2) x)

theorem setAt_eq (f : Nat) (ih : ∀ (t : T α) (n : Nat) (x : Option α) (k : T α → β), setK f t n x k = k (setF f t n x)) (v : Option α) (l r : T α) (n : Nat) (x : Option α) (k : T α → β) :
    setAt (setK f) v l r n x k = k (match n with | 0 => .node x l r | m + 1 => if m % 2 = 0 then .node v (setF f l (m / 2) x) r else .node v l (setF f r (m / 2) x)) := by
  cases n with
  | zero => rfl
  | succ m =>
    show pick (Nat.beq (m % 2) 0) (setK f l (m / 2) x (toL v r k)) (setK f r (m / 2) x (toR v l k)) = _
    rcases Nat.mod_two_eq_zero_or_one m with h | h
    · dsimp only; rw [if_pos h, h]; show setK f l (m / 2) x (toL v r k) = _; rw [ih]; rfl
    · dsimp only; rw [if_neg (by omega), h]; show setK f r (m / 2) x (toR v l k) = _; rw [ih]; rfl

theorem setK_eq (f : Nat) : ∀ (t : T α) (n : Nat) (x : Option α) (k : T α → β), setK f t n x k = k (setF f t n x) := by
  induction f with
  | zero => intro t n x k; rfl
  | succ f ih =>
    intro t n x k
    cases t with
    | leaf => exact (setAt_eq f ih none .leaf .leaf n x k).trans (by cases n <;> rfl)
    | node v l r => exact (setAt_eq f ih v l r n x k).trans (by cases n <;> rfl)

theorem get_setF (f : Nat) : ∀ (t : T α) (n : Nat) (x : Option α) (m : Nat), n < f → (setF f t n x).get m = if m = n then x else t.get m := by
  induction f with
  | zero => intro t n x m h; omega
  | succ f ih =>
    intro t n x m h
    have key : ∀ (v : Option α) (l r : T α), (∀ m, t.get m = (T.node v l r).get m) →
        (match n with | 0 => T.node x l r | n + 1 => if n % 2 = 0 then .node v (setF f l (n / 2) x) r else .node v l (setF f r (n / 2) x)).get m = if m = n then x else t.get m := by
      intro v l r ht
      cases n with
      | zero => cases m with
        | zero => simp
        | succ m => rw [ht]; simp [get_node_succ]
      | succ n =>
        have hn : n / 2 < f := by omega
        dsimp only
        by_cases hp : n % 2 = 0
        · rw [if_pos hp]
          cases m with
          | zero => rw [ht]; simp
          | succ m =>
            rw [get_node_succ, ht, get_node_succ]
            by_cases hq : m % 2 = 0
            · rw [if_pos hq, if_pos hq, ih _ _ _ _ hn]
              by_cases e : m = n
              · subst e; simp
              · rw [if_neg (by omega), if_neg (by omega)]
            · rw [if_neg hq, if_neg hq, if_neg (by omega)]
        · rw [if_neg hp]
          cases m with
          | zero => rw [ht]; simp
          | succ m =>
            rw [get_node_succ, ht, get_node_succ]
            by_cases hq : m % 2 = 0
            · rw [if_pos hq, if_pos hq, if_neg (by omega)]
            · rw [if_neg hq, if_neg hq, ih _ _ _ _ hn]
              by_cases e : m = n
              · subst e; simp
              · rw [if_neg (by omega), if_neg (by omega)]
    cases t with
    | leaf =>
      refine Eq.trans ?_ (key none .leaf .leaf fun m => ?_)
      · cases n <;> rfl
      · cases m with
        | zero => rfl
        | succ m => rw [get_node_succ]; split <;> rfl
    | node v l r => exact Eq.trans (by cases n <;> rfl) (key v l r fun m => rfl)

def set (t : T α) (n : Nat) (x : Option α) : T α := setF (n + 1) t n x
theorem put_eq (t : T α) (n : Nat) (x : Option α) (k : T α → β) : put t n x k = k (t.set n x) := setK_eq _ _ _ _ _
theorem get_set (t : T α) (n : Nat) (x : Option α) (m : Nat) : (t.set n x).get m = if m = n then x else t.get m := get_setF _ _ _ _ _ (Nat.lt_succ_self n)

def setList : List α → T α → Nat → T α
  | [], t, _ => t
  | x :: xs, t, n => setList xs (t.set n (some x)) (n + 1)
theorem putList_eq : ∀ (l : List α) (t : T α) (n : Nat) (k : T α → β), putList l t n k = k (setList l t n)
  | [], t, n, k => rfl
  | x :: xs, t, n, k => by
    show put t n (some x) (fun t => putList xs t (n + 1) k) = _
    rw [put_eq, putList_eq xs]; rfl
theorem get_setList : ∀ (l : List α) (t : T α) (n m : Nat), (setList l t n).get m = if n ≤ m ∧ m < n + l.length then l[m - n]? else t.get m
  | [], t, n, m => by simp only [setList, List.length_nil]; rw [if_neg (by omega)]
  | x :: xs, t, n, m => by
    simp only [setList, get_setList xs, get_set, List.length_cons]
    by_cases h1 : m = n
    · subst h1; rw [if_neg (by omega), if_pos rfl, if_pos (by omega)]; simp
    · by_cases h2 : n ≤ m ∧ m < n + (xs.length + 1)
      · rw [if_pos (by omega), if_pos h2]
        obtain ⟨d, rfl⟩ : ∃ d, m = n + 1 + d := ⟨m - (n + 1), by omega⟩
        rw [show n + 1 + d - (n + 1) = d by omega, show n + 1 + d - n = d + 1 by omega]; simp
      · rw [if_neg (by omega), if_neg h1, if_neg h2]

/-! The paths. -/
theorem getPath_spec : ∀ (f n : Nat), n < f → ∃ g, getPath (α := α) (pathF f n) = .mk g ∧ ∀ t : T α, g t = t.get n := by
  intro f
  induction f with
  | zero => intro n h; omega
  | succ f ih =>
    intro n h
    cases n with
    | zero => exact ⟨val, rfl, fun t => by cases t <;> rfl⟩
    | succ m =>
      obtain ⟨g, hg, hs⟩ := ih (m / 2) (by omega)
      have e : pathF (f + 1) (m + 1) = Nat.beq (m % 2) 0 :: pathF f (m / 2) := rfl
      have e2 : getPath (α := α) (Nat.beq (m % 2) 0 :: pathF f (m / 2)) =
        GBx.rec (motive := fun _ => GBx α) (fun g => Bool.rec (motive := fun _ => GBx α) (.mk fun t => g (right t)) (.mk fun t => g (left t)) (Nat.beq (m % 2) 0)) (getPath (pathF f (m / 2))) := rfl
      rw [e, e2, hg]
      rcases Nat.mod_two_eq_zero_or_one m with hp | hp
      · rw [hp]
        refine ⟨fun t => g (left t), rfl, fun t => ?_⟩
        show g (left t) = _
        rw [hs]
        cases t with
        | leaf => rfl
        | node v l r => rw [get_node_succ, if_pos hp]; rfl
      · rw [hp]
        refine ⟨fun t => g (right t), rfl, fun t => ?_⟩
        show g (right t) = _
        rw [hs]
        cases t with
        | leaf => rfl
        | node v l r => rw [get_node_succ, if_neg (by omega)]; rfl
theorem setPath_spec : ∀ (f n : Nat), n < f → ∃ s, setPath (α := α) (β := β) (pathF f n) = .mk s ∧ ∀ (t : T α) (x : α), ∃ t', (∀ k, s t x k = k t') ∧ ∀ m, t'.get m = if m = n then some x else t.get m := by
  intro f
  induction f with
  | zero => intro n h; omega
  | succ f ih =>
    intro n h
    cases n with
    | zero =>
      refine ⟨setHere, rfl, fun t x => ?_⟩
      cases t with
      | leaf => refine ⟨.node (some x) .leaf .leaf, fun k => rfl, fun m => ?_⟩; cases m with
        | zero => rfl
        | succ m => rw [get_node_succ]; simp
      | node v l r => refine ⟨.node (some x) l r, fun k => rfl, fun m => ?_⟩; cases m with
        | zero => rfl
        | succ m => rw [get_node_succ, get_node_succ]; simp
    | succ m =>
      obtain ⟨s, hg, hs⟩ := ih (m / 2) (by omega)
      have e : pathF (f + 1) (m + 1) = Nat.beq (m % 2) 0 :: pathF f (m / 2) := rfl
      have e2 : setPath (α := α) (β := β) (Nat.beq (m % 2) 0 :: pathF f (m / 2)) =
        SBx.rec (motive := fun _ => SBx α β) (fun s => Bool.rec (motive := fun _ => SBx α β) (.mk (setR s)) (.mk (setL s)) (Nat.beq (m % 2) 0)) (setPath (pathF f (m / 2))) := rfl
      rw [e, e2, hg]
      rcases Nat.mod_two_eq_zero_or_one m with hp | hp
      · rw [hp]
        refine ⟨setL s, rfl, fun t x => ?_⟩
        have go : ∀ v l r, (∀ j, t.get j = (T.node v l r).get j) → (∀ k, setL s t x k = s l x (toL v r k)) → ∃ t', (∀ k, setL s t x k = k t') ∧ ∀ j, t'.get j = if j = m + 1 then some x else t.get j := by
          intro v l r ht hk
          obtain ⟨l', h1, h2⟩ := hs l x
          refine ⟨.node v l' r, fun k => by rw [hk, h1]; rfl, fun j => ?_⟩
          cases j with
          | zero => rw [ht]; simp
          | succ j =>
            rw [ht, get_node_succ, get_node_succ]
            by_cases hq : j % 2 = 0
            · rw [if_pos hq, if_pos hq, h2]
              by_cases e : j = m
              · subst e; simp
              · rw [if_neg (by omega), if_neg (by omega)]
            · rw [if_neg hq, if_neg hq, if_neg (by omega)]
        cases t with
        | leaf => exact go none .leaf .leaf (fun j => by cases j with | zero => rfl | succ j => rw [get_node_succ]; split <;> rfl) fun k => rfl
        | node v l r => exact go v l r (fun j => rfl) fun k => rfl
      · rw [hp]
        refine ⟨setR s, rfl, fun t x => ?_⟩
        have go : ∀ v l r, (∀ j, t.get j = (T.node v l r).get j) → (∀ k, setR s t x k = s r x (toR v l k)) → ∃ t', (∀ k, setR s t x k = k t') ∧ ∀ j, t'.get j = if j = m + 1 then some x else t.get j := by
          intro v l r ht hk
          obtain ⟨r', h1, h2⟩ := hs r x
          refine ⟨.node v l r', fun k => by rw [hk, h1]; rfl, fun j => ?_⟩
          cases j with
          | zero => rw [ht]; simp
          | succ j =>
            rw [ht, get_node_succ, get_node_succ]
            by_cases hq : j % 2 = 0
            · rw [if_pos hq, if_pos hq, if_neg (by omega)]
            · rw [if_neg hq, if_neg hq, h2]
              by_cases e : j = m
              · subst e; simp
              · rw [if_neg (by omega), if_neg (by omega)]
        cases t with
        | leaf => exact go none .leaf .leaf (fun j => by cases j with | zero => rfl | succ j => rw [get_node_succ]; split <;> rfl) fun k => rfl
        | node v l r => exact go v l r (fun j => rfl) fun k => rfl
end T

/-! The plain forms are the values themselves. -/
section
variable {β : Type}
@[simp] theorem fNat_eq (n : Nat) (k : Nat → β) : fNat n k = k n := by cases n <;> rfl
@[simp] theorem fInt_eq (n : Int) (k : Int → β) : fInt n k = k n := by
  cases n with
  | ofNat m => show fNat m (fun n => k (.ofNat n)) = _; rw [fNat_eq]
  | negSucc m => show fNat m (fun n => k (.negSucc n)) = _; rw [fNat_eq]
@[simp] theorem fBool_eq (n : Bool) (k : Bool → β) : fBool n k = k n := by cases n <;> rfl
@[simp] theorem fBytes_eq : ∀ (l : List UInt8) (k : List UInt8 → β), fBytes l k = k l
  | [], k => rfl
  | b :: bs, k => by
    show fNat b.toNat (fun n => fBytes bs fun bs => k (UInt8.ofNat n :: bs)) = _
    rw [fNat_eq, fBytes_eq bs, UInt8.ofNat_toNat]
@[simp] theorem fHead_eq (v : Value) (k : Value → β) : fHead v k = k v := by cases v <;> rfl
@[simp] theorem fHeads_eq : ∀ (l : List Value) (k : List Value → β), fHeads l k = k l
  | [], k => rfl
  | v :: vs, k => by
    show fHead v (fun v => fHeads vs fun vs => k (v :: vs)) = _
    rw [fHead_eq, fHeads_eq vs]
@[simp] theorem fScal_eq (v : Value) (k : Value → β) : fScal v k = k v := by cases v <;> simp [fScal]
@[simp] theorem fScals_eq : ∀ (l : List Value) (k : List Value → β), fScals l k = k l
  | [], k => rfl
  | v :: vs, k => by
    show fScal v (fun v => fScals vs fun vs => k (v :: vs)) = _
    rw [fScal_eq, fScals_eq vs]
@[simp] theorem fVal_eq (v : Value) (k : Value → β) : fVal v k = k v := by cases v <;> simp [fVal]
@[simp] theorem fParts_eq : ∀ (l : List (Nat × Value)) (k : List (Nat × Value) → β), fParts l k = k l
  | [], k => rfl
  | (i, v) :: l, k => by simp only [fParts, fHead_eq, fParts_eq l]
@[simp] theorem fEntries_eq : ∀ (l : List MapEntry) (k : List MapEntry → β), fEntries l k = k l
  | [], k => rfl
  | ⟨a, b, c⟩ :: l, k => by simp only [fEntries, fHead_eq, fNat_eq, fEntries_eq l]
@[simp] theorem fPairs_eq : ∀ (l : List (Nat × Nat)) (k : List (Nat × Nat) → β), fPairs l k = k l
  | [], k => rfl
  | (a, b) :: l, k => by
    show fPairs l (fun l => k ((a, b) :: l)) = _
    rw [fPairs_eq l]
@[simp] theorem fBx_eq (b : Bx) (k : Bx → β) : fBx b k = k b := by cases b <;> rfl
@[simp] theorem fWBx_eq (b : WBx) (k : WBx → β) : fWBx b k = k b := by cases b <;> rfl
@[simp] theorem fDBx_eq (b : DBx) (k : DBx → β) : fDBx b k = k b := by cases b <;> rfl

/-! Looking at a value. -/
theorem onInt_ok {x : Value} {k : IntKind → Int → R} {v : Value} {hp : Hp} (h : onInt x .no k = .ok v hp) : ∃ a n, x = .int a n ∧ k a n = .ok v hp := by
  cases x <;> first | exact ⟨_, _, rfl, h⟩ | cases h
theorem onBool_ok {x : Value} {k : Bool → R} {v : Value} {hp : Hp} (h : onBool x .no k = .ok v hp) : ∃ a, x = .bool a ∧ k a = .ok v hp := by
  cases x <;> first | exact ⟨_, rfl, h⟩ | cases h
theorem onStr_ok {x : Value} {k : ByteArray → R} {v : Value} {hp : Hp} (h : onStr x .no k = .ok v hp) : ∃ a, x = .string a ∧ k a = .ok v hp := by
  cases x <;> first | exact ⟨_, rfl, h⟩ | cases h
theorem onAgg_ok {x : Value} {k : List Value → R} {v : Value} {hp : Hp} (h : onAgg x .no k = .ok v hp) : ∃ l, x = .agg ⟨l⟩ ∧ k l = .ok v hp := by
  cases x <;> first | exact ⟨_, rfl, h⟩ | cases h
theorem onTuple_ok {x : Value} {k : List Value → R} {v : Value} {hp : Hp} (h : onTuple x .no k = .ok v hp) : ∃ l, x = .tuple ⟨l⟩ ∧ k l = .ok v hp := by
  cases x <;> first | exact ⟨_, rfl, h⟩ | cases h
theorem onMap_ok {x : Value} {k : Option Nat → R} {v : Value} {hp : Hp} (h : onMap x .no k = .ok v hp) : ∃ r, x = .map r ∧ k r = .ok v hp := by
  cases x <;> first | exact ⟨_, rfl, h⟩ | cases h
theorem onSlice_ok {x : Value} {k : Option Addr → Nat → Nat → R} {v : Value} {hp : Hp} (h : onSlice x .no k = .ok v hp) : ∃ a l c, x = .slice a l c ∧ k a l c = .ok v hp := by
  cases x <;> first | exact ⟨_, _, _, rfl, h⟩ | cases h
theorem onSome_ok {α : Type} {x : Option α} {k : α → R} {v : Value} {hp : Hp} (h : onSome x .no k = .ok v hp) : ∃ a, x = some a ∧ k a = .ok v hp := by
  cases x <;> first | exact ⟨_, rfl, h⟩ | cases h
theorem onAddr_ok {x : Addr} {k : Nat → Nat → R} {v : Value} {hp : Hp} (h : onAddr x .no k = .ok v hp) : ∃ b o, x = ⟨b, o, none⟩ ∧ k b o = .ok v hp := by
  obtain ⟨b, o, s⟩ := x
  cases s with
  | none => exact ⟨_, _, rfl, h⟩
  | some s => cases h
theorem onPtr_ok {x : Value} {k : Nat → Nat → R} {v : Value} {hp : Hp} (h : onPtr x .no k = .ok v hp) : ∃ b o, x = .pointer (some ⟨b, o, none⟩) ∧ k b o = .ok v hp := by
  cases x <;> try cases h
  rename_i a
  obtain ⟨a, rfl, h⟩ := onSome_ok (x := a) (show onSome a .no (fun a => onAddr a .no k) = .ok v hp from h)
  obtain ⟨b, o, rfl, h⟩ := onAddr_ok h
  exact ⟨b, o, rfl, h⟩
theorem pick_ok {b : Bool} {x : R} {v : Value} {hp : Hp} (h : pick b x .no = .ok v hp) : b = true ∧ x = .ok v hp := by
  cases b
  · cases h
  · exact ⟨rfl, h⟩
theorem onR_ok {r : R} {k : Value → Hp → R} {v : Value} {hp : Hp} (h : onR r .no k = .ok v hp) : ∃ u q, r = .ok u q ∧ k u q = .ok v hp := by
  cases r with
  | no => cases h
  | ok u q => exact ⟨u, q, rfl, h⟩
theorem okV_ok {q hp : Hp} {o : Option Value} {v : Value} (h : okV q o = .ok v hp) : o = some v ∧ q = hp := by
  obtain ⟨a, rfl, h⟩ := onSome_ok h
  cases h
  exact ⟨rfl, rfl⟩
theorem natV_ok {x : Value} {k : Nat → R} {v : Value} {hp : Hp} (h : natV x .no k = .ok v hp) : ∃ a n, x = .int a (.ofNat n) ∧ k n = .ok v hp := by
  obtain ⟨a, n, rfl, h⟩ := onInt_ok h
  cases n with
  | ofNat n => exact ⟨a, n, rfl, h⟩
  | negSucc n => cases h
theorem onCells_ok {o : Option AObj} {k : T Value → Nat → TypeId → R} {v : Value} {hp : Hp} (h : onCells o .no k = .ok v hp) : ∃ t n e, o = some (.cells t n e) ∧ k t n e = .ok v hp := by
  cases o with
  | none => cases h
  | some o => cases o <;> first | exact ⟨_, _, _, rfl, h⟩ | cases h
theorem onRead_ok {o : Option AObj} {k : T Value → R} {v : Value} {hp : Hp} (h : onRead o .no k = .ok v hp) : ∃ t, ((∃ n e, o = some (.cells t n e)) ∨ o = some (.ro t)) ∧ k t = .ok v hp := by
  cases o with
  | none => cases h
  | some o => cases o <;> first | exact ⟨_, .inl ⟨_, _, rfl⟩, h⟩ | exact ⟨_, .inr rfl, h⟩ | cases h
end

theorem isAggV_none {v : Value} (h : isAggV v = none) : cellsOf v = [v] := by unfold cellsOf; rw [h]; rfl
theorem isAggV_some {v : Value} {l : List Value} (h : isAggV v = some l) : v = .agg ⟨l⟩ := by
  cases v <;> first | (cases h; rfl) | cases h
theorem onCellsOf_ok {x : Value} {k : List Value → R} {v : Value} {hp : Hp} (h : onCellsOf x .no k = .ok v hp) : (x = .agg ⟨cellsOf x⟩ ∨ (oneC x = true ∧ cellsOf x = [x])) ∧ k (cellsOf x) = .ok v hp := by
  unfold onCellsOf at h
  cases hx : isAggV x with
  | none =>
    rw [hx] at h
    obtain ⟨h1, h2⟩ := pick_ok h
    rw [isAggV_none hx]
    exact ⟨.inr ⟨h1, rfl⟩, h2⟩
  | some l =>
    rw [hx] at h
    have : cellsOf x = l := by unfold cellsOf; rw [hx]; rfl
    rw [this]
    exact ⟨.inl (isAggV_some hx), h⟩

/-! The memory's steps. -/
section
variable {β : Type}
def addL (lim n : Nat) (l : List Nat) : List Nat := if n < lim then (if n ∈ l then l else n :: l) else l
theorem memW_eq (n : Nat) : ∀ l, memW n l = decide (n ∈ l)
  | [] => rfl
  | m :: l => by
    simp only [memW]
    cases h : Nat.beq m n with
    | true => have := Nat.eq_of_beq_eq_true h; simp [this]
    | false =>
      have : m ≠ n := fun e => by rw [e] at h; simp at h
      simp [memW_eq n l, Ne.symm this]
theorem addW_eq (lim n : Nat) (l : List Nat) (k : List Nat → β) : addW lim n l k = k (addL lim n l) := by
  unfold addW addL
  by_cases h : n < lim
  · have : lt n lim = true := by rw [lt_eq]; exact h
    rw [this, if_pos h, pick_true, memW_eq]
    by_cases h2 : n ∈ l <;> simp [h2]
  · have : lt n lim = false := by cases hh : lt n lim with
      | false => rfl
      | true => rw [lt_eq] at hh; exact absurd hh h
    rw [this, if_neg h, pick_false]
theorem mem_addL {lim n m : Nat} {l : List Nat} : m ∈ addL lim n l ↔ (m ∈ l ∨ (m = n ∧ n < lim)) := by
  unfold addL
  split
  · split
    · constructor
      · exact .inl
      · rintro (h | ⟨rfl, _⟩) <;> assumption
    · simp only [List.mem_cons]; rename_i h _; constructor
      · rintro (h2 | h2)
        · exact .inr ⟨h2, h⟩
        · exact .inl h2
      · rintro (h2 | ⟨h2, _⟩)
        · exact .inr h2
        · exact .inl h2
  · rename_i h; constructor
    · exact .inl
    · rintro (h2 | ⟨_, h2⟩)
      · exact h2
      · exact absurd h2 h
def Hp.upd (p : Hp) (b : Nat) (o : Option AObj) : Hp := ⟨p.h.set b o, p.next, p.hid, addL p.lim b p.wr, p.lim⟩
theorem Hp.set_eq (p : Hp) (b : Nat) (o : Option AObj) (k : Hp → β) : p.set b o k = k (p.upd b o) := by
  show T.put p.h b o (fun h => addW p.lim b p.wr fun wr => k ⟨h, p.next, p.hid, wr, p.lim⟩) = _
  rw [T.put_eq, addW_eq]; rfl
def Hp.new (p : Hp) (o : AObj) : Hp := ⟨p.h.set p.next (some o), p.next + 1, p.hid, p.wr, p.lim⟩
theorem xnew_eq (p : Hp) (o : AObj) (k : Nat → Hp → β) : xnew p o k = k p.next (p.new o) := by
  show T.put p.h p.next (some o) (fun h => fNat (p.next + 1) fun next' => k p.next ⟨h, next', p.hid, p.wr, p.lim⟩) = _
  rw [T.put_eq, fNat_eq]; rfl
theorem xnewCells_eq (p : Hp) (e : TypeId) (l : List Value) (k : Nat → Hp → β) : xnewCells p e l k = k p.next (p.new (.cells (T.setList l .leaf 0) l.length e)) := by
  unfold xnewCells; rw [T.putList_eq, fNat_eq, xnew_eq]
noncomputable def Hp.no (p : Hp) (n : Nat) : Bool := !(Nat.ble p.lim n) && hidden p.hid n
theorem Hp.vis_eq (p : Hp) (n : Nat) : p.vis n = if p.no n = true then none else p.h.get n := by
  show visIn p.h p.hid p.lim n = _
  unfold visIn Hp.no
  cases Nat.ble p.lim n <;> cases hidden p.hid n <;> rfl
end

theorem readCells_spec (ct : T Value) : ∀ (n o : Nat) (l : List Value), readCells ct o n = some l → l.length = n ∧ ∀ i, i < n → ct.get (o + i) = l[i]?
  | 0, o, l, h => by cases h; exact ⟨rfl, fun i hi => by omega⟩
  | n + 1, o, l, h => by
    have h' : onSome (ct.get o) none (fun v => consO v (readCells ct (o + 1) n)) = some l := h
    cases hv : ct.get o with
    | none => rw [hv] at h'; cases h'
    | some v =>
      rw [hv] at h'
      cases hr : readCells ct (o + 1) n with
      | none => rw [hr] at h'; cases h'
      | some l' =>
        rw [hr] at h'
        cases h'
        obtain ⟨h1, h2⟩ := readCells_spec ct n (o + 1) l' hr
        refine ⟨by simp [h1], fun i hi => ?_⟩
        cases i with
        | zero => simpa using hv
        | succ i => rw [show o + (i + 1) = o + 1 + i by omega, h2 i (by omega)]; simp
end Go.Proofs.YtjdkfdhfodmbeaaDoor.Ax
