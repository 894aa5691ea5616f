/- An executor of closed runs: operations, calls, frames. -/
import Derived.Test.YtjdkfdhfodmbeaaDoorAxA
namespace Go.Proofs.YtjdkfdhfodmbeaaDoor.Ax
open Go
noncomputable section

/-! Integers. -/
def addI (a b : Int) : Int := match a, b with
  | .ofNat a, .ofNat b => .ofNat (Nat.add a b)
  | a, b => a + b
def subI (a b : Int) : Int := match a, b with
  | .ofNat a, .ofNat b => pick (Nat.ble b a) (.ofNat (Nat.sub a b)) (Int.ofNat a - Int.ofNat b)
  | a, b => a - b
def mulI (a b : Int) : Int := match a, b with
  | .ofNat a, .ofNat b => .ofNat (Nat.mul a b)
  | a, b => a * b
def ltI (a b : Int) : Bool := match a, b with
  | .ofNat a, .ofNat b => lt a b
  | .negSucc _, .ofNat _ => true
  | .ofNat _, .negSucc _ => false
  | .negSucc a, .negSucc b => lt b a
def eqI (a b : Int) : Bool := match a, b with
  | .ofNat a, .ofNat b => Nat.beq a b
  | .negSucc a, .negSucc b => Nat.beq a b
  | _, _ => false
def topOf : IntKind → Nat
  | .i8 => 127 | .i16 => 32767 | .i32 => 2147483647 | .i64 => 9223372036854775807
  | .u8 => 255 | .u16 => 65535 | .u32 => 4294967295 | .u64 => 18446744073709551615
def kindN : IntKind → Nat
  | .i8 => 0 | .i16 => 1 | .i32 => 2 | .i64 => 3 | .u8 => 4 | .u16 => 5 | .u32 => 6 | .u64 => 7
/-- A number as one of kind k, whose greatest is top; s: it has a sign. -/
def wrapI (k : IntKind) (top : Nat) (s : Bool) (n : Int) : Int := match n with
  | .ofNat m => pick (Nat.ble m top) (.ofNat m) (k.wrap (.ofNat m))
  | .negSucc m => pick (andB s (Nat.ble m top)) (.negSucc m) (k.wrap (.negSucc m))
def bR (hp : Hp) (b : Bool) : R := fBool b fun b => .ok (.bool b) hp
def iR (k : IntKind) (hp : Hp) (n : Int) : R := fInt n fun n => .ok (.int k n) hp

def eqB : List UInt8 → List UInt8 → Bool
  | [], [] => true
  | a :: x, b :: y => pick (Nat.beq a.toNat b.toNat) (eqB x y) false
  | _, _ => false

/-- One is nil, the other is not. -/
def nilPair (P : Program) (t : TypeId) (a b : Value) : Bool :=
  match P.underlying t, a, b with
  | some (.pointer _), .pointer none, .pointer (some _) => true
  | some (.pointer _), .pointer (some _), .pointer none => true
  | some (.slice _), .slice none _ _, .slice (some _) _ _ => true
  | some (.slice _), .slice (some _) _ _, .slice none _ _ => true
  | some (.map ..), .map none, .map (some _) => true
  | some (.map ..), .map (some _), .map none => true
  | some (.func ..), .nilFunc, .func .. => true
  | some (.func ..), .func .., .nilFunc => true
  | some (.interface _), .nilIface, .iface .. => true
  | some (.interface _), .iface .., .nilIface => true
  | _, _, _ => false
/-- '==' and '!=' against nil of a value that leads somewhere. -/
def xeqNil (P : Program) (op : BinOp) (t : TypeId) (a b : Value) : Option Value :=
  cond (nilPair P t a b)
    (match op with
    | .eql => some (.bool false)
    | .neq => some (.bool true)
    | _ => none) none

def pureV (P : Program) (s : Sem Next) : Option Value :=
  match pureRun P s with
  | some (.value v) => cond (pl v) (fVal v fun v => some v) none
  | _ => none

def allPl : List Value → Bool
  | [] => true
  | v :: vs => cond (pl v) (allPl vs) false

/-- An operation whose operands lead nowhere, and which asks nothing of the memory. -/
def xplain (P : Program) (tm : T Value) (o : Oper) : Option Value :=
  cond (allPl (o.op.operands.toList.map (evA tm))) (pureV P (execOp (evA tm) o)) none

/-- What a call comes to. -/
inductive CR where
  | no
  | val (v : Value) (hp : Hp)
  | enter (f : FuncId) (args : List Value)
  | yield (l : Nat) (args : List Value)

/-! Operations made ready. -/
/-- An operand, made ready. -/
inductive OBx where
  | mk (f : T Value → (Value → R) → R)
def opBx (x : Operand) : OBx :=
  match x with
  | .tmp t => T.GBx.rec (motive := fun _ => OBx) (fun g => .mk fun tm k => onSome (g tm) (k undef) k) (T.getPath (α := Value) (T.pathF (Nat.succ t) t))
  | .const v => .mk fun _ k => k v
  | .global g => .mk fun _ k => k (.pointer (some ⟨g, 0, none⟩))
  | .func f => .mk fun _ k => k (.func (.func f) #[] #[])
/-- Many operands, made ready. -/
inductive LBx (β : Type) where
  | mk (f : T Value → (List Value → β) → β)
/-- An operand for an answer of another kind. -/
def opBxC {β : Type} (x : Operand) : LBx β :=
  match x with
  | .tmp t => T.GBx.rec (motive := fun _ => LBx β) (fun g => .mk fun tm k => onSome (g tm) (k [undef]) fun v => k [v]) (T.getPath (α := Value) (T.pathF (Nat.succ t) t))
  | .const v => .mk fun _ k => k [v]
  | .global g => .mk fun _ k => k [.pointer (some ⟨g, 0, none⟩)]
  | .func f => .mk fun _ k => k [.func (.func f) #[] #[]]
def consL {β : Type} (k : List Value → β) (l vs : List Value) : β := List.rec (motive := fun _ => β) (k vs) (fun v _ _ => k (v :: vs)) l
def opsBx {β : Type} (l : List Operand) : LBx β :=
  List.rec (motive := fun _ => LBx β) (.mk fun _ k => k [])
    (fun x _ ih => LBx.rec (motive := fun _ => LBx β) (fun h => LBx.rec (motive := fun _ => LBx β) (fun g => .mk fun tm k => g tm fun l => h tm fun vs => consL k l vs) (opBxC x)) ih) l

/-- An operation, made ready. -/
inductive Bx where
  | op (f : T Value → Hp → R)
  | call (f : T Value → Hp → CR)
  | bad

def with1 (x : Operand) (k : (T Value → (Value → R) → R) → Bx) : Bx := OBx.rec (motive := fun _ => Bx) k (opBx x)
def op1 (x : Operand) (f : Value → Hp → R) : Bx := with1 x fun x => .op fun tm hp => x tm fun v => f v hp
def op2 (x y : Operand) (f : Value → Value → Hp → R) : Bx := with1 x fun x => with1 y fun y => .op fun tm hp => x tm fun v => y tm fun u => f v u hp
def op3 (x y z : Operand) (f : Value → Value → Value → Hp → R) : Bx := with1 x fun x => with1 y fun y => with1 z fun z => .op fun tm hp => x tm fun v => y tm fun u => z tm fun t => f v u t hp
/-- By the plain way alone. -/
def plainR (P : Program) (o : Oper) (tm : T Value) (hp : Hp) : R := okV hp (xplain P tm o)
def plainBx (P : Program) (o : Oper) : Bx := .op (plainR P o)
/-- First by f, else by the plain way. -/
def elseR (r s : R) : R := R.rec (motive := fun _ => R) s (fun v hp => .ok v hp) r
def op2p (P : Program) (o : Oper) (x y : Operand) (f : Value → Value → Hp → R) : Bx :=
  with1 x fun x => with1 y fun y => .op fun tm hp => elseR (x tm fun v => y tm fun u => f v u hp) (plainR P o tm hp)
def op1p (P : Program) (o : Oper) (x : Operand) (f : Value → Hp → R) : Bx :=
  with1 x fun x => .op fun tm hp => elseR (x tm fun v => f v hp) (plainR P o tm hp)

/-- Both are integers of kind k. -/
def ints (k : IntKind) (x y : Value) (f : Int → Int → R) : R :=
  onInt x .no fun j a => pick (Nat.beq (kindN j) (kindN k)) (onInt y .no fun j b => pick (Nat.beq (kindN j) (kindN k)) (f a b) .no) .no
def bxInt (P : Program) (o : Oper) (k : IntKind) (top : Nat) (s : Bool) (op : BinOp) (x y : Operand) : Bx :=
  match op with
  | .add => op2p P o x y fun x y hp => ints k x y fun a b => iR k hp (wrapI k top s (addI a b))
  | .sub => op2p P o x y fun x y hp => ints k x y fun a b => iR k hp (wrapI k top s (subI a b))
  | .mul => op2p P o x y fun x y hp => ints k x y fun a b => iR k hp (wrapI k top s (mulI a b))
  | .eql => op2p P o x y fun x y hp => ints k x y fun a b => bR hp (eqI a b)
  | .neq => op2p P o x y fun x y hp => ints k x y fun a b => bR hp (pick (eqI a b) false true)
  | .lss => op2p P o x y fun x y hp => ints k x y fun a b => bR hp (ltI a b)
  | .leq => op2p P o x y fun x y hp => ints k x y fun a b => bR hp (pick (ltI b a) false true)
  | .gtr => op2p P o x y fun x y hp => ints k x y fun a b => bR hp (ltI b a)
  | .geq => op2p P o x y fun x y hp => ints k x y fun a b => bR hp (pick (ltI a b) false true)
  | _ => plainBx P o
def strs (x y : Value) (f : List UInt8 → List UInt8 → R) : R := onStr x .no fun a => onStr y .no fun b => f a.data.toList b.data.toList
def bxStr (P : Program) (o : Oper) (op : BinOp) (x y : Operand) : Bx :=
  match op with
  | .eql => op2p P o x y fun x y hp => strs x y fun a b => bR hp (eqB a b)
  | .neq => op2p P o x y fun x y hp => strs x y fun a b => bR hp (pick (eqB a b) false true)
  | _ => plainBx P o
def bxBin (P : Program) (o : Oper) (op : BinOp) (t : TypeId) (x y : Operand) : Bx :=
  match P.underlying t with
  | some (.int k) => fNat (topOf k) fun top => fBool k.signed fun s => bxInt P o k top s op x y
  | some .string => bxStr P o op x y
  | some (.pointer _) | some (.slice _) | some (.map ..) | some (.func ..) | some (.interface _) => op2p P o x y fun x y hp => okV hp (xeqNil P op t x y)
  | _ => plainBx P o
def notR (x : Value) (hp : Hp) : R := onBool x .no fun b => bR hp (pick b false true)
def bxUn (P : Program) (o : Oper) (op : UnOp) (x : Operand) : Bx :=
  match op with
  | .not => op1 x notR
  | _ => plainBx P o

def pickV (v a b : Value) (hp : Hp) : R := onBool v .no fun t => pick t (.ok a hp) (.ok b hp)

/-- The cells from off on, n of them. -/
def subL : List Value → Nat → Nat → Option (List Value)
  | _, _, 0 => some []
  | [], _, _ + 1 => none
  | v :: vs, 0, n + 1 => consO v (subL vs 0 n)
  | _ :: vs, m + 1, n + 1 => subL vs m (n + 1)
def nthL (l : List Value) (n : Nat) : Option Value := l[n]?
def partAgg (n : Nat) (l : List Value) (off : Nat) (hp : Hp) : R := onSome (subL l off n) .no fun l => .ok (.agg ⟨l⟩) hp
def partOne (l : List Value) (off : Nat) (hp : Hp) : R := okV hp (nthL l off)
def bxField (P : Program) (t : TypeId) (x : Operand) (f : Nat) : Bx :=
  match P.underlying t with
  | some (.struct fs) => match fs.toList[f]? with
    | some fd => fNat fd.offset fun off => match kindT P fd.type with
      | .agg n => op1 x fun v hp => onAgg v .no fun l => partAgg n l off hp
      | .one => op1 x fun v hp => onAgg v .no fun l => partOne l off hp
      | .bad => .bad
    | none => .bad
  | _ => .bad
def byteAt (l : List UInt8) (i : Nat) (hp : Hp) : R := onSome (l[i]?) .no fun b => fNat b.toNat fun n => .ok (.int .u8 (.ofNat n)) hp
def bxIndex (P : Program) (t : TypeId) (x i : Operand) : Bx :=
  match P.underlying t with
  | some (.array len elem) => match kindT P elem with
    | .agg n => op2 x i fun v i hp => onAgg v .no fun l => natV i .no fun i => pick (lt i len) (partAgg n l (Nat.mul i n) hp) .no
    | .one => op2 x i fun v i hp => onAgg v .no fun l => natV i .no fun i => pick (lt i len) (partOne l i hp) .no
    | .bad => .bad
  | some .string => op2 x i fun v i hp => onStr v .no fun s => natV i .no fun i => byteAt s.data.toList i hp
  | _ => .bad
def bxFieldAddr (P : Program) (s : TypeId) (x : Operand) (f : Nat) : Bx :=
  match P.underlying s with
  | some (.struct fs) => match fs.toList[f]? with
    | some fd => match size? P fd.type with
      | some n => pick (Nat.ble 1 n) (fNat fd.offset fun off => op1 x (xfieldAddr off)) .bad
      | none => .bad
    | none => .bad
  | _ => .bad
def bxIndexAddr (P : Program) (t : TypeId) (x i : Operand) : Bx :=
  match P.underlying t with
  | some (.slice elem) => match size? P elem with
    | some n => fNat n fun n => op2 x i (xindexAddrS n)
    | none => .bad
  | some (.array len elem) => match size? P elem with
    | some n => fNat n fun n => op2 x i (xindexAddrA len n)
    | none => .bad
  | _ => .bad

def bxLoad (P : Program) (t : TypeId) (a : Operand) : Bx :=
  match kindT P t with
  | .agg n => op1 a (xloadAgg n)
  | .one => op1 a xloadOne
  | .bad => .bad
def bxStore (P : Program) (t : TypeId) (a x : Operand) : Bx :=
  match kindT P t with
  | .agg n => op2 a x (xstoreAgg n)
  | .one => op2 a x xstoreOne
  | .bad => .bad
inductive TBx where
  | mk (t : T Value) (n : Nat)
def allocV (t : T Value) (n : Nat) (elem : TypeId) (hp : Hp) : R := xnew hp (.cells t n elem) fun b hp => .ok (ptrV b 0) hp
def bxAlloc (P : Program) (elem : TypeId) : Bx :=
  match zeroL P elem with
  | some l => match T.putList l .leaf 0 fun ct => fNat l.length fun n => TBx.mk ct n with
    | .mk ct n => .op fun _ hp => allocV ct n elem hp
  | none => .bad

def opd2 (tm : T Value) : List (Nat × Operand) → List (Nat × Value)
  | [] => []
  | (i, x) :: l => (i, evA tm x) :: opd2 tm l
/-- Cells before others. -/
def appK (cs l : List Value) : (List Value → R) → R :=
  List.rec (motive := fun _ => (List Value → R) → R) (fun k => k l) (fun v _ ih k => ih fun r => k (v :: r)) cs
def pieceAgg (n : Nat) (v : Value) (k : List Value → R) (l : List Value) : R := onAgg v .no fun cs => pick (Nat.beq cs.length n) (appK cs l k) .no
def pieceOne (v : Value) (k : List Value → R) (l : List Value) : R := pick (oneC v) (k (v :: l)) .no
def pieceBx (kd : Kd) (x : Operand) (h : LBx R) : Option (LBx R) :=
  match kd, opBx x, h with
  | .agg n, .mk g, .mk h => some (.mk fun tm k => h tm fun l => g tm fun v => pieceAgg n v k l)
  | .one, .mk g, .mk h => some (.mk fun tm k => h tm fun l => g tm fun v => pieceOne v k l)
  | .bad, _, _ => none
def zeroBx (zl : List Value) (h : LBx R) : Option (LBx R) :=
  match h with
  | .mk h => fHeads zl fun zl => some (.mk fun tm k => h tm fun l => appK zl l k)
/-- A value built of its fields in their order: of operands, and of the zero's cells z where none is given. -/
def flatBx (P : Program) (z : List Value) : List Field → Nat → Nat → List (Nat × Operand) → Option (LBx R)
  | [], _, off, ps => match ps with
    | [] => pick (Nat.beq off z.length) (some (.mk fun _ k => k [])) none
    | _ => none
  | fd :: fs, j, off, ps => pick (Nat.beq fd.offset off)
    (match size? P fd.type with
    | some n => match ps with
      | (i, x) :: ps' => pick (Nat.beq i j)
        (onSome (flatBx P z fs (j + 1) (off + n) ps') none fun h => pieceBx (kindT P fd.type) x h)
        (onSome (flatBx P z fs (j + 1) (off + n) ((i, x) :: ps')) none fun h => zeroBx ((z.drop off).take n) h)
      | [] => onSome (flatBx P z fs (j + 1) (off + n) []) none fun h => zeroBx ((z.drop off).take n) h
    | none => none) none
def fParts {β : Type} : List (Nat × Value) → (List (Nat × Value) → β) → β
  | [], k => k []
  | (i, v) :: l, k => fHead v fun v => fParts l fun l => k ((i, v) :: l)
/-- A value built of parts laid over a row of zeros. -/
def arrParts (size n : Nat) (ct : T Value) (parts : List (Nat × Value)) (hp : Hp) : R :=
  fParts parts fun parts => xfill size .no parts ct fun ct => onSome (readCells ct 0 n) .no fun l => .ok (.agg ⟨l⟩) hp
def bxBuild (P : Program) (t : TypeId) (ps : List (Nat × Operand)) : Bx :=
  match P.underlying t, zeroL P t with
  | some (.struct fs), some z => match flatBx P z fs.toList 0 0 ps with
    | some (.mk f) => .op fun tm hp => f tm fun l => .ok (.agg ⟨l⟩) hp
    | none => .bad
  | some (.array len e), some z => match size? P e with
    | some size => cond (Nat.ble 1 size && Nat.beq z.length (Nat.mul len size) && bnd len ps)
      (match T.putList z .leaf 0 fun ct => fNat z.length fun n => TBx.mk ct n with
      | .mk ct n => .op fun tm hp => arrParts size n ct (opd2 tm ps) hp) .bad
    | none => .bad
  | _, _ => .bad
def sliceParts (elem size n : Nat) (ct : T Value) (len : Nat) (parts : List (Nat × Value)) (hp : Hp) : R :=
  fParts parts fun parts => xfill size .no parts ct fun ct => xnew hp (.cells ct n elem) fun b hp => .ok (.slice (some ⟨b, 0, none⟩) len len) hp
def bxBuildSlice (P : Program) (t : TypeId) (len : Nat) (ps : List (Nat × Operand)) : Bx :=
  match P.underlying t with
  | some (.slice elem) => match size? P elem, zeroL P elem with
    | some size, some zl =>
      cond (Nat.beq zl.length size && bnd len ps && Nat.ble (Nat.mul len size) most && Nat.ble 1 size)
        (match zeros zl len 0 .leaf fun ct => fNat (Nat.mul len size) fun n => TBx.mk ct n with
        | .mk ct n => .op fun tm hp => sliceParts elem size n ct len (opd2 tm ps) hp) .bad
    | _, _ => .bad
  | _ => .bad
def bxMakeSlice (P : Program) (t : TypeId) (l c : Operand) : Bx :=
  match P.underlying t with
  | some (.slice elem) => match size? P elem, zeroL P elem, P.info? elem with
    | some size, some zl, some inf => cond (Nat.beq zl.length size && Nat.ble 1 size) (op2 l c (xmakeSlice elem size zl inf.bytes)) .bad
    | _, _, _ => .bad
  | _ => .bad

def natO (v : Option Value) (d : Nat) (k : Nat → R) : R := onSome v (k d) fun v => natV v .no k
def getO (tm : T Value) (x : Option Operand) : Option Value := onSome x none fun x => some (evA tm x)
def sliceS (P : Program) (n : Nat) (x : Value) (lo hi mx : Option Value) (hp : Hp) : R :=
  onSlice x .no fun a len cap => onSome a (onSome mx (natO lo 0 fun l => natO hi len fun h => xsliceNil len cap l h hp) fun _ => .no) fun a => onAddr a .no fun b o =>
    natO lo 0 fun l => onSome mx (natO hi len fun h => xslice2 P n b o len cap l h hp) fun m => natV m .no fun m => onSome hi .no fun h => natV h .no fun h => xslice3 n b o len cap l h m hp
def sliceA (n len : Nat) (x : Value) (lo hi : Option Value) (hp : Hp) : R :=
  onPtr x .no fun b o => natO lo 0 fun l => natO hi len fun h => xsliceArr n b o len l h hp
def bxSlice (P : Program) (o : Oper) (t : TypeId) (x : Operand) (lo hi mx : Option Operand) : Bx :=
  match P.underlying t with
  | some (.slice elem) => match size? P elem with
    | some n => fNat n fun n => .op fun tm hp => sliceS P n (evA tm x) (getO tm lo) (getO tm hi) (getO tm mx) hp
    | none => .bad
  | some (.array len elem) => match size? P elem, mx with
    | some n, none => fNat n fun n => .op fun tm hp => sliceA n len (evA tm x) (getO tm lo) (getO tm hi) hp
    | _, _ => .bad
  | _ => plainBx P o

def extractV (i : Nat) (v : Value) (hp : Hp) : R := onTuple v .no fun l => okV hp (nthL l i)
def ifaceV (t : TypeId) (v : Value) (hp : Hp) : R := .ok (.iface t v) hp
def stillV (v : Value) (hp : Hp) : R := .ok v hp
def failed (P : Program) (asserted : TypeId) (ok : Bool) : Option Value :=
  match ok, zero? P asserted with
  | true, some z => cond (pl z) (some (.tuple #[z, .bool false])) none
  | _, _ => none
def held (v : Value) (ok : Bool) : Option Value := fHead v fun v => cond ok (some (.tuple #[v, .bool true])) (some v)

def xtypeAssert (P : Program) (asserted : TypeId) (ok : Bool) (x : Value) : Option Value :=
  match P.underlying asserted, x with
  | some (.interface want), .iface t _ => match P.info? t with
    | some i => match Instr.missingMethod want i.methods with
      | none => held x ok
      | some _ => failed P asserted ok
    | none => none
  | some (.interface _), .nilIface => failed P asserted ok
  | some _, .iface t v => cond (Nat.beq t asserted) (held v ok) (failed P asserted ok)
  | some _, .nilIface => failed P asserted ok
  | _, _ => none

/-! Maps, whose keys are integers, strings or bools. -/
def nowKind (P : Program) (kt : TypeId) : Option TypeDesc :=
  match P.underlying kt with
  | some (.int k) => some (.int k)
  | some .string => some .string
  | some .bool => some .bool
  | _ => none
def onMapObj {β : Type} (o : Option AObj) (d : β) (k : List MapEntry → Nat → β) : β :=
  Option.rec (motive := fun _ => β) d (fun o => AObj.rec (motive := fun _ => β) (fun _ _ _ => d) (fun _ => d) k (fun _ _ => d) (fun _ _ _ _ _ _ _ _ _ => d) (fun _ => d) o) o
def looked (v : Value) (b ok : Bool) (hp : Hp) : R := pick ok (.ok (.tuple ⟨[v, .bool b]⟩) hp) (.ok v hp)
def lookIn (d : TypeDesc) (z : Value) (ok : Bool) (k : Value) (hp : Hp) (es : List MapEntry) : R :=
  onSome (Instr.findNow d k es 0) .no fun r => onSome r (looked z false ok hp) fun x => looked x.2 true ok hp
def xlookup (d : TypeDesc) (z : Value) (ok : Bool) (x k : Value) (hp : Hp) : R :=
  onMap x .no fun r => onSome r (lookIn d z ok k hp []) fun r => onMapObj (hp.vis r) .no fun es _ => lookIn d z ok k hp es
def bxLookup (P : Program) (t : TypeId) (ok : Bool) (x k : Operand) : Bx :=
  match P.underlying t with
  | some (.map kt et) => match nowKind P kt, zero? P et with
    | some d, some z => cond (pl z) (op2 x k (xlookup d z ok)) .bad
    | _, _ => .bad
  | _ => .bad

def fEntries {β : Type} : List MapEntry → (List MapEntry → β) → β
  | [], k => k []
  | ⟨a, b, c⟩ :: es, k => fHead a fun a => fHead b fun b => fNat c fun c => fEntries es fun es => k (⟨a, b, c⟩ :: es)

def putMap (hp : Hp) (r : Nat) (es : List MapEntry) (clock : Nat) (k : Hp → R) : R :=
  fEntries es fun es => hp.set r (some (.map es clock)) k

def setEntry (k v : Value) : List MapEntry → Nat → List MapEntry
  | [], _ => []
  | e :: es, 0 => ⟨k, v, e.born⟩ :: es
  | e :: es, n + 1 => e :: setEntry k v es n

def updAt (k v : Value) (r : Nat) (es : List MapEntry) (clock : Nat) (hp : Hp) (i : Nat) : R :=
  onSome (es[i]?) .no fun e => pick (Instr.sameBits 10000 e.key k) (putMap hp r (setEntry k v es i) clock fun hp => .ok undef hp) .no
def xmapUpdate (d : TypeDesc) (x k v : Value) (hp : Hp) : R :=
  onMap x .no fun r => onSome r .no fun r => onMapObj (hp.vis r) .no fun es clock =>
    onSome (Instr.findNow d k es 0) .no fun f => onSome f (fNat (Nat.succ clock) fun c => putMap hp r (es ++ [⟨k, v, clock⟩]) c fun hp => .ok undef hp) fun x => updAt k v r es clock hp x.1
def bxMapUpdate (P : Program) (t : TypeId) (m k x : Operand) : Bx :=
  match P.underlying t with
  | some (.map kt _) => match nowKind P kt with
    | some d => op3 m k x (xmapUpdate d)
    | none => .bad
  | _ => .bad

def mapV (hp : Hp) : R := xnew hp (.map [] 0) fun n hp => .ok (.map (some n)) hp
def bxMakeMap (P : Program) (t : TypeId) (hint : Option Operand) : Bx :=
  match hint with
  | none => .op fun _ hp => mapV hp
  | some x => match P.underlying t with
    | some (.map ..) => op1 x fun v hp => onInt v .no fun _ _ => mapV hp
    | _ => .bad

def lenR (hp : Hp) (n : Nat) : R := fNat n fun n => .ok (intV n) hp
def bxLen (P : Program) (t : TypeId) (x : Operand) : Bx :=
  match P.underlying t with
  | some (.slice _) => op1 x fun v hp => onSlice v .no fun _ n _ => lenR hp n
  | some .string => op1 x fun v hp => onStr v .no fun s => lenR hp s.data.toList.length
  | some (.array n _) => .op fun _ hp => lenR hp n
  | some (.pointer arr) => match P.underlying arr with
    | some (.array n _) => .op fun _ hp => lenR hp n
    | _ => .bad
  | _ => .bad

/-! Strings that are ranged over. -/
def bxRange (P : Program) (t : TypeId) (x : Operand) : Bx :=
  match P.underlying t with
  | some .string => op1 x fun v hp => onStr v .no fun s => xnew hp (.iter s 0) fun n hp => .ok (ptrV n 0) hp
  | _ => .bad
def xnext (it : Value) (hp : Hp) : R :=
  match it with
  | .pointer (some ⟨r, 0, none⟩) => match hp.vis r with
    | some (.iter s pos) =>
      cond (Nat.blt pos s.size)
        (match Utf8.decode s pos with
        | (c, w) => fNat (pos + w) fun p => hp.set r (some (.iter s p)) fun hp => fNat pos fun pos => fInt c fun c =>
            .ok (.tuple #[.bool true, .int .i64 (.ofNat pos), .int .i32 c]) hp)
        (.ok (.tuple #[.bool false]) hp)
    | _ => .no
  | _ => .no

/-- []byte(s), string(b) -/
def bytesIn : List Value → Option (List UInt8)
  | [] => some []
  | .int .u8 n :: vs => onSome (bytesIn vs) none fun l => some (UInt8.ofNat n.toNat :: l)
  | _ => none
def toBytes (e : TypeId) (v : Value) (hp : Hp) : R :=
  onStr v .no fun s => pick (Nat.ble s.data.toList.length most)
    (fScals (ofBytes s.data.toList) fun l => xnewCells hp e l fun b hp => fNat l.length fun n => .ok (.slice (some ⟨b, 0, none⟩) n big) hp) .no
def fromBytes (v : Value) (hp : Hp) : R :=
  onSlice v .no fun _ len _ => onSome (xfirst hp 1 len v) .no fun l => onSome (bytesIn l) .no fun bs => fBytes bs fun bs => .ok (.string ⟨⟨bs⟩⟩) hp
def isByte (P : Program) (e : TypeId) : Bool :=
  match P.underlying e, size? P e with
  | some (.int .u8), some 1 => true
  | _, _ => false
def convI (k : IntKind) (top : Nat) (s : Bool) (v : Value) (hp : Hp) : R := onInt v .no fun _ n => iR k hp (wrapI k top s n)
def bxConvert (P : Program) (o : Oper) (s d : TypeId) (x : Operand) : Bx :=
  match P.underlying s, P.underlying d with
  | some (.int _), some (.int k) => fNat (topOf k) fun top => fBool k.signed fun sg => op1p P o x (convI k top sg)
  | some .string, some (.slice e) => cond (isByte P e) (op1 x (toBytes e)) (plainBx P o)
  | some (.slice e), some .string => cond (isByte P e) (op1 x fromBytes) (plainBx P o)
  | _, _ => plainBx P o

def nilV (v : Value) (hp : Hp) : R :=
  match v with
  | .pointer (some a) => .ok (.pointer (some a)) hp
  | .func (.func f) a b => .ok (.func (.func f) a b) hp
  | .iface t v => .ok (.iface t v) hp
  | _ => .no

def okOpds (G : Nat) : List Operand → Bool
  | [] => true
  | x :: xs => cond (okOpd G x) (okOpds G xs) false

def notIface (P : Program) (t : TypeId) : Bool :=
  match P.underlying t with
  | some (.interface _) => false
  | some _ => true
  | none => false

/-! Calls. -/
def isNumGo (fn : Func) : Bool := fn.name == "runtime.NumGoroutine"

/-- What entering a function comes to: it has a body, or none. -/
inductive FKind where
  | no
  | body
  | outside
def kindOf (P : Program) (f : FuncId) : FKind :=
  match P.funcs[f]? with
  | some fn => cond (isNumGo fn) .no (match fn.body with
    | some _ => .body
    | none => .outside)
  | none => .no

def outsideC (P : Program) (f : FuncId) (args : List Value) (hp : Hp) : CR :=
  cond (allPl args) (onSome (pureV P (callFunc f ⟨args⟩)) .no fun v => .val v hp) .no
def xcallFunc (P : Program) (f : FuncId) (args : List Value) (hp : Hp) : CR :=
  FKind.rec (motive := fun _ => CR) .no (.enter f args) (outsideC P f args hp) (kindOf P f)

/-- The receiver that a method is handed: the value itself, or what it leads to. -/
inductive RKind where
  | no
  | same
  | load (e : TypeId)
def rkind (P : Program) (t : TypeId) (ptr : Bool) : RKind :=
  match P.underlying t, ptr with
  | some (.pointer _), true => .same
  | some (.pointer e), false => .load e
  | some _, false => .same
  | _, _ => .no
def onRC (r : R) (k : Value → CR) : CR := R.rec (motive := fun _ => CR) .no (fun v _ => k v) r
def withRecv (P : Program) (t : TypeId) (ptr : Bool) (v : Value) (hp : Hp) (k : Value → CR) : CR :=
  RKind.rec (motive := fun _ => CR) .no (k v) (fun e => onRC (xload P e v hp) k) (rkind P t ptr)

/-- A method's function, and whether its receiver is a pointer. -/
inductive MKind where
  | no
  | ok (f : FuncId) (ptr : Bool)
def methodOf (P : Program) (t : TypeId) (name : String) : MKind :=
  match P.info? t with
  | some inf => match inf.methods.toList.find? (·.name == name) with
    | some m => match m.path.toList, m.func with
      | [], some (f, ptr) => .ok f ptr
      | _, _ => .no
    | none => .no
  | none => .no

def xmethod (P : Program) (t : TypeId) (v : Value) (name : String) (rest : List Value) (hp : Hp) : CR :=
  MKind.rec (motive := fun _ => CR) .no (fun f ptr => withRecv P t ptr v hp fun v => xcallFunc P f (v :: rest) hp) (methodOf P t name)
def onHead (l : List Value) (k : Value → List Value → CR) : CR := List.rec (motive := fun _ => CR) .no (fun v l _ => k v l) l
def xcallMethod (P : Program) (name : String) (args : List Value) (hp : Hp) : CR :=
  onHead args fun r rest => onIface r .no .no fun t v => xmethod P t v name rest hp

def xinvoke (P : Program) (fn : Fn) (cap args : List Value) (hp : Hp) : CR :=
  match fn with
  | .func f => xcallFunc P f (args ++ cap) hp
  | .method name => xcallMethod P name args hp
  | .methodOf t name => onHead args fun r rest => match P.underlying t with
    | some (.interface _) => xcallMethod P name (r :: rest) hp
    | some _ => xmethod P t r name rest hp
    | none => .no
  | .via t path f ptr => match path.toList with
    | [] => onHead args fun r rest => withRecv P t ptr r hp fun r => xcallFunc P f (r :: rest) hp
    | _ => .no
  | .yield l => .yield l args

def xcallV (P : Program) (f : Value) (args : List Value) (hp : Hp) : CR :=
  onFunc f .no fun fn first cap => xinvoke P fn cap (first ++ args) hp

/-- Builtins that write. -/
def bxWrite (P : Program) (b : Builtin) (ts : List TypeId) (xs : List Operand) : Bx :=
  match b, ts, xs with
  | .clear, [t], [x] => match P.underlying t with
    | some (.slice e) => match zeroL P e with
      | some zl => cond (Nat.ble 1 zl.length) (op1 x (xclear zl)) .bad
      | none => .bad
    | _ => .bad
  | .copy, [t, _], [d, x] => match P.underlying t with
    | some (.slice e) => match size? P e with
      | some size => op2 d x (xcopy size)
      | none => .bad
    | _ => .bad
  | _, _, _ => .bad
def bxBuiltin (P : Program) (o : Oper) (b : Builtin) (ts : List TypeId) (xs : List Operand) : Bx :=
  match b, ts, xs with
  | .append, [st, xt], [s, x] => match P.underlying st, notInt P xt with
    | some (.slice elem), true => match size? P elem, P.info? elem, zeroL P elem with
      | some size, some inf, some zl => cond (Nat.ble inf.bytes 4096 && Nat.beq zl.length size) (fNat size fun size => op2 s x (xappend elem size)) .bad
      | _, _, _ => .bad
    | _, _ => .bad
  | .len, [t], [x] => bxLen P t x
  | .min, _, _ => plainBx P o
  | .max, _, _ => plainBx P o
  | b, ts, xs => bxWrite P b ts xs

/-- A call with its arguments made ready. -/
def callArgs (l : List Operand) (k : (T Value → (List Value → CR) → CR) → Bx) : Bx := LBx.rec (motive := fun _ => Bx) k (opsBx (β := CR) l)
def bxCall (P : Program) (o : Oper) (c : Call) : Bx :=
  match c.callee with
  | .value (.func f) => callArgs c.args.toList fun h => .call fun tm hp => h tm fun args => xcallFunc P f args hp
  | .value f => callArgs (f :: c.args.toList) fun h => .call fun tm hp => h tm fun l => onHead l fun f args => xcallV P f args hp
  | .invoke recv name => callArgs (recv :: c.args.toList) fun h => .call fun tm hp => h tm fun args => xcallMethod P name args hp
  | .builtin b => bxBuiltin P o b c.argTypes.toList c.args.toList

def bxMake (fn : Fn) (a b : List Operand) : Bx :=
  match fn with
  | .yield _ => .bad
  | fn => LBx.rec (motive := fun _ => Bx) (fun f => LBx.rec (motive := fun _ => Bx) (fun g => .op fun tm hp => f tm fun a => g tm fun b => .ok (.func fn ⟨a⟩ ⟨b⟩) hp) (opsBx (β := R) b)) (opsBx (β := R) a)

def bxOp (P : Program) (o : Oper) : Bx :=
  match o.op with
  | .move x => op1 x stillV
  | .assign x => op1 x stillV
  | .pick c a b => op3 c a b pickV
  | .load t a => bxLoad P t a
  | .store t a x => bxStore P t a x
  | .alloc t => bxAlloc P t
  | .box t x => op1 x (xbox t)
  | .build t ps => bxBuild P t ps.toList
  | .buildSlice t n ps => bxBuildSlice P t n ps.toList
  | .makeSlice t l c => bxMakeSlice P t l c
  | .fieldAddr s x f => bxFieldAddr P s x f
  | .indexAddr t x i => bxIndexAddr P t x i
  | .slice t x lo hi mx => bxSlice P o t x lo hi mx
  | .field t x f => bxField P t x f
  | .index t x i => bxIndex P t x i
  | .extract t i => op1 t (extractV i)
  | .makeInterface t x => cond (notIface P t) (op1 x (ifaceV t)) .bad
  | .makeFunc fn a b => bxMake fn a.toList b.toList
  | .typeAssert x _ t ok => op1 x fun v hp => okV hp (xtypeAssert P t ok v)
  | .convert s d x => bxConvert P o s d x
  | .nilCheck x => op1 x nilV
  | .binOp op t x y _ => bxBin P o op t x y
  | .unOp op _ x => bxUn P o op x
  | .makeMap t r => bxMakeMap P t r
  | .lookup t x k ok => bxLookup P t ok x k
  | .mapUpdate t m k x => bxMapUpdate P t m k x
  | .insert t m k x => bxMapUpdate P t m k x
  | .call c => bxCall P o c
  | _ => .bad

def noCall (b : Bx) : Bx := Bx.rec (motive := fun _ => Bx) (fun f => .op f) (fun _ => .bad) .bad b
def bxAny (P : Program) (o : Oper) : Bx :=
  match o.op with
  | .call c => bxCall P o c
  | _ => noCall (bxOp P o)
def bxOf (P : Program) (G : Nat) (o : Oper) : Bx := cond (okOpds G o.op.operands.toList) (bxAny P o) .bad

/-- Where an answer goes. -/
abbrev Dst := T Value → Nat → Value → (T Value → R) → R
inductive DBx where
  | mk (f : Dst)
def dstBx (dst : Option Tmp) : DBx :=
  match dst with
  | none => .mk fun tm _ _ k => k tm
  | some d => T.SBx.rec (motive := fun _ => DBx) (fun s => .mk fun tm sz v k => pick (lt d sz) (s tm v k) (k tm)) (T.setPath (β := R) (T.pathF (Nat.succ d) d))

/-- Is the operation to be done, its guard being decided? -/
inductive WBx where
  | yes
  | ask (f : T Value → R → R → R)
  | bad
def askB (want : Bool) (v : Option Value) (a b : R) : R := onSome v b fun v => onBool v b fun t => pick (pick t want (pick want false true)) a b
def wantBx (all : List Oper) (g : Option (Nat × Bool)) : WBx :=
  match g with
  | none => .yes
  | some (j, want) => match (all[j]?).bind (·.dst) with
    | some d => T.GBx.rec (motive := fun _ => WBx) (fun g => fBool want fun want => .ask fun tm a b => askB want (g tm) a b) (T.getPath (α := Value) (T.pathF (Nat.succ d) d))
    | none => .bad

/-! Frames. -/
inductive AItem where
  | code (c : Code)
  | inBlock (id : Nat)
  | inLoop (body : Code)
  | inScope (body : Code)
  | ops (all : Array Oper) (l : List Oper)
  | beginRound
  | endRange (l : Nat)

def xexitTo (id : Nat) : List AItem → Option (List AItem)
  | .inBlock id' :: k => cond (Nat.beq id' id) (some k) (xexitTo id k)
  | _ :: k => xexitTo id k
  | [] => none

def xgotoIn (l : Nat) : List AItem → Option (List AItem)
  | .inScope body :: k =>
    match findLabel body l with
    | some rest => some (.code rest :: .inScope body :: k)
    | none => xgotoIn l k
  | _ :: k => xgotoIn l k
  | [] => none

/-- A function's results. -/
def xresults (P : Program) (hp : Hp) (tm : T Value) : List ResultVar → (List Value → R) → R
  | [], k => k []
  | .tmp t :: l, k => fHead (evA tm (.tmp t)) fun v => xresults P hp tm l fun vs => k (v :: vs)
  | .cell a t :: l, k => onR (xload P t (evA tm (.tmp a)) hp) .no fun v _ => xresults P hp tm l fun vs => k (v :: vs)

def tupled : List Value → Value
  | [v] => v
  | vs => .tuple ⟨vs⟩

def bindsAny (e : Edge) : Bool := match e.ground with | .textOnly _ => false | .gcOnly _ => false | _ => true

/-- A step of a region that draws its order: its number, what comes surely before, is it to be done, itself, and where its answer goes. -/
inductive Step where
  | mk (j m : Nat) (w : WBx) (b : Bx) (d : DBx)

abbrev XR' := Option (List Step)
/-- Which earlier operations surely come before, as bits. -/
def natAt (t : T Nat) (i : Nat) : Nat := Option.rec (motive := fun _ => Nat) 0 (fun v => v) (t.get i)
def maskOf (acc : T Nat) : List Edge → Nat → (Nat → XR') → XR'
  | [], m, k => k m
  | e :: es, m, k => cond (bindsAny e) (fNat (Nat.lor m (Nat.lor (Nat.shiftLeft 1 e.on) (natAt acc e.on))) fun m => maskOf acc es m k) (maskOf acc es m k)
def masks : List Oper → Nat → T Nat → (T Nat → XR') → XR'
  | [], _, acc, k => k acc
  | o :: os, i, acc, k => maskOf acc o.after.toList 0 fun m => T.put acc i (some m) fun acc => masks os (Nat.succ i) acc k

def bit (m i : Nat) : Bool := Nat.beq (Nat.land (Nat.shiftRight m i) 1) 1

/-- Who writes which temporary; none: two write one. -/
def writers : List Oper → Nat → T Nat → (T Nat → XR') → XR'
  | [], _, w, k => k w
  | o :: os, i, w, k => match o.dst with
    | none => writers os (Nat.succ i) w k
    | some d => match w.get d with
      | none => T.put w d (some i) fun w => writers os (Nat.succ i) w k
      | some _ => none

/-- Edges lead back; each temporary that an operation names and another one writes is written surely before or after; the guard's operation comes before. -/
def tmpOk (ms w : T Nat) (m j : Nat) : List Operand → Bool
  | [] => true
  | .tmp t :: l => cond (match w.get t with
    | none => true
    | some i => cond (Nat.beq i j) false (cond (bit m i) true (bit (natAt ms i) j))) (tmpOk ms w m j l) false
  | _ :: l => tmpOk ms w m j l
def edgesOk (j : Nat) : List Edge → Bool
  | [] => true
  | e :: es => cond (cond (bindsAny e) (Nat.blt e.on j) true) (edgesOk j es) false
def opOk (ms w : T Nat) (m j : Nat) (o : Oper) : Bool :=
  edgesOk j o.after.toList && tmpOk ms w m j o.op.operands.toList &&
  (match o.guard with | none => true | some (g, _) => Nat.blt g j && bit m g) &&
  (match o.op with | .select .. => false | _ => true)
def opsOk (ms w : T Nat) : Nat → List Oper → Bool
  | _, [] => true
  | j, o :: l => cond (opOk ms w (natAt ms j) j o) (opsOk ms w (Nat.succ j) l) false

/-- What the operations that are not surely before have made is hidden. -/
def joinIv (a b : Nat) (h : List (Nat × Nat)) : List (Nat × Nat) :=
  match h with
  | [] => [(a, b)]
  | (c, d) :: l => cond (Nat.beq d a) (cond (Nat.ble c d) ((c, b) :: l) ((a, b) :: (c, d) :: l)) ((a, b) :: (c, d) :: l)
def hideOf (m : Nat) : List (Nat × Nat × Nat) → List (Nat × Nat) → List (Nat × Nat)
  | [], h => h
  | (i, a, b) :: l, h => cond (bit m i) (hideOf m l h) (joinIv a b (hideOf m l h))

def mergeW {β : Type} (lim : Nat) (l : List Nat) : List Nat → (List Nat → β) → β :=
  List.rec (motive := fun _ => List Nat → (List Nat → β) → β) (fun l k => k l) (fun n _ ih l k => addW lim n l fun l => ih l k) l
/-- Pairs brought to their plain form. -/
def fPairs {β : Type} (l : List (Nat × Nat)) : (List (Nat × Nat) → β) → β :=
  List.rec (motive := fun _ => (List (Nat × Nat) → β) → β) (fun k => k []) (fun x _ ih k => Prod.rec (motive := fun _ => β) (fun a b => ih fun l => k ((a, b) :: l)) x) l

/-- May it write to memory that is there? -/
def effectful (o : Oper) : Bool :=
  match o.op with
  | .store .. | .mapUpdate .. | .mapEntry .. | .entryStore .. | .insert .. | .next .. => true
  | .call c => match c.callee with
    | .builtin b => match b with
      | .len | .cap | .min | .max => false
      | _ => true
    | _ => true
  | _ => false
/-- Those of m's bits that are not in d, in the text's order. -/
def fresh1 (m d : Nat) : List (Nat × Oper) → List (Nat × Oper)
  | [] => []
  | (i, o) :: l => cond (bit m i && !bit d i) ((i, o) :: fresh1 m d l) (fresh1 m d l)
/-- The order in which the executor goes through a region: what may write comes as early as it can. -/
def orderFrom (all : List (Nat × Oper)) (ms : T Nat) : List (Nat × Oper) → (done : Nat) → List (Nat × Oper)
  | [], d => fresh1 (Nat.sub (Nat.pow 2 all.length) 1) d all
  | (i, o) :: l, d => cond (effectful o)
      (fNat (Nat.lor (natAt ms i) (Nat.pow 2 i)) fun m => fNat (Nat.lor d m) fun d' => fresh1 m d all ++ orderFrom all ms l d')
      (orderFrom all ms l d)
def number : List Oper → Nat → List (Nat × Oper)
  | [], _ => []
  | o :: l, i => (i, o) :: number l (i + 1)
def fBx {β : Type} (b : Bx) (k : Bx → β) : β := Bx.rec (motive := fun _ => β) (fun f => k (.op f)) (fun f => k (.call f)) (k .bad) b
def fWBx {β : Type} (w : WBx) (k : WBx → β) : β := WBx.rec (motive := fun _ => β) (k .yes) (fun f => k (.ask f)) (k .bad) w
def fDBx {β : Type} (d : DBx) (k : DBx → β) : β := DBx.rec (motive := fun _ => β) (fun f => k (.mk f)) d
def fPlan {β : Type} (P : Program) (G : Nat) (all : List Oper) (ms : T Nat) : List (Nat × Oper) → (List Step → β) → β
  | [], k => k []
  | (j, o) :: l, k => fPlan P G all ms l fun l => fNat j fun j => fNat (natAt ms j) fun m => fWBx (wantBx all o.guard) fun w => fBx (bxOf P G o) fun b => fDBx (dstBx o.dst) fun d => k (.mk j m w b d :: l)
def mkPlan (P : Program) (G : Nat) (ops : List Oper) : XR' :=
  masks ops 0 .leaf fun ms => writers ops 0 .leaf fun w =>
    cond (opsOk ms w 0 ops) (fPlan P G ops ms (orderFrom (number ops 0) ms (number ops 0) 0) fun l => some l) none

def addIvs {β : Type} (j : Nat) (l : List Nat) : List (Nat × Nat × Nat) → (List (Nat × Nat × Nat) → β) → β :=
  List.rec (motive := fun _ => List (Nat × Nat × Nat) → (List (Nat × Nat × Nat) → β) → β) (fun l k => k l) (fun n _ ih l k => ih ((j, n, Nat.succ n) :: l) k) l
def addIv {β : Type} (j a b : Nat) (l : List (Nat × Nat × Nat)) (k : List (Nat × Nat × Nat) → β) : β := pick (Nat.beq a b) (k l) (k ((j, a, b) :: l))
/-- What is written was not seen by an operation that went ahead and need not. -/
def unseen1 (c : Nat) (h : List (Nat × Nat)) : List Nat → Bool
  | [] => true
  | n :: ns => cond (Nat.ble c n) (unseen1 c h ns) (cond (hidden h n) (unseen1 c h ns) false)
def unseen (m : Nat) (w : List Nat) : List (Nat × Nat × List (Nat × Nat)) → Bool
  | [] => true
  | (j, c, h) :: l => cond (bit m j) (unseen m w l) (cond (unseen1 c h w) (unseen m w l) false)

def isNone (w : List Nat) : Bool := List.rec (motive := fun _ => Bool) true (fun _ _ _ => false) w

abbrev Ivs := List (Nat × Nat × Nat)
abbrev Svs := List (Nat × Nat × List (Nat × Nat))
abbrev Draw := Ivs → Svs → T Value → Hp → (T Value → Hp → R) → R

/-- Behind an operation: what it has made and written is noted. -/
def drawn (rec_ : Draw) (sz j m : Nat) (dst : Dst) (ivs : Ivs) (sv : Svs) (tm : T Value) (hd : List (Nat × Nat)) (next : Nat) (hid : List (Nat × Nat)) (wr : List Nat) (lim : Nat) (k : T Value → Hp → R)
    (v : Value) (h' : T AObj) (next' : Nat) (wr' : List Nat) : R :=
  pick (pick (isNone wr') true (unseen m wr' sv))
    (pick (Nat.ble next next') (dst tm sz v fun tm => addIv j next next' ivs fun ivs => addIvs j wr' ivs fun ivs => mergeW lim wr' wr fun wr =>
      rec_ ivs ((j, next, hd) :: sv) tm ⟨h', next', hid, wr, lim⟩ k) .no)
    .no
def drawAns (rec_ : Draw) (sz j m : Nat) (dst : Dst) (ivs : Ivs) (sv : Svs) (tm : T Value) (hd : List (Nat × Nat)) (next : Nat) (hid : List (Nat × Nat)) (wr : List Nat) (lim : Nat) (k : T Value → Hp → R) (r : R) : R :=
  onR r .no fun v hp' => Hp.rec (motive := fun _ => R) (fun h' next' _ wr' _ => drawn rec_ sz j m dst ivs sv tm hd next hid wr lim k v h' next' wr') hp'
def drawGo (one : T Value → Hp → Bx → R) (rec_ : Draw) (sz j m : Nat) (dst : Dst) (b : Bx) (ivs : Ivs) (sv : Svs) (tm : T Value) (hp : Hp) (k : T Value → Hp → R) : R :=
  Hp.rec (motive := fun _ => R) (fun h next hid wr lim => fPairs (hideOf m ivs hid) fun hd =>
    drawAns rec_ sz j m dst ivs sv tm hd next hid wr lim k (one tm ⟨h, next, hd, [], next⟩ b)) hp
def drawStep (one : T Value → Hp → Bx → R) (sz : Nat) (rec_ : Draw) (j m : Nat) (w : WBx) (b : Bx) (dst : Dst) : Draw := fun ivs sv tm hp k =>
  WBx.rec (motive := fun _ => R) (drawGo one rec_ sz j m dst b ivs sv tm hp k)
    (fun f => f tm (drawGo one rec_ sz j m dst b ivs sv tm hp k) (dst tm sz undef fun tm => rec_ ivs sv tm hp k)) .no w
/-- The operations of a region that draws its order, one after another in the executor's order. -/
def xdraw (one : T Value → Hp → Bx → R) (sz : Nat) (l : List Step) : Draw :=
  List.rec (motive := fun _ => Draw) (fun _ _ tm hp k => k tm hp)
    (fun x _ ih => Step.rec (motive := fun _ => Draw) (fun j m w b d => DBx.rec (motive := fun _ => Draw) (fun d => drawStep one sz ih j m w b d) d) x) l

/-- What a callee is entered with. -/
inductive Body where
  | none
  | some (c : Code) (nt : Nat) (res : List ResultVar)
def runBody (P : Program) (f : FuncId) : Body :=
  match P.funcs[f]? with
  | Option.some fn => match fn.body with
    | Option.some c => fNat fn.ntmps fun nt => .some c nt fn.results.toList
    | Option.none => .none
  | Option.none => .none

/-- A loop over a function begins: its record, and the calls that it puts off. -/
def xenter (hp : Hp) (fn : FuncId) (sz : Nat) (tm : T Value) (params : List Tmp) (assign body : Code) (ro : Option Nat) (dfs : List Nat) (k : Nat → List Nat → Hp → R) : R :=
  match ro with
  | some l => match hp.vis l with
    | some (.loop _ _ _ _ _ _ _ _ d) => xnew hp (.loop .ready none fn tm sz params assign body d) fun n hp => k n dfs hp
    | _ => .no
  | none => xnew hp (.dfs true) fun d hp => xnew hp (.loop .ready none fn tm sz params assign body d) fun n hp => k n (d :: dfs) hp

def xbegin (hp : Hp) (ro : Option Nat) (k : Hp → R) : R :=
  match ro with
  | some l => match hp.vis l with
    | some (.loop .ready p fn tm sz ps a b d) => hp.set l (some (.loop .busy p fn tm sz ps a b d)) k
    | _ => .no
  | none => .no

def xendRange (hp : Hp) (l : Nat) (k : Option Code → Hp → R) : R :=
  match hp.vis l with
  | some (.loop .ready p fn tm sz ps a b d) => hp.set l (some (.loop .exhausted p fn tm sz ps a b d)) fun hp => k p hp
  | some (.loop .done p fn tm sz ps a b d) => hp.set l (some (.loop .exhausted p fn tm sz ps a b d)) fun hp => k p hp
  | _ => .no

def xendRound (hp : Hp) (l : Nat) (jump : Option Code) : R :=
  match hp.vis l with
  | some (.loop _ _ fn tm sz ps a b d) => match jump with
    | none => hp.set l (some (.loop .ready none fn tm sz ps a b d)) fun hp => .ok (.bool true) hp
    | some c => hp.set l (some (.loop .done (some c) fn tm sz ps a b d)) fun hp => .ok (.bool false) hp
  | _ => .no

/-- The calls that were put off (none) are let go. -/
def xtake : List Nat → Hp → (Hp → R) → R
  | [], hp, k => k hp
  | d :: ds, hp, k => match hp.vis d with
    | some (.dfs true) => hp.set d (some (.dfs false)) fun hp => xtake ds hp k
    | _ => .no

def xleave (P : Program) (hp : Hp) (tm : T Value) (res : List ResultVar) (ro : Option Nat) (dfs : List Nat) (jump : Option Code) : R :=
  match ro with
  | none => xtake dfs hp fun hp => xresults P hp tm res fun vs => .ok (tupled vs) hp
  | some l => match dfs with
    | [] => xendRound hp l jump
    | _ => .no

def putArgs (sz : Nat) : List Tmp → List Value → T Value → (T Value → R) → R
  | [], [], tm, k => k tm
  | t :: ts, v :: vs, tm, k => pick (lt t sz) (T.put tm t (some v) fun tm => putArgs sz ts vs tm k) (putArgs sz ts vs tm k)
  | _, _, _, _ => .no

/-- What of a frame does not change. -/
structure St where
  fn : FuncId
  sz : Nat
  res : List ResultVar
  ro : Option Nat

abbrev Run := St → (dfs : List Nat) → (todo : List AItem) → (tm : T Value) → Hp → R

def enterB (run : Run) (f : FuncId) (args : List Value) (hp : Hp) (body : Code) (nt : Nat) (rs : List ResultVar) : R :=
  fNat (pick (Nat.ble args.length nt) nt args.length) fun sz => T.putList args .leaf 0 fun tm => run ⟨f, sz, rs, none⟩ [] [.code body] tm hp
def yieldB (run : Run) (hp : Hp) (l : Nat) (args : List Value) : R :=
  match hp.vis l with
  | some (.loop _ _ fn tm sz ps a b _) => putArgs sz ps args tm fun tm => run ⟨fn, sz, [], some l⟩ [] [.code a, .beginRound, .code b] tm hp
  | _ => .no
def come (P : Program) (run : Run) (hp : Hp) (c : CR) : R :=
  CR.rec (motive := fun _ => R) .no (fun v hp => .ok v hp) (fun f args => Body.rec (motive := fun _ => R) .no (enterB run f args hp) (runBody P f)) (yieldB run hp) c

def oper (P : Program) (run : Run) (tm : T Value) (hp : Hp) (b : Bx) : R :=
  Bx.rec (motive := fun _ => R) (fun f => f tm hp) (fun f => come P run hp (f tm hp)) .no b

def stepExit (P : Program) (run : Run) (S : St) (dfs : List Nat) (k : List AItem) (tm : T Value) (hp : Hp) (id : Nat) : R :=
  onSome (xexitTo id k) (onSome S.ro .no fun _ => xleave P hp tm S.res S.ro dfs (some (.exit id))) fun k' => run S dfs k' tm hp
def stepGoto (run : Run) (S : St) (dfs : List Nat) (k : List AItem) (tm : T Value) (hp : Hp) (l : Nat) : R :=
  onSome (xgotoIn l k) .no fun k' => run S dfs k' tm hp

def stepRange (P : Program) (nest run : Run) (S : St) (dfs : List Nat) (k : List AItem) (tm : T Value) (hp : Hp) (f : Operand) (params : List Tmp) (assign body : Code) : R :=
  xenter hp S.fn S.sz tm params assign body S.ro dfs fun l dfs hp =>
    onR (come P nest hp (xcallV P (evA tm f) [.func (.yield l) #[] #[]] hp)) .no fun _ hp => run S dfs (.endRange l :: k) tm hp

/-- An operation's answer goes to its temporary; then on. -/
def andThen (r : R) (run : Run) (S : St) (dfs : List Nat) (k : List AItem) (tm : T Value) (dst : Dst) : R :=
  onR r .no fun v hp => dst tm S.sz v fun tm => run S dfs k tm hp

/-- An item, made ready. -/
inductive IBx where
  | go (f : Run → Run → St → List Nat → List AItem → T Value → Hp → R)
def noBx : IBx := .go fun _ _ _ _ _ _ _ => .no

def ibOp (P : Program) (all : Array Oper) (l : List Oper) (w : WBx) (b : Bx) (d : Dst) : IBx :=
  match w with
  | .yes => match b with
    | .op f => .go fun _ run S dfs k tm hp => andThen (f tm hp) run S dfs (.ops all l :: k) tm d
    | .call f => .go fun nest run S dfs k tm hp => andThen (come P nest hp (f tm hp)) run S dfs (.ops all l :: k) tm d
    | .bad => noBx
  | .ask w => fBx b fun b => .go fun nest run S dfs k tm hp =>
      w tm (andThen (oper P nest tm hp b) run S dfs (.ops all l :: k) tm d) (d tm S.sz undef fun tm => run S dfs (.ops all l :: k) tm hp)
  | .bad => noBx

def ibCode (P : Program) (G : Nat) (c : Code) : IBx :=
  match c with
  | .skip => .go fun _ run S dfs k tm hp => run S dfs k tm hp
  | .region _ ops draw => cond draw
    (match mkPlan P G ops.toList with
    | some l => .go fun nest run S dfs k tm hp => xdraw (oper P nest) S.sz l [] [] tm hp fun tm hp => run S dfs k tm hp
    | none => noBx)
    (List.rec (motive := fun _ => IBx) (.go fun _ run S dfs k tm hp => run S dfs k tm hp) (fun x l _ => .go fun _ run S dfs k tm hp => run S dfs (.ops ops (x :: l) :: k) tm hp) ops.toList)
  | .seq a b => .go fun _ run S dfs k tm hp => run S dfs (.code a :: .code b :: k) tm hp
  | .cond c a b => cond (okOpd G c) (OBx.rec (motive := fun _ => IBx) (fun f =>
      .go fun _ run S dfs k tm hp => f tm fun v => onBool v .no fun t => pick t (run S dfs (.code a :: k) tm hp) (run S dfs (.code b :: k) tm hp)) (opBx c)) noBx
  | .block id body => .go fun _ run S dfs k tm hp => run S dfs (.code body :: .inBlock id :: k) tm hp
  | .loop body => .go fun _ run S dfs k tm hp => run S dfs (.code body :: .inLoop body :: k) tm hp
  | .rangeFunc f params assign body => cond (okOpd G f) (.go fun nest run S dfs k tm hp => stepRange P nest run S dfs k tm hp f params.toList assign body) noBx
  | .exit id => .go fun _ run S dfs k tm hp => stepExit P run S dfs k tm hp id
  | .scope body => .go fun _ run S dfs k tm hp => run S dfs (.code body :: .inScope body :: k) tm hp
  | .label _ => .go fun _ run S dfs k tm hp => run S dfs k tm hp
  | .goto l => .go fun _ run S dfs k tm hp => stepGoto run S dfs k tm hp l
  | .ret => .go fun _ _ S dfs _ tm hp => xleave P hp tm S.res S.ro dfs (some .ret)
  | .refuse _ => noBx

def ibItem (P : Program) (G : Nat) (x : AItem) : IBx :=
  match x with
  | .code c => ibCode P G c
  | .inBlock _ => .go fun _ run S dfs k tm hp => run S dfs k tm hp
  | .inLoop body => .go fun _ run S dfs k tm hp => run S dfs (.code body :: .inLoop body :: k) tm hp
  | .inScope _ => .go fun _ run S dfs k tm hp => run S dfs k tm hp
  | .ops all l => match l with
    | [] => .go fun _ run S dfs k tm hp => run S dfs k tm hp
    | o :: l => DBx.rec (motive := fun _ => IBx) (fun d => ibOp P all l (wantBx all.toList o.guard) (bxOf P G o) d) (dstBx o.dst)
  | .beginRound => .go fun _ run S dfs k tm hp => xbegin hp S.ro fun hp => run S dfs k tm hp
  | .endRange l => .go fun _ run S dfs k tm hp => xendRange hp l fun p hp => onSome p (run S dfs k tm hp) fun c => run S dfs (.code c :: k) tm hp

def step (P : Program) (G : Nat) (nest run : Run) : Run := fun S dfs todo tm hp =>
  List.rec (motive := fun _ => R) (xleave P hp tm S.res S.ro dfs none)
    (fun x k _ => IBx.rec (motive := fun _ => R) (fun f => f nest run S dfs k tm hp) (ibItem P G x)) todo

def xrun (P : Program) (G : Nat) (n : Nat) : Run := Nat.rec (motive := fun _ => Run) (fun _ _ _ _ _ => .no) (fun _ ih => step P G ih ih) n
/-- So many steps of one frame, then something else. -/
def xseg (P : Program) (G : Nat) (nest : Run) (n : Nat) (run : Run) : Run := Nat.rec (motive := fun _ => Run) run (fun _ ih => step P G nest ih) n

def isTrue (r : R) : Bool := onR r false fun v hp => onBool v false fun b => pick b (isNone hp.wr) false

/-- The whole run of a function without arguments, from a memory. -/
def xmain (P : Program) (G fuel : Nat) (f : FuncId) (hp : Hp) : Bool :=
  Body.rec (motive := fun _ => Bool) false (fun body nt rs => isTrue (xrun P G fuel ⟨f, nt, rs, none⟩ [] [.code body] .leaf hp)) (runBody P f)

end
end Go.Proofs.YtjdkfdhfodmbeaaDoor.Ax
