/- Contracts of functions that the laws of this seat call, or the evaluator of closed calls and its runs. Conditions: as each theorem states them. -/
import GoSem.Step
set_option linter.unusedVariables false
set_option linter.unusedSimpArgs false
/- Contracts of functions that the laws of this seat call, or the evaluator of closed calls and its runs. Conditions: as each theorem states them. -/
set_option linter.unusedVariables false
set_option linter.unusedSimpArgs false
namespace Go.Clo
noncomputable section

inductive Tr (α : Type) where
  | e
  | n (l : Tr α) (v : Option α) (r : Tr α)

def Tr.l {α : Type} : Tr α → Tr α | .e => .e | .n l _ _ => l
def Tr.v {α : Type} : Tr α → Option α | .e => none | .n _ v _ => v
def Tr.r {α : Type} : Tr α → Tr α | .e => .e | .n _ _ r => r
def Tr.get {α : Type} (t : Tr α) : Nat → Option α :=
  Tr.rec (motive := fun _ => Nat → Option α) (fun _ => none)
    (fun _ v _ ihl ihr k => Nat.rec (motive := fun _ => Option α) v (fun k _ => cond (Nat.beq (Nat.mod k 2) 0) (ihl (Nat.div k 2)) (ihr (Nat.div k 2))) k) t
def Tr.setF {α : Type} (f : Nat) : Tr α → Nat → α → Tr α :=
  Nat.rec (motive := fun _ => Tr α → Nat → α → Tr α) (fun t _ _ => t)
    (fun _ ih t k x => Tr.casesOn (motive := fun _ => Tr α) t
      (Nat.rec (motive := fun _ => Tr α) (.n .e (some x) .e)
        (fun k _ => cond (Nat.beq (Nat.mod k 2) 0) (.n (ih .e (Nat.div k 2) x) none .e) (.n .e none (ih .e (Nat.div k 2) x))) k)
      (fun l v r => Nat.rec (motive := fun _ => Tr α) (.n l (some x) r)
        (fun k _ => cond (Nat.beq (Nat.mod k 2) 0) (.n (ih l (Nat.div k 2) x) v r) (.n l v (ih r (Nat.div k 2) x))) k)) f
def Tr.set {α : Type} (t : Tr α) (k : Nat) (x : α) : Tr α := Tr.setF (Nat.succ (Nat.log2 (Nat.succ k))) t k x
def nth {α : Type} (l : List α) : Nat → Option α :=
  List.rec (motive := fun _ => Nat → Option α) (fun _ => none) (fun x _ ih k => Nat.rec (motive := fun _ => Option α) (some x) (fun k _ => ih k) k) l
def dropR {α : Type} (n : Nat) : List α → List α :=
  Nat.rec (motive := fun _ => List α → List α) (fun l => l) (fun _ ih l => ih (List.casesOn l [] (fun _ r => r))) n
def takeN {α : Type} (n : Nat) : List α → Option (List α) :=
  Nat.rec (motive := fun _ => List α → Option (List α)) (fun _ => some [])
    (fun _ ih l => List.casesOn l none (fun v r => Option.casesOn (ih r) none (fun r => some (v :: r)))) n
def storeL (l : List Value) : Nat → List Value → Option (List Value) :=
  List.rec (motive := fun _ => Nat → List Value → Option (List Value)) (fun _ vs => List.casesOn vs (some []) (fun _ _ => none))
    (fun x l ih k vs => List.casesOn vs (some (x :: l)) (fun v r =>
      Nat.rec (motive := fun _ => Option (List Value)) (Option.casesOn (ih 0 r) none (fun t => some (v :: t)))
        (fun k _ => Option.casesOn (ih k (v :: r)) none (fun t => some (x :: t))) k)) l
def allB {α : Type} (f : α → Bool) (l : List α) : Bool := List.rec (motive := fun _ => Bool) true (fun x _ ih => cond (f x) ih false) l

inductive ABlk where
  | dead
  | cells (c : List Value) (elem : TypeId) (exact : Bool)
  | map (es : List MapEntry) (clock : Nat)
  | iter (s : ByteArray) (pos : Nat)
  | loop (st : LoopState) (pending : Option Code) (fn : FuncId) (tm : Tr Value) (sz : Nat) (params : List Tmp) (assign body : Code) (defers : Nat)
  | defs (l : Option (List Deferred))

structure Hp where
  t : Tr ABlk
  n : Nat
  lo : Nat

def Hp.get (h : Hp) (b : Nat) : Option ABlk := h.t.get b
def Hp.add (h : Hp) (b : ABlk) : Hp := Hp.casesOn (motive := fun _ => Hp) h fun t n lo => { t := t.set n b, n := Nat.succ n, lo := lo }
def Hp.put (h : Hp) (k : Nat) (b : ABlk) : Option Hp := Hp.casesOn (motive := fun _ => Option Hp) h fun t n lo => cond (Nat.ble lo k) (some { t := t.set k b, n := n, lo := lo }) none

def sc : Value → Bool
  | .bool _ | .int _ _ | .string _ | .nilFunc | .nilIface => true
  | .pointer none => true
  | .slice none _ _ => true
  | .map none => true
  | _ => false

def gr : Value → Bool
  | .agg cs => allB sc cs.toList
  | .tuple cs => allB sc cs.toList
  | .iface _ v => sc v
  | v => sc v

structure AF where
  tm : Tr Value
  sz : Nat
  ds : List Deferred
  fn : FuncId
  um : Option FrameMode

def AF.tmp (a : AF) (t : Nat) : Value := match a.tm.get t with | some v => v | none => undef

def AF.eval (a : AF) : Operand → Option Value
  | .tmp t => some (a.tmp t)
  | .const v => cond (gr v) (some v) none
  | .global _ => none
  | .func f => some (.func (.func f) #[] #[])

def AF.put (a : AF) (d : Option Tmp) (v : Value) : AF :=
  match d with
  | some d => AF.casesOn (motive := fun _ => AF) a fun tm sz ds fn um => cond (Nat.ble (Nat.succ d) sz) { tm := tm.set d v, sz := sz, ds := ds, fn := fn, um := um } { tm := tm, sz := sz, ds := ds, fn := fn, um := um }
  | none => a

inductive Rt where
  | ret (v : Value)
  | pan (chain : List PanicEntry)

structure Tb where
  P : Program
  info : Tr TypeInfo
  und : Tr TypeDesc
  fn : Tr Func
  ext : Tr (Array Value → Sem Value)
  cl : Tr Unit
  kq : Tr Nat
  zero : Tr Value
  sp : Tr (List Value → Option FrameMode → Hp → Option (Rt × Option FrameMode × Hp))
  gl : Nat → Option (Nat × Nat) := fun _ => none

def pureRun {α : Type} (P : Program) : Sem α → Option α
  | .pure a => some a
  | .program k => pureRun P (k P)
  | .mark _ k => pureRun P k
  | _ => none

inductive ANx where
  | val (v : Value)
  | skip
  | enter (f : FuncId) (args : List Value)
  | round (l : Nat) (args : List Value)
  | defer (d : Deferred)
  | recover
  | pan (v : Value)

abbrev R := Option (ANx × Hp)

def v1 (v : Value) (h : Hp) : R := some (.val v, h)

def cut (l : List Value) (off n : Nat) : Option (List Value) := takeN n (dropR off l)

def Tb.isAgg (T : Tb) (t : TypeId) : Option Bool :=
  match T.und.get t with
  | some d => match d with
    | .struct _ => some true
    | .array _ _ => some true
    | _ => some false
  | none => none

def Tb.size (T : Tb) (t : TypeId) : Option Nat := match T.info.get t with | some i => some i.size | none => none

def okCell : Value → Bool
  | .agg _ => false
  | .tuple _ => false
  | _ => true

def partA (T : Tb) (t : TypeId) (cs : List Value) (off : Nat) : Option Value :=
  match T.isAgg t with
  | some true => match T.size t with
    | some n => match cut cs off n with | some l => some (.agg ⟨l⟩) | none => none
    | none => none
  | some false => nth cs off
  | none => none

def Hp.cells (h : Hp) (b : Nat) : Option (List Value) :=
  match h.get b with
  | some x => match x with | .cells c _ _ => some c | _ => none
  | none => none

def Hp.load (T : Tb) (h : Hp) (t : TypeId) (a : Addr) : Option Value :=
  match h.cells a.block with
  | some c => partA T t c a.off
  | none => none

def cellsL : Value → List Value
  | .agg cs => cs.toList
  | v => [v]

def Hp.storeC (h : Hp) (a : Addr) (vs : List Value) : Option Hp :=
  match h.get a.block with
  | some x => match x with
    | .cells c e ex => match storeL c a.off vs with
      | some c' => h.put a.block (.cells c' e ex)
      | none => none
    | _ => none
  | none => none

def Hp.store (T : Tb) (h : Hp) (t : TypeId) (a : Addr) (v : Value) : Option Hp :=
  match T.size t with
  | some n => cond (Nat.beq n (cellsL v).length && allB okCell (cellsL v)) (h.storeC a (cellsL v)) none
  | none => none

def addr (a : Addr) (n : Nat) : Addr := match n with | 0 => a | _ => { block := a.block, off := Nat.add a.off n, spot := none }

def sliceCells (h : Hp) (size n : Nat) : Value → Option (List Value)
  | .slice (some a) _ _ => match h.cells a.block with | some c => cut c a.off (Nat.mul n size) | none => none
  | .slice none _ _ => some []
  | .string s => some ((s.extract 0 n).data.toList.map fun b => .int .u8 b.toNat)
  | _ => none

def lenA : Value → Option Nat
  | .slice _ n _ => some n
  | .string s => some s.size
  | _ => none

/-- a new block, a pointer or a slice to it -/
def newPtr (h : Hp) (c : List Value) (e : TypeId) : R := some (.val (.pointer (some ⟨h.n, 0, none⟩)), h.add (.cells c e true))
def newSl (h : Hp) (c : List Value) (e : TypeId) (ex : Bool) (len cap : Nat) : R := some (.val (.slice (some ⟨h.n, 0, none⟩) len cap), h.add (.cells c e ex))

def kindA (T : Tb) (t : TypeId) (size : Nat) (x : Value) : Bool :=
  match T.und.get t, x with
  | some (.slice _), .slice _ _ _ => true
  | some .string, .string _ => Nat.beq size 1
  | _, _ => false

def appendA (T : Tb) (st t2 : TypeId) (s x : Value) (h : Hp) : R :=
  match T.und.get st, s, lenA x with
  | some (.slice elem), .slice base sLen sCap, some n =>
    match T.info.get elem, T.zero.get elem with
    | some i, some _ =>
      match sliceCells h i.size n x with
      | some new =>
        cond (kindA T t2 i.size x && allB okCell new && Nat.beq new.length (Nat.mul n i.size))
          (cond (Nat.ble (Nat.add sLen n) sCap)
            (match base with
            | none => cond (Nat.beq n 0) (v1 (.slice none (Nat.add sLen n) sCap) h) none
            | some a => match h.storeC (addr a (Nat.mul sLen i.size)) new with
              | some h => v1 (.slice base (Nat.add sLen n) sCap) h
              | none => none)
            (cond (Nat.ble (Nat.mul (Nat.add sLen n) i.bytes) 100000 && Nat.ble (Nat.add sLen n) 10000 && Nat.ble i.bytes 100000)
              (match base with
              | none => cond (Nat.beq sLen 0) (newSl h new elem false (Nat.add sLen n) (Nat.add sLen n)) none
              | some a => match h.get a.block with
                | some (.cells c e ex) =>
                  match cut c a.off (Nat.mul sLen i.size) with
                  | some old => cond ex
                      (newSl h (old ++ new) elem false (Nat.add sLen n) (Nat.add sLen n))
                      (cond (Nat.beq e elem && Nat.beq a.off 0 && Nat.beq (Nat.mul sCap i.size) c.length && Nat.ble 1 c.length) (match h.put a.block .dead with
                        | some h => newSl h (old ++ new) elem false (Nat.add sLen n) (Nat.add sLen n)
                        | none => none) none)
                  | none => none
                | _ => none)
              none))
          none
      | none => none
    | _, _ => none
  | _, _, _ => none

def natOf : Value → Option Nat
  | .int _ n => match n with | .ofNat n => some n | .negSucc _ => none
  | _ => none

def optNat (d : Nat) : Option Value → Option Nat
  | none => some d
  | some v => natOf v

def sliceOp (T : Tb) (t : TypeId) (x : Value) (lo hi mx : Option Value) (h : Hp) : R :=
  match T.und.get t, x with
  | some (.slice elem), .slice a len cap =>
    match mx, optNat 0 lo, optNat len hi, T.size elem with
    | none, some l, some hh, some size =>
      cond (Nat.ble l hh && Nat.ble hh cap)
        (match a with
        | none => v1 (.slice none (Nat.sub hh l) (Nat.sub cap l)) h
        | some a =>
          match h.get a.block with
          | some (.cells _ _ ex) =>
            v1 (.slice (some (cond (Nat.beq l cap && (ex || Nat.beq l 0)) a (addr a (Nat.mul l size)))) (Nat.sub hh l) (Nat.sub cap l)) h
          | _ => none) none
    | some m, some l, some hh, some _ =>
      match hi, natOf m, a with
      | some _, some m, none => cond (Nat.ble m cap && Nat.beq l m && Nat.beq hh m) (v1 (.slice none 0 0) h) none
      | some _, some m, some a => cond (Nat.ble m cap && Nat.beq l m && Nat.beq hh m && Nat.beq l 0)
          (match h.get a.block with
          | some (.cells _ e _) => some (.val (.slice (some ⟨h.n, a.off, none⟩) 0 0), h.add (.cells [] e true))
          | _ => none) none
      | _, _, _ => none
    | _, _, _, _ => none
  | some .string, .string s =>
    match mx, optNat 0 lo, optNat s.size hi with
    | none, some l, some hh => cond (Nat.ble l hh && Nat.ble hh s.size) (v1 (.string (s.extract l hh)) h) none
    | _, _, _ => none
  | some (.array n elem), .pointer (some a) =>
    match mx, optNat 0 lo, optNat n hi, T.size elem, h.get a.block with
    | none, some l, some hh, some size, some (.cells _ _ true) =>
      cond (Nat.ble l hh && Nat.ble hh n)
        (v1 (.slice (some (cond (Nat.beq l n) a (addr a (Nat.mul l size)))) (Nat.sub hh l) (Nat.sub n l)) h) none
    | _, _, _, _, _ => none
  | _, _ => none

def zerosN (z : List Value) (n : Nat) : List Value := Nat.rec (motive := fun _ => List Value) [] (fun _ ih => z ++ ih) n

def kEq (k k' : IntKind) : Bool := decide (k = k')
def iEq (a b : Int) : Bool := match a, b with | .ofNat a, .ofNat b => Nat.beq a b | .negSucc a, .negSucc b => Nat.beq a b | _, _ => false

def sameKey : Value → Value → Option Bool
  | .int k a, .int k' b => cond (kEq k k') (some (iEq a b)) none
  | .string a, .string b => some (a == b)
  | .bool a, .bool b => some (a == b)
  | _, _ => none

def findA (k : Value) (es : List MapEntry) : Option (Option Value) :=
  List.rec (motive := fun _ => Option (Option Value)) (some none)
    (fun e _ ih => match sameKey k e.key with | some true => some (some e.val) | some false => ih | none => none) es

def updA (k v : Value) (es : List MapEntry) : Option (Option (List MapEntry)) :=
  List.rec (motive := fun _ => Option (Option (List MapEntry))) (some none)
    (fun e es ih => match sameKey k e.key with
      | some true => some (some ({ e with key := k, val := v } :: es))
      | some false => match ih with
        | some (some r) => some (some (e :: r))
        | some none => some none
        | none => none
      | none => none) es

/-- small sums need no wrap -/
def wrapA (k : IntKind) (n : Int) : Int :=
  match k, n with
  | .i64, .ofNat m => cond (Nat.ble m 9223372036854775807) (.ofNat m) (k.wrap n)
  | .i64, .negSucc m => cond (Nat.ble m 9223372036854775807) (.negSucc m) (k.wrap n)
  | _, _ => k.wrap n

def iLt (a b : Int) : Bool := match a, b with
  | .ofNat a, .ofNat b => Nat.ble (Nat.succ a) b
  | .negSucc a, .negSucc b => Nat.ble (Nat.succ b) a
  | .ofNat _, .negSucc _ => false
  | .negSucc _, .ofNat _ => true

def binA (op : BinOp) (x y : Value) : Option Value :=
  match x, y with
  | .int k a, .int k' b => cond (kEq k k')
      (match op with
      | .add => some (.int k (wrapA k (Int.add a b)))
      | .sub => some (.int k (wrapA k (Int.sub a b)))
      | .mul => some (.int k (wrapA k (Int.mul a b)))
      | .eql => some (.bool (iEq a b))
      | .neq => some (.bool (not (iEq a b)))
      | .lss => some (.bool (iLt a b))
      | .leq => some (.bool (not (iLt b a)))
      | .gtr => some (.bool (iLt b a))
      | .geq => some (.bool (not (iLt a b)))
      | _ => none)
      none
  | _, _ => none

def eqK1 : Value → Value → Bool
  | .int k a, .int k' b => cond (kEq k k') (iEq a b) false
  | .bool a, .bool b => cond a b (not b)
  | .string a, .string b => a == b
  | _, _ => false

def eqK2 (l : List Value) : List Value → Bool :=
  List.rec (motive := fun _ => List Value → Bool) (fun m => List.casesOn m true (fun _ _ => false)) (fun v _ ih m => List.casesOn m false (fun u r => cond (eqK1 v u) (ih r) false)) l

/-- maps.clone -/
def cloneA (args : List Value) (h : Hp) : R :=
  match args with
  | [.iface t (.map (some r))] => match h.get r with
    | some (.map es clock) => cond (Nat.ble h.lo h.n) (some (.val (.iface t (.map (some h.n))), h.add (.map es clock))) none
    | _ => none
  | _ => none

def callFn (T : Tb) (f : FuncId) (args : List Value) (h : Hp) : R :=
  match T.fn.get f with
  | some _ => some (.enter f args, h)
  | none => match T.ext.get f with
    | some e => cond (allB gr args) (match pureRun T.P (e ⟨args⟩) with | some v => cond (gr v) (v1 v h) none | none => none) none
    | none => match T.cl.get f with
      | some _ => cloneA args h
      | none => none

def kSc : Value → Bool
  | .int _ _ => true
  | .string _ => true
  | .bool _ => true
  | _ => false

/-- keys that are structs of plain values -/
def kAgg : Value → Bool
  | .agg cs => allB kSc cs.toList
  | _ => false

def eqAgg (v u : Value) : Bool := match v, u with
  | .agg c, .agg d => eqK2 c.toList d.toList
  | _, _ => false

def kI64 : Value → Bool
  | .int .i64 _ => true
  | _ => false

/-- keys that are structs of so many ints; from 50 on: so many less 50 ints, and ten bools behind them -/
def kBo : Value → Bool
  | .bool _ => true
  | _ => false

def kShp (n : Nat) (l : List Value) : Bool :=
  cond (Nat.blt n 50) (cond (Nat.beq l.length n) (allB kI64 l) false)
    (cond (Nat.beq l.length (n - 40)) (cond (allB kI64 (List.take (n - 50) l)) (allB kBo (List.drop (n - 50) l)) false) false)

def kAggN (n : Nat) : Value → Bool
  | .agg cs => kShp n cs.toList
  | _ => false

def keyG (T : Tb) (kt : TypeId) (k : Value) : Bool :=
  match T.kq.get kt with
  | some n => kAggN n k
  | none => false

/-- where such a key is found -/
def idxG (T : Tb) (kt : TypeId) (k : Value) (es : List MapEntry) : Option (Option Nat) :=
  List.rec (motive := fun _ => Option (Option Nat)) (some none)
    (fun e _ ih => cond (keyG T kt e.key) (cond (eqAgg k e.key) (some (some 0)) (match ih with
        | some (some j) => some (some (Nat.succ j))
        | some none => some none
        | none => none)) none) es

/-- keys that are told apart by a look -/
def keyK (T : Tb) (t : TypeId) (k : Value) : Bool :=
  match T.und.get t, k with
  | some (.int _), .int _ _ => true
  | some .string, .string _ => true
  | some .bool, .bool _ => true
  | _, _ => false

def idxK (k : Value) (es : List MapEntry) : Option (Option Nat) :=
  List.rec (motive := fun _ => Option (Option Nat)) (some none)
    (fun e _ ih => match sameKey k e.key with
      | some true => some (some 0)
      | some false => (match ih with
        | some (some j) => some (some (Nat.succ j))
        | some none => some none
        | none => none)
      | none => none) es

def lookA (T : Tb) (kt : TypeId) (k : Value) (es : List MapEntry) : Option (Option Value) :=
  cond (keyK T kt k) (findA k es) (cond (keyG T kt k) (match idxG T kt k es with
    | some (some j) => (match nth es j with | some en => some (some en.val) | none => none)
    | some none => some none
    | none => none) none)

def updM (T : Tb) (kt : TypeId) (k v : Value) (es : List MapEntry) : Option (Option (List MapEntry)) :=
  cond (keyK T kt k) (updA k v es) (cond (keyG T kt k) (match idxG T kt k es with
    | some (some j) => some (some (es.modify j fun e => { e with key := k, val := v }))
    | some none => some none
    | none => none) none)

def delM (T : Tb) (kt : TypeId) (k : Value) (es : List MapEntry) : Option (List MapEntry) :=
  match cond (keyK T kt k) (idxK k es) (cond (keyG T kt k) (idxG T kt k es) none) with
  | some (some j) => some (es.eraseIdx j)
  | some none => some es
  | none => none

def deleteA (T : Tb) (t : TypeId) (m k : Value) (h : Hp) : R :=
  match T.und.get t, m with
  | some (.map kt _), .map (some r) => match h.get r with
    | some (.map es clock) => match delM T kt k es with
      | some es' => match h.put r (.map es' clock) with | some h => some (.val (.tuple #[]), h) | none => none
      | none => none
    | _ => none
  | _, _ => none

def findM (name : String) (l : List Method) : Option Method :=
  List.rec (motive := fun _ => Option Method) none (fun m _ ih => cond (decide (m.name = name)) (some m) ih) l

def plainRecv (d : TypeDesc) (ptr : Bool) : Bool := match d, ptr with
  | .pointer _, true => true
  | .pointer _, false => false
  | _, true => false
  | _, false => true

def methodA (T : Tb) (t : TypeId) (name : String) : Option FuncId :=
  match T.info.get t, T.und.get t with
  | some i, some d => match findM name i.methods.toList with
    | some m => match m.path.toList, m.func with
      | [], some (f, ptr) => cond (plainRecv d ptr) (some f) none
      | _, _ => none
    | none => none
  | _, _ => none

def callM (T : Tb) (recv : Value) (name : String) (args : List Value) (h : Hp) : R :=
  match recv with
  | .iface t v => match methodA T t name with
    | some f => callFn T f (v :: args) h
    | none => none
  | _ => none

def copyA (T : Tb) (dt : TypeId) (d x : Value) (h : Hp) : R :=
  match T.und.get dt, d, lenA x with
  | some (.slice elem), .slice base dLen _, some m =>
    match T.size elem with
    | some size =>
      match sliceCells h size (Nat.min m dLen) x with
      | some cs =>
        match base with
        | none => cond (Nat.beq (Nat.min m dLen) 0) (v1 (.int .i64 (.ofNat 0)) h) none
        | some a => cond (allB okCell cs) (match h.storeC a cs with
          | some h => v1 (.int .i64 (.ofNat (Nat.min m dLen))) h
          | none => none) none
      | none => none
    | none => none
  | _, _, _ => none

def clearA (T : Tb) (t : TypeId) (x : Value) (h : Hp) : R :=
  match T.und.get t, x with
  | some (.slice elem), .slice base n _ =>
    match base with
    | none => v1 (.tuple #[]) h
    | some a => cond (Nat.beq n 0) (v1 (.tuple #[]) h) (match T.zero.get elem with
      | some z => cond (allB okCell (zerosN (cellsL z) n)) (match h.storeC a (zerosN (cellsL z) n) with
        | some h => v1 (.tuple #[]) h
        | none => none) none
      | none => none)
  | _, _ => none

def lenB (T : Tb) (t : TypeId) (x : Value) (h : Hp) : R :=
  match T.und.get t with
  | some d => match d, x with
    | .slice _, .slice none n _ => v1 (.int .i64 (.ofNat n)) h
    | .slice _, .slice (some a) n _ => match h.get a.block with | some _ => v1 (.int .i64 (.ofNat n)) h | none => none
    | .string, .string s => v1 (.int .i64 (.ofNat s.size)) h
    | .map _ _, .map none => v1 (.int .i64 (.ofNat 0)) h
    | .map _ _, .map (some r) => match h.get r with | some (.map es _) => v1 (.int .i64 (.ofNat es.length)) h | _ => none
    | _, _ => none
  | none => none

def builtinA (T : Tb) (b : Builtin) (argTypes : List TypeId) (type : TypeId) (args : List Value) (h : Hp) : R :=
  match b, args, argTypes with
  | .append, [s, x], [st, t2] => appendA T st t2 s x h
  | .len, [x], [t] => lenB T t x h
  | .recover, [], _ => some (.recover, h)
  | .copy, [d, x], [dt, _] => copyA T dt d x h
  | .delete, [m, k], [t, _] => deleteA T t m k h
  | .clear, [x], [t] => clearA T t x h
  | .min, _, _ => cond (allB sc args) (match pureRun T.P (Builtin.min_ ⟨argTypes⟩ type ⟨args⟩) with | some v => cond (sc v) (v1 v h) none | none => none) none
  | .max, _, _ => cond (allB sc args) (match pureRun T.P (Builtin.max_ ⟨argTypes⟩ type ⟨args⟩) with | some v => cond (sc v) (v1 v h) none | none => none) none
  | _, _, _ => none

def invokeA (T : Tb) (t : Target) (args : List Value) (h : Hp) : R :=
  match t with
  | .fn fn captured => match fn with
    | .func f => callFn T f (args ++ captured.toList) h
    | .yield l => some (.round l args, h)
    | .method name => match args with
      | r :: rest => callM T r name rest h
      | [] => none
    | .methodOf t name => match args with
      | r :: rest => match T.und.get t with
        | some (.interface _) => callM T r name rest h
        | some _ => callM T (.iface t r) name rest h
        | none => none
      | [] => none
    | .via t path f ptr => match args, path.toList, T.und.get t with
      | r :: rest, [], some d => cond (plainRecv d ptr) (callFn T f (r :: rest) h) none
      | _, _, _ => none
  | .builtin b ats ty _ => builtinA T b ats.toList ty args h
  | _ => none

def evalL (a : AF) (l : List Operand) : Option (List Value) :=
  List.rec (motive := fun _ => Option (List Value)) (some []) (fun o _ ih => match a.eval o with
    | some v => match ih with | some r => some (v :: r) | none => none
    | none => none) l

def resolveA (a : AF) (c : Call) (type : TypeId) : Option (Target × List Value) :=
  match evalL a c.args.toList with
  | some args =>
    match c.callee with
    | .builtin b => some (.builtin b c.argTypes type #[], args)
    | .invoke recv name => match a.eval recv with
      | some r => some (.fn (.method name) #[], r :: args)
      | none => none
    | .value f => match a.eval f with
      | some (.func fn first captured) => some (.fn fn captured, first.toList ++ args)
      | _ => none
  | none => none

def fillA (place : Nat → Option (Nat × Nat)) (ps : List (Nat × Value)) : List Value → Option (List Value) :=
  List.rec (motive := fun _ => List Value → Option (List Value)) (fun cells => some cells)
    (fun p _ ih cells => match place p.1 with
      | some (off, size) => cond (Nat.beq (cellsL p.2).length size && Nat.ble 1 size) (match storeL cells off (cellsL p.2) with
        | some cells => ih cells
        | none => none) none
      | none => none) ps

def evalP (a : AF) (l : List (Nat × Operand)) : Option (List (Nat × Value)) :=
  List.rec (motive := fun _ => Option (List (Nat × Value))) (some []) (fun p _ ih => match a.eval p.2 with
    | some v => match ih with | some r => some ((p.1, v) :: r) | none => none
    | none => none) l

def AF.ev0 (a : AF) (x : Operand) : Value :=
  match a.eval x with
  | some v => v
  | none => undef

/-- an operation on plain values alone -/
def gOp (T : Tb) (a : AF) (o : Oper) (h : Hp) : R :=
  match evalL a o.op.operands.toList with
  | some l => cond (allB gr l) (match pureRun T.P (execOp a.ev0 o) with
      | some (.value v) => cond (gr v) (v1 v h) none
      | _ => none) none
  | none => none

def bytesL (l : List Value) : Option (List UInt8) :=
  List.rec (motive := fun _ => Option (List UInt8)) (some []) (fun v _ ih => match v with
    | .int .u8 n => match ih with | some r => some (UInt8.ofNat n.toNat :: r) | none => none
    | _ => none) l

def nilRes (op : BinOp) : Option Value :=
  match op with
  | .eql => some (.bool false)
  | .neq => some (.bool true)
  | _ => none

def nilCmp (T : Tb) (op : BinOp) (t : TypeId) (a b : Value) : Option Value :=
  match T.und.get t, a, b with
  | some (.slice _), .slice (some _) _ _, .slice none _ _ | some (.slice _), .slice none _ _, .slice (some _) _ _
  | some (.pointer _), .pointer (some _), .pointer none | some (.map _ _), .map (some _), .map none => nilRes op
  | _, _, _ => none

def evO (a : AF) (x : Option Operand) : Option (Option Value) :=
  match x with | none => some none | some x => match a.eval x with | some v => some (some v) | none => none

def retV (h : Hp) : Option Value → R
  | some v => v1 v h
  | none => none

def opPickA (a : AF) (c x y : Operand) (h : Hp) : R :=
  match a.eval c with
    | some (.bool b) => retV h (cond b (a.eval x) (a.eval y))
    | _ => none

def opAllocA (T : Tb) (elem : TypeId) (h : Hp) : R :=
  match T.zero.get elem with
    | some z => newPtr h (cellsL z) elem
    | none => none

def opBoxA (a : AF) (elem : TypeId) (x : Operand) (h : Hp) : R :=
  match a.eval x with
    | some v => newPtr h (cellsL v) elem
    | none => none

def opLoadA (T : Tb) (a : AF) (t : TypeId) (x : Operand) (h : Hp) : R :=
  match a.eval x with
    | some (.pointer (some p)) => retV h (h.load T t p)
    | _ => none

def opStoreA (T : Tb) (a : AF) (t : TypeId) (x y : Operand) (h : Hp) : R :=
  match a.eval x, a.eval y with
    | some (.pointer (some p)), some v => match h.store T t p v with | some h => some (.skip, h) | none => none
    | _, _ => none

def opNilCheckA (a : AF) (x : Operand) (h : Hp) : R :=
  match a.eval x with
    | some (.pointer (some p)) => v1 (.pointer (some p)) h
    | _ => none

def opFieldAddrA (T : Tb) (a : AF) (s : TypeId) (x : Operand) (f : Nat) (h : Hp) : R :=
  match T.und.get s, a.eval x with
    | some (.struct fields), some (.pointer (some p)) => match nth fields.toList f with
      | some fd => match T.size fd.type with
        | some n => cond (Nat.ble 1 n) (v1 (.pointer (some (addr p fd.offset))) h) none
        | none => none
      | none => none
    | _, _ => none

def opFieldA (T : Tb) (a : AF) (t : TypeId) (x : Operand) (f : Nat) (h : Hp) : R :=
  match T.und.get t, a.eval x with
    | some (.struct fields), some (.agg cs) => match nth fields.toList f with
      | some fd => retV h (partA T fd.type cs.toList fd.offset)
      | none => none
    | _, _ => none

def opIndexAddrA (T : Tb) (a : AF) (t : TypeId) (x ix : Operand) (h : Hp) : R :=
  match T.und.get t, a.eval x, a.eval ix with
    | some (.array len elem), some (.pointer (some p)), some v => match natOf v, T.size elem with
      | some i, some size => cond (Nat.ble (Nat.succ i) len) (v1 (.pointer (some (addr p (Nat.mul i size)))) h) none
      | _, _ => none
    | some (.slice elem), some (.slice (some p) len _), some v => match natOf v, T.size elem with
      | some i, some size => cond (Nat.ble (Nat.succ i) len) (v1 (.pointer (some (addr p (Nat.mul i size)))) h) none
      | _, _ => none
    | _, _, _ => none

def opIndexA (T : Tb) (a : AF) (t : TypeId) (x ix : Operand) (h : Hp) : R :=
  match T.und.get t, a.eval x, a.eval ix with
    | some (.array len elem), some (.agg cs), some v => match natOf v, T.size elem with
      | some i, some size => cond (Nat.ble (Nat.succ i) len) (retV h (partA T elem cs.toList (Nat.mul i size))) none
      | _, _ => none
    | some .string, some (.string s), some v => match natOf v with
      | some i => match nth s.data.toList i with
        | some b => v1 (.int .u8 (.ofNat b.toNat)) h
        | none => none
      | none => none
    | _, _, _ => none

def opSliceA (T : Tb) (a : AF) (t : TypeId) (x : Operand) (lo hi mx : Option Operand) (h : Hp) : R :=
  match a.eval x, evO a lo, evO a hi, evO a mx with
    | some x, some lo, some hi, some mx => sliceOp T t x lo hi mx h
    | _, _, _, _ => none

def opBuildA (T : Tb) (a : AF) (t : TypeId) (parts : Array (Nat × Operand)) (h : Hp) : R :=
  match evalP a parts.toList, T.zero.get t, T.und.get t with
    | some ps, some z, some (.struct fields) =>
      match fillA (fun i => match nth fields.toList i with | some f => (match T.size f.type with | some s => some (f.offset, s) | none => none) | none => none) ps (cellsL z) with
      | some l => v1 (.agg ⟨l⟩) h
      | none => none
    | some ps, some z, some (.array _ elem) => match T.size elem with
      | some size => match fillA (fun i => some (Nat.mul i size, size)) ps (cellsL z) with
        | some l => v1 (.agg ⟨l⟩) h
        | none => none
      | none => none
    | _, _, _ => none

def opBuildSliceA (T : Tb) (a : AF) (t : TypeId) (len : Nat) (parts : Array (Nat × Operand)) (h : Hp) : R :=
  match evalP a parts.toList, T.und.get t with
    | some ps, some (.slice elem) => match T.size elem, T.zero.get elem with
      | some size, some z => cond (Nat.ble (Nat.mul len size) 100000)
          (match fillA (fun k => some (Nat.mul k size, size)) ps (zerosN (cellsL z) len) with
          | some l => newSl h l elem true len len
          | none => none) none
      | _, _ => none
    | _, _ => none

def opMakeSliceA (T : Tb) (a : AF) (t : TypeId) (l c : Operand) (h : Hp) : R :=
  match T.und.get t, a.eval l, a.eval c with
    | some (.slice elem), some l, some c => match natOf l, natOf c, T.info.get elem, T.zero.get elem with
      | some l, some c, some i, some z => cond (Nat.ble (Nat.mul c i.bytes) 100000 && Nat.ble l c && Nat.ble c 100000)
          (newSl h (zerosN (cellsL z) c) elem true l c) none
      | _, _, _, _ => none
    | _, _, _ => none

def opMakeMapA  (r : Option Operand) (h : Hp) : R :=
  match r with
    | none => some (.val (.map (some h.n)), h.add (.map [] 0))
    | some _ => none

def opLookupA (T : Tb) (a : AF) (t : TypeId) (x k : Operand) (ok : Bool) (h : Hp) : R :=
  match T.und.get t, a.eval x, a.eval k with
    | some (.map kt elem), some (.map (some r)), some k => match h.get r, T.zero.get elem with
      | some (.map es _), some z => match lookA T kt k es with
        | some (some v) => v1 (cond ok (.tuple #[v, .bool true]) v) h
        | some none => v1 (cond ok (.tuple #[z, .bool false]) z) h
        | none => none
      | _, _ => none
    | _, _, _ => none

def opMapUpdateA (T : Tb) (a : AF) (t : TypeId) (m k x : Operand) (h : Hp) : R :=
  match T.und.get t, a.eval m, a.eval k, a.eval x with
    | some (.map kt _), some (.map (some r)), some k, some v => match h.get r with
      | some (.map es clock) => match updM T kt k v es with
        | some (some es') => match h.put r (.map es' clock) with | some h => some (.skip, h) | none => none
        | some none => match h.put r (.map (es ++ [{ key := k, val := v, born := clock }]) (Nat.succ clock)) with | some h => some (.skip, h) | none => none
        | none => none
      | _ => none
    | _, _, _, _ => none

def opRangeA (T : Tb) (a : AF) (t : TypeId) (x : Operand) (h : Hp) : R :=
  match T.und.get t, a.eval x with
    | some .string, some (.string s) => some (.val (.pointer (some ⟨h.n, 0, none⟩)), h.add (.iter s 0))
    | _, _ => none

def opNextA (a : AF) (it : Operand) (b : Bool) (h : Hp) : R :=
  match b, a.eval it with
    | true, some (.pointer (some ⟨r, 0, none⟩)) => match h.get r with
      | some (.iter s pos) =>
        cond (Nat.ble (Nat.succ pos) s.size)
          (match Utf8.decode s pos with
          | (c, width) => match h.put r (.iter s (Nat.add pos width)) with
            | some h => v1 (.tuple #[.bool true, .int .i64 (.ofNat pos), .int .i32 c]) h
            | none => none)
          (v1 (.tuple #[.bool false]) h)
      | _ => none
    | _, _ => none

def opExtractA (a : AF) (t : Operand) (i : Nat) (h : Hp) : R :=
  match a.eval t with
    | some (.tuple vs) => retV h (nth vs.toList i)
    | _ => none

def opMakeInterfaceA (T : Tb) (a : AF) (t : TypeId) (x : Operand) (h : Hp) : R :=
  match T.und.get t, a.eval x with
    | some (.interface _), _ => none
    | some _, some v => v1 (.iface t v) h
    | _, _ => none

def opMakeFuncA (a : AF) (fn : Fn) (first captured : Array Operand) (h : Hp) : R :=
  match fn with
    | .yield _ => none
    | fn => match evalL a first.toList, evalL a captured.toList with
      | some f, some c => v1 (.func fn ⟨f⟩ ⟨c⟩) h
      | _, _ => none

def opTypeAssertA (T : Tb) (a : AF) (x : Operand) (asserted : TypeId) (ok : Bool) (h : Hp) : R :=
  match T.und.get asserted with
    | some (.interface _) => none
    | some _ => match a.eval x with
      | some (.iface t v) => cond (Nat.beq t asserted) (v1 (cond ok (.tuple #[v, .bool true]) v) h)
          (cond ok (match T.zero.get asserted with | some z => v1 (.tuple #[z, .bool false]) h | none => none) none)
      | some .nilIface => cond ok (match T.zero.get asserted with | some z => v1 (.tuple #[z, .bool false]) h | none => none) none
      | _ => none
    | none => none

def opCallA (T : Tb) (a : AF) (o : Oper) (c : Call) (h : Hp) : R :=
  match resolveA a c o.type with
    | some (t, args) => invokeA T t args h
    | none => none

def opDeferA (a : AF) (o : Oper) (c : Call) (h : Hp) : R :=
  match resolveA a c o.type with
    | some (.fn fn captured, args) => some (.defer { target := .fn fn captured, args := ⟨args⟩ }, h)
    | _ => none

def opPanicA (a : AF) (x : Operand) (h : Hp) : R :=
  match a.eval x with
    | some (.iface t v) => some (.pan (.iface t v), h)
    | _ => none

def opBinOpA (T : Tb) (a : AF) (o : Oper) (op : BinOp) (t : TypeId) (x y : Operand) (h : Hp) : R :=
  match a.eval x, a.eval y with
    | some u, some v => match binA op u v with
      | some v => v1 v h
      | none => match nilCmp T op t u v with
        | some v => v1 v h
        | none => gOp T a o h
    | _, _ => none

def opConvertA (T : Tb) (a : AF) (o : Oper) (src dst : TypeId) (x : Operand) (h : Hp) : R :=
  match T.und.get src, T.und.get dst, a.eval x with
    | some (.slice e), some .string, some (.slice (some p) len _) => match T.und.get e, h.cells p.block with
      | some (.int .u8), some c => match cut c p.off len with
        | some l => match bytesL l with
          | some l => v1 (.string ⟨⟨l⟩⟩) h
          | none => none
        | none => none
      | _, _ => none
    | _, _, _ => gOp T a o h

def opUnOpA (T : Tb) (a : AF) (o : Oper) (op : UnOp) (x : Operand) (h : Hp) : R :=
  match op, a.eval x with
    | .not, some (.bool b) => v1 (.bool (not b)) h
    | _, _ => gOp T a o h

def aop (T : Tb) (a : AF) (o : Oper) (h : Hp) : R :=
  match o.op with
  | .move x => retV h (a.eval x)
  | .assign x => retV h (a.eval x)
  | .pick c x y => opPickA a c x y h
  | .alloc elem => opAllocA T elem h
  | .box elem x => opBoxA a elem x h
  | .load t x => opLoadA T a t x h
  | .store t x y => opStoreA T a t x y h
  | .nilCheck x => opNilCheckA a x h
  | .fieldAddr s x f => opFieldAddrA T a s x f h
  | .field t x f => opFieldA T a t x f h
  | .indexAddr t x ix => opIndexAddrA T a t x ix h
  | .index t x ix => opIndexA T a t x ix h
  | .slice t x lo hi mx => opSliceA T a t x lo hi mx h
  | .build t parts => opBuildA T a t parts h
  | .buildSlice t len parts => opBuildSliceA T a t len parts h
  | .makeSlice t l c => opMakeSliceA T a t l c h
  | .makeMap _ r => opMakeMapA  r h
  | .lookup t x k ok => opLookupA T a t x k ok h
  | .mapUpdate t m k x => opMapUpdateA T a t m k x h
  | .range t x => opRangeA T a t x h
  | .next it b => opNextA a it b h
  | .extract t i => opExtractA a t i h
  | .makeInterface t x => opMakeInterfaceA T a t x h
  | .makeFunc fn first captured => opMakeFuncA a fn first captured h
  | .typeAssert x _ asserted ok => opTypeAssertA T a x asserted ok h
  | .call c => opCallA T a o c h
  | .defer c => opDeferA a o c h
  | .panic x => opPanicA a x h
  | .binOp op t x y _ => opBinOpA T a o op t x y h
  | .convert src dst x => opConvertA T a o src dst x h
  | .unOp op _ x => opUnOpA T a o op x h
  | _ => none

inductive AE where
  | normal
  | exit (id : Nat)
  | goto (l : Nat)
  | ret
  | panic (chain : List PanicEntry)

structure Fns where
  code : Option Nat → Code → AF → Hp → Option (AE × AF × Hp)
  call : FuncId → List Value → Option FrameMode → Hp → Option (Rt × Option FrameMode × Hp)
  round : Nat → List Value → Hp → Option (Rt × Hp)
  defers : List Deferred → FrameMode → Hp → Option (FrameMode × Hp)

def Fns.none : Fns := ⟨fun _ _ _ _ => Option.none, fun _ _ _ _ => Option.none, fun _ _ _ => Option.none, fun _ _ _ => Option.none⟩

def doNx (F : Fns) (rd : Option Nat) (a : AF) : ANx → Hp → Option (Rt × AF × Hp)
  | .val v, h => some (.ret v, a, h)
  | .skip, h => some (.ret undef, a, h)
  | .enter f args, h => match F.call f args Option.none h with
    | some (r, _, h) => some (r, a, h)
    | Option.none => Option.none
  | .round l args, h => match F.round l args h with
    | some (r, h) => some (r, a, h)
    | Option.none => Option.none
  | .defer d, h => match rd with
    | Option.none => some (.ret undef, { a with ds := d :: a.ds }, h)
    | some _ => Option.none
  | .recover, h => match rd with
    | some _ => Option.none
    | Option.none => match a.um with
      | some (.panicking ({ v, recovered := false, goexit := false } :: older)) =>
        some (.ret v, { a with um := some (.panicking ({ v, recovered := true } :: older)) }, h)
      | _ => some (.ret .nilIface, a, h)
  | .pan v, h => some (.pan [{ v, recovered := false }], a, h)

def wantedA (all : List Oper) (a : AF) (o : Oper) : Bool :=
  match o.guard with
  | none => true
  | some (j, want) => match nth all j with
    | some p => match p.dst with
      | some d => match a.tm.get d with
        | some (.bool b) => cond want b (not b)
        | _ => false
      | none => false
    | none => false

def doOp (T : Tb) (F : Fns) (rd : Option Nat) (a : AF) (o : Oper) (h : Hp) : Option (Rt × AF × Hp) :=
  match aop T a o h with
  | some (nx, h) => doNx F rd a nx h
  | none => none

def evalOps (T : Tb) (F : Fns) (rd : Option Nat) (all : List Oper) (l : List Oper) : AF → Hp → Option (AE × AF × Hp) :=
  List.rec (motive := fun _ => AF → Hp → Option (AE × AF × Hp)) (fun a h => some (.normal, a, h))
    (fun o _ ih a h => cond (wantedA all a o)
      (match doOp T F rd a o h with
      | some (r, a, h) => match r with
        | .ret v => ih (a.put o.dst v) h
        | .pan ch => some (.panic ch, a, h)
      | none => none)
      (ih (a.put o.dst undef) h)) l

def eqS : Value → Value → Bool
  | .int k a, .int k' b => cond (kEq k k') (iEq a b) false
  | .bool a, .bool b => cond a b (not b)
  | .string a, .string b => a == b
  | .pointer none, .pointer none => true
  | .pointer (some ⟨b, o, none⟩), .pointer (some ⟨b', o', none⟩) => Nat.beq b b' && Nat.beq o o'
  | .slice none n c, .slice none n' c' => Nat.beq n n' && Nat.beq c c'
  | .slice (some ⟨b, o, none⟩) n c, .slice (some ⟨b', o', none⟩) n' c' => Nat.beq b b' && Nat.beq o o' && Nat.beq n n' && Nat.beq c c'
  | .map none, .map none => true
  | .map (some r), .map (some r') => Nat.beq r r'
  | .nilFunc, .nilFunc => true
  | .nilIface, .nilIface => true
  | _, _ => false

def eqL (l : List Value) : List Value → Bool :=
  List.rec (motive := fun _ => List Value → Bool) (fun m => List.casesOn m true (fun _ _ => false)) (fun v _ ih m => List.casesOn m false (fun u r => cond (eqS v u) (ih r) false)) l

def eqW (v u : Value) : Bool := match v, u with
  | .agg c, .agg d => eqL c.toList d.toList
  | v, u => eqS v u

def eqLW (l : List Value) : List Value → Bool :=
  List.rec (motive := fun _ => List Value → Bool) (fun m => List.casesOn m true (fun _ _ => false)) (fun v _ ih m => List.casesOn m false (fun u r => cond (eqW v u) (ih r) false)) l

def eqV (v u : Value) : Bool := match v, u with
  | .agg c, .agg d => eqL c.toList d.toList
  | .tuple c, .tuple d => eqL c.toList d.toList
  | .func f a c, .func g b d => decide (f = g) && eqLW a.toList b.toList && eqLW c.toList d.toList
  | .iface t v, .iface t' v' => Nat.beq t t' && eqS v v'
  | v, u => eqS v u

/-- a reading operation that was done: its frame, what it read -/
structure RO where
  i : Nat
  o : Oper
  a : AF
  v : Value

/-- what was read is read with that heap, too -/
def again (T : Tb) (r : RO) (h : Hp) : Bool :=
  match aop T r.a r.o h with
  | some (.val v, _) => eqV r.v v
  | _ => false

/-- an operation of a region that draws its order: is it an effect; must it let old blocks be; does it read; is it the last one, all others before it; which of the readings before it are unordered with it; with how many of the last effects is it unordered -/
structure DO where
  i : Nat
  eff : Bool
  bar : Bool
  rd : Bool
  re : List Nat
  back : Nat
  fin : Bool
  o : Oper

def memN (i : Nat) (l : List Nat) : Bool :=
  List.rec (motive := fun _ => Bool) false (fun x _ ih => cond (Nat.beq x i) true ih) l

def againAll (T : Tb) (re : List Nat) (h : Hp) (l : List RO) : Bool :=
  List.rec (motive := fun _ => Bool) true (fun r _ ih => cond (memN r.i re) (cond (again T r h) ih false) ih) l

def backAll (T : Tb) (r : RO) (n : Nat) : List Hp → Bool :=
  Nat.rec (motive := fun _ => List Hp → Bool) (fun _ => true) (fun _ ih hs => List.casesOn hs false (fun h r' => cond (again T r h) (ih r') false)) n

def evalDraw (T : Tb) (F : Fns) (rd : Option Nat) (all : List Oper) (l : List DO) : List RO → List Hp → AF → Hp → Option (AE × AF × Hp) :=
  List.rec (motive := fun _ => List RO → List Hp → AF → Hp → Option (AE × AF × Hp)) (fun _ _ a h => some (.normal, a, h))
    (fun p l ih rs hs a h => cond (wantedA all a p.o)
      (match doOp T F rd a p.o h with
      | some (r, a', h') => match r with
        | .ret v => cond p.eff
            (cond (againAll T p.re h' rs) (ih rs (h :: hs) (a'.put p.o.dst v) h') none)
            (cond p.rd
              (cond (backAll T ⟨p.i, p.o, a, v⟩ p.back hs) (ih (⟨p.i, p.o, a, v⟩ :: rs) hs (a'.put p.o.dst v) h') none)
              (ih rs hs (a'.put p.o.dst v) h'))
        | .pan ch => match l with
          | [] => cond p.fin (some (.panic ch, a', h')) none
          | _ :: _ => none
      | none => none)
      (ih rs (cond p.eff (h :: hs) hs) (a.put p.o.dst undef) h)) l

/-- 0: reads alone; 1: makes a block; 2: the rest; 3: not let in -/
def cls (o : Oper) : Nat :=
  match o.op with
  | .move _ | .assign _ | .pick .. | .load .. | .nilCheck _ | .fieldAddr .. | .field .. | .indexAddr .. | .index .. | .build .. | .extract .. | .makeInterface .. | .makeFunc .. | .typeAssert ..
  | .binOp .. | .unOp .. | .lookup .. | .convert .. => 0
  | .slice _ _ _ _ none => 0
  | .alloc _ | .box .. | .buildSlice .. | .makeSlice .. => 1
  | .call { callee := .builtin .len, .. } | .call { callee := .builtin .min, .. } | .call { callee := .builtin .max, .. } => 0
  | .call { callee := .builtin .recover, .. } => 3
  | .call _ | .store .. | .mapUpdate .. => 2
  | _ => 3

def rdMem (o : Oper) : Bool :=
  match o.op with
  | .load .. | .lookup .. | .convert .. | .slice .. | .call _ => true
  | _ => false

def at_ (l : List Nat) (i : Nat) : Nat :=
  match nth l i with
  | some x => x
  | none => 0

def clsAt (ops : List Oper) (j : Nat) : Nat :=
  match nth ops j with
  | some o => cls o
  | none => 3

def memAt (ops : List Oper) (j : Nat) : Bool :=
  match nth ops j with
  | some o => Nat.beq (cls o) 0 && rdMem o
  | none => false

def freeB (b : List Nat) (j k : Nat) : Bool := !(Nat.beq j k) && !(at_ b k).testBit j && !(at_ b j).testBit k

/-- an operation's temporaries: its own, its operands', its guard's -/
def looks (ops : List Oper) (o : Oper) : List Nat :=
  o.dst.toList ++ (o.op.operands.toList.filterMap fun | .tmp t => some t | _ => none) ++ match o.guard with
    | some (j, _) => match nth ops j with
      | some p => p.dst.toList
      | none => []
    | none => []

def okK (ops : List Oper) (b : List Nat) (k : Nat) : Bool :=
  !(Nat.beq (clsAt ops k) 3) && (!(Nat.beq (clsAt ops k) 2) || (List.range k).all fun j => Nat.beq (clsAt ops j) 0 || (at_ b k).testBit j)

/-- who writes a temporary of an operation, is before it or behind it -/
def okT (ops : List Oper) (b : List Nat) (k : Nat) (o : Oper) : Bool :=
  (List.range ops.length).all fun i => Nat.beq i k || match nth ops i with
    | some p => match p.dst with
      | some d => !(looks ops o).contains d || (cond (Nat.ble i k) ((at_ b k).testBit i) ((at_ b i).testBit k))
      | none => true
    | none => true

/-- it waits for operations before it alone -/
def okA (o : Oper) (k : Nat) : Bool := o.after.toList.all fun e => !(Region.binds .any e) || Nat.ble (Nat.succ e.on) k

def mkDO (ops : List Oper) (b : List Nat) (o : Oper) (k : Nat) : DO :=
  { i := k, eff := Nat.beq (cls o) 2, bar := false, rd := memAt ops k,
    re := (List.range k).filter fun j => freeB b j k && memAt ops j,
    back := ((List.range k).filter fun j => freeB b j k && Nat.beq (clsAt ops j) 2).length,
    fin := (List.range ops.length).all fun j => Nat.beq j k || (at_ b k).testBit j, o }

def planB (ops : List Oper) (b : List Nat) : Option (List DO) :=
  if ops.zipIdx.all fun q => okK ops b q.2 && okT ops b q.2 q.1 && okA q.1 q.2 then some (ops.zipIdx.map fun q => mkDO ops b q.1 q.2) else none

def plan (ops : Array Oper) : Option (List DO) := planB ops.toList (Region.before ops).toList

def setTmps (ds : List Tmp) : Tr Value → Nat → List Value → Option (Tr Value) :=
  List.rec (motive := fun _ => Tr Value → Nat → List Value → Option (Tr Value)) (fun t _ vs => match vs with | [] => some t | _ => none)
    (fun d _ ih t sz vs => match vs with
      | v :: vs => cond (Nat.ble (Nat.succ d) sz) (ih (t.set d v) sz vs) none
      | [] => none) ds

def fromA (l : List Value) : Nat → Tr Value → Tr Value :=
  List.rec (motive := fun _ => Nat → Tr Value → Tr Value) (fun _ t => t) (fun v _ ih i t => ih (Nat.succ i) (t.set i v)) l

def settleA : FrameMode → FrameMode
  | .panicking ({ recovered := true, .. } :: older) =>
    match older.dropWhile (!·.goexit) with
    | [] => .returning
    | rest => .panicking rest
  | m => m

def raisedA (u : FrameMode) (chain : List PanicEntry) : FrameMode :=
  match u with
  | .panicking old => .panicking (chain ++ old)
  | _ => .panicking chain

def resultsA (T : Tb) (a : AF) (h : Hp) (l : List ResultVar) : Option (List Value) :=
  List.rec (motive := fun _ => Option (List Value)) (some []) (fun x _ ih => match ih with
    | some r => match x with
      | .tmp t => some (a.tmp t :: r)
      | .cell p t => match a.tmp p with
        | .pointer (some p) => match h.load T t p with
          | some v => some (v :: r)
          | none => none
        | _ => none
    | none => none) l

def tuple1 (vs : List Value) : Value := match vs with | [v] => v | _ => .tuple ⟨vs⟩

def pendE : Option Code → Option AE
  | none => some .normal
  | some .ret => some .ret
  | some (.exit id) => some (.exit id)
  | some (.goto l) => some (.goto l)
  | some _ => none

def rangeA (T : Tb) (F : Fns) (rd : Option Nat) (f : Operand) (params : Array Tmp) (assign body : Code) (a : AF) (h : Hp) : Option (AE × AF × Hp) :=
  match (match rd with
    | some l => match h.get l with | some (.loop _ _ _ _ _ _ _ _ d) => some (d, a, h) | _ => none
    | none => some (h.n, { a with ds := ({ target := .collected h.n, args := #[] } : Deferred) :: a.ds }, h.add (.defs (some [])))) with
  | some (r, a, h) =>
    match a.eval f with
    | some (.func fn first captured) => match invokeA T (.fn fn captured) (first.toList ++ [.func (.yield h.n) #[] #[]]) (h.add (.loop .ready none a.fn a.tm a.sz params.toList assign body r)) with
      | some (.enter g args, h') => match F.call g args none h' with
        | some (.ret _, _, h'') => match h''.get h.n with
          | some (.loop st p fn tm sz params assign body d) => match st with
            | .busy => none
            | _ => match pendE p, h''.put h.n (.loop .exhausted p fn tm sz params assign body d) with
              | some e, some h3 => some (e, a, h3)
              | _, _ => none
          | _ => none
        | some (.pan ch, _, h'') => some (.panic ch, a, h'')
        | none => none
      | _ => none
    | _ => none
  | none => none

def codeF (T : Tb) (F : Fns) (rd : Option Nat) (c : Code) (a : AF) (h : Hp) : Option (AE × AF × Hp) :=
  match c with
  | .skip => some (.normal, a, h)
  | .label _ => some (.normal, a, h)
  | .seq x y => match F.code rd x a h with
    | some (e, a, h) => match e with
      | .normal => F.code rd y a h
      | e => some (e, a, h)
    | none => none
  | .cond c x y => match a.eval c with
    | some (.bool b) => F.code rd (cond b x y) a h
    | _ => none
  | .block id body => match F.code rd body a h with
    | some (e, a, h) => match e with
      | .exit id' => cond (Nat.beq id' id) (some (.normal, a, h)) (some (.exit id', a, h))
      | e => some (e, a, h)
    | none => none
  | .loop body => match F.code rd body a h with
    | some (e, a, h) => match e with
      | .normal => F.code rd (.loop body) a h
      | e => some (e, a, h)
    | none => none
  | .scope body => match F.code rd body a h with
    | some (e, a, h) => match e with
      | .goto _ => none
      | e => some (e, a, h)
    | none => none
  | .exit id => some (.exit id, a, h)
  | .goto l => some (.goto l, a, h)
  | .ret => some (.ret, a, h)
  | .region _ ops draw => match draw with
    | false => evalOps T F rd ops.toList ops.toList a h
    | true => match plan ops with
      | some l => evalDraw T F rd ops.toList l [] [] a h
      | none => none
  | .rangeFunc f params assign body => rangeA T F rd f params assign body a h
  | .refuse _ => none

def finC (T : Tb) (F : Fns) (fn : Func) (a : AF) (m : FrameMode) (h : Hp) : Option (Rt × Option FrameMode × Hp) :=
  match F.defers a.ds m h with
  | some (m, h) => match m with
    | .returning => match resultsA T a h fn.results.toList with
      | some vs => some (.ret (tuple1 vs), a.um, h)
      | none => none
    | .panicking ch => some (.pan ch, a.um, h)
    | .run => none
  | none => none

def callF (T : Tb) (F : Fns) (f : FuncId) (args : List Value) (um : Option FrameMode) (h : Hp) : Option (Rt × Option FrameMode × Hp) :=
  match T.sp.get f with
  | some g => g args um h
  | none => match T.fn.get f with
  | some fn => match fn.body with
    | some b => match F.code none b { tm := fromA args 0 .e, sz := Nat.add args.length (Nat.sub fn.ntmps args.length), ds := [], fn := f, um := um } h with
      | some (e, a, h) => match e with
        | .normal => finC T F fn a .returning h
        | .ret => finC T F fn a .returning h
        | .panic ch => finC T F fn a (.panicking ch) h
        | _ => none
      | none => none
    | none => none
  | none => none

def endR (h : Hp) (l : Nat) (jump : Option Code) : Option (Rt × Hp) :=
  match h.get l with
  | some (.loop _ _ fn tm sz params assign body d) => match h.put l (.loop (cond jump.isNone .ready .done) jump fn tm sz params assign body d) with
    | some h => some (.ret (.bool jump.isNone), h)
    | none => none
  | _ => none

def roundF (T : Tb) (F : Fns) (l : Nat) (args : List Value) (h : Hp) : Option (Rt × Hp) :=
  match h.get l with
  | some (.loop _ _ fn tm sz params assign body _) =>
    match setTmps params tm sz args with
    | some tm => match F.code (some l) assign { tm, sz, ds := [], fn, um := none } h with
      | some (.normal, a, h) => match h.get l with
        | some (.loop .ready p fn' tm' sz' params' assign' body' d) => match h.put l (.loop .busy p fn' tm' sz' params' assign' body' d) with
          | some h => match F.code (some l) body a h with
            | some (e, a, h) => match a.ds with
              | [] => match e with
                | .normal => endR h l none
                | .ret => endR h l (some .ret)
                | .exit id => endR h l (some (.exit id))
                | .goto l' => endR h l (some (.goto l'))
                | .panic ch => match T.fn.get fn with | some _ => some (.pan ch, h) | none => none
              | _ => none
            | none => none
          | none => none
        | _ => none
      | _ => none
    | none => none
  | _ => none

def defersF (T : Tb) (F : Fns) (ds : List Deferred) (m : FrameMode) (h : Hp) : Option (FrameMode × Hp) :=
  match ds with
  | [] => some (m, h)
  | d :: ds => match d.target with
    | .collected b => match h.get b with
      | some (.defs (some l)) => match h.put b (.defs none) with
        | some h => F.defers (l ++ ds) m h
        | none => none
      | _ => none
    | .fn fn captured => match invokeA T (.fn fn captured) d.args.toList h with
      | some (.enter f args, h) => match F.call f args (some m) h with
        | some (r, some u, h) => match r with
          | .ret _ => match u with
            | .run => none
            | .returning => F.defers ds (settleA .returning) h
            | .panicking c => F.defers ds (settleA (.panicking c)) h
          | .pan ch => F.defers ds (raisedA u ch) h
        | _ => none
      | _ => none
    | _ => none

def stepF (T : Tb) (F : Fns) : Fns := ⟨codeF T F, callF T F, roundF T F, defersF T F⟩

def ev (T : Tb) (n : Nat) : Fns := Nat.rec (motive := fun _ => Fns) Fns.none (fun _ F => stepF T F) n

end
end Go.Clo
