/- A ground evaluator for closed calls, part C: the evaluator. Its recursions are written by recursors: the kernel runs them. -/
import Derived.Test.YtggcnnpklkmeoaaGreatDoorEA
import GoSem.Dispatch
import GoSem.Machine.Return
namespace Go.Ev
noncomputable section

/-- What an evaluation without memory gives. -/
def pureRun {α : Type} (P : Program) : Sem α → Option α
  | .pure a => some a
  | .program k => pureRun P (k P)
  | .mark _ k => pureRun P k
  | _ => none

def big : Nat := 1152921504606846976

def setR {α : Type} (v : Option α) (f : Nat) : Tr α → Nat → Tr α :=
  Nat.rec (motive := fun _ => Tr α → Nat → Tr α) (fun t _ => t)
    (fun _ ih t k => Tr.rec (motive := fun _ => Tr α)
      (Bool.rec (Bool.rec (.n .e none (ih .e (Nat.sub (Nat.div k 2) 1))) (.n (ih .e (Nat.div k 2)) none .e) (Nat.beq (Nat.mod k 2) 1)) (.n .e v .e) (Nat.beq k 0))
      (fun l x r _ _ => Bool.rec (Bool.rec (.n l x (ih r (Nat.sub (Nat.div k 2) 1))) (.n (ih l (Nat.div k 2)) x r) (Nat.beq (Nat.mod k 2) 1)) (.n l v r) (Nat.beq k 0)) t) f

/-- Put at a place below 'big'. -/
def putR {α : Type} (t : Tr α) (k : Nat) (v : Option α) : Tr α := setR v 61 t k

def nth {α : Type} (l : List α) : Nat → Option α :=
  List.rec (motive := fun _ => Nat → Option α) (fun _ => none) (fun x _ ih n => Nat.rec (some x) (fun m _ => ih m) n) l

def consO {α : Type} (x : α) : Option (List α) → Option (List α)
  | some l => some (x :: l)
  | none => none

/-- n elements from o on. -/
def cut {α : Type} (l : List α) : Nat → Nat → Option (List α) :=
  List.rec (motive := fun _ => Nat → Nat → Option (List α))
    (fun o n => Nat.rec (Nat.rec (some []) (fun _ _ => none) n) (fun _ _ => none) o)
    (fun x _ ih o n => Nat.rec (Nat.rec (some []) (fun m _ => consO x (ih 0 m)) n) (fun o' _ => ih o' n) o) l

/-- Elements laid over a list, from o on. -/
def lay {α : Type} (l : List α) : Nat → List α → Option (List α) :=
  List.rec (motive := fun _ => Nat → List α → Option (List α))
    (fun o vs => Nat.rec (List.rec (some []) (fun _ _ _ => none) vs) (fun _ _ => none) o)
    (fun x xs ih o vs => Nat.rec (List.rec (some (x :: xs)) (fun v vs _ => consO v (ih 0 vs)) vs) (fun o' _ => consO x (ih o' vs)) o) l

def lenR {α : Type} (l : List α) : Nat := List.rec (motive := fun _ => Nat) 0 (fun _ _ n => Nat.add n 1) l

def flatsR (l : List Value) : Bool := List.rec (motive := fun _ => Bool) true (fun v _ ih => Bool.rec false ih (flat v)) l
def flat2R : Value → Bool
  | .agg ⟨cs⟩ | .tuple ⟨cs⟩ => flatsR cs
  | v => flat v
def onesR (l : List Value) : Bool := List.rec (motive := fun _ => Bool) true (fun v _ ih => Bool.rec false ih (one v)) l

def eqL {α : Type} (eq : α → α → Bool) (l : List α) : List α → Bool :=
  List.rec (motive := fun _ => List α → Bool) (fun l2 => match l2 with | [] => true | _ => false) (fun x _ ih l2 => match l2 with | [] => false | y :: ys => Bool.rec false (ih ys) (eq x y)) l

def eqB (a b : Bool) : Bool := match a with | true => b | false => not b

def ieq (x y : Int) : Bool :=
  match x with
  | .ofNat a => match y with | .ofNat b => Nat.beq a b | .negSucc _ => false
  | .negSucc a => match y with | .ofNat _ => false | .negSucc b => Nat.beq a b

def sameK (j k : IntKind) : Bool :=
  match j, k with
  | .i64, .i64 | .u64, .u64 | .i32, .i32 | .u32, .u32 | .u8, .u8 => true
  | _, _ => false

def eqS (s t : ByteArray) : Bool := eqL (fun x y : UInt8 => Nat.beq x.toNat y.toNat) s.data.toList t.data.toList

def notDeferOp : Op → Bool
  | .defer _ => false
  | .select _ _ => false
  | _ => true

/-- What the evaluator knows of a type. -/
structure TI where
  size : Nat
  bytes : Nat
  under : TypeDesc
  zero : List Value
  agg : Bool
  inner : Nat

def isAggD : TypeDesc → Bool
  | .struct _ => true
  | .array _ _ => true
  | _ => false

/-- Is it a zero value of a type of this shape? -/
def shapeZ (d : TypeDesc) (z : Value) : Bool :=
  match isAggD d with
  | true => match z with
    | .agg _ => true
    | _ => false
  | false => one z

def mkTI (P : Program) (t : TypeId) : Option TI :=
  match P.info? t, P.underlying t with
  | some i, some d => match i.zero with
    | some z => bif flat2 z && ones z.cells.toList && Nat.beq z.cells.toList.length i.size && shapeZ d z then
        match d with
        | .struct _ => some ⟨i.size, i.bytes, d, z.cells.toList, true, i.size⟩
        | .array _ e => match P.info? e with
          | some j => some ⟨i.size, i.bytes, d, z.cells.toList, true, j.size⟩
          | none => none
        | _ => some ⟨i.size, i.bytes, d, z.cells.toList, false, i.size⟩
      else none
    | none => none
  | _, _ => none

/-- Rows of functions without a body. -/
def xAdd64 : Array Value → Sem Value := (Extern.MathBitsCarry.rows[0]'(by decide)).2
def xSub64 : Array Value → Sem Value := (Extern.MathBitsCarry.rows[1]'(by decide)).2
def xIndexByte : Array Value → Sem Value := Extern.BytealgIndexByte.indexByte
def xIndex : Array Value → Sem Value := Extern.BytealgIndex.index
def xCount : Array Value → Sem Value := Extern.BytealgCount.count
def xCompare : Array Value → Sem Value := Extern.BytealgCompare.compare
def xSame : Array Value → Sem Value := Extern.AbiNoEscape.same

/-- A target of a call: a function, or a round of a loop over a function. -/
inductive Tgt where
  | fn (f : FuncId)
  | rnd (i : Nat)

/-- A call whose answer is known: the arguments, all memory that they reach, the next name; the value, what stays of that memory and of the new names, the next name. -/
structure Memo where
  args : List Value
  F : List (Nat × Option RO)
  n : Nat
  v : Value
  keep : List (Nat × Option RO)
  m : Nat

/-- The program, tables of its types and functions; the functions that are run on what their arguments reach alone; the calls whose answers are known; the functions without a body that return their argument, and those of which the row is known; the methods of types that are called by an interface; the functions that make a slice of unknown bytes. -/
structure Env where
  P : Program
  T : Tr TI
  F : Tr Func
  nd : Tr Unit
  M : Tr (List Memo)
  I : Tr Unit
  X : Tr (Array Value → Sem Value)
  Me : Tr (List (String × FuncId))
  Nz : Tr TypeId

/-- What runs: the temporaries, the memory, the next name. -/
structure St where
  σ : Tr Value
  h : Tr RO
  n : Nat

def opnd (E : Env) (σ : Tr Value) : Operand → Option Value
  | .tmp t => some (tmp σ t)
  | .const v => bif flat2R v then some v else none
  | .global g => bif Nat.blt g E.P.globals.size then some (.pointer (some ⟨g, 0, none⟩)) else none
  | .func f => some (.func (.func f) #[] #[])

def cons2 (x : Option Value) (r : Option (List Value)) : Option (List Value) :=
  match x with
  | some v => consO v r
  | none => none

def opnds (E : Env) (σ : Tr Value) (l : List Operand) : Option (List Value) :=
  List.rec (motive := fun _ => Option (List Value)) (some []) (fun x _ ih => cons2 (opnd E σ x) ih) l

inductive Out where
  | val (v : Value) (h : Tr RO) (n : Nat)
  | ent (f : Tgt) (args : List Value)

/-- A new object. -/
def fresh (h : Tr RO) (n : Nat) (o : RO) (v : Nat → Value) : Option Out :=
  bif Nat.blt n big then some (.val (v n) (putR h n (some o)) (Nat.add n 1)) else none

def ti (E : Env) (t : TypeId) : Option TI := getR E.T t

/-! Equality of flat values by their type: what the model does, without its search for types. -/

def eqLeaf (d : TypeDesc) (x y : Value) : Option Bool :=
  match d with
  | .int _ => match x, y with
    | .int j a, .int k b => match sameK j k with
      | true => some (ieq a b)
      | false => none
    | _, _ => none
  | .string => match x, y with
    | .string s, .string t => some (eqS s t)
    | _, _ => none
  | .bool => match x, y with
    | .bool a, .bool b => some (eqB a b)
    | _, _ => none
  | _ => none

def eqArr (d : TypeDesc) (n : Nat) : List Value → List Value → Option Bool :=
  Nat.rec (motive := fun _ => List Value → List Value → Option Bool) (fun _ _ => some true) (fun _ ih xs ys => match xs, ys with
    | x :: xs, y :: ys => match eqLeaf d x y with
      | some true => ih xs ys
      | r => r
    | _, _ => none) n

def eqFld (E : Env) (xs ys : List Value) (fs : List Field) : Option Bool :=
  List.rec (motive := fun _ => Option Bool) (some true) (fun f _ ih => match f.name == "_", ti E f.type, nth xs f.offset, nth ys f.offset with
    | false, some j, some x, some y => match j.agg, eqLeaf j.under x y with
      | false, some true => ih
      | false, r => r
      | true, _ => none
    | _, _, _, _ => none) fs

def eqIn (E : Env) (t : TypeId) (x y : Value) : Option Bool :=
  match ti E t with
  | some d => match d.under, x, y with
    | .array n e, .agg ⟨xs⟩, .agg ⟨ys⟩ => match ti E e with
      | some j => match j.agg, Nat.beq j.size 1 with
        | false, true => eqArr j.under n xs ys
        | _, _ => none
      | none => none
    | .struct fs, .agg ⟨xs⟩, .agg ⟨ys⟩ => match E.P.stoodInHeld t with
      | false => eqFld E xs ys fs.toList
      | true => none
    | u, x, y => eqLeaf u x y
  | none => none

def leafOK (d : TypeDesc) : Bool :=
  match d with
  | .int _ => true
  | .string => true
  | .bool => true
  | _ => false

def keyFld (E : Env) (n : Nat) (fs : List Field) : Bool :=
  List.rec (motive := fun _ => Bool) true (fun f _ ih => match ti E f.type with
    | some j => not j.agg && leafOK j.under && Nat.blt f.offset n && ih
    | none => false) fs

/-- A key that a map takes: flat, of a type that can be hashed. -/
def keyIn (E : Env) (t : TypeId) (v : Value) : Bool :=
  match ti E t with
  | some d => match d.under, v with
    | .array n e, .agg ⟨xs⟩ => match ti E e with
      | some j => not j.agg && leafOK j.under && Nat.beq j.size 1 && Nat.ble n (lenR xs)
      | none => false
    | .struct fs, .agg ⟨xs⟩ => keyFld E (lenR xs) fs.toList
    | u, _ => leafOK u
  | none => false

def cellsOf (h : Tr RO) (i : Nat) : Option (ES × List Value) :=
  match getR h i with
  | some (.cells es c) => some (es, c)
  | _ => none

/-- Cells to be read: those that a string shares, too. -/
def readOf (h : Tr RO) (i : Nat) : Option (ES × List Value) :=
  match getR h i with
  | some (.cells es c) => some (es, c)
  | some (.froz _ es c) => some (es, c)
  | _ => none

/-- Cells of which those below the number may be shared by a string. -/
def frozOf (h : Tr RO) (i : Nat) : Option (Nat × ES × List Value) :=
  match getR h i with
  | some (.cells es c) => some (0, es, c)
  | some (.froz fz es c) => some (fz, es, c)
  | _ => none

/-- A part of type t of some cells, from o on. -/
def partOf (E : Env) (t : TypeId) (c : List Value) (o : Nat) : Option Value :=
  match ti E t with
  | some i => match i.agg with
    | true => match cut c o i.size with
      | some vs => some (.agg ⟨vs⟩)
      | none => none
    | false => nth c o
  | none => none

def loadAt (E : Env) (h : Tr RO) (t : TypeId) (i o : Nat) : Option Value :=
  match readOf h i with
  | some (_, c) => partOf E t c o
  | none => none

def storeAt (E : Env) (h : Tr RO) (t : TypeId) (i o : Nat) (v : Value) : Option (Tr RO) :=
  match cellsOf h i, ti E t with
  | some (es, c), some j =>
    bif onesR v.cells.toList && Nat.beq (lenR v.cells.toList) j.size && Nat.blt i big then
      match lay c o v.cells.toList with
      | some c' => some (putR h i (some (.cells es c')))
      | none => none
    else none
  | _, _ => none

/-- Is one of these, of which one is nil, equal to the other? -/
def nilEq (d : TypeDesc) (a b : Value) : Option Bool :=
  match d, a, b with
  | .pointer _, .pointer none, .pointer (some _) => some false
  | .pointer _, .pointer (some _), .pointer none => some false
  | .slice _, .slice none _ _, .slice (some _) _ _ => some false
  | .slice _, .slice (some _) _ _, .slice none _ _ => some false
  | .map _ _, .map none, .map (some _) => some false
  | .map _ _, .map (some _), .map none => some false
  | .func _ _ _, .nilFunc, .func _ _ _ => some false
  | .func _ _ _, .func _ _ _, .nilFunc => some false
  | .interface _, .nilIface, .iface _ _ => some false
  | .interface _, .iface _ _, .nilIface => some false
  | _, _, _ => none

/-- The parts of a literal laid over cells, as 'fill' does it. -/
def fills (place : Nat → Option (Nat × Nat)) (l : List (Nat × Value)) : List Value → Option (List Value) :=
  List.rec (motive := fun _ => List Value → Option (List Value)) (fun cs => some cs)
    (fun p _ ih cs => match place p.1 with
      | none => none
      | some (o, n) => bif Nat.beq (lenR p.2.cells.toList) n then
          match lay cs o p.2.cells.toList with
          | some cs' => ih cs'
          | none => none
        else none) l

/-- Where the fields of a struct lie. -/
def placesOf (E : Env) (fs : List Field) : Option (List (Nat × Nat)) :=
  List.rec (motive := fun _ => Option (List (Nat × Nat))) (some []) (fun f _ ih => match ti E f.type with
    | some j => consO (f.offset, j.size) ih
    | none => none) fs

def partsOf (E : Env) (σ : Tr Value) (l : List (Nat × Operand)) : Option (List (Nat × Value)) :=
  List.rec (motive := fun _ => Option (List (Nat × Value))) (some [])
    (fun p _ ih => match opnd E σ p.2 with
      | some v => consO (p.1, v) ih
      | none => none) l

/-- The bounds of a slice expression, within most. -/
def boundIn (E : Env) (σ : Tr Value) (x : Option Operand) (d most : Nat) : Option Nat :=
  match x with
  | none => some d
  | some x => match opnd E σ x with
    | some (.int _ (.ofNat k)) => bif Nat.ble k most then some k else none
    | _ => none

def rep {α : Type} (xs : List α) (n : Nat) : List α := Nat.rec (motive := fun _ => List α) [] (fun _ ih => xs ++ ih) n

def strBytes (s : ByteArray) : List Value := s.data.toList.map fun b => .int .u8 b.toNat

def byteStr (v : Value) (r : Option (List UInt8)) : Option (List UInt8) :=
  match v with
  | .int .u8 (.ofNat n) => consO (UInt8.ofNat n) r
  | _ => none

def bytesStr (l : List Value) : Option (List UInt8) :=
  List.rec (motive := fun _ => Option (List UInt8)) (some []) (fun v _ ih => byteStr v ih) l

/-- A slice of n elements of size z from o on, cut to lo and hi. -/
def sliceCut (E : Env) (st : St) (z i o n : Nat) (lo hi : Option Operand) : Option Out :=
  match boundIn E st.σ hi n n with
  | some h => match boundIn E st.σ lo 0 h with
    | some l => some (.val (.slice (some ⟨i, Nat.add o (Nat.mul l z), none⟩) (Nat.sub h l) (Nat.sub h l)) st.h st.n)
    | none => none
  | none => none

/-- The same with a greatest capacity: where it is the upper bound, the capacity is the length. -/
def sliceCut3 (E : Env) (st : St) (z i o n : Nat) (lo : Option Operand) (hi mx : Operand) : Option Out :=
  match boundIn E st.σ (some mx) n n with
  | some m => match boundIn E st.σ (some hi) m m with
    | some h => match boundIn E st.σ lo 0 h with
      | some l => bif Nat.beq m h then some (.val (.slice (some ⟨i, Nat.add o (Nat.mul l z), none⟩) (Nat.sub h l) (Nat.succ (Nat.sub h l))) st.h st.n) else some (.val (.slice (some ⟨i, Nat.add o (Nat.mul l z), none⟩) (Nat.sub h l) (Nat.sub h l)) st.h st.n)
      | none => none
    | none => none
  | none => none

def sliceArr (E : Env) (st : St) (e n i o : Nat) (lo hi : Option Operand) : Option Out :=
  match ti E e, readOf st.h i with
  | some j, some (es, c) => bif Nat.beq j.size es.n && Nat.ble (Nat.add o (Nat.mul n j.size)) (lenR c) then sliceCut E st j.size i o n lo hi else none
  | _, _ => none

def valOf (E : Env) (σ : Tr Value) (x : Operand) : Value := orUndef (opnd E σ x)

def opSlice (E : Env) (st : St) (t : TypeId) (x : Operand) (lo hi mx : Option Operand) : Option Out :=
  match opnd E st.σ x, ti E t, mx with
  | some (.slice (some ⟨i, o, none⟩) n _), some d, none => match d.under, readOf st.h i with
    | .slice e, some (es, _) => match ti E e with
      | some j => bif Nat.beq j.size es.n then sliceCut E st es.n i o n lo hi else none
      | none => none
    | _, _ => none
  | some (.pointer (some ⟨i, o, none⟩)), some d, none => match d.under with
    | .array n e => sliceArr E st e n i o lo hi
    | .pointer a => match ti E a with
      | some d2 => match d2.under with
        | .array n e => sliceArr E st e n i o lo hi
        | _ => none
      | none => none
    | _ => none
  | some (.slice (some ⟨i, o, none⟩) n _), some d, some mx => match d.under, readOf st.h i, hi with
    | .slice e, some (es, _), some hi => match ti E e with
      | some j => bif Nat.beq j.size es.n then sliceCut3 E st es.n i o n lo hi mx else none
      | none => none
    | _, _, _ => none
  | some v, _, _ => match opnds E st.σ (lo.toList ++ hi.toList ++ mx.toList) with
    | some vs => bif flat v && flatsR vs then
        match pureRun E.P (Instr.sliceAt t v (lo.map (valOf E st.σ)) (hi.map (valOf E st.σ)) (mx.map (valOf E st.σ))) with
        | some r => bif flat r then some (.val r st.h st.n) else none
        | none => none
      else none
    | none => none
  | _, _, _ => none

/-- What is appended or copied: elements of size z. -/
def srcOf (h : Tr RO) (z : Nat) : Value → Option (List Value)
  | .slice none _ _ => some []
  | .slice (some ⟨i, o, none⟩) n _ => match readOf h i with
    | some (_, c) => cut c o (Nat.mul n z)
    | none => none
  | .string s => bif Nat.beq z 1 then some (strBytes s) else none
  | _ => none

def notInt : TypeDesc → Bool
  | .int _ => false
  | _ => true

def sameT (a : Option TypeId) (e : TypeId) : Option TypeId :=
  match a with
  | some t => match Nat.beq t e with
    | true => some t
    | false => none
  | none => none

def appendTo (st : St) (z : Nat) (e : TypeId) (s : Value) (new : List Value) : Option Out :=
  match s with
  | .slice none _ _ =>
    bif Nat.beq (lenR new) 0 then some (.val (.slice none 0 0) st.h st.n)
    else fresh st.h st.n (.cells ⟨z, some e, false⟩ new) fun n => .slice (some ⟨n, 0, none⟩) (Nat.div (lenR new) z) (Nat.div (lenR new) z)
  | .slice (some ⟨i, o, none⟩) k r =>
    match cellsOf st.h i with
    | some (es, c) => bif Nat.beq es.n z && Nat.blt i big then
        match cut c o (Nat.mul k z) with
        | some old => bif Nat.beq (lenR new) 0 then some (.val s st.h st.n) else
            bif Nat.beq r k then
            fresh (putR st.h i none) st.n (.cells ⟨z, sameT es.t e, false⟩ (old ++ new)) fun n => .slice (some ⟨n, 0, none⟩) (Nat.add k (Nat.div (lenR new) z)) (Nat.add k (Nat.div (lenR new) z))
            else fresh st.h st.n (.cells ⟨z, sameT es.t e, false⟩ (old ++ new)) fun n => .slice (some ⟨n, 0, none⟩) (Nat.add k (Nat.div (lenR new) z)) (Nat.add k (Nat.div (lenR new) z))
        | none => none
      else none
    | none => match getR st.h i with
      | some (.froz fz es c) => bif Nat.beq es.n z && Nat.blt i big && Nat.ble fz (Nat.add o (Nat.mul k z)) && Nat.blt 0 k && Nat.blt 0 (lenR new) then
          match cut c o (Nat.mul k z) with
          | some old => fresh (putR st.h i none) st.n (.froz (Nat.mul k z) ⟨z, sameT es.t e, false⟩ (old ++ new)) fun n => .slice (some ⟨n, 0, none⟩) (Nat.add k (Nat.div (lenR new) z)) (Nat.add k (Nat.div (lenR new) z))
          | none => none
        else none
      | _ => none
  | _ => none

def lenOf (v : Value) : Nat := match v with | .slice _ n _ => n | .string s => s.size | _ => 0

def opAppend (E : Env) (st : St) (argTypes : List TypeId) (args : List Value) : Option Out :=
  match argTypes, args with
  | [t, t2], [s, x] => match ti E t, ti E t2 with
    | some d, some d2 => match d.under with
      | .slice e => match ti E e with
        | some j => bif notInt d2.under && Nat.ble 1 j.size && Nat.ble 1 j.bytes && Nat.ble j.bytes 4096 && Nat.ble (lenOf s) 1000000 && Nat.ble (lenOf x) 1000000 then
            match srcOf st.h j.size x with
            | some new => appendTo st j.size e s new
            | none => none
          else none
        | none => none
      | _ => none
    | _, _ => none
  | _, _ => none

/-- A number of zeros appended to no slice. -/
def opAppendZ (E : Env) (st : St) (argTypes : List TypeId) (args : List Value) : Option Out :=
  match argTypes, args with
  | [t, t2], [.slice none _ _, .int .i64 (.ofNat n)] => match ti E t, ti E t2 with
    | some d, some d2 => match d.under with
      | .slice e => match ti E e with
        | some j => bif not (notInt d2.under) && Nat.ble 1 j.size && Nat.ble 1 j.bytes && Nat.ble j.bytes 4096 && Nat.ble 1 n && Nat.ble n 1000000 then
            fresh st.h st.n (.cells ⟨j.size, some e, false⟩ (rep j.zero n)) fun m => .slice (some ⟨m, 0, none⟩) n n
          else none
        | none => none
      | _ => none
    | _, _ => none
  | _, _ => none

def opAppend2 (E : Env) (st : St) (argTypes : List TypeId) (args : List Value) : Option Out :=
  match opAppend E st argTypes args with
  | some r => some r
  | none => opAppendZ E st argTypes args

def opCopy (E : Env) (st : St) (argTypes : List TypeId) (args : List Value) : Option Out :=
  match argTypes, args with
  | t :: _, [.slice (some ⟨i, o, none⟩) k _, x] => match ti E t with
    | some d => match d.under with
      | .slice e => match ti E e with
        | some j => match srcOf st.h j.size x, cellsOf st.h i with
          | some src, some (es, c) => bif Nat.beq k 0 then some (.val (.int .i64 (.ofNat 0)) st.h st.n) else bif Nat.blt i big then
              match lay c o (src.take (Nat.mul (Nat.min (lenOf x) k) j.size)) with
              | some c' => some (.val (.int .i64 (.ofNat (Nat.min (lenOf x) k))) (putR st.h i (some (.cells es c'))) st.n)
              | none => none
            else none
          | _, _ => none
        | none => none
      | _ => none
    | none => none
  | _, _ => none

def opLen (E : Env) (st : St) (argTypes : List TypeId) (args : List Value) : Option Out :=
  match argTypes, args with
  | [t], [x] => match ti E t with
    | some d => match d.under, x with
      | .string, .string s => some (.val (.int .i64 (.ofNat (lenR s.data.toList))) st.h st.n)
      | .array n _, _ => some (.val (.int .i64 (.ofNat n)) st.h st.n)
      | .slice _, .slice _ n _ => some (.val (.int .i64 (.ofNat n)) st.h st.n)
      | .map _ _, .map none => some (.val (.int .i64 (.ofNat 0)) st.h st.n)
      | .map _ _, .map (some r) => match getR st.h r with
        | some (.map es _) => some (.val (.int .i64 (.ofNat (lenR es))) st.h st.n)
        | some (.pmap es) => some (.val (.int .i64 (.ofNat (lenR es))) st.h st.n)
        | _ => none
      | _, _ => none
    | none => none
  | _, _ => none

/-- The first cell of a slice that is not empty. -/
def opSliceData (st : St) (args : List Value) : Option Out :=
  match args with
  | [.slice none _ _] => some (.val (.pointer none) st.h st.n)
  | [.slice (some ⟨i, o, none⟩) n _] => bif Nat.beq n 0 then none else some (.val (.pointer (some ⟨i, o, none⟩)) st.h st.n)
  | _ => none

/-- A string out of the bytes at a place: these may not be written behind it. -/
def opUnsafeString (E : Env) (st : St) (argTypes : List TypeId) (args : List Value) : Option Out :=
  match argTypes, args with
  | t :: _, [.pointer p, .int .i64 (.ofNat n)] => match p with
    | none => bif Nat.beq n 0 then some (.val (.string ⟨⟨[]⟩⟩) st.h st.n) else none
    | some ⟨i, o, none⟩ => bif Nat.beq n 0 then some (.val (.string ⟨⟨[]⟩⟩) st.h st.n) else
      match ti E t, frozOf st.h i with
      | some d, some (fz, es, c) => match d.under, es.t with
        | .pointer u, some T => bif Nat.beq T u && Nat.beq (E.P.cellsOf u) 1 && Nat.ble 1 E.P.depth && Nat.blt i big && Nat.blt n 9223372036854775808 then
            match cut c o n with
            | some vs => match bytesStr vs with
              | some l => some (.val (.string ⟨⟨l⟩⟩) (putR st.h i (some (.froz (Nat.max fz (Nat.add o n)) es c))) st.n)
              | none => none
            | none => none
          else none
        | _, _ => none
      | _, _ => none
    | _ => none
  | _, _ => none

def findR (E : Env) (kt : TypeId) (k : Value) (es : List MapEntry) : Nat → Option (Option Nat) :=
  List.rec (motive := fun _ => Nat → Option (Option Nat)) (fun _ => some none) (fun e _ ih i => match eqIn E kt k e.key with
    | some true => some (some i)
    | some false => ih (Nat.add i 1)
    | none => none) es

/-- Where a key is in a map. -/
def findIn (E : Env) (kt : TypeId) (k : Value) (es : List MapEntry) : Option (Option Nat) :=
  match keyIn E kt k with
  | true => findR E kt k es 0
  | false => none

def isNil {α : Type} (l : List α) : Bool := match l with | [] => true | _ => false

def mapOf (h : Tr RO) (r : Nat) : Option (List MapEntry × Nat) :=
  match getR h r with
  | some (.map es c) => some (es, c)
  | _ => none

/-- The entries of a map, be their order and their stamps known or not. -/
def entOf : RO → Option (List MapEntry)
  | .map es _ => some es
  | .pmap es => some es
  | _ => none

def pmapOf (h : Tr RO) (r : Nat) : Option (List MapEntry) :=
  match getR h r with
  | some (.pmap es) => some es
  | _ => none

def entAt (o : Option RO) : Option (List MapEntry) :=
  match o with
  | some o => entOf o
  | none => none

/-- The only entry with a key; each one is asked. -/
def onlyR (E : Env) (kt : TypeId) (k : Value) (es : List MapEntry) : Option (Option MapEntry) :=
  List.rec (motive := fun _ => Option (Option MapEntry)) (some none) (fun e _ ih => match eqIn E kt k e.key with
    | some true => match ih with
      | some none => some (some e)
      | _ => none
    | some false => ih
    | none => none) es

/-- No entry has the key. -/
def noneOf (E : Env) (kt : TypeId) (k : Value) (es : List MapEntry) : Bool :=
  List.rec (motive := fun _ => Bool) true (fun e _ ih => match eqIn E kt k e.key with
    | some false => ih
    | _ => false) es

def zeroOf (i : TI) : Option Value :=
  match i.agg with
  | true => some (.agg ⟨i.zero⟩)
  | false => match i.zero with
    | [z] => some z
    | _ => none

def okd (b : Bool) (v : Value) (ok : Bool) : Value :=
  match b with
  | true => .tuple ⟨[v, .bool ok]⟩
  | false => v

def lookupIn (E : Env) (st : St) (kt et : TypeId) (k : Value) (es : List MapEntry) (b : Bool) : Option Out :=
  bif flat2R k then
    match findIn E kt k es with
    | some (some i) => match nth es i with
      | some e => some (.val (okd b e.val true) st.h st.n)
      | none => none
    | some none => match ti E et with
      | some j => match zeroOf j with
        | some z => some (.val (okd b z false) st.h st.n)
        | none => none
      | none => none
    | none => none
  else none

def lookupP (E : Env) (st : St) (kt et : TypeId) (k : Value) (es : List MapEntry) (b : Bool) : Option Out :=
  bif flat2R k && keyIn E kt k then
    match onlyR E kt k es with
    | some (some e) => some (.val (okd b e.val true) st.h st.n)
    | some none => match ti E et with
      | some j => match zeroOf j with
        | some z => some (.val (okd b z false) st.h st.n)
        | none => none
      | none => none
    | none => none
  else none

def opMakeMap (E : Env) (st : St) (t : TypeId) (r : Option Operand) : Option Out :=
  match r with
  | none => fresh st.h st.n (.map [] 0) fun n => .map (some n)
  | some x => match ti E t, opnd E st.σ x with
    | some d, some (.int .i64 _) => match d.under with
      | .map _ _ => fresh st.h st.n (.map [] 0) fun n => .map (some n)
      | _ => none
    | _, _ => none

def opLookup (E : Env) (st : St) (t : TypeId) (x ix : Operand) (b : Bool) : Option Out :=
  match ti E t, opnd E st.σ x, opnd E st.σ ix with
  | some d, some m, some k => match d.under, m with
    | .map kt et, .map none => lookupIn E st kt et k [] b
    | .map kt et, .map (some r) => match mapOf st.h r with
      | some (es, _) => lookupIn E st kt et k es b
      | none => match pmapOf st.h r with
        | some es => lookupP E st kt et k es b
        | none => none
    | _, _ => none
  | _, _, _ => none

def eqA (a b : Addr) : Bool :=
  match a, b with
  | ⟨b1, o1, none⟩, ⟨b2, o2, none⟩ => Nat.beq b1 b2 && Nat.beq o1 o2
  | _, _ => false

def eqV (f : Nat) : Value → Value → Bool :=
  Nat.rec (motive := fun _ => Value → Value → Bool) (fun _ _ => false) (fun _ ih a b => match a with
    | .bool x => match b with | .bool y => eqB x y | _ => false
    | .int j x => match b with | .int k y => sameK j k && ieq x y | _ => false
    | .string s => match b with | .string t => eqS s t | _ => false
    | .pointer none => match b with | .pointer none => true | _ => false
    | .pointer (some x) => match b with | .pointer (some y) => eqA x y | _ => false
    | .slice none n c => match b with | .slice none m d => Nat.beq n m && Nat.beq c d | _ => false
    | .slice (some x) n c => match b with | .slice (some y) m d => eqA x y && Nat.beq n m && Nat.beq c d | _ => false
    | .map none => match b with | .map none => true | _ => false
    | .map (some x) => match b with | .map (some y) => Nat.beq x y | _ => false
    | .func (.func g) ⟨a1⟩ ⟨a2⟩ => match b with | .func (.func g') ⟨b1⟩ ⟨b2⟩ => Nat.beq g g' && eqL ih a1 b1 && eqL ih a2 b2 | _ => false
    | .nilFunc => match b with | .nilFunc => true | _ => false
    | .iface t x => match b with | .iface u y => Nat.beq t u && ih x y | _ => false
    | .nilIface => match b with | .nilIface => true | _ => false
    | .agg ⟨l⟩ => match b with | .agg ⟨m⟩ => eqL ih l m | _ => false
    | .tuple ⟨l⟩ => match b with | .tuple ⟨m⟩ => eqL ih l m | _ => false
    | _ => false) f

def setVal (es : List MapEntry) (i : Nat) (k v : Value) : Option (List MapEntry) :=
  match nth es i with
  | some e => bif eqV 8 e.key k then lay es i [{ key := k, val := v, born := e.born }] else none
  | none => none

def opMapUpdate (E : Env) (st : St) (t : TypeId) (x ix y : Operand) : Option Out :=
  match ti E t, opnd E st.σ x, opnd E st.σ ix, opnd E st.σ y with
  | some d, some (.map (some r)), some k, some v => match d.under, mapOf st.h r with
    | .map kt _, some (es, c) => bif flat2R k && Nat.blt r big then
        match findIn E kt k es with
        | some (some i) => match setVal es i k v with
          | some es' => some (.val undef (putR st.h r (some (.map es' c))) st.n)
          | none => none
        | some none => some (.val undef (putR st.h r (some (.map (es ++ [{ key := k, val := v, born := c }]) (Nat.add c 1)))) st.n)
        | none => none
      else none
    | _, _ => none
  | _, _, _, _ => none

def opMapEntry (E : Env) (st : St) (t : TypeId) (x ix : Operand) : Option Out :=
  match ti E t, opnd E st.σ x, opnd E st.σ ix with
  | some d, some (.map (some r)), some k => match d.under, mapOf st.h r with
    | .map kt et, some (es, c) => bif flat2R k && Nat.blt r big then
        match findIn E kt k es with
        | some (some i) => match nth es i with
          | some e => bif eqV 8 e.key k then some (.val (.tuple ⟨[e.val, goInt e.born]⟩) st.h st.n) else none
          | none => none
        | some none => match ti E et with
          | some j => match zeroOf j with
            | some z => some (.val (.tuple ⟨[z, goInt c]⟩) (putR st.h r (some (.map (es ++ [{ key := k, val := z, born := c }]) (Nat.add c 1)))) st.n)
            | none => none
          | none => none
        | none => none
      else none
    | _, _ => none
  | _, _, _ => none

def setBorn (es : List MapEntry) (b : Nat) (v : Value) : Option (List MapEntry) :=
  List.rec (motive := fun _ => Option (List MapEntry)) none (fun e l ih => Bool.rec (consO e ih) (some ({ key := e.key, val := v, born := e.born } :: l)) (Nat.beq e.born b)) es

def opEntryStore (E : Env) (st : St) (x s y : Operand) : Option Out :=
  match opnd E st.σ x, opnd E st.σ s, opnd E st.σ y with
  | some (.map (some r)), some (.int .i64 (.ofNat b)), some v => match mapOf st.h r with
    | some (es, c) => bif Nat.blt r big && Nat.blt b 9223372036854775808 then
        match setBorn es b v with
        | some es' => some (.val undef (putR st.h r (some (.map es' c))) st.n)
        | none => none
      else none
    | none => none
  | _, _, _ => none

def opCap (E : Env) (st : St) (argTypes : List TypeId) (args : List Value) : Option Out :=
  match argTypes, args with
  | [t], [x] => match ti E t with
    | some d => match d.under, x with
      | .array n _, _ => some (.val (.int .i64 (.ofNat n)) st.h st.n)
      | .slice _, .slice none _ _ => some (.val (.int .i64 (.ofNat 0)) st.h st.n)
      | _, _ => none
    | none => none
  | _, _ => none

def methIn (name : String) (l : List (String × FuncId)) : Option FuncId :=
  List.rec (motive := fun _ => Option FuncId) none (fun p _ ih => Bool.rec ih (some p.2) (p.1 == name)) l

def rid (l : List MapEntry) : Nat → List MapEntry :=
  List.rec (motive := fun _ => Nat → List MapEntry) (fun _ => []) (fun x xs ih n => Nat.rec xs (fun m _ => x :: ih m) n) l

def opDelete (E : Env) (st : St) (argTypes : List TypeId) (args : List Value) : Option Out :=
  match argTypes, args with
  | t :: _, [.map (some r), k] => match ti E t with
    | some d => match d.under, mapOf st.h r with
      | .map kt _, some (es, c) => bif flat2R k && Nat.blt r big then
          match findIn E kt k es with
          | some (some i) => some (.val (.tuple ⟨[]⟩) (putR st.h r (some (.map (rid es i) c))) st.n)
          | some none => some (.val (.tuple ⟨[]⟩) st.h st.n)
          | none => none
        else none
      | _, _ => none
    | none => none
  | _, _ => none

def opRange (E : Env) (st : St) (t : TypeId) (x : Operand) : Option Out :=
  match ti E t, opnd E st.σ x with
  | some d, some v => match d.under, v with
    | .string, .string s => fresh st.h st.n (.stringIter s 0) fun n => .pointer (some ⟨n, 0, none⟩)
    | .map _ _, .map none => fresh st.h st.n (.mapIter none 0 [] 0) fun n => .pointer (some ⟨n, 0, none⟩)
    | .map _ _, .map (some r) => match mapOf st.h r with
      | some (_, c) => fresh st.h st.n (.mapIter (some r) c [] c) fun n => .pointer (some ⟨n, 0, none⟩)
      | none => none
    | _, _ => none
  | _, _ => none

def over : Value := .tuple ⟨[.bool false]⟩

/-- The next byte or rune of a string, or the end of a map that is nil. -/
def opNext (E : Env) (st : St) (x : Operand) (isString : Bool) : Option Out :=
  match opnd E st.σ x with
  | some (.pointer (some ⟨r, 0, none⟩)) => match getR st.h r, isString with
    | some (.stringIter s pos), true => bif Nat.blt pos (lenR s.data.toList) then
        match Nat.blt r big, Utf8.decode s pos with
        | true, (c, width) => some (.val (.tuple ⟨[.bool true, goInt pos, .int .i32 c]⟩) (putR st.h r (some (.stringIter s (pos + width)))) st.n)
        | false, _ => none
      else some (.val over st.h st.n)
    | some (.mapIter none _ _ _), false => some (.val over st.h st.n)
    | _, _ => none
  | _ => none

def lastOf (l : List Nat) : Option Nat := List.rec (motive := fun _ => Option Nat) none (fun x _ ih => match ih with | some y => some y | none => some x) l

def bornAt (es : List MapEntry) (b : Nat) : Option MapEntry :=
  List.rec (motive := fun _ => Option MapEntry) none (fun e _ ih => Bool.rec ih (some e) (Nat.beq e.born b)) es

def opEntry (E : Env) (st : St) (x : Operand) : Option Out :=
  match opnd E st.σ x with
  | some (.pointer (some ⟨r, 0, none⟩)) => match getR st.h r with
    | some (.mapIter (some m) _ seen stepped) => match lastOf seen, mapOf st.h m with
      | some b, some (es, c) => bif Nat.beq c stepped then
          match bornAt es b with
          | some e => some (.val (.tuple ⟨[e.key, e.val]⟩) st.h st.n)
          | none => none
        else none
      | _, _ => none
    | _ => none
  | _ => none

/-- A slice of unknown bytes. -/
def noZero (e : TypeId) (args : List Value) (st : St) : Option Out :=
  match args with
  | [.int .i64 (.ofNat n)] => bif Nat.ble n 1000000 then fresh st.h st.n (.cells ⟨1, some e, false⟩ []) fun m => .slice (some ⟨m, 0, none⟩) n n else none
  | _ => none

def fnWith (E : Env) (f : FuncId) (args : List Value) (st : St) : Option Out :=
  match getR E.F f with
  | some fn => match fn.body with
    | some _ => some (.ent (.fn f) args)
    | none => none
  | none => match getR E.I f with
    | some _ => match args with
      | [v] => some (.val v st.h st.n)
      | _ => none
    | none => match getR E.X f with
      | some g => bif flatsR args then
          match pureRun E.P (g ⟨args⟩) with
          | some v => bif flat2R v then some (.val v st.h st.n) else none
          | none => none
        else none
      | none => match getR E.Nz f with
        | some e => noZero e args st
        | none => none

def opMinMax (E : Env) (st : St) (b : Builtin) (argTypes : Array TypeId) (type : TypeId) (args : List Value) : Option Out :=
  bif flatsR args then
    match pureRun E.P (builtin b argTypes type #[] ⟨args⟩) with
    | some (.value v) => bif flat v then some (.val v st.h st.n) else none
    | _ => none
  else none

def opCall (E : Env) (st : St) (c : Call) (type : TypeId) : Option Out :=
  match opnds E st.σ c.args.toList with
  | none => none
  | some args => match c.callee with
    | .value f => match opnd E st.σ f with
      | some (.func (.func g) ⟨first⟩ ⟨captured⟩) => fnWith E g (first ++ (args ++ captured)) st
      | some (.func (.yield i) _ _) => some (.ent (.rnd i) args)
      | _ => none
    | .builtin b => match b with
      | .append => opAppend2 E st c.argTypes.toList args
      | .copy => opCopy E st c.argTypes.toList args
      | .len => opLen E st c.argTypes.toList args
      | .min => opMinMax E st .min c.argTypes type args
      | .max => opMinMax E st .max c.argTypes type args
      | .unsafeSliceData => opSliceData st args
      | .unsafeString => opUnsafeString E st c.argTypes.toList args
      | .delete => opDelete E st c.argTypes.toList args
      | .cap => opCap E st c.argTypes.toList args
      | _ => none
    | .invoke x name => match opnd E st.σ x with
      | some (.iface t v) => match getR E.Me t with
        | some l => match methIn name l with
          | some g => fnWith E g (v :: args) st
          | none => none
        | none => none
      | _ => none

def opMove (E : Env) (st : St) (x : Operand) : Option Out :=
  match opnd E st.σ x with
  | some v => some (.val v st.h st.n)
  | none => none

def opPick (E : Env) (st : St) (c a b : Operand) : Option Out :=
  match opnd E st.σ c with
  | some (.bool t) => opMove E st (bif t then a else b)
  | _ => none

def opAlloc (E : Env) (st : St) (t : TypeId) : Option Out :=
  match ti E t with
  | some i => fresh st.h st.n (.cells ⟨i.inner, some t, true⟩ i.zero) fun n => .pointer (some ⟨n, 0, none⟩)
  | none => none

def opBox (E : Env) (st : St) (t : TypeId) (x : Operand) : Option Out :=
  match opnd E st.σ x, ti E t with
  | some v, some i => bif onesR v.cells.toList then fresh st.h st.n (.cells ⟨i.inner, some t, true⟩ v.cells.toList) fun n => .pointer (some ⟨n, 0, none⟩) else none
  | _, _ => none

def opBuild (E : Env) (st : St) (t : TypeId) (parts : Array (Nat × Operand)) : Option Out :=
  match ti E t, partsOf E st.σ parts.toList with
  | some i, some ps => match i.under with
    | .struct fs => match placesOf E fs.toList with
      | some l => match fills (nth l) ps i.zero with
        | some cs => some (.val (.agg ⟨cs⟩) st.h st.n)
        | none => none
      | none => none
    | .array _ _ => match fills (fun k => some (Nat.mul k i.inner, i.inner)) ps i.zero with
      | some cs => some (.val (.agg ⟨cs⟩) st.h st.n)
      | none => none
    | _ => none
  | _, _ => none

def opBuildSlice (E : Env) (st : St) (t : TypeId) (len : Nat) (parts : Array (Nat × Operand)) : Option Out :=
  match ti E t, partsOf E st.σ parts.toList with
  | some d, some ps => match d.under with
    | .slice e => match ti E e with
      | some i => bif Nat.ble (Nat.mul len i.size) 16777216 then
          match fills (fun j => some (Nat.mul j i.size, i.size)) ps (rep i.zero len) with
          | some cs => bif onesR cs then fresh st.h st.n (.cells ⟨i.size, some e, true⟩ cs) fun n => .slice (some ⟨n, 0, none⟩) len len else none
          | none => none
        else none
      | none => none
    | _ => none
  | _, _ => none

def opLoad (E : Env) (st : St) (t : TypeId) (x : Operand) : Option Out :=
  match opnd E st.σ x with
  | some (.pointer (some ⟨i, o, none⟩)) => match loadAt E st.h t i o with
    | some v => some (.val v st.h st.n)
    | none => none
  | _ => none

def opStore (E : Env) (st : St) (t : TypeId) (x y : Operand) : Option Out :=
  match opnd E st.σ x, opnd E st.σ y with
  | some (.pointer (some ⟨i, o, none⟩)), some v => match storeAt E st.h t i o v with
    | some h' => some (.val undef h' st.n)
    | none => none
  | _, _ => none

def opNilCheck (E : Env) (st : St) (x : Operand) : Option Out :=
  match opnd E st.σ x with
  | some (.pointer (some a)) => some (.val (.pointer (some a)) st.h st.n)
  | some (.func (.func f) a b) => some (.val (.func (.func f) a b) st.h st.n)
  | _ => none

def ilt (x y : Int) : Bool :=
  match x, y with
  | .ofNat a, .ofNat b => Nat.blt a b
  | .ofNat _, .negSucc _ => false
  | .negSucc _, .ofNat _ => true
  | .negSucc a, .negSucc b => Nat.blt b a

/-- Is it a number of this kind? -/
def fitsK (k : IntKind) (n : Int) : Bool :=
  match n with
  | .ofNat a => match k with
    | .i64 => Nat.blt a 9223372036854775808
    | .u64 => Nat.blt a 18446744073709551616
    | .i32 => Nat.blt a 2147483648
    | .u32 => Nat.blt a 4294967296
    | .u8 => Nat.blt a 256
    | _ => Nat.blt a 128
  | .negSucc a => match k with
    | .i64 => Nat.blt a 9223372036854775808
    | .i32 => Nat.blt a 2147483648
    | _ => false

def intK (k : IntKind) (n : Int) : Option Value := bif fitsK k n then some (.int k n) else none

/-- The usual operations on numbers of one kind. -/
def quick (op : BinOp) (k : IntKind) (a b : Int) : Option Value :=
  match op with
  | .add => intK k (Int.add a b)
  | .sub => intK k (Int.sub a b)
  | .mul => intK k (Int.mul a b)
  | .eql => some (.bool (ieq a b))
  | .neq => some (.bool (not (ieq a b)))
  | .lss => some (.bool (ilt a b))
  | .leq => some (.bool (not (ilt b a)))
  | .gtr => some (.bool (ilt b a))
  | .geq => some (.bool (not (ilt a b)))
  | _ => none

/-- Equality of aggregates, and of two pointers into one block. -/
def eqBig (E : Env) (t : TypeId) (a b : Value) : Option Bool :=
  match a, b with
  | .agg _, .agg _ => match E.P.eqGuardType E.P.depth t with
    | false => eqIn E t a b
    | true => none
  | .pointer (some ⟨i, o, none⟩), .pointer (some ⟨j, q, none⟩) => match ti E t with
    | some d => match d.under with
      | .pointer e => match ti E e with
        | some z => bif Nat.beq i j && not (Nat.beq z.size 0) then some (Nat.beq o q) else none
        | none => none
      | _ => none
    | none => none
  | _, _ => none

def eqOp (E : Env) (op : BinOp) (t : TypeId) (a b : Value) : Option Value :=
  match op with
  | .eql => match eqBig E t a b with | some r => some (.bool r) | none => none
  | .neq => match eqBig E t a b with | some r => some (.bool (not r)) | none => none
  | _ => none

def slow (E : Env) (op : BinOp) (t : TypeId) (x y : Operand) (a b : Value) : Option Value :=
  bif flat2R a && flat2R b then
    match pureRun E.P (do eqGuard op t x y a b; binOp op t a b) with
    | some v => bif flat v then some v else none
    | none => none
  else match ti E t with
    | some d => match op with
      | .eql => match nilEq d.under a b with | some r => some (.bool r) | none => none
      | .neq => match nilEq d.under a b with | some r => some (.bool (not r)) | none => none
      | _ => none
    | none => none

def fast (op : BinOp) (a b : Value) : Option Value :=
  match a, b with
  | .int j a, .int k b => bif sameK j k then quick op j a b else none
  | _, _ => none

def opBinOp (E : Env) (st : St) (op : BinOp) (t : TypeId) (x y : Operand) : Option Out :=
  match opnd E st.σ x, opnd E st.σ y with
  | some a, some b => match fast op a b with
    | some v => some (.val v st.h st.n)
    | none => match eqOp E op t a b with
      | some v => some (.val v st.h st.n)
      | none => match slow E op t x y a b with
        | some v => some (.val v st.h st.n)
        | none => none
  | _, _ => none

def opUnOp (E : Env) (st : St) (op : UnOp) (x : Operand) : Option Out :=
  match opnd E st.σ x with
  | some a => bif flat a then
      match pureRun E.P (Op.unary op a) with
      | some v => bif flat v then some (.val v st.h st.n) else none
      | none => none
    else none
  | none => none

def opConvPure (E : Env) (st : St) (src dst : TypeId) (a : Value) : Option Out :=
  match pureRun E.P (convert src dst a) with
  | some v => bif flat v then some (.val v st.h st.n) else none
  | none => none

def isU8 (E : Env) (e : TypeId) : Bool :=
  match ti E e with
  | some j => match j.under with
    | .int .u8 => true
    | _ => false
  | none => false

/-- A pointer turned into an unsafe one, or back: it stays what it is. -/
def opUnsafe (E : Env) (st : St) (s d : TypeDesc) (i o : Nat) : Option Out :=
  match s, d, cellsOf st.h i with
  | .pointer t, .unsafePointer, some (_, c) => match ti E t with
    | some j => bif Nat.blt o (lenR c) && not (Nat.beq j.size 0) then some (.val (.pointer (some ⟨i, o, none⟩)) st.h st.n) else none
    | none => none
  | .unsafePointer, .pointer u, some (es, c) => match es.whole, es.t, ti E u with
    | true, some T, some _ => bif liesAt E.P E.P.depth T (Nat.div (lenR c) (E.P.cellsOf T)) o u 1 then some (.val (.pointer (some ⟨i, o, none⟩)) st.h st.n) else none
    | _, _, _ => none
  | _, _, _ => none

def opConvert (E : Env) (st : St) (src dst : TypeId) (x : Operand) : Option Out :=
  match opnd E st.σ x, ti E src, ti E dst with
  | some (.pointer (some ⟨i, o, none⟩)), some s, some d => opUnsafe E st s.under d.under i o
  | some (.slice (some ⟨i, o, none⟩) n _), some s, some d => match s.under, d.under, readOf st.h i with
    | .slice e, .string, some (_, c) => bif isU8 E e then
        match cut c o n with
        | some vs => match bytesStr vs with
          | some l => some (.val (.string ⟨⟨l⟩⟩) st.h st.n)
          | none => none
        | none => none
      else none
    | _, _, _ => none
  | some (.string s), some _, some d => match d.under with
    | .slice e => bif isU8 E e then fresh st.h st.n (.cells ⟨1, none, false⟩ (strBytes s)) fun n => .slice (some ⟨n, 0, none⟩) (lenR s.data.toList) (lenR s.data.toList) else none
    | _ => opConvPure E st src dst (.string s)
  | some a, _, _ => bif flat a then opConvPure E st src dst a else none
  | _, _, _ => none

def isIface : TypeDesc → Bool
  | .interface _ => true
  | _ => false

def opMakeInterface (E : Env) (st : St) (t : TypeId) (x : Operand) : Option Out :=
  match opnd E st.σ x, ti E t with
  | some v, some d => bif isIface d.under then none else some (.val (.iface t v) st.h st.n)
  | _, _ => none

def opMakeFunc (E : Env) (st : St) (fn : Fn) (first captured : Array Operand) : Option Out :=
  bif plainFn fn then
    match opnds E st.σ first.toList, opnds E st.σ captured.toList with
    | some a, some b => some (.val (.func fn ⟨a⟩ ⟨b⟩) st.h st.n)
    | _, _ => none
  else none

def opMakeSlice (E : Env) (st : St) (t : TypeId) (l c : Operand) : Option Out :=
  match ti E t, opnd E st.σ l, opnd E st.σ c with
  | some d, some (.int .i64 (.ofNat l)), some (.int .i64 (.ofNat c)) => match d.under with
    | .slice e => match ti E e with
      | some i => bif Nat.ble l c && Nat.ble (Nat.mul c i.bytes) 1048576 && Nat.ble c 1048576 then
          fresh st.h st.n (.cells ⟨i.size, some e, true⟩ (rep i.zero c)) fun n => .slice (some ⟨n, 0, none⟩) l l
        else none
      | none => none
    | _ => none
  | _, _, _ => none

def opFieldAddr (E : Env) (st : St) (s : TypeId) (x : Operand) (f : Nat) : Option Out :=
  match opnd E st.σ x, ti E s with
  | some (.pointer (some ⟨i, o, none⟩)), some d => match d.under with
    | .struct fs => match nth fs.toList f with
      | some fd => match ti E fd.type with
        | some j => bif Nat.beq j.size 0 then none else some (.val (.pointer (some ⟨i, Nat.add o fd.offset, none⟩)) st.h st.n)
        | none => none
      | none => none
    | _ => none
  | _, _ => none

def opIndexAddr (E : Env) (st : St) (t : TypeId) (x ix : Operand) : Option Out :=
  match opnd E st.σ x, opnd E st.σ ix, ti E t with
  | some (.pointer (some ⟨i, o, none⟩)), some (.int _ (.ofNat k)), some d => match d.under with
    | .array n e => match ti E e with
      | some j => bif Nat.blt k n then some (.val (.pointer (some ⟨i, Nat.add o (Nat.mul k j.size), none⟩)) st.h st.n) else none
      | none => none
    | _ => none
  | some (.slice (some ⟨i, o, none⟩) n _), some (.int _ (.ofNat k)), some d => match d.under with
    | .slice e => match ti E e with
      | some j => bif Nat.blt k n then some (.val (.pointer (some ⟨i, Nat.add o (Nat.mul k j.size), none⟩)) st.h st.n) else none
      | none => none
    | _ => none
  | _, _, _ => none

def opField (E : Env) (st : St) (t : TypeId) (x : Operand) (f : Nat) : Option Out :=
  match opnd E st.σ x, ti E t with
  | some (.agg ⟨cs⟩), some d => match d.under with
    | .struct fs => match nth fs.toList f with
      | some fd => match partOf E fd.type cs fd.offset with
        | some v => some (.val v st.h st.n)
        | none => none
      | none => none
    | _ => none
  | _, _ => none

def byteAt (s : ByteArray) (k : Nat) : Option Value :=
  match nth s.data.toList k with
  | some b => some (.int .u8 (.ofNat b.toNat))
  | none => none

def opIndex (E : Env) (st : St) (t : TypeId) (x ix : Operand) : Option Out :=
  match opnd E st.σ x, opnd E st.σ ix, ti E t with
  | some (.string s), some (.int _ (.ofNat k)), some d => match d.under with
    | .string => match byteAt s k with
      | some v => some (.val v st.h st.n)
      | none => none
    | _ => none
  | some (.agg ⟨cs⟩), some (.int _ (.ofNat k)), some d => match d.under with
    | .array n e => bif Nat.blt k n then
        match partOf E e cs (Nat.mul k d.inner) with
        | some v => some (.val v st.h st.n)
        | none => none
      else none
    | _ => none
  | _, _, _ => none

def opExtract (E : Env) (st : St) (x : Operand) (i : Nat) : Option Out :=
  match opnd E st.σ x with
  | some (.tuple ⟨vs⟩) => match nth vs i with
    | some v => some (.val v st.h st.n)
    | none => none
  | _ => none

def evalOp (E : Env) (st : St) (o : Oper) : Option Out :=
  match o.op with
  | .move x => opMove E st x
  | .assign x => opMove E st x
  | .pick c a b => opPick E st c a b
  | .alloc t => opAlloc E st t
  | .box t x => opBox E st t x
  | .build t parts => opBuild E st t parts
  | .buildSlice t len parts => opBuildSlice E st t len parts
  | .load t x => opLoad E st t x
  | .store t x y => opStore E st t x y
  | .nilCheck x => opNilCheck E st x
  | .binOp op t x y _ => opBinOp E st op t x y
  | .unOp op _ x => opUnOp E st op x
  | .convert src dst x => opConvert E st src dst x
  | .makeInterface t x => opMakeInterface E st t x
  | .makeFunc fn first captured => opMakeFunc E st fn first captured
  | .makeMap t r => opMakeMap E st t r
  | .makeSlice t l c => opMakeSlice E st t l c
  | .slice t x lo hi mx => opSlice E st t x lo hi mx
  | .fieldAddr s x f => opFieldAddr E st s x f
  | .indexAddr t x ix => opIndexAddr E st t x ix
  | .field t x f => opField E st t x f
  | .index t x ix => opIndex E st t x ix
  | .extract x i => opExtract E st x i
  | .lookup t x ix b => opLookup E st t x ix b
  | .mapUpdate t x ix y => opMapUpdate E st t x ix y
  | .insert t x ix y => opMapUpdate E st t x ix y
  | .mapEntry t x ix => opMapEntry E st t x ix
  | .entryStore _ x s y => opEntryStore E st x s y
  | .range t x => opRange E st t x
  | .next x b => opNext E st x b
  | .entry x => opEntry E st x
  | .call c => opCall E st c o.type
  | _ => none

/-- An answer, or where there is none. -/
inductive Ans (α : Type) where
  | ok (a : α)
  | no (why : String) (o : Option Oper)

inductive X where
  | normal
  | exit (id : Nat)
  | ret

abbrev CallT := Tgt → List Value → Tr RO → Nat → Ans (Value × Tr RO × Nat)

def putT (N : Nat) (σ : Tr Value) (dst : Option Tmp) (v : Value) : Option (Tr Value) :=
  match dst with
  | none => some σ
  | some d => bif Nat.blt d N then some (putR σ d (some v)) else none

def yieldedT (ops : List Oper) (σ : Tr Value) (j : Nat) : Option Bool :=
  match nth ops j with
  | some o => match o.dst with
    | some d => match tmp σ d with
      | .bool b => some b
      | _ => none
    | none => none
  | none => none

def wantedT (ops : List Oper) (σ : Tr Value) (o : Oper) : Bool :=
  match o.guard with
  | none => true
  | some (j, want) => match yieldedT ops σ j with
    | some b => match want with
      | true => b
      | false => not b
    | none => false

def goOn (N : Nat) (o : Oper) (next : St → Ans St) (st : St) (v : Value) (h : Tr RO) (n : Nat) : Ans St :=
  match putT N st.σ o.dst v, Nat.ble st.n n with
  | some σ, true => next ⟨σ, h, n⟩
  | _, _ => .no "put" (some o)

def runOp (E : Env) (call : CallT) (N : Nat) (all : List Oper) (o : Oper) (next : St → Ans St) (st : St) : Ans St :=
  match wantedT all st.σ o with
  | true => match evalOp E st o with
    | some (.val v h n) => goOn N o next st v h n
    | some (.ent f args) => match call f args st.h st.n with
      | .ok (v, h, n) => goOn N o next st v h n
      | .no w x => .no w x
    | none => .no "op" (some o)
  | false => goOn N o next st undef st.h st.n

/-- The operations of a region, one behind another. -/
def runOps (E : Env) (call : CallT) (N : Nat) (all : List Oper) (l : List Oper) : St → Ans St :=
  List.rec (motive := fun _ => St → Ans St) (fun st => .ok st) (fun o _ ih st => runOp E call N all o ih st) l

/-! A region that draws its order: each operation on a state of its own. -/

def tmpsIn (l : List Operand) : List Nat := List.rec (motive := fun _ => List Nat) [] (fun x _ ih => match x with | .tmp t => t :: ih | _ => ih) l

def guardT (ops : List Oper) (o : Oper) : List Nat :=
  match o.guard with
  | some (j, _) => match nth ops j with
    | some g => g.dst.toList
    | none => []
  | none => []

/-- The temporaries that an operation uses. -/
def usesOf (ops : List Oper) (o : Oper) : List Nat := tmpsIn o.op.operands.toList ++ guardT ops o

def memN (x : Nat) (l : List Nat) : Bool := List.rec (motive := fun _ => Bool) false (fun y _ ih => Bool.rec ih true (Nat.beq x y)) l
def allLt (l : List Nat) (m : Nat) : Bool := List.rec (motive := fun _ => Bool) true (fun y _ ih => Bool.rec false ih (Nat.blt y m)) l
def apartN (a b : List Nat) : Bool := List.rec (motive := fun _ => Bool) true (fun x _ ih => Bool.rec ih false (memN x b)) a
/-- None of these lies from n to before m. -/
def outside (l : List Nat) (n m : Nat) : Bool := List.rec (motive := fun _ => Bool) true (fun x _ ih => Bool.rec ih false (Nat.ble n x && Nat.blt x m)) l

def pickT (σ : Tr Value) (l : List Nat) : Tr Value := List.rec (motive := fun _ => Tr Value) .e (fun t _ ih => putR ih t (some (tmp σ t))) l
def pickH (h : Tr RO) (l : List Nat) : Tr RO := List.rec (motive := fun _ => Tr RO) .e (fun i _ ih => putR ih i (getR h i)) l
def overL (h h2 : Tr RO) (l : List Nat) : Tr RO := List.rec (motive := fun _ => Tr RO) h (fun i _ ih => putR ih i (getR h2 i)) l
/-- The k names from n on. -/
def overN (h h2 : Tr RO) (n : Nat) (k : Nat) : Tr RO := Nat.rec (motive := fun _ => Tr RO) h (fun j ih => putR ih (Nat.add n j) (getR h2 (Nat.add n j))) k

/-- The names in a value, to some depth. -/
def idsV (f : Nat) : Value → List Nat :=
  Nat.rec (motive := fun _ => Value → List Nat) (fun _ => [])
    (fun _ ih v => match v with
      | .pointer (some a) => [a.block]
      | .slice (some a) _ _ => [a.block]
      | .map (some r) => [r]
      | .func fn a b => match fn with
        | .yield i => [i]
        | _ => a.toList.flatMap ih ++ b.toList.flatMap ih
      | .iface _ v => ih v
      | .agg cs => cs.toList.flatMap ih
      | .tuple cs => cs.toList.flatMap ih
      | _ => []) f

def valuesT (t : Tr Value) : List Value :=
  Tr.rec (motive := fun _ => List Value) [] (fun _ v _ l r => match v with | some v => v :: (l ++ r) | none => l ++ r) t

def idsO : Option RO → List Nat
  | some (.cells _ c) => c.flatMap (idsV 3)
  | some (.froz _ _ c) => c.flatMap (idsV 3)
  | some (.map es _) => es.flatMap fun e => idsV 3 e.val
  | some (.pmap es) => es.flatMap fun e => idsV 3 e.val
  | some (.mapIter (some m) _ _ _) => [m]
  | some (.loop L) => L.defers :: (valuesT L.σ).flatMap (idsV 3)
  | _ => []

/-- All names that are reached. -/
def reach (h : Tr RO) (f : Nat) : List Nat → List Nat → List Nat :=
  Nat.rec (motive := fun _ => List Nat → List Nat → List Nat) (fun _ seen => seen)
    (fun _ ih todo seen => match todo with
      | [] => seen
      | i :: rest => Bool.rec (ih (idsO (getR h i) ++ rest) (i :: seen)) (ih rest seen) (memN i seen)) f

def callsCode : Op → Bool
  | .call c => match c.callee with
    | .builtin _ => false
    | _ => true
  | _ => false

/-- Does it look at memory? -/
def looksAtHeap : Op → Bool
  | .load _ _ => true
  | .store _ _ _ => true
  | .convert _ _ _ => true
  | .slice _ _ _ _ _ => true
  | .lookup _ _ _ _ => true
  | .mapUpdate _ _ _ _ => true
  | .insert _ _ _ _ => true
  | .mapEntry _ _ _ => true
  | .entryStore _ _ _ _ => true
  | .range _ _ => true
  | .call _ => true
  | _ => false

/-- The names that an operation may look at: whatever it is, the operation is run on these alone. -/
def footOf (E : Env) (st : St) (o : Oper) : List Nat :=
  match looksAtHeap o.op with
  | true => match opnds E st.σ o.op.operands.toList with
    | some vs => match callsCode o.op with
      | true => (reach st.h 4000 (vs.flatMap (idsV 3)) []).filter fun i => Nat.blt i st.n
      | false => vs.flatMap (idsV 1)
    | none => []
  | false => []

def eqT (a b : Option TypeId) : Bool :=
  match a, b with
  | none, none => true
  | some a, some b => Nat.beq a b
  | _, _ => false

def eqE (a b : MapEntry) : Bool := eqV 8 a.key b.key && eqV 8 a.val b.val && Nat.beq a.born b.born

def eqRO (a b : RO) : Bool :=
  match a with
  | .cells es c => match b with | .cells es' c' => Nat.beq es.n es'.n && eqT es.t es'.t && eqB es.whole es'.whole && eqL (eqV 8) c c' | _ => false
  | .froz fz es c => match b with | .froz fz' es' c' => Nat.beq fz fz' && (Nat.beq es.n es'.n && eqT es.t es'.t && eqB es.whole es'.whole && eqL (eqV 8) c c') | _ => false
  | .map l k => match b with | .map l' k' => eqL eqE l l' && Nat.beq k k' | _ => false
  | .pmap l => match b with | .pmap l' => eqL eqE l l' | _ => false
  | _ => false

def eqP (a b : Nat × Option RO) : Bool :=
  Nat.beq a.1 b.1 && (match a.2 with
    | none => (match b.2 with | none => true | some _ => false)
    | some x => (match b.2 with | none => false | some y => eqRO x y))

/-- The names of these that hold something else. -/
def changedL (h h2 : Tr RO) (F : List Nat) : List Nat :=
  List.rec (motive := fun _ => List Nat) [] (fun i _ ih => Bool.rec (i :: ih) ih (eqP (i, getR h i) (i, getR h2 i))) F

/-- Does it leave all as it is? -/
def readsOnly : Op → Bool
  | .load _ _ => true
  | .slice _ _ _ _ _ => true
  | .lookup _ _ _ _ => true
  | .call c => match c.callee with
    | .builtin .len => true
    | .builtin .unsafeSliceData => true
    | _ => false
  | _ => false

structure Rec where
  uses : List Nat
  dst : Option Tmp
  F : List Nat
  W : List Nat
  ins : Option (TypeId × Value)
  n : Nat
  m : Nat

def dstIn (d : Option Tmp) (l : List Nat) : Bool :=
  match d with
  | some d => memN d l
  | none => false

def sameDst (a b : Option Tmp) : Bool :=
  match a, b with
  | some a, some b => Nat.beq a b
  | _, _ => false

def isNo (r : Option Bool) : Bool :=
  match r with
  | some false => true
  | _ => false

/-- Entries of a map literal with different keys. -/
def bothIns (E : Env) (a b : Option (TypeId × Value)) : Bool :=
  match a with
  | some (kt, k) => match b with
    | some (kt', k') => Nat.beq kt kt' && isNo (eqIn E kt k k') && isNo (eqIn E kt k' k)
    | none => false
  | none => false

/-- Two operations, the first one ahead in the text, that may be done in either order. -/
def indep (E : Env) (a b : Rec) : Bool :=
  not (dstIn a.dst b.uses) && not (dstIn b.dst a.uses) && not (sameDst a.dst b.dst) && (apartN a.F b.F || (apartN a.W b.F && apartN b.W a.F) || bothIns E a.ins b.ins) && outside b.F a.n a.m

/-- Both lists, without doubles. -/
def joinN (a b : List Nat) : List Nat := List.rec (motive := fun _ => List Nat) b (fun x _ ih => Bool.rec (x :: ih) ih (memN x ih)) a

def edgesOf (l : List Edge) (preds : List (List Nat)) : List Nat :=
  List.rec (motive := fun _ => List Nat) [] (fun e _ ih => match Region.binds .any e with
    | true => joinN (e.on :: (match nth preds e.on with | some p => p | none => [])) ih
    | false => ih) l

/-- For each operation those that are done before it in every order. -/
def predsOf (l : List Oper) (acc : List (List Nat)) : List (List Nat) :=
  List.rec (motive := fun _ => List (List Nat) → List (List Nat)) (fun acc => acc) (fun o _ ih acc => ih (acc ++ [edgesOf o.after.toList acc])) l acc

/-- May an operation with these predecessors be done in either order with each one ahead of it that is none of them? (The records come from the last one to the first.) -/
def indepAll (E : Env) (r : Rec) (p : List Nat) (rs : List Rec) : Bool :=
  List.rec (motive := fun _ => Bool) true (fun a l ih => Bool.rec (Bool.rec false ih (indep E a r)) ih (memN (lenR l) p)) rs

def drawOn (E : Env) (N : Nat) (preds : List (List Nat)) (o : Oper) (next : St → List Rec → Ans St) (st : St) (rs : List Rec) (uses F W : List Nat) (ins : Option (TypeId × Value)) (v : Value) (h2 : Tr RO) (m : Nat) : Ans St :=
  match putT N st.σ o.dst v, nth preds (lenR rs), Nat.ble st.n m && Nat.blt m big && allLt F st.n with
  | some σ, some p, true => match indepAll E ⟨uses, o.dst, F, W, ins, st.n, m⟩ p rs && allLt p (lenR rs) with
    | true => next ⟨σ, overN (overL st.h h2 F) h2 st.n (Nat.sub m st.n), m⟩ (⟨uses, o.dst, F, W, ins, st.n, m⟩ :: rs)
    | false => .no "order" (some o)
  | _, _, _ => .no "draw" (some o)

/-- An entry that is put into a map literal: the map, the type of its keys, key and value. -/
def insOf (E : Env) (σ : Tr Value) (o : Oper) : Option (Nat × TypeId × Value × Value) :=
  match o.op with
  | .insert t x ix y => match ti E t, opnd E σ x, opnd E σ ix, opnd E σ y with
    | some d, some (.map (some r)), some k, some v => match d.under with
      | .map kt _ => bif flat2R k && keyIn E kt k then some (r, kt, k, v) else none
      | _ => none
    | _, _, _, _ => none
  | _ => none

def drawIns (E : Env) (N : Nat) (preds : List (List Nat)) (o : Oper) (next : St → List Rec → Ans St) (st : St) (rs : List Rec) (uses : List Nat) (r : Nat) (kt : TypeId) (k v : Value) : Ans St :=
  match entAt (getR st.h r), Nat.blt r big with
  | some es, true => match noneOf E kt k es with
    | true => drawOn E N preds o next st rs uses [r] [r] (some (kt, k)) undef (putR .e r (some (.pmap (es ++ [⟨k, v, 0⟩])))) st.n
    | false => .no "a key twice" (some o)
  | _, _ => .no "no map" (some o)

def drawVal (E : Env) (call : CallT) (N : Nat) (preds : List (List Nat)) (o : Oper) (next : St → List Rec → Ans St) (st : St) (rs : List Rec) (uses : List Nat) : Ans St :=
  match evalOp E ⟨pickT st.σ uses, pickH st.h (footOf E st o), st.n⟩ o with
  | some (.val v h m) => drawOn E N preds o next st rs uses (footOf E st o) (match readsOnly o.op with | true => [] | false => footOf E st o) none v h m
  | some (.ent f args) => match call f args (pickH st.h (footOf E st o)) st.n with
    | .ok (v, h, m) => drawOn E N preds o next st rs uses (footOf E st o) (changedL st.h h (footOf E st o)) none v h m
    | .no w x => .no w x
  | none => .no "op" (some o)

def drawOp (E : Env) (call : CallT) (N : Nat) (all : List Oper) (preds : List (List Nat)) (o : Oper) (next : St → List Rec → Ans St) (st : St) (rs : List Rec) : Ans St :=
  match allLt (usesOf all o) 1000000 && notDeferOp o.op with
  | false => .no "uses" (some o)
  | true => match wantedT all (pickT st.σ (usesOf all o)) o with
    | true => match insOf E (pickT st.σ (usesOf all o)) o with
      | some (r, kt, k, v) => drawIns E N preds o next st rs (usesOf all o) r kt k v
      | none => drawVal E call N preds o next st rs (usesOf all o)
    | false => drawOn E N preds o next st rs (usesOf all o) [] [] none undef .e st.n

def drawOps (E : Env) (call : CallT) (N : Nat) (all : List Oper) (preds : List (List Nat)) (l : List Oper) : St → List Rec → Ans St :=
  List.rec (motive := fun _ => St → List Rec → Ans St) (fun st _ => .ok st) (fun o _ ih st rs => drawOp E call N all preds o ih st rs) l

def setArgs (l : List Value) : Nat → Tr Value → Tr Value :=
  List.rec (motive := fun _ => Nat → Tr Value → Tr Value) (fun _ σ => σ) (fun v _ ih k σ => ih (Nat.add k 1) (putR σ k (some v))) l

def resultOf (E : Env) (σ : Tr Value) (h : Tr RO) : ResultVar → Option Value
  | .tmp t => some (tmp σ t)
  | .cell a t => match tmp σ a with
    | .pointer (some ⟨i, o, none⟩) => loadAt E h t i o
    | _ => none

def resultsOf (E : Env) (σ : Tr Value) (h : Tr RO) (l : List ResultVar) : Option (List Value) :=
  List.rec (motive := fun _ => Option (List Value)) (some []) (fun r _ ih => cons2 (resultOf E σ h r) ih) l

def tupled : List Value → Value
  | [v] => v
  | vs => .tuple ⟨vs⟩

def leave (E : Env) (fn : Func) (st : St) : Ans (Value × Tr RO × Nat) :=
  match resultsOf E st.σ st.h fn.results.toList with
  | some vs => .ok (tupled vs, st.h, st.n)
  | none => .no "results" none

/-- What code leaves: how it ended, the marks that it put into its frame, the state. -/
abbrev Outs := Ans (List (X × List Nat × St))
/-- The temporaries of a frame, the loop whose round it is, the code, the state. -/
abbrev CodeT := Nat → Option Nat → Code → St → Outs

/-- Marks are taken out of a frame. -/
def takeMarks (h : Tr RO) (l : List Nat) : Option (Tr RO) :=
  List.rec (motive := fun _ => Tr RO → Option (Tr RO)) (fun h => some h) (fun i _ ih h => match getR h i with
    | some .deferred => bif Nat.blt i big then ih (putR h i none) else none
    | _ => none) l h

def leaveX (E : Env) (fn : Func) (o : X × List Nat × St) : Ans (Value × Tr RO × Nat) :=
  match o with
  | (.exit _, _, _) => .no "exit out of a function" none
  | (_, ds, st) => match takeMarks st.h ds with
    | some h => leave E fn ⟨st.σ, h, st.n⟩
    | none => .no "marks" none

def runFn (E : Env) (code : CodeT) (f : FuncId) (args : List Value) (h : Tr RO) (n : Nat) (k : Func → List (X × List Nat × St) → Ans (Value × Tr RO × Nat)) : Ans (Value × Tr RO × Nat) :=
  match getR E.F f with
  | some fn => match fn.body with
    | some c => bif Nat.blt fn.ntmps 1000000 && Nat.ble (lenR args) fn.ntmps then
        match code fn.ntmps none c ⟨setArgs args 0 .e, h, n⟩ with
        | .ok outs => k fn outs
        | .no w x => .no w x
      else .no "too many temporaries" none
    | none => .no "no body" none
  | none => .no "no such function in the table" none

def callFn (E : Env) (code : CodeT) (f : FuncId) (args : List Value) (h : Tr RO) (n : Nat) : Ans (Value × Tr RO × Nat) :=
  runFn E code f args h n fun fn outs => match outs with
    | [o] => leaveX E fn o
    | _ => .no "more than one way" none

/-! Equality of values and objects, as far as it is needed. -/

/-- These names, with what they hold. -/
def held (h : Tr RO) (l : List Nat) : List (Nat × Option RO) := List.rec (motive := fun _ => List (Nat × Option RO)) [] (fun i _ ih => (i, getR h i) :: ih) l

def putAll (h : Tr RO) (l : List (Nat × Option RO)) : Tr RO := List.rec (motive := fun _ => Tr RO) h (fun p _ ih => putR ih p.1 p.2) l

def rootsOf (args : List Value) : List Nat := args.flatMap (idsV 3)

/-- The names that the arguments of a call reach. -/
def footCall (args : List Value) (h : Tr RO) (n : Nat) : List Nat := (reach h 4000 (rootsOf args) []).filter fun i => Nat.blt i n

/-- The answer of a call and what stays of the memory, for one way. -/
def kept (E : Env) (fn : Func) (F : List Nat) (o : X × List Nat × St) : Ans (Value × List (Nat × Option RO) × Nat) :=
  match leaveX E fn o with
  | .ok (v, h, m) => .ok (v, held h (reach h 4000 (rootsOf [v] ++ F) []), m)
  | .no w x => .no w x

def eqKept (v : Value) (l : List (Nat × Option RO)) (r : Ans (Value × List (Nat × Option RO) × Nat)) : Bool :=
  match r with
  | .ok (v', l', _) => eqV 8 v v' && eqL eqP l l'
  | .no _ _ => false

def mostOf (m : Nat) (r : Ans (Value × List (Nat × Option RO) × Nat)) : Nat :=
  match r with
  | .ok (_, _, m') => Nat.max m m'
  | .no _ _ => m

/-- All ways lead to the same. -/
def oneWay (v : Value) (l : List (Nat × Option RO)) (m : Nat) (rs : List (Ans (Value × List (Nat × Option RO) × Nat))) : Option Nat :=
  List.rec (motive := fun _ => Nat → Option Nat) (fun m => some m) (fun r _ ih m => Bool.rec none (ih (mostOf m r)) (eqKept v l r)) rs m

/-- A call on what its arguments reach alone: the value, what stays, the next name. -/
def narrow (E : Env) (code : CodeT) (f : FuncId) (args : List Value) (F : List Nat) (hF : Tr RO) (n : Nat) : Ans (Value × List (Nat × Option RO) × Nat) :=
  match getR E.F f with
  | some fn => match fn.body with
    | some c => bif Nat.blt fn.ntmps 1000000 && Nat.ble (lenR args) fn.ntmps then
        match code fn.ntmps none c ⟨setArgs args 0 .e, hF, n⟩ with
        | .ok outs => match outs with
          | [] => .no "no way" none
          | o :: os => match kept E fn F o with
            | .ok (v, l, m) => match oneWay v l m (os.map (kept E fn F)) with
              | some m => .ok (v, l, m)
              | none => .no "different ways" none
            | .no w x => .no w x
        | .no w x => .no w x
      else .no "too many temporaries" none
    | none => .no "no body" none
  | none => .no "no such function in the table" none

/-- The names of what stays are those of before or new ones. -/
def within (F : List Nat) (n m : Nat) (l : List (Nat × Option RO)) : Bool :=
  List.rec (motive := fun _ => Bool) true (fun p _ ih => Bool.rec false ih ((memN p.1 F || (Nat.ble n p.1 && Nat.blt p.1 m)) && Nat.blt p.1 big)) l

def spread (F : List Nat) (h : Tr RO) (n : Nat) (r : Ans (Value × List (Nat × Option RO) × Nat)) : Ans (Value × Tr RO × Nat) :=
  match r with
  | .ok (v, l, m) => bif within F n m l && allLt F big && Nat.ble n m then .ok (v, putAll (overL h .e F) l, m) else .no "names" none
  | .no w x => .no w x

def fitsMemo (args : List Value) (F : List (Nat × Option RO)) (n : Nat) (M : Memo) : Bool :=
  Nat.beq n M.n && eqL (eqV 8) args M.args && eqL eqP F M.F

def findMemo (args : List Value) (F : List (Nat × Option RO)) (n : Nat) (l : List Memo) : Option Memo :=
  List.rec (motive := fun _ => Option Memo) none (fun M _ ih => Bool.rec ih (some M) (fitsMemo args F n M)) l

/-! A call whose answer is not known yet, told as a number: for the making of tables alone. -/

def tokL {α : Type} (f : α → List Nat) (l : List α) : List Nat := List.rec (motive := fun _ => List Nat) [] (fun x _ ih => f x ++ ih) l

def tokV (f : Nat) : Value → List Nat :=
  Nat.rec (motive := fun _ => Value → List Nat) (fun _ => [99]) (fun _ ih v => match v with
    | .bool b => match b with | true => [1, 1] | false => [1, 0]
    | .int k n => match n with
      | .ofNat a => match k with | .i64 => [2, a] | .u64 => [3, a] | .u8 => [4, a] | .i32 => [5, a] | .u32 => [6, a] | _ => [99]
      | .negSucc a => match k with | .i64 => [7, a] | .i32 => [8, a] | _ => [99]
    | .string s => 9 :: lenR s.data.toList :: tokL (fun b => [b.toNat]) s.data.toList
    | .pointer none => [10]
    | .pointer (some ⟨b, o, none⟩) => [11, b, o]
    | .slice none _ _ => [12]
    | .slice (some ⟨b, o, none⟩) n r => [13, b, o, n, r]
    | .map none => [14]
    | .map (some r) => [15, r]
    | .func (.func g) ⟨a⟩ ⟨b⟩ => 16 :: g :: lenR a :: (tokL ih a ++ lenR b :: tokL ih b)
    | .nilFunc => [17]
    | .iface t v => 18 :: t :: ih v
    | .nilIface => [19]
    | .agg ⟨l⟩ => 20 :: lenR l :: tokL ih l
    | .tuple ⟨l⟩ => 21 :: lenR l :: tokL ih l
    | _ => [99]) f

def tokO (p : Nat × Option RO) : List Nat :=
  p.1 :: match p.2 with
    | none => [30]
    | some (.cells es c) => 31 :: es.n :: (match es.t with | some t => Nat.add t 1 | none => 0) :: (match es.whole with | true => 1 | false => 0) :: lenR c :: tokL (tokV 8) c
    | some (.froz fz es c) => 33 :: fz :: es.n :: (match es.t with | some t => Nat.add t 1 | none => 0) :: (match es.whole with | true => 1 | false => 0) :: lenR c :: tokL (tokV 8) c
    | some (.pmap es) => 34 :: lenR es :: tokL (fun e => tokV 8 e.key ++ tokV 8 e.val) es
    | some (.map es k) => 32 :: k :: lenR es :: tokL (fun e => tokV 8 e.key ++ (tokV 8 e.val ++ [e.born])) es
    | some _ => [99]

def numOf (l : List Nat) : Nat := List.rec (motive := fun _ => Nat) 1 (fun x _ ih => Nat.add (Nat.mul ih 4722366482869645213696) x) l

def tokReq (f : FuncId) (args : List Value) (F : List (Nat × Option RO)) (n : Nat) : Nat := numOf (f :: n :: lenR args :: (tokL (tokV 8) args ++ lenR F :: tokL tokO F))

def callMemo (_E : Env) (_code : CodeT) (f : FuncId) (args : List Value) (h : Tr RO) (n : Nat) (l : List Memo) : Ans (Value × Tr RO × Nat) :=
  match findMemo args (held h (footCall args h n)) n l with
  | some M => spread (footCall args h n) h n (.ok (M.v, M.keep, M.m))
  | none => .no "memo" (some ⟨none, .move (.const (.int .i64 (.ofNat (tokReq f args (held h (footCall args h n)) n)))), 0, "", #[], none⟩)

def callFun (E : Env) (code : CodeT) (f : FuncId) (args : List Value) (h : Tr RO) (n : Nat) : Ans (Value × Tr RO × Nat) :=
  match getR E.M f with
  | some l => callMemo E code f args h n l
  | none => match getR E.nd f with
    | some _ => spread (footCall args h n) h n (narrow E code f args (footCall args h n) (pickH h (footCall args h n)) n)
    | none => callFn E code f args h n

/-- The parameters of a round. -/
def setParams (ps : List Tmp) : List Value → Tr Value → Tr Value :=
  List.rec (motive := fun _ => List Value → Tr Value → Tr Value) (fun _ σ => σ) (fun p _ ih vs σ => match vs with | [] => σ | v :: vs => ih vs (putR σ p (some v))) ps

def loopOf (h : Tr RO) (i : Nat) : Option RLoop :=
  match getR h i with
  | some (.loop L) => some L
  | _ => none

def isReady : LoopState → Bool
  | .ready => true
  | _ => false

def isBusy : LoopState → Bool
  | .busy => true
  | _ => false

def jumpOf : X → Option Code
  | .normal => none
  | .exit id => some (.exit id)
  | .ret => some .ret

/-- The end of a round. -/
def endRnd (i : Nat) (x : X) (st : St) : Ans (Value × Tr RO × Nat) :=
  match loopOf st.h i with
  | some L => .ok (.bool (match x with | .normal => true | _ => false), putR st.h i (some (.loop { L with state := match x with | .normal => .ready | _ => .done, pending := jumpOf x })), st.n)
  | none => .no "no loop at the end of a round" none

def callRnd (_E : Env) (code : CodeT) (i : Nat) (args : List Value) (h : Tr RO) (n : Nat) : Ans (Value × Tr RO × Nat) :=
  match loopOf h i with
  | some L => bif Nat.beq (lenR args) (lenR L.params) && Nat.blt i big && Nat.blt L.N 1000000 && allLt L.params L.N then
      match code L.N (some i) L.assign ⟨setParams L.params args L.σ, h, n⟩ with
      | .ok [(.normal, [], st)] => match loopOf st.h i with
        | some L2 => bif isReady L2.state then
            match code L.N (some i) L.body ⟨st.σ, putR st.h i (some (.loop { L2 with state := .busy })), st.n⟩ with
            | .ok [(x, [], st)] => endRnd i x st
            | .ok _ => .no "a round with more than one way" none
            | .no w x => .no w x
          else .no "a loop that is not ready" none
        | none => .no "no loop" none
      | .ok _ => .no "the parameters of a round" none
      | .no w x => .no w x
    else .no "round" none
  | none => .no "no loop" none

def callWith (E : Env) (code : CodeT) : CallT := fun t args h n =>
  match t with
  | .fn f => callFun E code f args h n
  | .rnd i => callRnd E code i args h n

def joinO (a b : Outs) : Outs :=
  match a with
  | .ok l => match b with
    | .ok m => .ok (l ++ m)
    | .no w x => .no w x
  | .no w x => .no w x

def marked (ds : List Nat) (l : List (X × List Nat × St)) : List (X × List Nat × St) :=
  List.rec (motive := fun _ => List (X × List Nat × St)) [] (fun o _ ih => (o.1, o.2.1 ++ ds, o.2.2) :: ih) l

def markedO (ds : List Nat) (r : Outs) : Outs :=
  match ds with
  | [] => r
  | _ => match r with
    | .ok l => .ok (marked ds l)
    | .no w x => .no w x

def nextL (next : St → Outs) (l : List (X × List Nat × St)) : Outs :=
  List.rec (motive := fun _ => Outs) (.ok []) (fun o r ih => match o with
    | (.normal, ds, st) => match r with
      | [] => markedO ds (next st)
      | _ => joinO (markedO ds (next st)) ih
    | o => joinO (.ok [o]) ih) l

def andThen (r : Outs) (next : St → Outs) : Outs :=
  match r with
  | .ok l => nextL next l
  | .no w x => .no w x

def endX (id : Nat) (o : X × List Nat × St) : X × List Nat × St :=
  match o with
  | (.exit j, ds, st) => bif Nat.beq j id then (.normal, ds, st) else (.exit j, ds, st)
  | o => o

def endL (id : Nat) (l : List (X × List Nat × St)) : List (X × List Nat × St) :=
  List.rec (motive := fun _ => List (X × List Nat × St)) [] (fun o _ ih => endX id o :: ih) l

def endBlock (id : Nat) (r : Outs) : Outs :=
  match r with
  | .ok l => .ok (endL id l)
  | .no w x => .no w x

def ended (r : Ans St) : Outs :=
  match r with
  | .ok st => .ok [(.normal, [], st)]
  | .no w x => .no w x

/-! A step through a map: each entry that is left may come. -/

def leftOf (es : List MapEntry) (seen : List Nat) : List MapEntry :=
  List.rec (motive := fun _ => List MapEntry) [] (fun e _ ih => Bool.rec (e :: ih) ih (memN e.born seen)) es

def bornBelow (es : List MapEntry) (since : Nat) : Bool := List.rec (motive := fun _ => Bool) true (fun e _ ih => Bool.rec false ih (Nat.blt e.born since)) es

/-- What may come: the value and the iterator behind it. -/
def stepsOf (m since : Nat) (seen : List Nat) (clock : Nat) (l : List MapEntry) : List (Value × RO) :=
  List.rec (motive := fun _ => List (Value × RO)) [] (fun e _ ih => (.tuple ⟨[.bool true, e.key, e.val]⟩, .mapIter (some m) since (seen ++ [e.born]) clock) :: ih) l

/-- The iterator over a map that an operation steps on, and what may come; none: all ways are over. -/
def mapSteps (E : Env) (st : St) (x : Operand) : Option (Nat × List (Value × RO)) :=
  match opnd E st.σ x with
  | some (.pointer (some ⟨r, 0, none⟩)) => match getR st.h r with
    | some (.mapIter (some m) since seen stepped) => match mapOf st.h m with
      | some (es, clock) => bif bornBelow es since && Nat.ble since stepped && Nat.blt r big then some (r, stepsOf m since seen clock (leftOf es seen)) else none
      | none => none
    | _ => none
  | _ => none

def isMapNext (l : List Oper) : Option Operand :=
  match l with
  | o :: _ => match o.op, o.guard with
    | .next x false, none => some x
    | _, _ => none
  | [] => none

/-- The rest of a region behind a step through a map. -/
def stepOn (E : Env) (call : CallT) (N : Nat) (all : List Oper) (st : St) (r : Nat) (p : Value × RO) : Outs :=
  match all with
  | o :: l => ended (goOn N o (runOps E call N all l) st p.1 (putR st.h r (some p.2)) st.n)
  | [] => .no "step" none

def stepAll (E : Env) (call : CallT) (N : Nat) (all : List Oper) (st : St) (r : Nat) (ps : List (Value × RO)) : Outs :=
  List.rec (motive := fun _ => Outs) (.ok []) (fun p l ih => match l with
    | [] => stepOn E call N all st r p
    | _ => joinO (stepOn E call N all st r p) ih) ps

def regionOn (E : Env) (call : CallT) (N : Nat) (all : List Oper) (st : St) : Outs :=
  match isMapNext all with
  | some x => match mapSteps E st x with
    | some (r, p :: ps) => stepAll E call N all st r (p :: ps)
    | some (_, []) => match all with
      | o :: l => ended (goOn N o (runOps E call N all l) st over st.h st.n)
      | [] => .no "step" none
    | none => ended (runOps E call N all all st)
  | none => ended (runOps E call N all all st)

/-! A loop over a function. -/

/-- How it goes on behind the loop. -/
def endLoop (i : Nat) (ds : List Nat) (σ : Tr Value) (h : Tr RO) (n : Nat) : Outs :=
  match loopOf h i with
  | some L => bif isBusy L.state then .no "busy" none else
    match L.pending with
    | none => .ok [(.normal, ds, ⟨σ, putR h i (some (.loop { L with state := .exhausted })), n⟩)]
    | some (.exit id) => .ok [(.exit id, ds, ⟨σ, putR h i (some (.loop { L with state := .exhausted })), n⟩)]
    | some .ret => .ok [(.ret, ds, ⟨σ, putR h i (some (.loop { L with state := .exhausted })), n⟩)]
    | some _ => .no "jump" none
  | none => .no "no loop behind a loop" none

def runLoop (E : Env) (call : CallT) (N : Nat) (f : Operand) (ps : List Tmp) (assign body : Code) (σ : Tr Value) (h : Tr RO) (n : Nat) (d : Nat) (ds : List Nat) : Outs :=
  match opnd E σ f with
  | some (.func (.func g) ⟨first⟩ ⟨captured⟩) => match getR E.F g with
    | some fn => match fn.body with
      | some _ => bif Nat.blt n big then
          match call (.fn g) (first ++ (.func (.yield n) #[] #[] :: captured)) (putR h n (some (.loop ⟨.ready, none, σ, N, ps, assign, body, d⟩))) (Nat.add n 1) with
          | .ok (_, h, m) => endLoop n ds σ h m
          | .no w x => .no w x
        else .no "names" none
      | none => .no "no body" none
    | none => .no "no such function in the table" none
  | _ => .no "what is ranged over" none

def rangeOn (E : Env) (call : CallT) (N : Nat) (rd : Option Nat) (f : Operand) (ps : List Tmp) (assign body : Code) (st : St) : Outs :=
  match rd with
  | none => bif Nat.blt st.n big then runLoop E call N f ps assign body st.σ (putR st.h st.n (some .deferred)) (Nat.add st.n 1) st.n [st.n] else .no "names" none
  | some j => match loopOf st.h j with
    | some L => runLoop E call N f ps assign body st.σ st.h st.n L.defers []
    | none => .no "no loop around" none

def stepCode (E : Env) (code : CodeT) (N : Nat) (rd : Option Nat) (c : Code) (st : St) : Outs :=
  match c with
  | .skip => .ok [(.normal, [], st)]
  | .label _ => .ok [(.normal, [], st)]
  | .region _ ops d => match d with
    | false => regionOn E (callWith E code) N ops.toList st
    | true => ended (drawOps E (callWith E code) N ops.toList (predsOf ops.toList []) ops.toList st [])
  | .seq a b => andThen (code N rd a st) (code N rd b)
  | .cond x a b => match opnd E st.σ x with
    | some (.bool t) => match t with
      | true => code N rd a st
      | false => code N rd b st
    | _ => .no "cond" none
  | .block id b => endBlock id (code N rd b st)
  | .loop b => andThen (code N rd b st) (code N rd (.loop b))
  | .rangeFunc f ps assign body => rangeOn E (callWith E code) N rd f ps.toList assign body st
  | .exit id => .ok [(.exit id, [], st)]
  | .ret => .ok [(.ret, [], st)]
  | .scope b => code N rd b st
  | _ => .no "code" none

def evalCode (E : Env) (fuel : Nat) : CodeT :=
  Nat.rec (motive := fun _ => CodeT) (fun _ _ _ _ => .no "fuel" none) (fun _ ih => stepCode E ih) fuel

def evalCall (E : Env) (fuel : Nat) (f : FuncId) (args : List Value) (h : Tr RO) (n : Nat) : Ans (Value × Tr RO × Nat) := callFn E (evalCode E fuel) f args h n

def fitsAns (r : Ans (Value × List (Nat × Option RO) × Nat)) (M : Memo) : Bool :=
  match r with
  | .ok (v, l, m) => eqV 8 v M.v && eqL eqP l M.keep && Nat.beq m M.m
  | .no _ _ => false

/-- A call on a memory that holds just these. -/
def evalMemo (E : Env) (fuel : Nat) (f : FuncId) (args : List Value) (F : List (Nat × Option RO)) (n : Nat) : Ans (Value × List (Nat × Option RO) × Nat) :=
  narrow E (evalCode E fuel) f args (F.map (·.1)) (putAll .e F) n

/-- What the evaluator knows of a type, by the type's row, its shape, and the cells of an element of its slices. -/

def zeroC (i : TypeInfo) : List Value :=
  match i.zero with
  | some z => z.cells.toList
  | none => []

def tiOf (i : TypeInfo) (d : TypeDesc) (inner : Nat) : TI := ⟨i.size, i.bytes, d, zeroC i, isAggD d, inner⟩

/-- A table of these. -/
def table {α : Type} (l : List (Nat × α)) : Tr α :=
  List.rec (motive := fun _ => Tr α) .e (fun p _ t => putR t p.1 (some p.2)) l

end
end Go.Ev
