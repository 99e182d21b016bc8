/- What reading words as procedures comes to, as a function. -/
import Derived.Test.YtkdlgglikhbnkacLexT
import Derived.Test.YtkdlgglikhbnkacTData
namespace Go.Proofs.Ytkdlgglikhbnkac
set_option linter.unusedVariables false

/-- What a part of reading comes to: what it answers, the place and the nodes behind it; or the place where it can't go on. -/
inductive PR (α : Type) where
  | ok (a : α) (i : Nat) (ns : List Nd)
  | bad (i : Nat)

def PR.then {α β : Type} (r : PR α) (f : α → Nat → List Nd → PR β) : PR β := match r with
  | .ok a i ns => f a i ns
  | .bad i => .bad i
theorem PR.then_ok {α β : Type} (a : α) (i : Nat) (ns : List Nd) (f : α → Nat → List Nd → PR β) : (PR.ok a i ns).then f = f a i ns := rfl
theorem PR.then_bad {α β : Type} (i : Nat) (f : α → Nat → List Nd → PR β) : (PR.bad i : PR α).then f = .bad i := rfl

def wS (T : List Tk) (i : Nat) : ByteArray := (tkAt T i).s
def skipF (T : List Tk) (x : ByteArray) (i : Nat) (ns : List Nd) : PR Unit := if wS T i = x then .ok () (i + 1) ns else .bad i
def takeF (T : List Tk) (k : Int) (i : Nat) (ns : List Nd) : PR Tk := if (tkAt T i).k = k then .ok (tkAt T i) (i + 1) ns else .bad i
def putF (x : Nd) (i : Nat) (ns : List Nd) : PR Nat := .ok ns.length i (ns ++ [x])

/-- The functions that call each other, one level down. -/
structure Fns where
  expr : Nat → Nat → List Nd → PR Nat
  signed : Nat → Nat → List Nd → PR Nat
  prodL : Nat → Nat → Nat → List Nd → PR Nat
  sumL : Nat → Nat → Nat → List Nd → PR Nat
  block : Nat → Nat → List Nd → PR Nat
  blockL : Nat → List Int → Nat → List Nd → PR (List Int)

def prodKind (x : ByteArray) : Option Int := if x = (ByteArray.mk #[42]) then some 5 else if x = (ByteArray.mk #[47]) then some 6 else if x = (ByteArray.mk #[37]) then some 7 else none
def sumKind (x : ByteArray) : Option Int := if x = (ByteArray.mk #[43]) then some 3 else if x = (ByteArray.mk #[45]) then some 4 else none
def cmpKind (x : ByteArray) : Option Int := if x = (ByteArray.mk #[60]) then some 8 else if x = (ByteArray.mk #[61, 61]) then some 9 else none

def signedG (T : List Tk) (R : Fns) (d i : Nat) (ns : List Nd) : PR Nat :=
  if (tkAt T i).k = 1 then putF ⟨0, empS, (tkAt T i).n, []⟩ (i + 1) ns
  else if wS T i = (ByteArray.mk #[45]) then (if d = 30 then .bad (i + 1) else (R.signed (d + 1) (i + 1) ns).then fun k i ns => putF ⟨2, empS, 0, [(k : Int)]⟩ i ns)
  else if wS T i = (ByteArray.mk #[40]) then (R.expr d (i + 1) ns).then fun k i ns => (skipF T (ByteArray.mk #[41]) i ns).then fun _ i ns => .ok k i ns
  else (takeF T 2 i ns).then fun t i ns => putF ⟨1, t.s, 0, []⟩ i ns

def prodLG (T : List Tk) (R : Fns) (d k i : Nat) (ns : List Nd) : PR Nat := match prodKind (wS T i) with
  | some kd => (signedG T R d (i + 1) ns).then fun b i ns => R.prodL d ns.length i (ns ++ [⟨kd, empS, 0, [(k : Int), (b : Int)]⟩])
  | none => .ok k i ns
def productG (T : List Tk) (R : Fns) (d i : Nat) (ns : List Nd) : PR Nat := (signedG T R d i ns).then (prodLG T R d)

def sumLG (T : List Tk) (R : Fns) (d k i : Nat) (ns : List Nd) : PR Nat := match sumKind (wS T i) with
  | some kd => (productG T R d (i + 1) ns).then fun b i ns => R.sumL d ns.length i (ns ++ [⟨kd, empS, 0, [(k : Int), (b : Int)]⟩])
  | none => .ok k i ns
def sumG (T : List Tk) (R : Fns) (d i : Nat) (ns : List Nd) : PR Nat := (productG T R d i ns).then (sumLG T R d)

def exprG (T : List Tk) (R : Fns) (d i : Nat) (ns : List Nd) : PR Nat :=
  if d = 30 then .bad i
  else (sumG T R (d + 1) i ns).then fun k i ns => match cmpKind (wS T i) with
    | some kd => (sumG T R (d + 1) (i + 1) ns).then fun b i ns => putF ⟨kd, empS, 0, [(k : Int), (b : Int)]⟩ i ns
    | none => .ok k i ns

def rowG (T : List Tk) (R : Fns) (d i : Nat) (ns : List Nd) : PR (Int × Nat) :=
  (takeF T 4 i ns).then fun t i ns => (skipF T (ByteArray.mk #[91]) i ns).then fun _ i ns => (exprG T R d i ns).then fun k i ns => (skipF T (ByteArray.mk #[93]) i ns).then fun _ i ns => .ok (t.n, k) i ns

def writeG (T : List Tk) (R : Fns) (d i : Nat) (ns : List Nd) : PR Nat :=
  (skipF T (ByteArray.mk #[119, 114, 105, 116, 101]) i ns).then fun _ i ns => (rowG T R d i ns).then fun x i ns => (skipF T (ByteArray.mk #[61]) i ns).then fun _ i ns => (exprG T R d i ns).then fun v i ns =>
    (skipF T (ByteArray.mk #[59]) i ns).then fun _ i ns => putF ⟨22, empS, x.1, [(x.2 : Int), (v : Int)]⟩ i ns

def choiceG (T : List Tk) (R : Fns) (d i : Nat) (ns : List Nd) : PR Nat :=
  (skipF T (ByteArray.mk #[105, 102]) i ns).then fun _ i ns => (skipF T (ByteArray.mk #[40]) i ns).then fun _ i ns => (exprG T R d i ns).then fun e i ns => (skipF T (ByteArray.mk #[41]) i ns).then fun _ i ns => (R.block d i ns).then fun b i ns =>
    if wS T i = (ByteArray.mk #[101, 108, 115, 101]) then (skipF T (ByteArray.mk #[101, 108, 115, 101]) i ns).then fun _ i ns => (R.block d i ns).then fun c i ns => putF ⟨23, empS, 0, [(e : Int), (b : Int), (c : Int)]⟩ i ns
    else putF ⟨23, empS, 0, [(e : Int), (b : Int)]⟩ i ns

def loopG (T : List Tk) (R : Fns) (d i : Nat) (ns : List Nd) : PR Nat :=
  (skipF T (ByteArray.mk #[102, 111, 114]) i ns).then fun _ i ns => (takeF T 2 i ns).then fun x i ns => (skipF T (ByteArray.mk #[105, 110]) i ns).then fun _ i ns => (takeF T 1 i ns).then fun m i ns => (R.block d i ns).then fun b i ns =>
    putF ⟨24, x.s, m.n, [(b : Int)]⟩ i ns

def assignG (T : List Tk) (R : Fns) (d i : Nat) (ns : List Nd) : PR Nat :=
  (takeF T 2 i ns).then fun x i ns => (skipF T (ByteArray.mk #[61]) i ns).then fun _ i ns =>
    if wS T i = (ByteArray.mk #[114, 101, 97, 100]) then (skipF T (ByteArray.mk #[114, 101, 97, 100]) i ns).then fun _ i ns => (rowG T R d i ns).then fun y i ns => (skipF T (ByteArray.mk #[59]) i ns).then fun _ i ns => putF ⟨21, x.s, y.1, [(y.2 : Int)]⟩ i ns
    else (exprG T R d i ns).then fun v i ns => (skipF T (ByteArray.mk #[59]) i ns).then fun _ i ns => putF ⟨20, x.s, 0, [(v : Int)]⟩ i ns

def stmtG (T : List Tk) (R : Fns) (d i : Nat) (ns : List Nd) : PR Nat :=
  if wS T i = (ByteArray.mk #[119, 114, 105, 116, 101]) then writeG T R d i ns
  else if wS T i = (ByteArray.mk #[105, 102]) then choiceG T R d i ns
  else if wS T i = (ByteArray.mk #[102, 111, 114]) then loopG T R d i ns
  else if wS T i = (ByteArray.mk #[97, 98, 111, 114, 116]) then (skipF T (ByteArray.mk #[97, 98, 111, 114, 116]) i ns).then fun _ i ns => (skipF T (ByteArray.mk #[59]) i ns).then fun _ i ns => putF ⟨25, empS, 0, []⟩ i ns
  else if wS T i = (ByteArray.mk #[114, 101, 116, 117, 114, 110]) then (skipF T (ByteArray.mk #[114, 101, 116, 117, 114, 110]) i ns).then fun _ i ns => (exprG T R d i ns).then fun v i ns => (skipF T (ByteArray.mk #[59]) i ns).then fun _ i ns => putF ⟨26, empS, 0, [(v : Int)]⟩ i ns
  else assignG T R d i ns

def blockLG (T : List Tk) (R : Fns) (d : Nat) (kids : List Int) (i : Nat) (ns : List Nd) : PR (List Int) :=
  if wS T i = (ByteArray.mk #[125]) then .ok kids i ns else (stmtG T R d i ns).then fun k i ns => R.blockL d (kids ++ [(k : Int)]) i ns
def blockG (T : List Tk) (R : Fns) (d i : Nat) (ns : List Nd) : PR Nat :=
  if d = 30 then .bad i
  else (skipF T (ByteArray.mk #[123]) i ns).then fun _ i ns => (blockLG T R (d + 1) [] i ns).then fun kids i ns => (skipF T (ByteArray.mk #[125]) i ns).then fun _ i ns => putF ⟨27, empS, 0, kids⟩ i ns

def fns (T : List Tk) : Nat → Fns
  | 0 => ⟨fun _ i _ => .bad i, fun _ i _ => .bad i, fun _ _ i _ => .bad i, fun _ _ i _ => .bad i, fun _ i _ => .bad i, fun _ _ i _ => .bad i⟩
  | n + 1 => ⟨exprG T (fns T n), signedG T (fns T n), prodLG T (fns T n), sumLG T (fns T n), blockG T (fns T n), blockLG T (fns T n)⟩

/-- Behind the first parameter: the others. -/
def paramsL (T : List Tk) : Nat → List ByteArray → Nat → List Nd → PR (List ByteArray)
  | 0, _, i, _ => .bad i
  | n + 1, ps, i, ns => if wS T i = (ByteArray.mk #[44]) then (takeF T 2 (i + 1) ns).then fun x i ns => paramsL T n (ps ++ [x.s]) i ns else .ok ps i ns
def paramsG (T : List Tk) (n i : Nat) (ns : List Nd) : PR (List ByteArray) :=
  if wS T i = (ByteArray.mk #[41]) then .ok [] i ns else (takeF T 2 i ns).then fun x i ns => paramsL T n [x.s] i ns
def procG (T : List Tk) (n i : Nat) (ns : List Nd) : PR Pr :=
  (skipF T (ByteArray.mk #[112, 114, 111, 99]) i ns).then fun _ i ns => (takeF T 2 i ns).then fun x i ns => (skipF T (ByteArray.mk #[40]) i ns).then fun _ i ns => (paramsG T n i ns).then fun ps i ns => (skipF T (ByteArray.mk #[41]) i ns).then fun _ i ns =>
    (blockG T (fns T n) 0 i ns).then fun b i ns => .ok ⟨x.s, ps, (b : Int)⟩ i ns
def wholeL (T : List Tk) : Nat → List Pr → Nat → List Nd → PR (List Pr)
  | 0, ps, i, ns => if i < T.length then .bad i else .ok ps i ns
  | n + 1, ps, i, ns => if i < T.length then (procG T (n + 1) i ns).then fun x i ns => wholeL T n (ps ++ [x]) i ns else .ok ps i ns

/-- The place of word i, in bytes. -/
def placeT (T : List Tk) (len i : Nat) : Int := if i = T.length then (len : Int) else (tkAt T i).p
/-- What Parse answers, by the words. -/
def parseT (T : List Tk) (len : Nat) : (List Nd × List Pr) × Int := match wholeL T T.length [] 0 [] with
  | .bad i => (([], []), placeT T len i)
  | .ok ps i ns => if 800 < ns.length then (([], []), placeT T len i) else ((ns, ps), -1)
def parseF (s : ByteArray) : (List Nd × List Pr) × Int := if (lexF s).2 = -1 then parseT (lexF s).1 s.size else (([], []), (lexF s).2)

end Go.Proofs.Ytkdlgglikhbnkac
