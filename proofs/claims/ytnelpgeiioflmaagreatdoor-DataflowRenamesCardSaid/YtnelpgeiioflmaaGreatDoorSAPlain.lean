/-
  Plain mathematics of layer 8, without the program: expressions, statements and procedures as trees; the walk; validity; equality; renaming.
-/
import Derived.Test.YtnelpgeiioflmaaGreatDoorSLFacts
namespace Go.Proofs.YtnelpgeiioflmaaGreatDoor.A
open L (Str isName prt)

inductive Ex where
  | mk (op n : Int) (s : ByteArray) (args : List Ex)
inductive St where
  | mk (op : Int) (name : ByteArray) (mx : Int) (a b : Ex) (body els : List St)
structure Pm where
  name : ByteArray
  ty : Int
structure Pr where
  name : ByteArray
  params : List Pm
  body : List St
namespace Ex
def op : Ex → Int | .mk o _ _ _ => o
def n : Ex → Int | .mk _ n _ _ => n
def s : Ex → ByteArray | .mk _ _ s _ => s
def args : Ex → List Ex | .mk _ _ _ l => l
end Ex
namespace St
def op : St → Int | .mk o _ _ _ _ _ _ => o
def name : St → ByteArray | .mk _ x _ _ _ _ _ => x
def mx : St → Int | .mk _ _ x _ _ _ _ => x
def a : St → Ex | .mk _ _ _ x _ _ _ => x
def b : St → Ex | .mk _ _ _ _ x _ _ => x
def body : St → List St | .mk _ _ _ _ _ x _ => x
def els : St → List St | .mk _ _ _ _ _ _ x => x
end St
def arity (op : Int) : Int :=
  if op = 1 ∨ op = 2 ∨ op = 3 ∨ op = 25 ∨ op = 26 ∨ op = 27 then 0
  else if op = 9 ∨ op = 18 ∨ op = 20 ∨ op = 21 ∨ op = 22 ∨ op = 23 ∨ op = 24 then 1
  else if 4 ≤ op ∧ op ≤ 19 then 2 else -1
def absent (e : Ex) : Bool := decide (e.op = 0) && decide (e.n = 0) && decide (e.s.size = 0) && e.args.isEmpty
def plain (s : ByteArray) : Bool := decide (s.size ≤ 64) && s.data.toList.all prt
def nam (s : ByteArray) : Bool := isName s.data.toList
def nodeE (e : Ex) (d : Nat) : Int :=
  if arity e.op < 0 ∨ (e.op ≠ 1 ∧ e.n ≠ 0) ∨ (e.op ≠ 2 ∧ e.op ≠ 3 ∧ e.s.size ≠ 0) then 1
  else if e.op = 3 ∧ nam e.s = false then 7
  else if e.n < 0 ∨ (e.op = 2 ∧ plain e.s = false) ∨ (e.args.length : Int) ≠ arity e.op then 1
  else if 12 < d then 2 else 0
mutual
def vE : Ex → Nat → Int
  | .mk o n s l, d => if nodeE (.mk o n s l) d ≠ 0 then nodeE (.mk o n s l) d else vEs l (d + 1)
def vEs : List Ex → Nat → Int
  | [], _ => 0
  | e :: r, d => if vE e d ≠ 0 then vE e d else vEs r d
end
inductive V where
  | st (s : St) (d : Nat)
  | ex (e : Ex) (root : Bool)
mutual
def preE : Ex → Bool → List V
  | .mk o n s l, r => .ex (.mk o n s l) r :: preEs l
def preEs : List Ex → List V
  | [] => []
  | e :: r => preE e false ++ preEs r
end
def preR (e : Ex) : List V := if absent e then [] else preE e true
mutual
def preS : St → Nat → List V
  | .mk o nm mx a b bd el, d => .st (.mk o nm mx a b bd el) d :: (preR a ++ preR b ++ preB bd (d + 1) ++ preB el (d + 1))
def preB : List St → Nat → List V
  | [], _ => []
  | s :: r, d => preS s d ++ preB r d
end
def walk (p : Pr) : List V := (preB p.body 1).take 401
/-! which fields a statement uses -/
def uN (o : Int) : Bool := decide (o = 1 ∨ o = 2 ∨ o = 6)
def uM (o : Int) : Bool := !decide (o = 1 ∨ o = 2 ∨ o = 3 ∨ o = 4 ∨ o = 5 ∨ o = 7)
def uA (o : Int) : Bool := decide (o = 1 ∨ o = 2 ∨ o = 3 ∨ o = 4 ∨ o = 5 ∨ o = 6 ∨ o = 7)
def uB (o : Int) : Bool := decide (o = 3 ∨ o = 6)
def uD (o : Int) : Bool := decide (o = 5 ∨ o = 6)
def uE (o : Int) : Bool := decide (o = 5)
def badS (s : St) : Bool :=
  decide (s.op < 1) || decide (8 < s.op) || (!uN s.op && !decide (s.name.size = 0)) || (!uM s.op && !decide (s.mx = 0)) || (!uA s.op && !absent s.a) || (!uB s.op && !absent s.b) || (!uD s.op && !s.body.isEmpty) || (!uE s.op && !s.els.isEmpty)
def badM (s : St) : Bool := (decide (s.op = 6) && (decide (s.mx < 1) || decide (16 < s.mx))) || (decide (s.op = 8) && (decide (s.mx < 0) || decide (999 < s.mx)))
def stE (s : St) (d : Nat) : Int :=
  if badS s then 1 else if badM s then 1
  else if uN s.op && !nam s.name then 7
  else if uA s.op && !decide (vE s.a 1 = 0) then vE s.a 1
  else if uB s.op && !decide (vE s.b 1 = 0) then vE s.b 1
  else if 12 < d then 2 else 0
def firstE : List V → Int
  | [] => 0
  | .st s d :: r => if stE s d ≠ 0 then stE s d else firstE r
  | .ex _ _ :: r => firstE r
def parF (seen : List ByteArray) : List Pm → Int
  | [] => 0
  | p :: r => if nam p.name = false then 7 else if p.ty < 1 ∨ 3 < p.ty then 10 else if seen.any (fun x => decide (x = p.name)) = true then 8 else parF (seen ++ [p.name]) r
def parE (l : List Pm) : Int := if 6 < l.length then 2 else parF [] l
def valE (p : Pr) : Int :=
  if nam p.name = false then 7 else if parE p.params ≠ 0 then parE p.params
  else if firstE (walk p) ≠ 0 then firstE (walk p) else if 400 < (walk p).length then 2 else 0
def nodes (p : Pr) : Nat := (walk p).length
def V.depth : V → Nat | .st _ d => d | .ex _ _ => 0
def V.rooted : V → Option Ex | .st _ _ => none | .ex e r => if r then some e else none
def exprs (p : Pr) : List Ex := (walk p).filterMap V.rooted
def V.decl : V → Option ByteArray | .st s _ => if s.op = 1 ∨ s.op = 6 then some s.name else none | .ex _ _ => none
def names (p : Pr) : List ByteArray := p.params.map Pm.name ++ (walk p).filterMap V.decl
def V.says (x : ByteArray) : V → Bool | .st s _ => decide (s.name = x) | .ex e _ => decide (e.op = 3) && decide (e.s = x)
def occurs (p : Pr) (x : ByteArray) : Bool := p.params.any (fun q => decide (q.name = x)) || (walk p).any (V.says x)
def swap (f t x : ByteArray) : ByteArray := if x = f then t else x
mutual
def renE (f t : ByteArray) : Ex → Ex
  | .mk o n s l => .mk o n (if o = 3 then swap f t s else s) (renEs f t l)
def renEs (f t : ByteArray) : List Ex → List Ex
  | [] => []
  | e :: r => renE f t e :: renEs f t r
end
mutual
def renS (f t : ByteArray) : St → St
  | .mk o nm mx a b bd el => .mk o (swap f t nm) mx (renE f t a) (renE f t b) (renB f t bd) (renB f t el)
def renB (f t : ByteArray) : List St → List St
  | [] => []
  | s :: r => renS f t s :: renB f t r
end
def ren (f t : ByteArray) (p : Pr) : Pr := ⟨p.name, p.params.map (fun q => ⟨swap f t q.name, q.ty⟩), renB f t p.body⟩
def noPr : Pr := ⟨⟨#[]⟩, [], []⟩
def rename (p : Pr) (f t : ByteArray) : Pr × Int :=
  if valE p ≠ 0 then (noPr, 1) else if nam t = false then (noPr, 7) else if (names p).any (fun x => decide (x = f)) = false then (noPr, 9) else if occurs p t then (noPr, 8) else (ren f t p, 0)
/-! the sizes that the laws ask -/
mutual
def cE : Ex → Nat
  | .mk _ _ s l => 1 + s.size / 64 + cEs l
def cEs : List Ex → Nat
  | [] => 0
  | e :: r => cE e + cEs r
end
mutual
def cS : St → Nat
  | .mk _ nm _ a b bd el => 1 + nm.size / 64 + cE a + cE b + cB bd + cB el
def cB : List St → Nat
  | [] => 0
  | s :: r => cS s + cB r
end
def small (p : Pr) (m : Nat) : Bool := decide (p.params.length ≤ 40) && decide (p.name.size ≤ 200) && p.params.all (fun q => decide (q.name.size ≤ 200)) && decide (cB p.body ≤ m)

/-! ### equality -/

end Go.Proofs.YtnelpgeiioflmaaGreatDoor.A
