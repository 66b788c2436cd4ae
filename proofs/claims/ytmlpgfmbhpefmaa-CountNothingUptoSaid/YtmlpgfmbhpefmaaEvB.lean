import Derived.Test.YtmlpgfmbhpefmaaEvA
set_option linter.all false
namespace Go.Ev

/-! ### code, worked out once -/
inductive RX where
  | t (p : Pos)
  | k (d : D)

/-- What a cell of a key is. -/
inductive LK where
  | b
  | i (k : IntKind)

inductive RO where
  | mv (d : Pos) (x : RX)
  | pick (d : Pos) (c x y : RX)
  | new (d : Pos) (zs : List D)
  | box (d : Pos) (x : RX)
  | bld (d : Pos) (zs : List D) (ps : List (Nat × Nat × RX))
  | bsl (d : Pos) (z len : Nat) (zs : List D) (ps : List (Nat × Nat × RX))
  | ld1 (d : Pos) (x : RX)
  | ldn (d : Pos) (x : RX) (n : Nat)
  | st (x y : RX) (n : Nat)
  | nilc (d : Pos) (x : RX)
  | bin (d : Pos) (op : BinOp) (x y : RX)
  | eq (d : Pos) (neg : Bool) (tk : Nat) (x y : RX)
  | eqr (d : Pos) (neg : Bool) (ks : List LK) (x y : RX)
  | un (d : Pos) (op : UnOp) (x : RX)
  | cvi (d : Pos) (k : IntKind) (x : RX)
  | fnl (d : Pos) (f : Pos) (first caps : List RX)
  | mkm (d : Pos)
  | mks (d : Pos) (z : Nat) (zs : List D) (l c : RX)
  | slc (d : Pos) (z : Nat) (x : RX) (lo hi mx : Option RX)
  | sla (d : Pos) (n z : Nat) (x : RX) (lo hi mx : Option RX)
  | fad (d : Pos) (x : RX) (off : Nat)
  | fld (d : Pos) (x : RX) (off n : Nat) (row : Bool)
  | ixs (d : Pos) (z : Nat) (x i : RX)
  | ixa (d : Pos) (n z : Nat) (x i : RX)
  | ext (d : Pos) (x : RX) (n : Nat)
  | len (d : Pos) (x : RX)
  | app (d : Pos) (z : Nat) (x y : RX)
  | cpy (d : Option Pos) (z : Nat) (x y : RX)
  | mx (d : Pos) (x y : RX)
  | mn (d : Pos) (x y : RX)
  | lkp (d : Pos) (zero : D) (ok : Bool) (ks : List LK) (x i : RX)
  | mup (ks : List LK) (x i v : RX)
  | ixv (d : Pos) (len z : Nat) (row : Bool) (x i : RX)
  | ixt (d : Pos) (x i : RX)
  | cf (d : Option Pos) (f : Pos) (xs : List RX)
  | cv (d : Option Pos) (x : RX) (xs : List RX)
  | bad

inductive RG where
  | u (r : RO)
  | g (p : Pos) (want : Bool) (d : Option Pos) (r : RO)

inductive RC where
  | skip
  | ret
  | exit (id : Nat)
  | reg (ops : List RG)
  | drw (ops : List RG) (ms : List Nat)
  | seq (a b : RC)
  | cond (c : RX) (a b : RC)
  | blk (id : Nat) (a : RC)
  | loop (a : RC)
  | rf (f : RX) (ps : List Pos) (nt : Nat) (asg body : Code)

inductive RR where
  | t (p : Pos)
  | c1 (p : Pos)
  | cn (p : Pos) (n : Nat)

structure RF where
  nt : Nat
  body : RC
  res : List RR
  kn : Option D
def RX.ss : RX → List Pos
  | .t p => [p]
  | .k _ => []
def RX.sss : List RX → List Pos
  | [] => []
  | x :: l => x.ss ++ sss l
def RX.sso : Option RX → List Pos
  | none => []
  | some x => x.ss
def RX.ssp : List (Nat × Nat × RX) → List Pos
  | [] => []
  | p :: l => p.2.2.ss ++ ssp l
def RO.ss : RO → List Pos
  | .mv _ x => x.ss
  | .pick _ c x y => c.ss ++ (x.ss ++ y.ss)
  | .new _ _ => []
  | .box _ x => x.ss
  | .bld _ _ ps => RX.ssp ps
  | .bsl _ _ _ _ ps => RX.ssp ps
  | .ld1 _ x => x.ss
  | .ldn _ x _ => x.ss
  | .st x y _ => x.ss ++ y.ss
  | .nilc _ x => x.ss
  | .bin _ _ x y => x.ss ++ y.ss
  | .eq _ _ _ x y => x.ss ++ y.ss
  | .eqr _ _ _ x y => x.ss ++ y.ss
  | .un _ _ x => x.ss
  | .cvi _ _ x => x.ss
  | .fnl _ _ a b => RX.sss a ++ RX.sss b
  | .mkm _ => []
  | .mks _ _ _ l c => l.ss ++ c.ss
  | .slc _ _ x lo hi m => x.ss ++ (RX.sso lo ++ (RX.sso hi ++ RX.sso m))
  | .sla _ _ _ x lo hi m => x.ss ++ (RX.sso lo ++ (RX.sso hi ++ RX.sso m))
  | .fad _ x _ => x.ss
  | .fld _ x _ _ _ => x.ss
  | .ixs _ _ x i => x.ss ++ i.ss
  | .ixa _ _ _ x i => x.ss ++ i.ss
  | .ext _ x _ => x.ss
  | .len _ x => x.ss
  | .app _ _ x y => x.ss ++ y.ss
  | .cpy _ _ x y => x.ss ++ y.ss
  | .mx _ x y => x.ss ++ y.ss
  | .mn _ x y => x.ss ++ y.ss
  | .lkp _ _ _ _ x i => x.ss ++ i.ss
  | .mup _ x i v => x.ss ++ (i.ss ++ v.ss)
  | .ixv _ _ _ _ x i => x.ss ++ i.ss
  | .ixt _ x i => x.ss ++ i.ss
  | .cf _ _ xs => RX.sss xs
  | .cv _ x xs => x.ss ++ RX.sss xs
  | .bad => []

def RG.ss : RG → List Pos
  | .u r => r.ss
  | .g p _ _ r => p :: r.ss


/-! ### the order of a region that draws -/
def bitOf (m i : Nat) : Bool := Nat.beq (Nat.land (Nat.shiftRight m i) 1) 1
def memN (d : Nat) : List Nat → Bool
  | [] => false
  | e :: l => bif Nat.beq d e then true else memN d l
def memO (d : Option Nat) (l : List Nat) : Bool :=
  match d with
  | none => false
  | some d => memN d l
abbrev Fp := List Nat × Option Nat
def noConf (a b : Fp) : Bool := bif memO b.2 a.1 then false else bif memO a.2 b.1 then false else true
def nthN : List Nat → Nat → Nat
  | [], _ => 0
  | x :: _, 0 => x
  | _ :: l, n + 1 => nthN l n
def maskOf (M : List Nat) : List Edge → Nat
  | [] => 0
  | e :: es => bif Region.binds .any e then Nat.lor (Nat.lor (Nat.shiftLeft 1 e.on) (nthN M e.on)) (maskOf M es) else maskOf M es
def masksL (M : List Nat) : List Oper → List Nat
  | [] => M
  | o :: os => masksL (M ++ [maskOf M o.after.toList]) os
def edgesOk (j : Nat) : List Edge → Bool
  | [] => true
  | e :: es => bif Region.binds .any e then (bif Nat.blt e.on j then edgesOk j es else false) else edgesOk j es
def masksOk (M : List Nat) : Nat → List Oper → Bool
  | _, [] => true
  | j, o :: os => bif edgesOk j o.after.toList then (bif Nat.beq (nthN M j) (maskOf M o.after.toList) then masksOk M (Nat.succ j) os else false) else false
def pairsFrom (M : List Nat) (x : Fp) (i : Nat) : Nat → List Fp → Bool
  | _, [] => true
  | j, y :: l => bif bitOf (nthN M j) i then pairsFrom M x i (Nat.succ j) l else bif noConf x y then pairsFrom M x i (Nat.succ j) l else false
def pairsOk (M : List Nat) : Nat → List Fp → Bool
  | _, [] => true
  | i, x :: l => bif pairsFrom M x i (Nat.succ i) l then pairsOk M (Nat.succ i) l else false
def consO (d : Option Nat) (l : List Nat) : List Nat :=
  match d with
  | none => l
  | some d => d :: l
def fps : List RG → List Oper → List Fp
  | g :: gs, o :: os => (consO o.dst (g.ss.map Pos.ix), o.dst) :: fps gs os
  | _, _ => []
end Go.Ev
