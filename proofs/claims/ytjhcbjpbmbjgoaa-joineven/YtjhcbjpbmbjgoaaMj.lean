/- Merging over all choices: what the map counts. -/
import Derived.Test.YtjhcbjpbmbjgoaaJ1
import Derived.Test.YtjhcbjpbmbjgoaaMk6
import Derived.Test.YtjhcbjpbmbjgoaaXe
namespace Go.Proofs.Ytjhcbjpbmbjgoaa

/-- The bases all, all - 1, .. -/
def basJ (all : Nat) : Nat → List Nat
  | 0 => []
  | k + 1 => basJ all k ++ [all - k]
def waysJ (all : Nat) : Nat → Nat
  | 0 => 1
  | k + 1 => waysJ all k * (all - k)
/-- How many are left, how many each has, out of how many was chosen, in how many ways. -/
structure OS where
  na : Nat
  nb : Nat
  ha : Nat
  hb : Nat
  own : List Nat
  many : Nat
def OS.step (s : OS) (d : Nat) : OS := if s.na ≤ d then ⟨s.na, s.nb - 1, s.ha, s.hb - 1, s.own ++ [s.hb], s.many * s.hb⟩ else ⟨s.na - 1, s.nb, s.ha - 1, s.hb, s.own ++ [s.ha], s.many * s.ha⟩
def dsJ (R n m X : Nat) : List Nat := mixN X (basJ (n + m) R)
def stJ (R n m X k : Nat) : OS := ((dsJ R n m X).take k).foldl OS.step ⟨n, m, min R n, min R m, [], 1⟩
/-- What is asked of a state: it goes on without going below 0. -/
def OS.ok (s : OS) (d : Nat) : Bool := if s.na ≤ d then decide (1 ≤ s.nb) && decide (1 ≤ s.hb) else decide (1 ≤ s.na) && decide (1 ≤ s.ha)
def OS.fit (s : OS) : Bool := decide (s.na ≤ 5) && decide (s.nb ≤ 5) && decide (s.ha ≤ 5) && decide (s.hb ≤ 5) && decide (1 ≤ s.many) && decide (s.many ≤ 25) && s.own.all (fun o => decide (1 ≤ o) && decide (o ≤ 5))
def xsJ (R n : Nat) : List (List Nat) := eall (min R n) n
def ysJ (R n m : Nat) : List (List Nat) := (eall (min R m) m).map (fun y => y.map (fun z => n + z))
def polJ (R n m : Nat) (x y : List Nat) (X Y : Nat) : Res := poolsR R n (inN x) R m (inN y) (inN (dsJ R n m X)) (inN (mixN Y (stJ R n m X R).own))
def resJ (R n m : Nat) (x y : List Nat) (X Y : Nat) : List Nat := (polJ R n m x y X Y).1.2.2.map Int.toNat
/-- What the map is told, the latest first: a set and a weight. -/
def uY (R n m : Nat) (x y : List Nat) (X : Nat) : Nat → List (Nat × Nat) → List (Nat × Nat)
  | 0, S => S
  | Y + 1, S => (setN (resJ R n m x y X Y), 720720 / (stJ R n m X R).many) :: uY R n m x y X Y S
def uX (R n m : Nat) (x y : List Nat) : Nat → List (Nat × Nat) → List (Nat × Nat)
  | 0, S => S
  | X + 1, S => uY R n m x y X (stJ R n m X R).many (uX R n m x y X S)
def uB (R n m : Nat) (x : List Nat) : Nat → List (Nat × Nat) → List (Nat × Nat)
  | 0, S => S
  | j + 1, S => uX R n m x ((ysJ R n m).getD j []) (waysJ (n + m) R) (uB R n m x j S)
def uA (R n m : Nat) : Nat → List (Nat × Nat)
  | 0 => []
  | i + 1 => uB R n m ((xsJ R n).getD i []) (ysJ R n m).length (uA R n m i)
def wsum : List (Nat × Nat) → Nat → Nat
  | [], _ => 0
  | p :: r, s => if p.1 = s then p.2 + wsum r s else wsum r s
/-- The same, element by element, for the kernel. -/
def chkP (R n m : Nat) (x y : List Nat) (X Y : Nat) : Bool := decide (polJ R n m x y X Y = (((R : Int), ((n + m : Nat) : Int), inN (resJ R n m x y X Y)), 0)) && (resJ R n m x y X Y).all (fun z => decide (z < 5))
def chkX (R n m X : Nat) : Bool := ((List.range R).all fun k => (stJ R n m X k).ok ((dsJ R n m X).getD k 0)) && (List.range (R + 1)).all fun k => (stJ R n m X k).fit
def chkA (R n m : Nat) : Bool := ((List.range (waysJ (n + m) R)).all fun X => chkX R n m X && (xsJ R n).all fun x => (ysJ R n m).all fun y => (List.range (stJ R n m X R).many).all fun Y => chkP R n m x y X Y) && decide (waysJ (n + m) R ≤ 20)
def chkC (R n m : Nat) : Bool :=
  let U := uA R n m (xsJ R n).length
  let K := dd (U.map Prod.fst)
  decide (U.length ≤ 1000) && decide (K.length = bc (n + m) R) && K.all (fun s => decide (wsum U s = wsum U (K.headD 0))) && decide ((xsJ R n).length ≤ 20) && decide ((ysJ R n m).length ≤ 20)
end Go.Proofs.Ytjhcbjpbmbjgoaa
