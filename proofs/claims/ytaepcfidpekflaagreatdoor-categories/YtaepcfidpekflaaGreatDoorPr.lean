/-
  PLAIN LEAN, no program in it: what the program makes of rules (P5, P6): words, the functions that the words become. By the verifier.
-/
import Derived.Test.YtaepcfidpekflaaGreatDoorPn
namespace Go.Proofs.YtaepcfidpekflaaGreatDoor.Pr

abbrev T := List UInt8
/-- What a number's digits (ahead of the point, behind it) make of a rule. -/
abbrev Sem := T → T → Bool
/-- An operand: what is ahead of the point, and is there more than noughts behind it. -/
abbrev Opd := T → T → Nat × Bool
abbrev Rd := List T → Option (Sem × List T)

def val (l : T) : Nat := l.foldl (fun v c => 10 * v + (c.toNat - 48)) 0
/-- Without the noughts at its end. -/
def shortR (l : T) : T := (l.reverse.dropWhile (· == 48)).reverse
def fig (t : T) : Option Nat := if Pn.digitsB t = true ∧ t.length ≤ 9 ∧ (t.length = 1 ∨ t.head? ≠ some 48) then some (val t) else none
def value : List T → Option (Nat × List T)
  | [] => none
  | t :: r => match fig t with
    | none => none
    | some v => some (v, r)

def opd (t : T) : Option Opd :=
  if t = [110] then some fun a b => (val a, !(shortR b).isEmpty)
  else if t = [105] then some fun a _ => (val a, false)
  else if t = [118] then some fun _ b => (b.length, false)
  else if t = [119] then some fun _ b => ((shortR b).length, false)
  else if t = [102] then some fun _ b => (val b, false)
  else if t = [116] then some fun _ b => (val (shortR b), false)
  else none

def modS (o : Opd) (m : Nat) : Opd := fun a b => ((o a b).1 % m, (o a b).2)
def spanS (o : Opd) (lo hi : Nat) : Sem := fun a b => !(o a b).2 && decide (lo ≤ (o a b).1) && decide ((o a b).1 ≤ hi)
def stretchS (o : Opd) (lo hi : Nat) : Sem := fun a b => decide (lo ≤ (o a b).1) && (decide ((o a b).1 < hi) || decide ((o a b).1 = hi) && !(o a b).2)
def turnS (f : Sem) (n : Bool) : Sem := fun a b => f a b != n
def orS (f g : Sem) : Sem := fun a b => f a b || g a b
def andS (f g : Sem) : Sem := fun a b => f a b && g a b

def inS (o : Opd) (within : Bool) (lo hi : Nat) : Sem := if within then stretchS o lo hi else spanS o lo hi

def rowGo (mem : Rd) (sep : T) (jn : Sem → Sem → Sem) : Nat → Sem → Rd
  | 0, f, l => some (f, l)
  | _ + 1, f, [] => some (f, [])
  | k + 1, f, t :: l => if t = sep then match mem l with
      | none => none
      | some (g, r) => rowGo mem sep jn k (jn f g) r
    else some (f, t :: l)
def rowP (mem : Rd) (sep : T) (jn : Sem → Sem → Sem) : Rd := fun l => match mem l with
  | none => none
  | some (f, r) => rowGo mem sep jn r.length f r

/-- A V, and what follows it. -/
def valueP (k : Nat → Rd) : Rd := fun l => match value l with
  | none => none
  | some (v, r) => k v r
def itemK (o : Opd) (within : Bool) (lo : Nat) : Rd
  | [] => some (inS o within lo lo, [])
  | t :: r => if t = [46, 46] then valueP (fun hi l => if hi < lo then none else some (inS o within lo hi, l)) r
    else some (inS o within lo lo, t :: r)
def itemP (o : Opd) (within : Bool) : Rd := valueP (itemK o within)
def listP (o : Opd) (n within : Bool) : Rd := fun l => match rowP (itemP o within) [44] orS l with
  | none => none
  | some (f, r) => some (turnS f n, r)
def isP (o : Opd) (n : Bool) : Rd := valueP fun v l => some (turnS (spanS o v v) n, l)
def isN (o : Opd) : Rd
  | [] => none
  | u :: l => if u = [110, 111, 116] then isP o true l else isP o false (u :: l)
def inN (o : Opd) (n : Bool) : Rd
  | [] => none
  | u :: l => if u = [105, 110] then listP o n false l else if u = [119, 105, 116, 104, 105, 110] then listP o n true l else none
def howP (o : Opd) : Rd
  | [] => none
  | t :: l => if t = [61] then listP o false false l
    else if t = [33, 61] then listP o true false l
    else if t = [105, 115] then isN o l
    else if t = [110, 111, 116] then inN o true l
    else inN o false (t :: l)
def modP (o : Opd) : Rd
  | [] => none
  | u :: l => if u = [109, 111, 100] ∨ u = [37] then valueP (fun m r => if m = 0 then none else howP (modS o m) r) l else howP o (u :: l)
def relP : Rd
  | [] => none
  | t :: l => match opd t with
    | none => none
    | some o => modP o l
def andP : Rd := rowP relP [97, 110, 100] andS
def orP : Rd := rowP andP [111, 114] orS
/-- A whole condition of words. -/
def condP (l : List T) : Option Sem := match orP l with
  | some (f, []) => some f
  | _ => none

def isLet (c : UInt8) : Bool := decide (97 ≤ c.toNat ∧ c.toNat ≤ 122)
/-- How many bytes the first part has. -/
def partLen : T → Nat
  | [] => 0
  | c :: r => if isLet c then ((c :: r).takeWhile isLet).length
    else if Pn.isDig c then ((c :: r).takeWhile Pn.isDig).length
    else if c = 33 ∧ r.head? = some 61 ∨ c = 46 ∧ r.head? = some 46 then 2
    else if c = 32 ∨ c = 61 ∨ c = 37 ∨ c = 44 then 1 else 0
def splitGo : Nat → T → Option (List T)
  | _, [] => some []
  | 0, _ :: _ => none
  | k + 1, c :: r => if partLen (c :: r) = 0 then none else match splitGo k ((c :: r).drop (partLen (c :: r))) with
    | none => none
    | some l => some (if c = 32 then l else (c :: r).take (partLen (c :: r)) :: l)
/-- The words, numbers and signs of a text. -/
def toks (l : T) : Option (List T) := splitGo l.length l
/-- What a When becomes. -/
def whenP (l : T) : Option Sem := if 200 < l.length then none else match toks (Lib.cut l [64]).1 with
  | none => none
  | some ts => condP ts
def catB (n : T) : Bool := n = [122, 101, 114, 111] ∨ n = [111, 110, 101] ∨ n = [116, 119, 111] ∨ n = [102, 101, 119] ∨ n = [109, 97, 110, 121]
/-- What rules (behind others whose names are seen) become. -/
def rulesP (seen : List T) : List (T × T) → Option (List (T × Sem))
  | [] => some []
  | (n, s) :: r => if n ∈ seen ∨ catB n = false then none else match whenP s with
    | none => none
    | some f => match rulesP (seen ++ [n]) r with
      | none => none
      | some l => some ((n, f) :: l)
def sortP (a b : T) : List (T × Sem) → T
  | [] => [111, 116, 104, 101, 114]
  | (n, f) :: r => if f a b then n else sortP a b r
end Go.Proofs.YtaepcfidpekflaaGreatDoor.Pr
