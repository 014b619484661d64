/-
  Several texts in one (Pn, Pr, Ka, Kq). By the verifier.
-/
import Derived.Lib.Strings
import Derived.Lib.IndexMore
import Derived.Lib.TrimByte
import Derived.Lib.Small
namespace Go.Proofs.YtaepcfidpekflaaGreatDoor.Pn

def isDig (c : UInt8) : Bool := decide (48 ≤ c.toNat ∧ c.toNat ≤ 57)
def digitsB (l : List UInt8) : Bool := !l.isEmpty && l.all isDig
def wholeB (l : List UInt8) : Bool := digitsB l && (l == [48] || l.head? != some 48)
def zeroB (l : List UInt8) : Bool := l.all (· == 48)
/-- Is it a number: m: with a minus; a, b: the digits ahead of the point and behind it; p: with a point. -/
def okB (m : Bool) (a b : List UInt8) (p : Bool) : Bool :=
  decide (a.length + b.length ≤ 30) && wholeB a && (!p || digitsB b) && !(m && zeroB a && zeroB b)

def minusOf (l : List UInt8) : Bool := Lib.hasPrefix l [45]
def restOf (l : List UInt8) : List UInt8 := Lib.trimPrefix l [45]
def aOf (l : List UInt8) : List UInt8 := (Lib.cut (restOf l) [46]).1
def bOf (l : List UInt8) : List UInt8 := (Lib.cut (restOf l) [46]).2.1
def pOf (l : List UInt8) : Bool := (Lib.cut (restOf l) [46]).2.2
def isNum (l : List UInt8) : Bool := okB (minusOf l) (aOf l) (bOf l) (pOf l)

theorem cut_spec (l : List UInt8) : ((Lib.cut l [46]).2.2 = true ∧ l = (Lib.cut l [46]).1 ++ 46 :: (Lib.cut l [46]).2.1 ∧ 46 ∉ (Lib.cut l [46]).1)
    ∨ ((Lib.cut l [46]).2.2 = false ∧ (Lib.cut l [46]).1 = l ∧ (Lib.cut l [46]).2.1 = [] ∧ 46 ∉ l) := by
  rcases Lib.index_spec l [46] with ⟨h1, h2⟩ | ⟨i, h1, h2, h3, h4⟩
  · right
    have : ¬ (0 ≤ Lib.index l [46]) := by omega
    simp only [Lib.cut, if_neg this, true_and]
    intro hm
    obtain ⟨j, hj, he⟩ := List.getElem_of_mem hm
    have := h2 j (by omega)
    rw [Lib.occAt, List.drop_eq_getElem_cons hj, he] at this
    simp [List.isPrefixOf] at this
  · left
    have h0 : (0 : Int) ≤ Lib.index l [46] := by omega
    have hi : (Lib.index l [46]).toNat = i := by omega
    simp only [Lib.cut, if_pos h0, hi, true_and]
    have hlt : i < l.length := by
      rcases Nat.lt_or_ge i l.length with h | h
      · exact h
      · rw [Lib.occAt, List.drop_eq_nil_of_le h] at h3; simp [List.isPrefixOf] at h3
    have hget : l[i] = 46 := by
      rw [Lib.occAt, List.drop_eq_getElem_cons hlt] at h3
      have h3' : (46 : UInt8) = l[i] := by simpa [List.isPrefixOf] using h3
      exact h3'.symm
    constructor
    · have := List.take_append_drop i l
      rw [List.drop_eq_getElem_cons hlt, hget] at this
      simpa using this.symm
    · intro hm
      obtain ⟨j, hj, he⟩ := List.getElem_of_mem hm
      have hj' : j < i := by simp at hj; omega
      have := h4 j hj'
      rw [Lib.occAt, List.drop_eq_getElem_cons (by omega)] at this
      rw [List.getElem_take] at he
      simp [List.isPrefixOf, he] at this

theorem minus_spec (l : List UInt8) : (minusOf l = true ∧ l = 45 :: restOf l) ∨ (minusOf l = false ∧ restOf l = l ∧ l.head? ≠ some 45) := by
  unfold minusOf restOf Lib.trimPrefix Lib.hasPrefix
  cases l with
  | nil => right; simp [List.isPrefixOf]
  | cons c r =>
    by_cases h : c = 45
    · left; subst h; simp [List.isPrefixOf]
    · right
      have : ((45 : UInt8) == c) = false := by rw [beq_eq_false_iff_ne]; exact fun e => h e.symm
      simp [List.isPrefixOf, this, h]

theorem isDig_iff (c : UInt8) : isDig c = true ↔ 48 ≤ c.toNat ∧ c.toNat ≤ 57 := by simp [isDig]

/-- The parts of a number: its text again. -/
theorem num_text (l : List UInt8) (h : isNum l = true) :
    l = (if minusOf l then [45] else []) ++ (aOf l ++ ((if bOf l = [] then [] else [46]) ++ bOf l)) := by
  have hk := h
  simp only [isNum, okB, Bool.and_eq_true] at hk
  obtain ⟨⟨⟨_, _⟩, hp⟩, _⟩ := hk
  have hr : restOf l = aOf l ++ ((if bOf l = [] then [] else [46]) ++ bOf l) := by
    rcases cut_spec (restOf l) with ⟨h1, h2, _⟩ | ⟨h1, h2, h3, _⟩
    · have hb : bOf l ≠ [] := by
        intro he
        simp only [pOf, h1, he, digitsB] at hp
        simp at hp
      rw [if_neg hb]
      exact h2
    · have hb : bOf l = [] := h3
      rw [if_pos hb, hb]
      simpa [aOf] using h2.symm
  rcases minus_spec l with ⟨h1, h2⟩ | ⟨h1, h2, _⟩
  · rw [if_pos h1, ← hr]; exact h2
  · rw [if_neg (by rw [h1]; decide), ← hr, h2]; rfl

theorem num_a (l : List UInt8) (h : isNum l = true) : aOf l ≠ [] ∧ ∀ c ∈ aOf l, isDig c = true := by
  simp only [isNum, okB, wholeB, digitsB, Bool.and_eq_true] at h
  obtain ⟨⟨⟨_, ⟨h1, h2⟩, _⟩, _⟩, _⟩ := h
  exact ⟨by simpa using h1, by simpa using h2⟩

theorem num_b (l : List UInt8) (h : isNum l = true) : ∀ c ∈ bOf l, isDig c = true := by
  simp only [isNum, okB, digitsB, Bool.and_eq_true] at h
  obtain ⟨⟨_, hp⟩, _⟩ := h
  rcases cut_spec (restOf l) with ⟨h1, _, _⟩ | ⟨_, _, h3, _⟩
  · have : pOf l = true := h1
    rw [this] at hp
    simp at hp
    exact hp.2
  · have : bOf l = [] := h3
    simp [this]

theorem num_len (l : List UInt8) (h : isNum l = true) : (aOf l).length + (bOf l).length ≤ 30 := by
  simp only [isNum, okB, Bool.and_eq_true, decide_eq_true_eq] at h
  exact h.1.1.1

/-! ### How it is written -/
/-- Does a group end where so many digits are left up to the point? f, n: how long the first one is, and the others. -/
def endsG (f n left : Nat) : Bool := f != 0 && (decide (f ≤ left) && (left - f) % n == 0)

def wWhole (g : List UInt8) (f n : Nat) (dig : UInt8 → List UInt8) : Bool → List UInt8 → List UInt8
  | _, [] => []
  | later, c :: r => (if later && endsG f n (r.length + 1) then g else []) ++ (dig c ++ wWhole g f n dig true r)

def wAll (mi po g : List UInt8) (f n : Nat) (dig : UInt8 → List UInt8) (l : List UInt8) : List UInt8 :=
  (if minusOf l then mi else []) ++ (wWhole g f n dig false (aOf l) ++ ((if bOf l = [] then [] else po) ++ (bOf l).flatMap dig))

/-- The text of a number's parts: pre: the minus, or nothing. -/
def wParts (pre po g : List UInt8) (f n : Nat) (dig : UInt8 → List UInt8) (a b : List UInt8) : List UInt8 :=
  pre ++ (wWhole g f n dig false a ++ ((if b = [] then [] else po) ++ b.flatMap dig))
theorem wAll_parts (mi po g : List UInt8) (f n : Nat) (dig : UInt8 → List UInt8) (l : List UInt8) :
    wParts (if minusOf l then mi else []) po g f n dig (aOf l) (bOf l) = wAll mi po g f n dig l := rfl

theorem wWhole_none (g : List UInt8) (n : Nat) (dig : UInt8 → List UInt8) : ∀ (a : List UInt8) (later : Bool), wWhole g 0 n dig later a = a.flatMap dig
  | [], _ => rfl
  | c :: r, later => by
    rw [wWhole, wWhole_none g n dig r true]
    simp [endsG]

theorem flatMap_self : ∀ a : List UInt8, a.flatMap (fun c => [c]) = a
  | [] => rfl
  | c :: r => by rw [List.flatMap_cons, flatMap_self r]; rfl

/-- Without groups a number is written as it stands. -/
theorem wAll_bare (g : List UInt8) (n : Nat) (l : List UInt8) (h : isNum l = true) : wAll [45] [46] g 0 n (fun c => [c]) l = l := by
  rw [wAll, wWhole_none, flatMap_self, flatMap_self]
  exact (num_text l h).symm

theorem filter_wWhole (f n : Nat) : ∀ (a : List UInt8) (later : Bool), (∀ c ∈ a, isDig c = true) → (wWhole [44] f n (fun c => [c]) later a).filter (fun c => c != 44) = a
  | [], _, _ => rfl
  | c :: r, later, h => by
    have hc : (c != 44) = true := by
      have := (isDig_iff c).1 (h c (by simp))
      rw [bne_iff_ne]; intro e; rw [e] at this; revert this; decide
    rw [wWhole, List.filter_append, List.filter_append, filter_wWhole f n r true (fun x hx => h x (by simp [hx]))]
    split <;> simp [hc]

theorem filter_dig (b : List UInt8) (h : ∀ c ∈ b, isDig c = true) : b.filter (fun c => c != 44) = b := by
  rw [List.filter_eq_self]
  intro c hc
  have := (isDig_iff c).1 (h c hc)
  rw [bne_iff_ne]; intro e; rw [e] at this; revert this; decide

/-- Without its groups' signs it is as it stands. -/
theorem wAll_without (f n : Nat) (l : List UInt8) (h : isNum l = true) : (wAll [45] [46] [44] f n (fun c => [c]) l).filter (fun c => c != 44) = l := by
  rw [wAll, List.filter_append, List.filter_append, List.filter_append, filter_wWhole f n _ _ (num_a l h).2, flatMap_self, filter_dig _ (num_b l h)]
  conv => rhs; rw [num_text l h]
  split <;> split <;> simp

/-- How many signs stand ahead of digits, where each of k digits may bear one. -/
def many (f n k : Nat) : Nat := if f = 0 ∨ k < f then 0 else (k - f) / n + 1

theorem many_succ (f n k : Nat) (hn : 1 ≤ n) (hn9 : n ≤ 9) : many f n (k + 1) = many f n k + if endsG f n (k + 1) then 1 else 0 := by
  unfold many endsG
  by_cases hf : f = 0
  · simp [hf]
  · by_cases h1 : k + 1 < f
    · have : ¬ f ≤ k + 1 := by omega
      have h2 : k < f := by omega
      simp [h1, h2, this]
    · by_cases h2 : k < f
      · have : k + 1 - f = 0 := by omega
        have h3 : f ≤ k + 1 := by omega
        simp [hf, h1, h2, this, h3]
      · have h3 : f ≤ k + 1 := by omega
        have e : k + 1 - f = (k - f) + 1 := by omega
        simp only [hf, h1, h2, or_self, if_false, e, h3]
        generalize k - f = d
        have hb : (f != 0) = true := by simp [hf]
        simp only [hb, Bool.true_and, decide_true, beq_iff_eq]
        have : n = 1 ∨ n = 2 ∨ n = 3 ∨ n = 4 ∨ n = 5 ∨ n = 6 ∨ n = 7 ∨ n = 8 ∨ n = 9 := by omega
        rcases this with rfl | rfl | rfl | rfl | rfl | rfl | rfl | rfl | rfl <;> split <;> omega

theorem count_wWhole (f n : Nat) (hn : 1 ≤ n) (hn9 : n ≤ 9) : ∀ (a : List UInt8), (∀ c ∈ a, isDig c = true) → (wWhole [44] f n (fun c => [c]) true a).count 44 = many f n a.length
  | [], _ => by
    unfold many wWhole
    by_cases hf : f = 0
    · simp [hf]
    · have : 0 < f := by omega
      simp [this]
  | c :: r, h => by
    have hc : ¬ c = 44 := by
      have := (isDig_iff c).1 (h c (by simp))
      intro e; rw [e] at this; revert this; decide
    rw [wWhole, List.count_append, List.count_append, count_wWhole f n hn hn9 r (fun x hx => h x (by simp [hx])), List.length_cons, many_succ f n _ hn hn9]
    have : ([c] : List UInt8).count 44 = 0 := by simp [hc]
    rw [this, Bool.true_and]
    split <;> simp <;> omega

theorem count_dig (b : List UInt8) (h : ∀ c ∈ b, isDig c = true) : b.count 44 = 0 := by
  rw [List.count_eq_zero]
  intro hm
  have := (isDig_iff 44).1 (h 44 hm)
  revert this; decide

/-- How many groups' signs stand in a number of d digits ahead of the point. -/
theorem wAll_count (f n : Nat) (hn : 1 ≤ n) (hn9 : n ≤ 9) (l : List UInt8) (h : isNum l = true) :
    (wAll [45] [46] [44] f n (fun c => [c]) l).count 44 = many f n ((aOf l).length - 1) := by
  obtain ⟨ha, hd⟩ := num_a l h
  rw [wAll, List.count_append, List.count_append, List.count_append, flatMap_self, count_dig _ (num_b l h)]
  have h1 : (if minusOf l then ([45] : List UInt8) else []).count 44 = 0 := by split <;> decide
  have h2 : (if bOf l = [] then ([] : List UInt8) else [46]).count 44 = 0 := by split <;> decide
  rw [h1, h2]
  cases ha' : aOf l with
  | nil => exact absurd ha' ha
  | cons c r =>
    rw [ha'] at hd
    have hc : ¬ c = 44 := by
      have := (isDig_iff c).1 (hd c (by simp))
      intro e; rw [e] at this; revert this; decide
    rw [wWhole, List.count_append, List.count_append, count_wWhole f n hn hn9 r (fun x hx => hd x (by simp [hx]))]
    simp [hc]

/-- No groups: no signs. -/
theorem wAll_count0 (n : Nat) (l : List UInt8) (h : isNum l = true) : (wAll [45] [46] [44] 0 n (fun c => [c]) l).count 44 = 0 := by
  rw [wAll_bare _ _ _ h, num_text l h, List.count_append, List.count_append, List.count_append, count_dig _ (num_b l h), count_dig _ (num_a l h).2]
  split <;> split <;> decide

/-- How long the groups of a locale are: 0: there are none. -/
def firstOf (g : Int) (f : Nat) : Nat := if g = 0 ∨ f = 0 then 0 else f
def nextOf (g : Int) (f n : Nat) : Nat := if g = 0 ∨ f = 0 then 0 else if n = 0 then f else n

/-- Are Minus, Point and Group right? -/
def signsB (mi po g : Int) : Bool := decide (mi ≠ 0) && Lib.validRune mi && decide (po ≠ 0) && Lib.validRune po && Lib.validRune g
/-- The code point that stands for a digit, of ten. -/
def digAt (ds : List Int) (c : UInt8) : Int := ds.getD (c.toNat - 48) 0
end Go.Proofs.YtaepcfidpekflaaGreatDoor.Pn
namespace Go.Proofs.YtaepcfidpekflaaGreatDoor.Pr

abbrev T := List UInt8
/-- What a number's digits (ahead of the point, behind it) make of a rule. -/
abbrev Sem := T → T → Bool
/-- An operand: what is ahead of the point, and is there more than noughts behind it. -/
abbrev Opd := T → T → Nat × Bool
abbrev Rd := List T → Option (Sem × List T)

def val (l : T) : Nat := l.foldl (fun v c => 10 * v + (c.toNat - 48)) 0
/-- Without the noughts at its end. -/
def shortR (l : T) : T := (l.reverse.dropWhile (· == 48)).reverse
def fig (t : T) : Option Nat := if Pn.digitsB t = true ∧ t.length ≤ 9 ∧ (t.length = 1 ∨ t.head? ≠ some 48) then some (val t) else none
def value : List T → Option (Nat × List T)
  | [] => none
  | t :: r => match fig t with
    | none => none
    | some v => some (v, r)

def opd (t : T) : Option Opd :=
  if t = [110] then some fun a b => (val a, !(shortR b).isEmpty)
  else if t = [105] then some fun a _ => (val a, false)
  else if t = [118] then some fun _ b => (b.length, false)
  else if t = [119] then some fun _ b => ((shortR b).length, false)
  else if t = [102] then some fun _ b => (val b, false)
  else if t = [116] then some fun _ b => (val (shortR b), false)
  else none

def modS (o : Opd) (m : Nat) : Opd := fun a b => ((o a b).1 % m, (o a b).2)
def spanS (o : Opd) (lo hi : Nat) : Sem := fun a b => !(o a b).2 && decide (lo ≤ (o a b).1) && decide ((o a b).1 ≤ hi)
def stretchS (o : Opd) (lo hi : Nat) : Sem := fun a b => decide (lo ≤ (o a b).1) && (decide ((o a b).1 < hi) || decide ((o a b).1 = hi) && !(o a b).2)
def turnS (f : Sem) (n : Bool) : Sem := fun a b => f a b != n
def orS (f g : Sem) : Sem := fun a b => f a b || g a b
def andS (f g : Sem) : Sem := fun a b => f a b && g a b

def inS (o : Opd) (within : Bool) (lo hi : Nat) : Sem := if within then stretchS o lo hi else spanS o lo hi

def rowGo (mem : Rd) (sep : T) (jn : Sem → Sem → Sem) : Nat → Sem → Rd
  | 0, f, l => some (f, l)
  | _ + 1, f, [] => some (f, [])
  | k + 1, f, t :: l => if t = sep then match mem l with
      | none => none
      | some (g, r) => rowGo mem sep jn k (jn f g) r
    else some (f, t :: l)
def rowP (mem : Rd) (sep : T) (jn : Sem → Sem → Sem) : Rd := fun l => match mem l with
  | none => none
  | some (f, r) => rowGo mem sep jn r.length f r

/-- A V, and what follows it. -/
def valueP (k : Nat → Rd) : Rd := fun l => match value l with
  | none => none
  | some (v, r) => k v r
def itemK (o : Opd) (within : Bool) (lo : Nat) : Rd
  | [] => some (inS o within lo lo, [])
  | t :: r => if t = [46, 46] then valueP (fun hi l => if hi < lo then none else some (inS o within lo hi, l)) r
    else some (inS o within lo lo, t :: r)
def itemP (o : Opd) (within : Bool) : Rd := valueP (itemK o within)
def listP (o : Opd) (n within : Bool) : Rd := fun l => match rowP (itemP o within) [44] orS l with
  | none => none
  | some (f, r) => some (turnS f n, r)
def isP (o : Opd) (n : Bool) : Rd := valueP fun v l => some (turnS (spanS o v v) n, l)
def isN (o : Opd) : Rd
  | [] => none
  | u :: l => if u = [110, 111, 116] then isP o true l else isP o false (u :: l)
def inN (o : Opd) (n : Bool) : Rd
  | [] => none
  | u :: l => if u = [105, 110] then listP o n false l else if u = [119, 105, 116, 104, 105, 110] then listP o n true l else none
def howP (o : Opd) : Rd
  | [] => none
  | t :: l => if t = [61] then listP o false false l
    else if t = [33, 61] then listP o true false l
    else if t = [105, 115] then isN o l
    else if t = [110, 111, 116] then inN o true l
    else inN o false (t :: l)
def modP (o : Opd) : Rd
  | [] => none
  | u :: l => if u = [109, 111, 100] ∨ u = [37] then valueP (fun m r => if m = 0 then none else howP (modS o m) r) l else howP o (u :: l)
def relP : Rd
  | [] => none
  | t :: l => match opd t with
    | none => none
    | some o => modP o l
def andP : Rd := rowP relP [97, 110, 100] andS
def orP : Rd := rowP andP [111, 114] orS
/-- A whole condition of words. -/
def condP (l : List T) : Option Sem := match orP l with
  | some (f, []) => some f
  | _ => none

def isLet (c : UInt8) : Bool := decide (97 ≤ c.toNat ∧ c.toNat ≤ 122)
/-- How many bytes the first part has. -/
def partLen : T → Nat
  | [] => 0
  | c :: r => if isLet c then ((c :: r).takeWhile isLet).length
    else if Pn.isDig c then ((c :: r).takeWhile Pn.isDig).length
    else if c = 33 ∧ r.head? = some 61 ∨ c = 46 ∧ r.head? = some 46 then 2
    else if c = 32 ∨ c = 61 ∨ c = 37 ∨ c = 44 then 1 else 0
def splitGo : Nat → T → Option (List T)
  | _, [] => some []
  | 0, _ :: _ => none
  | k + 1, c :: r => if partLen (c :: r) = 0 then none else match splitGo k ((c :: r).drop (partLen (c :: r))) with
    | none => none
    | some l => some (if c = 32 then l else (c :: r).take (partLen (c :: r)) :: l)
/-- The words, numbers and signs of a text. -/
def toks (l : T) : Option (List T) := splitGo l.length l
/-- What a When becomes. -/
def whenP (l : T) : Option Sem := if 200 < l.length then none else match toks (Lib.cut l [64]).1 with
  | none => none
  | some ts => condP ts
def catB (n : T) : Bool := n = [122, 101, 114, 111] ∨ n = [111, 110, 101] ∨ n = [116, 119, 111] ∨ n = [102, 101, 119] ∨ n = [109, 97, 110, 121]
/-- What rules (behind others whose names are seen) become. -/
def rulesP (seen : List T) : List (T × T) → Option (List (T × Sem))
  | [] => some []
  | (n, s) :: r => if n ∈ seen ∨ catB n = false then none else match whenP s with
    | none => none
    | some f => match rulesP (seen ++ [n]) r with
      | none => none
      | some l => some ((n, f) :: l)
def sortP (a b : T) : List (T × Sem) → T
  | [] => [111, 116, 104, 101, 114]
  | (n, f) :: r => if f a b then n else sortP a b r
end Go.Proofs.YtaepcfidpekflaaGreatDoor.Pr
namespace Go.Proofs.YtaepcfidpekflaaGreatDoor.Dk

abbrev T := List UInt8
/-- A mark of a pattern. -/
structure Mark where
  kind : UInt8
  text : T := []
  name : T := []
  how : T := []
  offset : T := []
  at_ : Nat := 0
/-- Where the scan stands. -/
structure Sc where
  i : Nat
  out : List Mark
  opens : List Bool
  err : Nat
  place : Nat
def Sc.fault (x : Sc) (e p : Nat) : Sc := if x.err = 0 then { x with err := e, place := p } else x
def Sc.byNumber (x : Sc) : Bool := x.opens.getLastD false
/-- A text more, joined to the one ahead. -/
def addText (out : List Mark) (t : T) : List Mark := match out.getLast? with
  | some m => if m.kind = 116 then out.dropLast ++ [{ m with text := m.text ++ t }] else out ++ [{ kind := 116, text := t }]
  | none => [{ kind := 116, text := t }]
def Sc.say (x : Sc) (t : T) : Sc := if t = [] then x else { x with out := addText x.out t }
def Sc.put (x : Sc) (m : Mark) : Sc := { x with out := x.out ++ [m] }
def Sc.go (x : Sc) (n : Nat) : Sc := { x with i := x.i + n }
def isBlk (c : UInt8) : Bool := c == 32 || c == 9 || c == 10 || c == 13
def Sc.blanks (s : T) (x : Sc) : Sc := x.go ((s.drop x.i).takeWhile isBlk).length
def isAlpha (c : UInt8) : Bool := decide (97 ≤ c.toNat ∧ c.toNat ≤ 122) || decide (65 ≤ c.toNat ∧ c.toNat ≤ 90) || c == 95
/-- How many bytes ahead are a name, n of them being behind. -/
def namedGo (n : Nat) : T → Nat
  | [] => n
  | c :: r => if n < 16 ∧ (isAlpha c = true ∨ n ≠ 0 ∧ Pn.isDig c = true) then namedGo (n + 1) r else n
def named (l : T) : Nat := namedGo 0 l
/-- The bytes that stand next. -/
def Sc.next (s : T) (x : Sc) (n : Nat) : T := (s.drop x.i).take n
def Sc.name (s : T) (x : Sc) : Sc := (if named (s.drop x.i) = 0 then x.fault 3 x.i else x).go (named (s.drop x.i))
def Sc.nameT (s : T) (x : Sc) : T := x.next s (named (s.drop x.i))
/-- How many digits ahead are a whole number, n of them being behind; z: the first is a nought. -/
def wholeGo (z : Bool) (n : Nat) : T → Nat
  | [] => n
  | c :: r => if n < 9 ∧ Pn.isDig c = true ∧ ¬ (n = 1 ∧ z = true) then wholeGo z (n + 1) r else n
def wholeN (l : T) : Nat := wholeGo (l.head? == some 48) 0 l
def Sc.whole (s : T) (x : Sc) : Sc := (if wholeN (s.drop x.i) = 0 then x.fault 3 x.i else x).go (wholeN (s.drop x.i))
def Sc.wholeT (s : T) (x : Sc) : T := x.next s (wholeN (s.drop x.i))
def Sc.needs (s : T) (x : Sc) (c : UInt8) : Sc := if s[x.i]? = some c then x.go 1 else x.fault 3 x.i
/-- number, plural, selectordinal, select; 4: none. -/
def knownOf (t : T) : Nat := if t = [110, 117, 109, 98, 101, 114] then 0 else if t = [112, 108, 117, 114, 97, 108] then 1 else if t = [115, 101, 108, 101, 99, 116, 111, 114, 100, 105, 110, 97, 108] then 2 else if t = [115, 101, 108, 101, 99, 116] then 3 else 4
def isCat (t : T) : Bool := Pr.catB t || t == [111, 116, 104, 101, 114]
/-- Behind a selector: its brace. -/
def Sc.opened (s : T) (x : Sc) (num : Bool) (m : Mark) : Sc :=
  let y := x.blanks s
  let z := y.needs s 123
  let z := if 6 < z.opens.length + 2 then z.fault 4 y.i else z
  { z with opens := z.opens ++ [num], out := z.out ++ [m] }
def Sc.branch (s : T) (x : Sc) (num : Bool) : Sc :=
  if x.err ≠ 0 then x
  else if num = true ∧ s[x.i]? = some 61 then ((x.go 1).whole s).opened s num { kind := 91, text := 61 :: (x.go 1).wholeT s, at_ := x.i }
  else
    let y := x.name s
    let y := if num = true ∧ isCat (x.nameT s) = false then y.fault 3 x.i else y
    y.opened s num { kind := 91, text := x.nameT s, at_ := x.i }
def Sc.behind (s : T) (x : Sc) : Sc :=
  let y := ({ x with opens := x.opens.dropLast } : Sc).blanks s
  if s[y.i]? = some 125 then (y.put { kind := 41, at_ := y.i }).go 1 else y.branch s x.byNumber
def offsetW : T := [111, 102, 102, 115, 101, 116, 58]
/-- Behind the word of an argument with branches. -/
def Sc.args (s : T) (x : Sc) (known : Nat) (m : Mark) : Sc :=
  let y := (x.needs s 44).blanks s
  if known < 3 ∧ y.next s 7 = offsetW then
    let z := (y.go 7).blanks s
    let u := (z.whole s).blanks s
    (u.put { m with offset := z.wholeT s }).branch s true
  else (y.put { m with offset := [48] }).branch s (decide (known < 3))
def Sc.brace (s : T) (x : Sc) : Sc :=
  let a := (x.go 1).blanks s
  let b := (a.name s).blanks s
  if b.err ≠ 0 then b
  else if s[b.i]? ≠ some 44 then (b.needs s 125).put { kind := 112, name := a.nameT s, at_ := x.i }
  else
    let c := (b.go 1).blanks s
    let d := c.name s
    let how := c.nameT s
    if knownOf how = 4 then d.fault 3 c.i
    else
      let e := d.blanks s
      if knownOf how = 0 then (e.needs s 125).put { kind := 110, name := a.nameT s, how := how, at_ := x.i }
      else e.args s (knownOf how) { kind := 40, name := a.nameT s, how := how, at_ := x.i }
/-- Within a quote. -/
def Sc.quoteGo (x : Sc) : Nat → T → Sc
  | 0, _ => x
  | k + 1, rest =>
    let a := (Lib.cut rest [39]).1
    let b := (Lib.cut rest [39]).2.1
    let y := (x.say a).go a.length
    if (Lib.cut rest [39]).2.2 = false then y
    else
      let z := y.go 1
      match b with
      | c :: r => if c = 39 then ((z.say [39]).go 1).quoteGo k r else z
      | [] => z
def Sc.apostrophe (s : T) (x : Sc) (num : Bool) : Sc :=
  let y := x.go 1
  match s.drop y.i with
  | [] => y.say [39]
  | c :: r => if c = 39 then (y.go 1).say [39]
    else if c = 123 ∨ c = 125 ∨ c = 35 ∧ num = true then y.quoteGo (r.length + 2) (c :: r)
    else y.say [39]
def Sc.one (s : T) (x : Sc) : Sc :=
  match s[x.i]? with
  | none => x
  | some c =>
    if c = 39 then x.apostrophe s x.byNumber
    else if c = 123 then x.brace s
    else if c = 125 ∧ x.opens = [] then x.fault 3 x.i
    else if c = 125 then ((x.go 1).put { kind := 93 }).behind s
    else if c = 35 ∧ x.byNumber = true then (x.go 1).put { kind := 35 }
    else (x.go 1).say [c]
def marksGo (s : T) : Nat → Sc → Sc
  | 0, x => x
  | k + 1, x => if x.err = 0 ∧ x.i < s.length then marksGo s k (x.one s) else x
def marks (s : T) : Sc :=
  let x := marksGo s s.length { i := 0, out := [], opens := [], err := 0, place := 0 }
  if x.err = 0 ∧ x.opens ≠ [] then x.fault 3 s.length else x
end Go.Proofs.YtaepcfidpekflaaGreatDoor.Dk
namespace Go.Proofs.YtaepcfidpekflaaGreatDoor.Pg
open Go.Proofs.YtaepcfidpekflaaGreatDoor

abbrev T := List UInt8
/-- A message's row of parts, or an argument's row of branches. -/
inductive Tr where
  | nil
  | text (t : T) (r : Tr)
  | sign (r : Tr)
  | simple (n : T) (a : Nat) (r : Tr)
  | num (n : T) (a : Nat) (r : Tr)
  | sel (n : T) (a : Nat) (bs : Tr) (e : Nat) (r : Tr)
  | plu (n : T) (a : Nat) (ord : Bool) (off : T) (bs : Tr) (e : Nat) (r : Tr)
  | br (w : T) (a : Nat) (m : Tr) (r : Tr)
def Tr.app : Tr → Tr → Tr
  | nil, u => u
  | text t r, u => text t (r.app u)
  | sign r, u => sign (r.app u)
  | simple n a r, u => simple n a (r.app u)
  | num n a r, u => num n a (r.app u)
  | sel n a bs e r, u => sel n a bs e (r.app u)
  | plu n a ord off bs e r, u => plu n a ord off bs e (r.app u)
  | br w a m r, u => br w a m (r.app u)
theorem Tr.app_nil (t : Tr) : t.app nil = t := by
  induction t <;> simp_all [Tr.app]
theorem Tr.app_app (t u v : Tr) : (t.app u).app v = t.app (u.app v) := by
  induction t <;> simp_all [Tr.app]
def numberW : T := [110, 117, 109, 98, 101, 114]
def pluralW : T := [112, 108, 117, 114, 97, 108]
def ordinalW : T := [115, 101, 108, 101, 99, 116, 111, 114, 100, 105, 110, 97, 108]
def selectW : T := [115, 101, 108, 101, 99, 116]
/-- A tree's marks; o: where a code point begins. -/
def flat (o : Nat → Nat) : Tr → List Dk.Mark
  | .nil => []
  | .text t r => { kind := 116, text := t } :: flat o r
  | .sign r => { kind := 35 } :: flat o r
  | .simple n a r => { kind := 112, name := n, at_ := o a } :: flat o r
  | .num n a r => { kind := 110, name := n, how := numberW, at_ := o a } :: flat o r
  | .sel n a bs e r => { kind := 40, name := n, how := selectW, offset := [48], at_ := o a } :: (flat o bs ++ { kind := 41, at_ := o e } :: flat o r)
  | .plu n a ord off bs e r => { kind := 40, name := n, how := if ord then ordinalW else pluralW, offset := off, at_ := o a } :: (flat o bs ++ { kind := 41, at_ := o e } :: flat o r)
  | .br w a m r => { kind := 91, text := w, at_ := o a } :: (flat o m ++ { kind := 93 } :: flat o r)
theorem flat_app (o : Nat → Nat) (t u : Tr) : flat o (t.app u) = flat o t ++ flat o u := by
  induction t <;> simp_all [Tr.app, flat]

/-- What holds of one byte holds of the code point that is it alone. -/
def one1 (f : UInt8 → Bool) (c : T) : Bool := match c with | [b] => f b | _ => false
def isN (c : UInt8) : Bool := Dk.isAlpha c || Pn.isDig c
def bl (rs : List T) (p : Nat) : Nat := p + ((rs.drop p).takeWhile (one1 Dk.isBlk)).length
def word (rs : List T) (p : Nat) : List T := (rs.drop p).takeWhile (one1 isN)
def digs (rs : List T) (p : Nat) : List T := (rs.drop p).takeWhile (one1 Pn.isDig)
def at1 (rs : List T) (p : Nat) (f : UInt8 → Bool) : Bool := match rs[p]? with | some c => one1 f c | none => false
/-- A name that stands there: the place of the fault; or the name, and the place behind it. -/
def nameR (rs : List T) (p : Nat) : Sum Nat (T × Nat) :=
  if at1 rs p Pn.isDig = true then .inl p
  else if (word rs p).length = 0 then .inl p
  else if 16 < (word rs p).length then .inl (p + 16)
  else .inr ((word rs p).flatten, p + (word rs p).length)
def valR (rs : List T) (p : Nat) : Sum Nat (T × Nat) :=
  if (digs rs p).length = 0 then .inl p
  else if 1 < (digs rs p).length ∧ rs[p]? = some [48] then .inl (p + 1)
  else if 9 < (digs rs p).length then .inl (p + 9)
  else .inr ((digs rs p).flatten, p + (digs rs p).length)
def selR (num : Bool) (rs : List T) (p : Nat) : Sum Nat (T × Nat) :=
  if num = false then nameR rs p
  else if rs[p]? = some [61] then match valR rs (p + 1) with | .inl a => .inl a | .inr (t, q) => .inr (61 :: t, q)
  else if Dk.isCat (word rs p).flatten = true then .inr ((word rs p).flatten, p + (word rs p).length) else .inl p
def offW : T := [111, 102, 102, 115, 101, 116]
/-- An offset, or none. -/
def offR (rs : List T) (p : Nat) : Sum Nat (T × Nat) :=
  if (word rs p).flatten = offW ∧ rs[p + (word rs p).length]? = some [58] then valR rs (bl rs (p + (word rs p).length + 1)) else .inr ([48], p)
def spec (num : Bool) (c : T) : Bool := c == [123] || c == [125] || (c == [35] && num)
/-- What stands for itself, its quotes undone, and how many code points that is. -/
def saidGo (num : Bool) : Bool → List T → T × Nat
  | _, [] => ([], 0)
  | q, c :: r =>
    if q = false ∧ spec num c = true then ([], 0)
    else if c ≠ [39] then (c ++ (saidGo num q r).1, (saidGo num q r).2 + 1)
    else match r with
      | [] => if q = true then ([], 1) else ([39], 1)
      | d :: r' => if d = [39] then (39 :: (saidGo num q r').1, (saidGo num q r').2 + 2)
        else if q = true ∨ spec num d = true then ((saidGo num (!q) (d :: r')).1, (saidGo num (!q) (d :: r')).2 + 1)
        else (39 :: (saidGo num q (d :: r')).1, (saidGo num q (d :: r')).2 + 1)
inductive Res where
  | ok (t : Tr) (q : Nat)
  | okB (t : Tr) (e q : Nat)
  | bad (e a : Nat)
def Res.pre (n : Tr) : Res → Res
  | .ok t q => .ok (n.app t) q
  | .okB t e q => .okB (n.app t) e q
  | .bad e a => .bad e a
def Res.sel (n : T) (p : Nat) : Res → Res
  | .okB t e q => .ok (.sel n p t e .nil) q
  | .ok t q => .ok t q
  | .bad e a => .bad e a
def Res.plu (n : T) (p : Nat) (ord : Bool) (off : T) : Res → Res
  | .okB t e q => .ok (.plu n p ord off t e .nil) q
  | .ok t q => .ok t q
  | .bad e a => .bad e a
theorem Res.pre_pre (a b : Tr) (r : Res) : (r.pre b).pre a = r.pre (a.app b) := by
  cases r <;> simp [Res.pre, Tr.app_app]
theorem Res.pre_nil (r : Res) : r.pre .nil = r := by
  cases r <;> rfl
inductive Mode where
  | msg (d : Nat) (num : Bool)
  | arg (d : Nat)
  | brs (d : Nat) (num first : Bool)
/-- How the program reads: what it comes to from a place on. -/
inductive Rd (rs : List T) : Mode → Nat → Res → Prop
  | stop {d num p} (h : rs[p]? = none ∨ rs[p]? = some [125]) : Rd rs (.msg d num) p (.ok .nil p)
  | argB {d num p e a} (h : rs[p]? = some [123]) (h1 : Rd rs (.arg d) p (.bad e a)) : Rd rs (.msg d num) p (.bad e a)
  | argK {d num p n q res} (h : rs[p]? = some [123]) (h1 : Rd rs (.arg d) p (.ok n q)) (h2 : Rd rs (.msg d num) q res) : Rd rs (.msg d num) p (res.pre n)
  | sign {d p res} (h : rs[p]? = some [35]) (h1 : Rd rs (.msg d true) (p + 1) res) : Rd rs (.msg d true) p (res.pre (.sign .nil))
  | said {d num p c res} (h : rs[p]? = some c) (hs : spec num c = false) (h1 : Rd rs (.msg d num) (p + (saidGo num false (rs.drop p)).2) res) : Rd rs (.msg d num) p (res.pre (.text (saidGo num false (rs.drop p)).1 .nil))
  | nameB {d p a} (h : nameR rs (bl rs (p + 1)) = .inl a) : Rd rs (.arg d) p (.bad 3 a)
  | simple {d p n q} (h : nameR rs (bl rs (p + 1)) = .inr (n, q)) (h1 : rs[bl rs q]? = some [125]) : Rd rs (.arg d) p (.ok (.simple n p .nil) (bl rs q + 1))
  | commaB {d p n q} (h : nameR rs (bl rs (p + 1)) = .inr (n, q)) (h1 : rs[bl rs q]? ≠ some [125]) (h2 : rs[bl rs q]? ≠ some [44]) : Rd rs (.arg d) p (.bad 3 (bl rs q))
  | kindB {d p n q k} (h : nameR rs (bl rs (p + 1)) = .inr (n, q)) (h2 : rs[bl rs q]? = some [44]) (hk : k = bl rs (bl rs q + 1)) (h3 : Dk.knownOf (word rs k).flatten = 4) : Rd rs (.arg d) p (.bad 3 k)
  | numB {d p n q k j} (h : nameR rs (bl rs (p + 1)) = .inr (n, q)) (h2 : rs[bl rs q]? = some [44]) (hk : k = bl rs (bl rs q + 1)) (h3 : (word rs k).flatten = numberW) (hj : j = bl rs (k + (word rs k).length)) (h4 : rs[j]? ≠ some [125]) : Rd rs (.arg d) p (.bad 3 j)
  | num {d p n q k j} (h : nameR rs (bl rs (p + 1)) = .inr (n, q)) (h2 : rs[bl rs q]? = some [44]) (hk : k = bl rs (bl rs q + 1)) (h3 : (word rs k).flatten = numberW) (hj : j = bl rs (k + (word rs k).length)) (h4 : rs[j]? = some [125]) : Rd rs (.arg d) p (.ok (.num n p .nil) (j + 1))
  | argC {d p n q k j} (h : nameR rs (bl rs (p + 1)) = .inr (n, q)) (h2 : rs[bl rs q]? = some [44]) (hk : k = bl rs (bl rs q + 1)) (h3 : (word rs k).flatten = selectW ∨ (word rs k).flatten = pluralW ∨ (word rs k).flatten = ordinalW) (hj : j = bl rs (k + (word rs k).length)) (h4 : rs[j]? ≠ some [44]) : Rd rs (.arg d) p (.bad 3 j)
  | sel {d p n q k j res} (h : nameR rs (bl rs (p + 1)) = .inr (n, q)) (h2 : rs[bl rs q]? = some [44]) (hk : k = bl rs (bl rs q + 1)) (h3 : (word rs k).flatten = selectW) (hj : j = bl rs (k + (word rs k).length)) (h4 : rs[j]? = some [44]) (h5 : Rd rs (.brs d false true) (bl rs (j + 1)) res) : Rd rs (.arg d) p (res.sel n p)
  | offB {d p n q k j a} (h : nameR rs (bl rs (p + 1)) = .inr (n, q)) (h2 : rs[bl rs q]? = some [44]) (hk : k = bl rs (bl rs q + 1)) (h3 : (word rs k).flatten = pluralW ∨ (word rs k).flatten = ordinalW) (hj : j = bl rs (k + (word rs k).length)) (h4 : rs[j]? = some [44]) (h5 : offR rs (bl rs (j + 1)) = .inl a) : Rd rs (.arg d) p (.bad 3 a)
  | plu {d p n q k j ord off i res} (h : nameR rs (bl rs (p + 1)) = .inr (n, q)) (h2 : rs[bl rs q]? = some [44]) (hk : k = bl rs (bl rs q + 1)) (h3 : (word rs k).flatten = if ord = true then ordinalW else pluralW) (hj : j = bl rs (k + (word rs k).length)) (h4 : rs[j]? = some [44]) (h5 : offR rs (bl rs (j + 1)) = .inr (off, i)) (h6 : Rd rs (.brs d true true) i res) : Rd rs (.arg d) p (res.plu n p ord off)
  | brsEnd {d num p} (h : rs[bl rs p]? = some [125]) : Rd rs (.brs d num false) p (.okB .nil (bl rs p) (bl rs p + 1))
  | brsSel {d num first p a} (h : first = true ∨ rs[bl rs p]? ≠ some [125]) (h1 : selR num rs (bl rs p) = .inl a) : Rd rs (.brs d num first) p (.bad 3 a)
  | brsOpen {d num first p w q} (h : first = true ∨ rs[bl rs p]? ≠ some [125]) (h1 : selR num rs (bl rs p) = .inr (w, q)) (h2 : rs[bl rs q]? ≠ some [123]) : Rd rs (.brs d num first) p (.bad 3 (bl rs q))
  | brsDeep {num first p w q} (h : first = true ∨ rs[bl rs p]? ≠ some [125]) (h1 : selR num rs (bl rs p) = .inr (w, q)) (h2 : rs[bl rs q]? = some [123]) : Rd rs (.brs 6 num first) p (.bad 4 (bl rs q))
  | brsMsg {d num first p w q e a} (h : first = true ∨ rs[bl rs p]? ≠ some [125]) (h1 : selR num rs (bl rs p) = .inr (w, q)) (h2 : rs[bl rs q]? = some [123]) (hd : d < 6) (h3 : Rd rs (.msg (d + 1) num) (bl rs q + 1) (.bad e a)) : Rd rs (.brs d num first) p (.bad e a)
  | brsClose {d num first p w q m j} (h : first = true ∨ rs[bl rs p]? ≠ some [125]) (h1 : selR num rs (bl rs p) = .inr (w, q)) (h2 : rs[bl rs q]? = some [123]) (hd : d < 6) (h3 : Rd rs (.msg (d + 1) num) (bl rs q + 1) (.ok m j)) (h4 : rs[j]? ≠ some [125]) : Rd rs (.brs d num first) p (.bad 3 j)
  | brs {d num first p w q m j res} (h : first = true ∨ rs[bl rs p]? ≠ some [125]) (h1 : selR num rs (bl rs p) = .inr (w, q)) (h2 : rs[bl rs q]? = some [123]) (hd : d < 6) (h3 : Rd rs (.msg (d + 1) num) (bl rs q + 1) (.ok m j)) (h4 : rs[j]? = some [125]) (h5 : Rd rs (.brs d num false) (j + 1) res) : Rd rs (.brs d num first) p (res.pre (.br w (bl rs p) m .nil))

/-- A code point's bytes: one of ASCII, or several that are none of it. -/
def Cp (c : T) : Prop := (∃ b : UInt8, c = [b] ∧ b.toNat < 128) ∨ (2 ≤ c.length ∧ ∀ b ∈ c, 128 ≤ b.toNat)
def Cps (rs : List T) : Prop := ∀ c ∈ rs, Cp c
def o (rs : List T) (p : Nat) : Nat := ((rs.take p).flatten).length
theorem Cp.ne {c : T} (h : Cp c) : c ≠ [] := by
  rcases h with ⟨b, rfl, _⟩ | ⟨h, _⟩
  · simp
  · rintro rfl; simp at h
theorem o_succ {rs : List T} {p : Nat} {c : T} (h : rs[p]? = some c) : o rs (p + 1) = o rs p + c.length := by
  have hl : p < rs.length := by
    rcases Nat.lt_or_ge p rs.length with h' | h'
    · exact h'
    · rw [List.getElem?_eq_none h'] at h; cases h
  rw [List.getElem?_eq_getElem hl] at h
  injection h with h
  unfold o
  rw [List.take_succ_eq_append_getElem hl, List.flatten_append, h]
  simp
theorem drop_o (rs : List T) (p : Nat) : rs.flatten.drop (o rs p) = (rs.drop p).flatten := by
  unfold o
  conv => lhs; rw [← List.take_append_drop p rs, List.flatten_append]
  rw [List.take_append_drop]
  simp
theorem o_len (rs : List T) (p : Nat) (h : rs.length ≤ p) : o rs p = rs.flatten.length := by
  unfold o; rw [List.take_of_length_le h]
theorem o_le (rs : List T) (p : Nat) : o rs p ≤ rs.flatten.length := by
  unfold o
  conv => rhs; rw [← List.take_append_drop p rs, List.flatten_append, List.length_append]
  exact Nat.le_add_right _ _
theorem o_lt {rs : List T} (hc : Cps rs) {p : Nat} {c : T} (h : rs[p]? = some c) : o rs p < rs.flatten.length := by
  have h1 := o_succ h
  have h2 := o_le rs (p + 1)
  have h3 := (hc c (List.mem_of_getElem? h)).ne
  have : 0 < c.length := List.length_pos_iff.2 h3
  omega
theorem at_o {rs : List T} (hc : Cps rs) (p : Nat) : rs.flatten[o rs p]? = (rs[p]?).bind List.head? := by
  have h := congrArg List.head? (drop_o rs p)
  rw [List.head?_drop] at h
  rw [h]
  cases hd : rs.drop p with
  | nil =>
    have : rs.length ≤ p := List.drop_eq_nil_iff.1 hd
    rw [List.getElem?_eq_none this]
    rfl
  | cons c r =>
    have h1 : rs[p]? = some c := by
      have := congrArg List.head? hd
      rw [List.head?_drop] at this
      simpa using this
    rw [h1]
    have h3 := (hc c (List.mem_of_getElem? h1)).ne
    cases c with
    | nil => exact absurd rfl h3
    | cons b r => simp
/-- A byte of ASCII stands there just if it is the code point. -/
theorem at_one {rs : List T} (hc : Cps rs) (p : Nat) (b : UInt8) (hb : b.toNat < 128) : rs.flatten[o rs p]? = some b ↔ rs[p]? = some [b] := by
  rw [at_o hc]
  cases h : rs[p]? with
  | none => simp
  | some c =>
    rcases hc c (List.mem_of_getElem? h) with ⟨b', rfl, hb'⟩ | ⟨h1, h2⟩
    · simp
    · cases c with
      | nil => simp at h1
      | cons d r =>
        have := h2 d (by simp)
        constructor
        · intro e
          have e : d = b := by simpa using e
          rw [e] at this
          omega
        · intro e
          have e : d :: r = [b] := by simpa using e
          rw [e] at h1
          simp at h1
theorem tw (f : UInt8 → Bool) (hf : ∀ b, f b = true → b.toNat < 128) : ∀ (l : List T), Cps l → l.flatten.takeWhile f = (l.takeWhile (one1 f)).flatten ∧ (l.takeWhile (one1 f)).flatten.length = (l.takeWhile (one1 f)).length := by
  intro l
  induction l with
  | nil => intro _; exact ⟨rfl, rfl⟩
  | cons c l ih =>
    intro h
    obtain ⟨i1, i2⟩ := ih (fun c hc => h c (List.mem_cons_of_mem _ hc))
    rcases h c (by simp) with ⟨b, rfl, hb⟩ | ⟨h1, h2⟩
    · by_cases hfb : f b = true
      · simp [one1, hfb, i1, i2]
      · simp [one1, hfb]
    · have h3 : one1 f c = false := by
        unfold one1
        split
        · simp at h1
        · rfl
      cases c with
      | nil => simp at h1
      | cons b r =>
        have hb := h2 b (by simp)
        have hfb : ¬ f b = true := fun e => by have := hf b e; omega
        simp [h3, hfb]
theorem Cps.drop {rs : List T} (h : Cps rs) (p : Nat) : Cps (rs.drop p) := fun c hc => h c (List.mem_of_mem_drop hc)
theorem o_tw {rs : List T} (f : UInt8 → Bool) (p n : Nat) (hn : n ≤ ((rs.drop p).takeWhile (one1 f)).length) : o rs (p + n) = o rs p + n := by
  induction n with
  | zero => rfl
  | succ n ih =>
    have h1 := ih (by omega)
    have hlt : n < ((rs.drop p).takeWhile (one1 f)).length := by omega
    have hm : one1 f (((rs.drop p).takeWhile (one1 f))[n]) = true := by
      have := List.all_takeWhile (l := rs.drop p) (p := one1 f)
      exact List.all_eq_true.1 this _ (List.getElem_mem hlt)
    have hpre : (rs.drop p)[n]? = some (((rs.drop p).takeWhile (one1 f))[n]) := by
      have := (List.takeWhile_prefix (one1 f) (l := rs.drop p)).getElem hlt
      rw [List.getElem?_eq_getElem (Nat.lt_of_lt_of_le hlt (List.takeWhile_prefix _).length_le)]
      rw [this]
    rw [List.getElem?_drop] at hpre
    have h2 := o_succ hpre
    have h3 : (((rs.drop p).takeWhile (one1 f))[n]).length = 1 := by
      generalize ((rs.drop p).takeWhile (one1 f))[n] = c at hm ⊢
      unfold one1 at hm
      split at hm
      · rfl
      · cases hm
    rw [h3] at h2
    rw [← Nat.add_assoc]
    omega
theorem isBlk_lt (b : UInt8) (h : Dk.isBlk b = true) : b.toNat < 128 := by
  simp only [Dk.isBlk, Bool.or_eq_true, beq_iff_eq] at h
  rcases h with ((rfl | rfl) | rfl) | rfl <;> decide
theorem isDig_lt (b : UInt8) (h : Pn.isDig b = true) : b.toNat < 128 := by
  simp only [Pn.isDig, decide_eq_true_eq] at h; omega
theorem isAlpha_lt (b : UInt8) (h : Dk.isAlpha b = true) : b.toNat < 128 := by
  simp only [Dk.isAlpha, Bool.or_eq_true, decide_eq_true_eq, beq_iff_eq] at h
  rcases h with (h | h) | rfl
  · omega
  · omega
  · decide
theorem isN_lt (b : UInt8) (h : isN b = true) : b.toNat < 128 := by
  simp only [isN, Bool.or_eq_true] at h
  rcases h with h | h
  · exact isAlpha_lt b h
  · exact isDig_lt b h
end Go.Proofs.YtaepcfidpekflaaGreatDoor.Pg
