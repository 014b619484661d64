/-
  PLAIN LEAN, no program in it: what the program's numbers come to (P2, P4): the parts of a number's text, and how they are written with groups. By the verifier.
-/
import Derived.Lib.Strings
import Derived.Lib.IndexMore
import Derived.Lib.TrimByte
import Derived.Lib.Small
namespace Go.Proofs.YtaepcfidpekflaaGreatDoor.Pn

def isDig (c : UInt8) : Bool := decide (48 ≤ c.toNat ∧ c.toNat ≤ 57)
def digitsB (l : List UInt8) : Bool := !l.isEmpty && l.all isDig
def wholeB (l : List UInt8) : Bool := digitsB l && (l == [48] || l.head? != some 48)
def zeroB (l : List UInt8) : Bool := l.all (· == 48)
/-- Is it a number: m: with a minus; a, b: the digits ahead of the point and behind it; p: with a point. -/
def okB (m : Bool) (a b : List UInt8) (p : Bool) : Bool :=
  decide (a.length + b.length ≤ 30) && wholeB a && (!p || digitsB b) && !(m && zeroB a && zeroB b)

def minusOf (l : List UInt8) : Bool := Lib.hasPrefix l [45]
def restOf (l : List UInt8) : List UInt8 := Lib.trimPrefix l [45]
def aOf (l : List UInt8) : List UInt8 := (Lib.cut (restOf l) [46]).1
def bOf (l : List UInt8) : List UInt8 := (Lib.cut (restOf l) [46]).2.1
def pOf (l : List UInt8) : Bool := (Lib.cut (restOf l) [46]).2.2
def isNum (l : List UInt8) : Bool := okB (minusOf l) (aOf l) (bOf l) (pOf l)

theorem cut_spec (l : List UInt8) : ((Lib.cut l [46]).2.2 = true ∧ l = (Lib.cut l [46]).1 ++ 46 :: (Lib.cut l [46]).2.1 ∧ 46 ∉ (Lib.cut l [46]).1)
    ∨ ((Lib.cut l [46]).2.2 = false ∧ (Lib.cut l [46]).1 = l ∧ (Lib.cut l [46]).2.1 = [] ∧ 46 ∉ l) := by
  rcases Lib.index_spec l [46] with ⟨h1, h2⟩ | ⟨i, h1, h2, h3, h4⟩
  · right
    have : ¬ (0 ≤ Lib.index l [46]) := by omega
    simp only [Lib.cut, if_neg this, true_and]
    intro hm
    obtain ⟨j, hj, he⟩ := List.getElem_of_mem hm
    have := h2 j (by omega)
    rw [Lib.occAt, List.drop_eq_getElem_cons hj, he] at this
    simp [List.isPrefixOf] at this
  · left
    have h0 : (0 : Int) ≤ Lib.index l [46] := by omega
    have hi : (Lib.index l [46]).toNat = i := by omega
    simp only [Lib.cut, if_pos h0, hi, true_and]
    have hlt : i < l.length := by
      rcases Nat.lt_or_ge i l.length with h | h
      · exact h
      · rw [Lib.occAt, List.drop_eq_nil_of_le h] at h3; simp [List.isPrefixOf] at h3
    have hget : l[i] = 46 := by
      rw [Lib.occAt, List.drop_eq_getElem_cons hlt] at h3
      have h3' : (46 : UInt8) = l[i] := by simpa [List.isPrefixOf] using h3
      exact h3'.symm
    constructor
    · have := List.take_append_drop i l
      rw [List.drop_eq_getElem_cons hlt, hget] at this
      simpa using this.symm
    · intro hm
      obtain ⟨j, hj, he⟩ := List.getElem_of_mem hm
      have hj' : j < i := by simp at hj; omega
      have := h4 j hj'
      rw [Lib.occAt, List.drop_eq_getElem_cons (by omega)] at this
      rw [List.getElem_take] at he
      simp [List.isPrefixOf, he] at this

theorem minus_spec (l : List UInt8) : (minusOf l = true ∧ l = 45 :: restOf l) ∨ (minusOf l = false ∧ restOf l = l ∧ l.head? ≠ some 45) := by
  unfold minusOf restOf Lib.trimPrefix Lib.hasPrefix
  cases l with
  | nil => right; simp [List.isPrefixOf]
  | cons c r =>
    by_cases h : c = 45
    · left; subst h; simp [List.isPrefixOf]
    · right
      have : ((45 : UInt8) == c) = false := by rw [beq_eq_false_iff_ne]; exact fun e => h e.symm
      simp [List.isPrefixOf, this, h]

theorem isDig_iff (c : UInt8) : isDig c = true ↔ 48 ≤ c.toNat ∧ c.toNat ≤ 57 := by simp [isDig]

/-- The parts of a number: its text again. -/
theorem num_text (l : List UInt8) (h : isNum l = true) :
    l = (if minusOf l then [45] else []) ++ (aOf l ++ ((if bOf l = [] then [] else [46]) ++ bOf l)) := by
  have hk := h
  simp only [isNum, okB, Bool.and_eq_true] at hk
  obtain ⟨⟨⟨_, _⟩, hp⟩, _⟩ := hk
  have hr : restOf l = aOf l ++ ((if bOf l = [] then [] else [46]) ++ bOf l) := by
    rcases cut_spec (restOf l) with ⟨h1, h2, _⟩ | ⟨h1, h2, h3, _⟩
    · have hb : bOf l ≠ [] := by
        intro he
        simp only [pOf, h1, he, digitsB] at hp
        simp at hp
      rw [if_neg hb]
      exact h2
    · have hb : bOf l = [] := h3
      rw [if_pos hb, hb]
      simpa [aOf] using h2.symm
  rcases minus_spec l with ⟨h1, h2⟩ | ⟨h1, h2, _⟩
  · rw [if_pos h1, ← hr]; exact h2
  · rw [if_neg (by rw [h1]; decide), ← hr, h2]; rfl

theorem num_a (l : List UInt8) (h : isNum l = true) : aOf l ≠ [] ∧ ∀ c ∈ aOf l, isDig c = true := by
  simp only [isNum, okB, wholeB, digitsB, Bool.and_eq_true] at h
  obtain ⟨⟨⟨_, ⟨h1, h2⟩, _⟩, _⟩, _⟩ := h
  exact ⟨by simpa using h1, by simpa using h2⟩

theorem num_b (l : List UInt8) (h : isNum l = true) : ∀ c ∈ bOf l, isDig c = true := by
  simp only [isNum, okB, digitsB, Bool.and_eq_true] at h
  obtain ⟨⟨_, hp⟩, _⟩ := h
  rcases cut_spec (restOf l) with ⟨h1, _, _⟩ | ⟨_, _, h3, _⟩
  · have : pOf l = true := h1
    rw [this] at hp
    simp at hp
    exact hp.2
  · have : bOf l = [] := h3
    simp [this]

theorem num_len (l : List UInt8) (h : isNum l = true) : (aOf l).length + (bOf l).length ≤ 30 := by
  simp only [isNum, okB, Bool.and_eq_true, decide_eq_true_eq] at h
  exact h.1.1.1

/-! ### How it is written -/
/-- Does a group end where so many digits are left up to the point? f, n: how long the first one is, and the others. -/
def endsG (f n left : Nat) : Bool := f != 0 && (decide (f ≤ left) && (left - f) % n == 0)

def wWhole (g : List UInt8) (f n : Nat) (dig : UInt8 → List UInt8) : Bool → List UInt8 → List UInt8
  | _, [] => []
  | later, c :: r => (if later && endsG f n (r.length + 1) then g else []) ++ (dig c ++ wWhole g f n dig true r)

def wAll (mi po g : List UInt8) (f n : Nat) (dig : UInt8 → List UInt8) (l : List UInt8) : List UInt8 :=
  (if minusOf l then mi else []) ++ (wWhole g f n dig false (aOf l) ++ ((if bOf l = [] then [] else po) ++ (bOf l).flatMap dig))

/-- The text of a number's parts: pre: the minus, or nothing. -/
def wParts (pre po g : List UInt8) (f n : Nat) (dig : UInt8 → List UInt8) (a b : List UInt8) : List UInt8 :=
  pre ++ (wWhole g f n dig false a ++ ((if b = [] then [] else po) ++ b.flatMap dig))
theorem wAll_parts (mi po g : List UInt8) (f n : Nat) (dig : UInt8 → List UInt8) (l : List UInt8) :
    wParts (if minusOf l then mi else []) po g f n dig (aOf l) (bOf l) = wAll mi po g f n dig l := rfl

theorem wWhole_none (g : List UInt8) (n : Nat) (dig : UInt8 → List UInt8) : ∀ (a : List UInt8) (later : Bool), wWhole g 0 n dig later a = a.flatMap dig
  | [], _ => rfl
  | c :: r, later => by
    rw [wWhole, wWhole_none g n dig r true]
    simp [endsG]

theorem flatMap_self : ∀ a : List UInt8, a.flatMap (fun c => [c]) = a
  | [] => rfl
  | c :: r => by rw [List.flatMap_cons, flatMap_self r]; rfl

/-- Without groups a number is written as it stands. -/
theorem wAll_bare (g : List UInt8) (n : Nat) (l : List UInt8) (h : isNum l = true) : wAll [45] [46] g 0 n (fun c => [c]) l = l := by
  rw [wAll, wWhole_none, flatMap_self, flatMap_self]
  exact (num_text l h).symm

theorem filter_wWhole (f n : Nat) : ∀ (a : List UInt8) (later : Bool), (∀ c ∈ a, isDig c = true) → (wWhole [44] f n (fun c => [c]) later a).filter (fun c => c != 44) = a
  | [], _, _ => rfl
  | c :: r, later, h => by
    have hc : (c != 44) = true := by
      have := (isDig_iff c).1 (h c (by simp))
      rw [bne_iff_ne]; intro e; rw [e] at this; revert this; decide
    rw [wWhole, List.filter_append, List.filter_append, filter_wWhole f n r true (fun x hx => h x (by simp [hx]))]
    split <;> simp [hc]

theorem filter_dig (b : List UInt8) (h : ∀ c ∈ b, isDig c = true) : b.filter (fun c => c != 44) = b := by
  rw [List.filter_eq_self]
  intro c hc
  have := (isDig_iff c).1 (h c hc)
  rw [bne_iff_ne]; intro e; rw [e] at this; revert this; decide

/-- Without its groups' signs it is as it stands. -/
theorem wAll_without (f n : Nat) (l : List UInt8) (h : isNum l = true) : (wAll [45] [46] [44] f n (fun c => [c]) l).filter (fun c => c != 44) = l := by
  rw [wAll, List.filter_append, List.filter_append, List.filter_append, filter_wWhole f n _ _ (num_a l h).2, flatMap_self, filter_dig _ (num_b l h)]
  conv => rhs; rw [num_text l h]
  split <;> split <;> simp

/-- How many signs stand ahead of digits, where each of k digits may bear one. -/
def many (f n k : Nat) : Nat := if f = 0 ∨ k < f then 0 else (k - f) / n + 1

theorem many_succ (f n k : Nat) (hn : 1 ≤ n) (hn9 : n ≤ 9) : many f n (k + 1) = many f n k + if endsG f n (k + 1) then 1 else 0 := by
  unfold many endsG
  by_cases hf : f = 0
  · simp [hf]
  · by_cases h1 : k + 1 < f
    · have : ¬ f ≤ k + 1 := by omega
      have h2 : k < f := by omega
      simp [h1, h2, this]
    · by_cases h2 : k < f
      · have : k + 1 - f = 0 := by omega
        have h3 : f ≤ k + 1 := by omega
        simp [hf, h1, h2, this, h3]
      · have h3 : f ≤ k + 1 := by omega
        have e : k + 1 - f = (k - f) + 1 := by omega
        simp only [hf, h1, h2, or_self, if_false, e, h3]
        generalize k - f = d
        have hb : (f != 0) = true := by simp [hf]
        simp only [hb, Bool.true_and, decide_true, beq_iff_eq]
        have : n = 1 ∨ n = 2 ∨ n = 3 ∨ n = 4 ∨ n = 5 ∨ n = 6 ∨ n = 7 ∨ n = 8 ∨ n = 9 := by omega
        rcases this with rfl | rfl | rfl | rfl | rfl | rfl | rfl | rfl | rfl <;> split <;> omega

theorem count_wWhole (f n : Nat) (hn : 1 ≤ n) (hn9 : n ≤ 9) : ∀ (a : List UInt8), (∀ c ∈ a, isDig c = true) → (wWhole [44] f n (fun c => [c]) true a).count 44 = many f n a.length
  | [], _ => by
    unfold many wWhole
    by_cases hf : f = 0
    · simp [hf]
    · have : 0 < f := by omega
      simp [this]
  | c :: r, h => by
    have hc : ¬ c = 44 := by
      have := (isDig_iff c).1 (h c (by simp))
      intro e; rw [e] at this; revert this; decide
    rw [wWhole, List.count_append, List.count_append, count_wWhole f n hn hn9 r (fun x hx => h x (by simp [hx])), List.length_cons, many_succ f n _ hn hn9]
    have : ([c] : List UInt8).count 44 = 0 := by simp [hc]
    rw [this, Bool.true_and]
    split <;> simp <;> omega

theorem count_dig (b : List UInt8) (h : ∀ c ∈ b, isDig c = true) : b.count 44 = 0 := by
  rw [List.count_eq_zero]
  intro hm
  have := (isDig_iff 44).1 (h 44 hm)
  revert this; decide

/-- How many groups' signs stand in a number of d digits ahead of the point. -/
theorem wAll_count (f n : Nat) (hn : 1 ≤ n) (hn9 : n ≤ 9) (l : List UInt8) (h : isNum l = true) :
    (wAll [45] [46] [44] f n (fun c => [c]) l).count 44 = many f n ((aOf l).length - 1) := by
  obtain ⟨ha, hd⟩ := num_a l h
  rw [wAll, List.count_append, List.count_append, List.count_append, flatMap_self, count_dig _ (num_b l h)]
  have h1 : (if minusOf l then ([45] : List UInt8) else []).count 44 = 0 := by split <;> decide
  have h2 : (if bOf l = [] then ([] : List UInt8) else [46]).count 44 = 0 := by split <;> decide
  rw [h1, h2]
  cases ha' : aOf l with
  | nil => exact absurd ha' ha
  | cons c r =>
    rw [ha'] at hd
    have hc : ¬ c = 44 := by
      have := (isDig_iff c).1 (hd c (by simp))
      intro e; rw [e] at this; revert this; decide
    rw [wWhole, List.count_append, List.count_append, count_wWhole f n hn hn9 r (fun x hx => hd x (by simp [hx]))]
    simp [hc]

/-- No groups: no signs. -/
theorem wAll_count0 (n : Nat) (l : List UInt8) (h : isNum l = true) : (wAll [45] [46] [44] 0 n (fun c => [c]) l).count 44 = 0 := by
  rw [wAll_bare _ _ _ h, num_text l h, List.count_append, List.count_append, List.count_append, count_dig _ (num_b l h), count_dig _ (num_a l h).2]
  split <;> split <;> decide

/-- How long the groups of a locale are: 0: there are none. -/
def firstOf (g : Int) (f : Nat) : Nat := if g = 0 ∨ f = 0 then 0 else f
def nextOf (g : Int) (f n : Nat) : Nat := if g = 0 ∨ f = 0 then 0 else if n = 0 then f else n

/-- Are Minus, Point and Group right? -/
def signsB (mi po g : Int) : Bool := decide (mi ≠ 0) && Lib.validRune mi && decide (po ≠ 0) && Lib.validRune po && Lib.validRune g
/-- The code point that stands for a digit, of ten. -/
def digAt (ds : List Int) (c : UInt8) : Int := ds.getD (c.toNat - 48) 0
end Go.Proofs.YtaepcfidpekflaaGreatDoor.Pn
