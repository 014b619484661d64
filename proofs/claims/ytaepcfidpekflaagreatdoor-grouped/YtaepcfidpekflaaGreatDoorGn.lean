/-
  PLAIN LEAN: what Grouped reckons: digits that stand for themselves; how many digits are ahead of the point. By the verifier.
-/
import Derived.Test.YtaepcfidpekflaaGreatDoorPn
import Derived.Lib.RuneBytes
namespace Go.Proofs.YtaepcfidpekflaaGreatDoor.Pn

theorem wWhole_congrG (g : List UInt8) (f n : Nat) (dig dig' : UInt8 → List UInt8) : ∀ (a : List UInt8) (later : Bool), (∀ c ∈ a, dig c = dig' c) → wWhole g f n dig later a = wWhole g f n dig' later a
  | [], _, _ => rfl
  | c :: r, later, h => by
    rw [wWhole, wWhole, h c (by simp), wWhole_congrG g f n dig dig' r true (fun x hx => h x (by simp [hx]))]
theorem flatMap_congr (dig dig' : UInt8 → List UInt8) : ∀ (a : List UInt8), (∀ c ∈ a, dig c = dig' c) → a.flatMap dig = a.flatMap dig'
  | [], _ => rfl
  | c :: r, h => by
    rw [List.flatMap_cons, List.flatMap_cons, h c (by simp), flatMap_congr dig dig' r (fun x hx => h x (by simp [hx]))]
theorem wAll_congr (mi po g : List UInt8) (f n : Nat) (dig dig' : UInt8 → List UInt8) (l : List UInt8) (hl : isNum l = true) (h : ∀ c, isDig c = true → dig c = dig' c) : wAll mi po g f n dig l = wAll mi po g f n dig' l := by
  rw [wAll, wAll, wWhole_congrG g f n dig dig' _ _ (fun c hc => h c ((num_a l hl).2 c hc)), flatMap_congr dig dig' _ (fun c hc => h c (num_b l hl c hc))]

theorem enc_ascii (k : Nat) (h : k ≤ 127) : Lib.encodeRune (k : Int) = [k.toUInt8] := by
  rw [Lib.encodeRune, Lib.encodeRuneZ_one (by omega) (by omega)]
  simp
theorem dig_self (c : UInt8) (h : isDig c = true) : Lib.encodeRune (digAt [48, 49, 50, 51, 52, 53, 54, 55, 56, 57] c) = [c] := by
  have h' := (isDig_iff c).1 h
  have e : digAt [48, 49, 50, 51, 52, 53, 54, 55, 56, 57] c = (c.toNat : Int) := by
    rw [digAt]
    have : c.toNat = 48 ∨ c.toNat = 49 ∨ c.toNat = 50 ∨ c.toNat = 51 ∨ c.toNat = 52 ∨ c.toNat = 53 ∨ c.toNat = 54 ∨ c.toNat = 55 ∨ c.toNat = 56 ∨ c.toNat = 57 := by omega
    rcases this with h | h | h | h | h | h | h | h | h | h <;> rw [h] <;> rfl
  rw [e, enc_ascii c.toNat (by omega)]
  simp

/-- A number with plain signs, its digits themselves. -/
def plainB (f n : Nat) (l : List UInt8) : List UInt8 := wAll [45] [46] [44] f n (fun c => [c]) l
theorem wAll_plain (g : Int) (hg : g = 0 ∨ g = 44) (f n : Nat) (l : List UInt8) (hl : isNum l = true) :
    wAll (Lib.encodeRune 45) (Lib.encodeRune 46) (Lib.encodeRune g) (firstOf g f) (nextOf g f n) (fun c => Lib.encodeRune (digAt [48, 49, 50, 51, 52, 53, 54, 55, 56, 57] c)) l = plainB (firstOf g f) (nextOf g f n) l := by
  rw [plainB, wAll_congr _ _ _ _ _ _ (fun c => [c]) l hl dig_self]
  have e1 : Lib.encodeRune 45 = [45] := by decide
  have e2 : Lib.encodeRune 46 = [46] := by decide
  rw [e1, e2]
  rcases hg with rfl | rfl
  · have e3 : firstOf 0 f = 0 := by simp [firstOf]
    rw [e3, wAll, wAll, wWhole_none, wWhole_none]
  · have e3 : Lib.encodeRune 44 = [44] := by decide
    rw [e3]
theorem plain_bare (n : Nat) (l : List UInt8) (hl : isNum l = true) : plainB 0 n l = l := wAll_bare _ n l hl

/-- How many bytes stand ahead of the point. -/
def upto (l : List UInt8) : Nat := (l.takeWhile (fun c => c != 46)).length
theorem upto_le (l : List UInt8) : upto l ≤ l.length := by unfold upto; exact (List.takeWhile_prefix _).length_le
theorem takeWhile_all (p : UInt8 → Bool) : ∀ (a b : List UInt8), (∀ c ∈ a, p c = true) → (a ++ b).takeWhile p = a ++ b.takeWhile p
  | [], _, _ => rfl
  | c :: r, b, h => by
    rw [List.cons_append, List.takeWhile_cons, h c (by simp), if_pos rfl, takeWhile_all p r b (fun x hx => h x (by simp [hx])), List.cons_append]
theorem upto_num (l : List UInt8) (hl : isNum l = true) : upto l = (if minusOf l then 1 else 0) + (aOf l).length := by
  have hd : ∀ c, isDig c = true → (c != 46) = true := by
    intro c hc
    have := (isDig_iff c).1 hc
    rw [bne_iff_ne]; intro e; rw [e] at this; revert this; decide
  unfold upto
  conv => lhs; rw [num_text l hl]
  rw [takeWhile_all _ _ _ (by intro c hc; split at hc <;> simp at hc; subst hc; decide), takeWhile_all _ _ _ (fun c hc => hd c ((num_a l hl).2 c hc))]
  have e : (((if bOf l = [] then [] else [46]) ++ bOf l).takeWhile (fun c => c != 46)) = [] := by
    split
    · rename_i h; rw [h]; rfl
    · rfl
  rw [e]
  split <;> simp <;> omega
theorem upto_at (l : List UInt8) (k : Nat) (hk : k < l.length) (h1 : ∀ j (hj : j < l.length), j < k → l[j] ≠ 46) (h2 : l[k] = 46) : upto l = k := by
  unfold upto
  have e : l = l.take k ++ (l[k] :: l.drop (k + 1)) := by
    rw [← List.drop_eq_getElem_cons hk, List.take_append_drop]
  rw [e, takeWhile_all _ _ _ (by
    intro c hc
    obtain ⟨j, hj, he⟩ := List.getElem_of_mem hc
    have hj' : j < k := by simp at hj; omega
    rw [List.getElem_take] at he
    rw [bne_iff_ne, ← he]
    exact h1 j (by omega) hj'), h2]
  simp
  omega
theorem upto_end (l : List UInt8) (h1 : ∀ j (hj : j < l.length), l[j] ≠ 46) : upto l = l.length := by
  unfold upto
  have := takeWhile_all (fun c => c != 46) l [] (by
    intro c hc
    obtain ⟨j, hj, he⟩ := List.getElem_of_mem hc
    rw [bne_iff_ne, ← he]
    exact h1 j hj)
  rw [List.append_nil] at this
  rw [this]; simp
theorem num_pos (l : List UInt8) (hl : isNum l = true) : 0 < l.length := by
  have h := (num_a l hl).1
  rw [num_text l hl]
  have : 0 < (aOf l).length := List.length_pos_iff.2 h
  simp; omega
theorem head_minus (l : List UInt8) (h : 0 < l.length) : (l[0] == 45) = minusOf l := by
  rcases minus_spec l with ⟨h1, h2⟩ | ⟨h1, _, h3⟩
  · rw [h1]
    cases l with
    | nil => simp at h
    | cons c r => simp at h2; simp [h2.1]
  · rw [h1]
    cases l with
    | nil => simp at h
    | cons c r => simp at h3; simp [h3]
/-- Behind k bytes: those that are no signs of groups. -/
def gone (u : List UInt8) (k : Nat) : List UInt8 := (u.take k).filter (fun c => c != 44)
def seen (u : List UInt8) (k : Nat) : Nat := (u.take k).count 44
theorem gone_no (u : List UInt8) (k : Nat) (h : k < u.length) (hc : ¬ u[k] = 44) : gone u (k + 1) = gone u k ++ [u[k]] := by
  unfold gone
  rw [List.take_succ_eq_append_getElem h, List.filter_append]
  simp [hc]
theorem gone_yes (u : List UInt8) (k : Nat) (h : k < u.length) (hc : u[k] = 44) : gone u (k + 1) = gone u k := by
  unfold gone
  rw [List.take_succ_eq_append_getElem h, List.filter_append, hc]
  simp
theorem seen_no (u : List UInt8) (k : Nat) (h : k < u.length) (hc : ¬ u[k] = 44) : seen u (k + 1) = seen u k := by
  unfold seen
  rw [List.take_succ_eq_append_getElem h, List.count_append]
  simp [hc]
theorem seen_yes (u : List UInt8) (k : Nat) (h : k < u.length) (hc : u[k] = 44) : seen u (k + 1) = seen u k + 1 := by
  unfold seen
  rw [List.take_succ_eq_append_getElem h, List.count_append, hc]
  simp
theorem seen_le (u : List UInt8) (k : Nat) : seen u k ≤ u.length := by
  unfold seen
  exact Nat.le_trans List.count_le_length (by simp; omega)
theorem gone_le (u : List UInt8) (k : Nat) : (gone u k).length ≤ u.length := by
  unfold gone
  exact Nat.le_trans (List.length_filter_le _ _) (by simp; omega)
theorem wWhole_len (f n : Nat) : ∀ (a : List UInt8) (later : Bool), (wWhole [44] f n (fun c => [c]) later a).length ≤ 2 * a.length
  | [], _ => by simp [wWhole]
  | c :: r, later => by
    rw [wWhole, List.length_append, List.length_append]
    have := wWhole_len f n r true
    split <;> simp <;> omega
theorem plain_len (f n : Nat) (l : List UInt8) (hl : isNum l = true) : (plainB f n l).length ≤ 200 := by
  have h := num_len l hl
  have h2 := wWhole_len f n (aOf l) false
  rw [plainB, wAll, flatMap_self]
  simp only [List.length_append]
  have h3 : (if minusOf l then ([45] : List UInt8) else []).length ≤ 1 := by split <;> simp
  have h4 : (if bOf l = [] then ([] : List UInt8) else [46]).length ≤ 1 := by split <;> simp
  omega

/-- pick of ten. -/
def pick10 (c : Int) : Nat := (if c < 0 then (-(c + 1)) % 10 else c % 10).toNat
theorem pick10_le (c : Int) : pick10 c ≤ 9 := by unfold pick10; split <;> omega
/-- As Grouped has it: how many signs there must be; b: 0 stands for a. -/
theorem many_eq (a b D : Nat) : many (firstOf 44 a) (nextOf 44 a b) (D - 1) = if a = 0 ∨ D ≤ a then 0 else 1 + (D - a - 1) / (if b = 0 then a else b) := by
  unfold many firstOf nextOf
  by_cases h0 : a = 0
  · simp [h0]
  · have e : ¬ ((44 : Int) = 0 ∨ a = 0) := by simp [h0]
    rw [if_neg e, if_neg e]
    by_cases hD : D ≤ a
    · have : D - 1 < a := by omega
      simp [this, hD]
    · have h1 : ¬ (a = 0 ∨ D - 1 < a) := by omega
      have h2 : ¬ (a = 0 ∨ D ≤ a) := by omega
      rw [if_neg h1, if_neg h2]
      have : D - 1 - a = D - a - 1 := by omega
      rw [this]
      omega
end Go.Proofs.YtaepcfidpekflaaGreatDoor.Pn
