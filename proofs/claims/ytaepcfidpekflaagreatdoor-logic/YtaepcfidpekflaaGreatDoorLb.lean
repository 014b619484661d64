/-
  Logic: rules put together, in plain Lean. By the verifier.
-/
import Derived.Test.YtaepcfidpekflaaGreatDoorLa
namespace Go.Proofs.YtaepcfidpekflaaGreatDoor
open Go.RowKit

theorem take_all (l : List UInt8) (h : ∀ x ∈ l, (x != 64) = true) : l.takeWhile (· != 64) = l := by
  have := List.takeWhile_append_of_pos (p := (· != 64)) (l₂ := []) h
  simpa using this
theorem cut64 (l : List UInt8) : (Lib.cut l [64]).1 = l.takeWhile (· != 64) := by
  rcases Lib.index_spec l [64] with ⟨h1, h2⟩ | ⟨i, h1, h2, h3, h4⟩
  · have : ¬ (0 ≤ Lib.index l [64]) := by omega
    simp only [Lib.cut, if_neg this]
    symm
    refine take_all l fun x hx => ?_
    obtain ⟨j, hj, he⟩ := List.getElem_of_mem hx
    have := h2 j (by omega)
    rw [Lib.occAt, List.drop_eq_getElem_cons hj, he] at this
    simp [List.isPrefixOf] at this
    simp
    exact fun e => this e.symm
  · have h0 : (0 : Int) ≤ Lib.index l [64] := by omega
    have hi : (Lib.index l [64]).toNat = i := by omega
    simp only [Lib.cut, if_pos h0, hi]
    have hlt : i < l.length := by
      rcases Nat.lt_or_ge i l.length with h | h
      · exact h
      · rw [Lib.occAt, List.drop_eq_nil_of_le h] at h3; simp [List.isPrefixOf] at h3
    have hget : l[i] = 64 := by
      rw [Lib.occAt, List.drop_eq_getElem_cons hlt] at h3
      have h3' : (64 : UInt8) = l[i] := by simpa [List.isPrefixOf] using h3
      exact h3'.symm
    have hall : ∀ x ∈ l.take i, (x != 64) = true := by
      intro x hx
      obtain ⟨j, hj, he⟩ := List.getElem_of_mem hx
      have hj' : j < i := by simp at hj; omega
      have := h4 j hj'
      rw [Lib.occAt, List.drop_eq_getElem_cons (by omega)] at this
      rw [List.getElem_take] at he
      simp [List.isPrefixOf, he] at this
      simp
      exact fun e => this e.symm
    conv => rhs; rw [← List.take_append_drop i l, List.drop_eq_getElem_cons hlt, hget]
    rw [List.takeWhile_append_of_pos hall, List.takeWhile_cons_of_neg (by simp), List.append_nil]
theorem cut_app (x b : List UInt8) (h : 64 ∉ x) : (Lib.cut (x ++ b) [64]).1 = x ++ (Lib.cut b [64]).1 := by
  rw [cut64, cut64, List.takeWhile_append_of_pos]
  intro c hc
  simp
  exact fun e => h (e ▸ hc)
theorem when_parts (t : Pr.T) (f : Pr.Sem) (h : Pr.whenP t = some f) : ∃ ts, Pr.toks (Lib.cut t [64]).1 = some ts ∧ Pr.condP ts = some f := by
  unfold Pr.whenP at h
  split at h
  · cases h
  · cases ht : Pr.toks (Lib.cut t [64]).1 with
    | none => simp [ht] at h
    | some ts => simp only [ht] at h; exact ⟨ts, rfl, h⟩
theorem when_word (a b w t : Pr.T) (f g : Pr.Sem) (hw : Pr.toks w = some [t]) (hw64 : 64 ∉ w) (ha : Pr.whenP a = some f) (hb : Pr.whenP b = some g) (h64 : 64 ∉ a) (hl : a.length + b.length ≤ 190) (hwl : w.length ≤ 5) :
    ∃ ta tb, Pr.toks a = some ta ∧ Pr.toks (Lib.cut b [64]).1 = some tb ∧ Pr.condP ta = some f ∧ Pr.condP tb = some g ∧ Pr.whenP (a ++ 32 :: (w ++ 32 :: b)) = Pr.condP (ta ++ t :: tb) := by
  obtain ⟨ta, a1, a2⟩ := when_parts a f ha
  obtain ⟨tb, b1, b2⟩ := when_parts b g hb
  have ea : (Lib.cut a [64]).1 = a := by
    rw [cut64]
    refine take_all a fun x hx => ?_
    simp
    exact fun e => h64 (e ▸ hx)
  rw [ea] at a1
  refine ⟨ta, tb, a1, b1, a2, b2, ?_⟩
  have hc : (Lib.cut (a ++ 32 :: (w ++ 32 :: b)) [64]).1 = a ++ 32 :: (w ++ 32 :: (Lib.cut b [64]).1) := by
    have := cut_app (a ++ 32 :: (w ++ [32])) b (by simp [h64, hw64])
    simpa using this
  rw [Pr.whenP, if_neg (by simp; omega), hc, Pr.toks_word a w _ t hw ta tb a1 b1]
theorem is_or (a b s : Pr.T) (x y : Bool) (ha : isX a s = (x, true)) (hb : isX b s = (y, true)) (h64 : 64 ∉ a) (hl : a.length + b.length ≤ 190) : isX (a ++ [32, 111, 114, 32] ++ b) s = (x || y, true) := by
  unfold isX at ha hb ⊢
  cases hwa : Pr.whenP a with
  | none => simp [hwa] at ha
  | some f =>
    cases hwb : Pr.whenP b with
    | none => simp [hwb] at hb
    | some g =>
      simp only [hwa] at ha
      simp only [hwb] at hb
      by_cases hn : Pn.isNum s = true
      · simp only [hn, if_true, Prod.mk.injEq, and_true] at ha hb
        obtain ⟨ta, tb, _, _, c1, c2, c3⟩ := when_word a b [111, 114] [111, 114] f g (by decide) (by decide) hwa hwb h64 hl (by decide)
        obtain ⟨h, d1, d2⟩ := Pr.cond_or ta tb f g c1 c2
        rw [show a ++ [32, 111, 114, 32] ++ b = a ++ 32 :: ([111, 114] ++ 32 :: b) by simp, c3, d1]
        simp only [hn, if_true, d2, ha, hb]
      · simp [hn] at ha
theorem is_and (a b s : Pr.T) (x y : Bool) (ha : isX a s = (x, true)) (hb : isX b s = (y, true)) (h64 : 64 ∉ a) (hl : a.length + b.length ≤ 190) :
    ∃ z, isX (a ++ [32, 97, 110, 100, 32] ++ b) s = (z, true) ∧ (¬ [111, 114] <:+: a → ¬ [111, 114] <:+: b → z = (x && y)) := by
  unfold isX at ha hb ⊢
  cases hwa : Pr.whenP a with
  | none => simp [hwa] at ha
  | some f =>
    cases hwb : Pr.whenP b with
    | none => simp [hwb] at hb
    | some g =>
      simp only [hwa] at ha
      simp only [hwb] at hb
      by_cases hn : Pn.isNum s = true
      · simp only [hn, if_true, Prod.mk.injEq, and_true] at ha hb
        obtain ⟨ta, tb, t1, t2, c1, c2, c3⟩ := when_word a b [97, 110, 100] [97, 110, 100] f g (by decide) (by decide) hwa hwb h64 hl (by decide)
        obtain ⟨h, d1, d2⟩ := Pr.cond_and ta tb f g c1 c2
        rw [show a ++ [32, 97, 110, 100, 32] ++ b = a ++ 32 :: ([97, 110, 100] ++ 32 :: b) by simp, c3, d1]
        simp only [hn, if_true]
        refine ⟨_, rfl, fun na nb => ?_⟩
        rw [d2 (fun hm => na (Pr.toks_infix _ a (Nat.le_refl _) ta t1 _ hm)) (fun hm => nb ?_), ha, hb]
        have h1 := Pr.toks_infix _ _ (Nat.le_refl _) tb t2 _ hm
        rw [cut64] at h1
        exact h1.trans (List.takeWhile_prefix _).isInfix
      · simp [hn] at ha
def zeroT : Pr.T := [122, 101, 114, 111]
theorem cat_two (a b s : Pr.T) (x y : Bool) (ha : isX a s = (x, true)) (hb : isX b s = (y, true)) : catOf [(few, a), (zeroT, b)] s = (if x then few else if y then zeroT else other, 0) := by
  unfold isX at ha hb
  cases hwa : Pr.whenP a with
  | none => simp [hwa] at ha
  | some f =>
    cases hwb : Pr.whenP b with
    | none => simp [hwb] at hb
    | some g =>
      simp only [hwa] at ha
      simp only [hwb] at hb
      by_cases hn : Pn.isNum s = true
      · simp only [hn, if_true, Prod.mk.injEq, and_true] at ha hb
        have h1 : ¬ (few ∈ ([] : List Pr.T) ∨ Pr.catB few = false) := by decide
        have h2 : ¬ (zeroT ∈ ([] : List Pr.T) ++ [few] ∨ Pr.catB zeroT = false) := by decide
        unfold catOf
        rw [Pr.rulesP, if_neg h1, hwa]
        simp only []
        rw [Pr.rulesP, if_neg h2, hwb]
        simp only [Pr.rulesP, hn, if_true, Pr.sortP, ha, hb]
        rfl
      · simp [hn] at ha
theorem at_infix (a : Pr.T) : [64] <:+: a ↔ 64 ∈ a := by
  constructor
  · rintro ⟨s, t, rfl⟩; simp
  · intro h
    obtain ⟨s, t, rfl⟩ := List.append_of_mem h
    exact ⟨s, t, by simp⟩
end Go.Proofs.YtaepcfidpekflaaGreatDoor
