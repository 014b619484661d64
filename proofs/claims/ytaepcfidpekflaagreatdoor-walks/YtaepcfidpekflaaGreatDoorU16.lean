/-
  Several texts in one (Pu, Sn, So). By the verifier.
-/
import Derived.Test.YtaepcfidpekflaaGreatDoorU15
namespace Go.Proofs.YtaepcfidpekflaaGreatDoor.Pr

theorem take_stop (p : UInt8 → Bool) (h : p 32 = false) (l r : T) : (l ++ 32 :: r).takeWhile p = l.takeWhile p := by
  induction l with
  | nil => simp [List.takeWhile_cons_of_neg, h]
  | cons c l ih =>
    cases hc : p c with
    | true => rw [List.cons_append, List.takeWhile_cons_of_pos hc, List.takeWhile_cons_of_pos hc, ih]
    | false => rw [List.cons_append, List.takeWhile_cons_of_neg (by simp [hc]), List.takeWhile_cons_of_neg (by simp [hc])]
theorem part_stop (c : UInt8) (l r : T) : partLen (c :: l ++ 32 :: r) = partLen (c :: l) := by
  have h1 : isLet 32 = false := by decide
  have h2 : Pn.isDig 32 = false := by decide
  have e1 := take_stop isLet h1 (c :: l) r
  have e2 := take_stop Pn.isDig h2 (c :: l) r
  rw [List.cons_append] at e1 e2 ⊢
  have e3 : (c = 33 ∧ (l ++ 32 :: r).head? = some 61 ∨ c = 46 ∧ (l ++ 32 :: r).head? = some 46) ↔ (c = 33 ∧ l.head? = some 61 ∨ c = 46 ∧ l.head? = some 46) := by
    cases l with
    | nil => simp
    | cons d l => simp
  simp only [partLen, e1, e2, e3]
theorem part_len (l : T) : partLen l ≤ l.length := by
  cases l with
  | nil => simp [partLen]
  | cons c r =>
    by_cases h1 : isLet c = true
    · rw [partLen, if_pos h1]; exact (List.takeWhile_prefix _).length_le
    · by_cases h2 : Pn.isDig c = true
      · rw [partLen, if_neg h1, if_pos h2]; exact (List.takeWhile_prefix _).length_le
      · rw [partLen, if_neg h1, if_neg h2]
        split
        · rename_i h
          cases r with
          | nil => rcases h with ⟨_, h⟩ | ⟨_, h⟩ <;> cases h
          | cons d r => simp
        · split <;> simp
theorem split_end (k : Nat) : splitGo k [] = some [] := by cases k <;> rfl
/-- More rounds than needed change nothing. -/
theorem split_more : ∀ (k : Nat) (l : T) (m : Nat), l.length ≤ k → l.length ≤ m → splitGo k l = splitGo m l := by
  intro k
  induction k with
  | zero =>
    intro l m h _
    have : l = [] := List.length_eq_zero_iff.1 (by omega)
    subst this
    rw [split_end, split_end]
  | succ k ih =>
    intro l m h1 h2
    cases l with
    | nil => rw [split_end, split_end]
    | cons c r =>
      cases m with
      | zero => simp at h2
      | succ m =>
        simp only [splitGo]
        by_cases hz : partLen (c :: r) = 0
        · simp [hz]
        · simp only [hz, if_false]
          rw [ih ((c :: r).drop (partLen (c :: r))) m (by simp at h1 ⊢; omega) (by simp at h2 ⊢; omega)]
theorem toks_step (c : UInt8) (r : T) : toks (c :: r) = if partLen (c :: r) = 0 then none else match toks ((c :: r).drop (partLen (c :: r))) with
    | none => none
    | some l => some (if c = 32 then l else (c :: r).take (partLen (c :: r)) :: l) := by
  unfold toks
  rw [show (c :: r).length = r.length + 1 from rfl, splitGo]
  by_cases hz : partLen (c :: r) = 0
  · simp [hz]
  · simp only [hz, if_false]
    rw [split_more r.length ((c :: r).drop (partLen (c :: r))) ((c :: r).drop (partLen (c :: r))).length (by simp; omega) (Nat.le_refl _)]
    cases splitGo ((c :: r).drop (partLen (c :: r))).length ((c :: r).drop (partLen (c :: r))) <;> rfl
theorem toks_blank (r : T) : toks (32 :: r) = toks r := by
  have h : partLen (32 :: r) = 1 := by simp [partLen, isLet, Pn.isDig]
  rw [toks_step, h]
  simp only [List.drop_succ_cons, List.drop_zero]
  cases toks r <;> simp
/-- Words of two texts with a blank between. -/
theorem toks_join : ∀ (n : Nat) (l r : T), l.length ≤ n → toks (l ++ 32 :: r) = match toks l with
    | none => none
    | some a => match toks r with
      | none => none
      | some b => some (a ++ b) := by
  intro n
  induction n with
  | zero =>
    intro l r h
    have : l = [] := List.length_eq_zero_iff.1 (by omega)
    subst this
    rw [List.nil_append, toks_blank]
    show _ = match toks r with
      | none => none
      | some b => some ([] ++ b)
    cases toks r <;> rfl
  | succ n ih =>
    intro l r h
    cases l with
    | nil =>
      rw [List.nil_append, toks_blank]
      show _ = match toks r with
        | none => none
        | some b => some ([] ++ b)
      cases toks r <;> rfl
    | cons c l =>
      have hp := part_stop c l r
      have hle := part_len (c :: l)
      rw [List.cons_append] at hp ⊢
      rw [toks_step c (l ++ 32 :: r), hp, toks_step c l]
      by_cases hz : partLen (c :: l) = 0
      · simp [hz]
      · simp only [hz, if_false]
        have hd : (c :: (l ++ 32 :: r)).drop (partLen (c :: l)) = (c :: l).drop (partLen (c :: l)) ++ 32 :: r := by
          rw [← List.cons_append, List.drop_append_of_le_length hle]
        have ht : (c :: (l ++ 32 :: r)).take (partLen (c :: l)) = (c :: l).take (partLen (c :: l)) := by
          rw [← List.cons_append, List.take_append_of_le_length hle]
        rw [hd, ht, ih ((c :: l).drop (partLen (c :: l))) r (by simp at h ⊢; omega)]
        cases toks ((c :: l).drop (partLen (c :: l))) with
        | none => rfl
        | some a =>
          cases toks r with
          | none => rfl
          | some b =>
            by_cases hc : c = 32
            · simp [hc]
            · simp [hc]
/-- A word between two texts. -/
theorem toks_word (l w r : T) (t : T) (hw : toks w = some [t]) (a b : List T) (ha : toks l = some a) (hb : toks r = some b) : toks (l ++ 32 :: (w ++ 32 :: r)) = some (a ++ t :: b) := by
  rw [toks_join l.length l _ (Nat.le_refl _), ha, toks_join w.length w _ (Nat.le_refl _), hw, hb]
  rfl
theorem parts_join (sep : T) (l r : List T) : partsAt sep (l ++ sep :: r) = partsAt sep l ++ partsAt sep r := by
  induction l with
  | nil => simp [partsAt]
  | cons t l ih =>
    by_cases h : t = sep
    · simp [partsAt, h, ih]
    · simp only [List.cons_append, partsAt, h, if_false, ih]
      cases e : partsAt sep l with
      | nil =>
        exfalso
        cases l with
        | nil => simp [partsAt] at e
        | cons u l =>
          simp only [partsAt] at e
          split at e
          · cases e
          · split at e <;> cases e
      | cons p ps => rfl
theorem parts_ne (sep : T) (l : List T) : partsAt sep l ≠ [] := by
  cases l with
  | nil => simp [partsAt]
  | cons t l =>
    simp only [partsAt]
    split
    · simp
    · split <;> simp
/-- A word that is not the one at which it is parted joins the part ahead and the part behind. -/
theorem parts_and (sep : T) (u : T) (hu : u ≠ sep) (l r : List T) : ∃ ps p q qs, partsAt sep l = ps ++ [p] ∧ partsAt sep r = q :: qs ∧ partsAt sep (l ++ u :: r) = ps ++ (p ++ u :: q) :: qs := by
  obtain ⟨q, qs, hq⟩ : ∃ q qs, partsAt sep r = q :: qs := by
    cases e : partsAt sep r with
    | nil => exact absurd e (parts_ne sep r)
    | cons q qs => exact ⟨q, qs, rfl⟩
  induction l with
  | nil => exact ⟨[], [], q, qs, rfl, hq, by simp [partsAt, hu, hq]⟩
  | cons t l ih =>
    obtain ⟨ps, p, q', qs', h1, h2, h3⟩ := ih
    by_cases h : t = sep
    · exact ⟨[] :: ps, p, q', qs', by simp [partsAt, h, h1], h2, by simp [partsAt, h, h3]⟩
    · cases ps with
      | nil => exact ⟨[], t :: p, q', qs', by simp [partsAt, h, h1], h2, by simp [partsAt, h, h3]⟩
      | cons p0 ps => exact ⟨(t :: p0) :: ps, p, q', qs', by simp [partsAt, h, h1], h2, by simp [partsAt, h, h3]⟩
theorem fold_or (mb : List T → Option Sem) : ∀ (qs : List (List T)) (f g : Sem), foldB mb orS qs = some g → ∃ h, foldFrom mb orS f qs = some h ∧ ∀ a b, h a b = (f a b || g a b) := by
  suffices H : ∀ (qs : List (List T)) (f g0 g : Sem), foldFrom mb orS g0 qs = some g → ∃ h, foldFrom mb orS (orS f g0) qs = some h ∧ ∀ a b, h a b = (f a b || g a b) by
    intro qs f g hg
    cases qs with
    | nil => cases hg
    | cons q qs =>
      simp only [foldB] at hg
      cases hq : mb q with
      | none => simp [hq] at hg
      | some g0 =>
        simp only [hq] at hg
        simp only [foldFrom, hq]
        exact H qs f g0 g hg
  intro qs
  induction qs with
  | nil =>
    intro f g0 g hg
    simp only [foldFrom, Option.some.injEq] at hg
    subst hg
    exact ⟨_, rfl, fun a b => rfl⟩
  | cons q qs ih =>
    intro f g0 g hg
    cases hq : mb q with
    | none => simp [foldFrom, hq] at hg
    | some g1 =>
      simp only [foldFrom, hq] at hg ⊢
      have : orS (orS f g0) g1 = orS f (orS g0 g1) := by funext a b; simp [orS, Bool.or_assoc]
      rw [this]
      exact ih f (orS g0 g1) g hg
theorem fold_and (mb : List T → Option Sem) : ∀ (qs : List (List T)) (f g : Sem), foldB mb andS qs = some g → ∃ h, foldFrom mb andS f qs = some h ∧ ∀ a b, h a b = (f a b && g a b) := by
  suffices H : ∀ (qs : List (List T)) (f g0 g : Sem), foldFrom mb andS g0 qs = some g → ∃ h, foldFrom mb andS (andS f g0) qs = some h ∧ ∀ a b, h a b = (f a b && g a b) by
    intro qs f g hg
    cases qs with
    | nil => cases hg
    | cons q qs =>
      simp only [foldB] at hg
      cases hq : mb q with
      | none => simp [hq] at hg
      | some g0 =>
        simp only [hq] at hg
        simp only [foldFrom, hq]
        exact H qs f g0 g hg
  intro qs
  induction qs with
  | nil =>
    intro f g0 g hg
    simp only [foldFrom, Option.some.injEq] at hg
    subst hg
    exact ⟨_, rfl, fun a b => rfl⟩
  | cons q qs ih =>
    intro f g0 g hg
    cases hq : mb q with
    | none => simp [foldFrom, hq] at hg
    | some g1 =>
      simp only [foldFrom, hq] at hg ⊢
      have : andS (andS f g0) g1 = andS f (andS g0 g1) := by funext a b; simp [andS, Bool.and_assoc]
      rw [this]
      exact ih f (andS g0 g1) g hg
theorem from_app (mb : List T → Option Sem) (jn : Sem → Sem → Sem) : ∀ (ps qs : List (List T)) (e f : Sem), foldFrom mb jn e ps = some f → foldFrom mb jn e (ps ++ qs) = foldFrom mb jn f qs := by
  intro ps
  induction ps with
  | nil =>
    intro qs e f h
    simp only [foldFrom, Option.some.injEq] at h
    subst h
    rfl
  | cons p ps ih =>
    intro qs e f h
    cases hp : mb p with
    | none => simp [foldFrom, hp] at h
    | some g =>
      simp only [foldFrom, hp] at h
      simp only [List.cons_append, foldFrom, hp]
      exact ih qs _ f h
theorem foldB_app (mb : List T → Option Sem) (jn : Sem → Sem → Sem) (ps qs : List (List T)) (f : Sem) (h : foldB mb jn ps = some f) : foldB mb jn (ps ++ qs) = foldFrom mb jn f qs := by
  cases ps with
  | nil => cases h
  | cons p ps =>
    cases hp : mb p with
    | none => simp [foldB, hp] at h
    | some g =>
      simp only [foldB, hp] at h
      simp only [List.cons_append, foldB, hp]
      exact from_app mb jn ps qs g f h
/-- Two conditions with 'or' between. -/
theorem cond_or (a b : List T) (f g : Sem) (ha : condP a = some f) (hb : condP b = some g) : ∃ h, condP (a ++ [111, 114] :: b) = some h ∧ ∀ x y, h x y = (f x y || g x y) := by
  rw [cond_parts] at ha hb
  rw [cond_parts, parts_join, foldB_app _ _ _ _ f ha]
  exact fold_or _ _ f g hb
theorem fold_one (mb : List T → Option Sem) (jn : Sem → Sem → Sem) (p : List T) : foldB mb jn [p] = mb p := by
  cases h : mb p <;> simp [foldB, foldFrom, h]
/-- All of the parts must be whole. -/
theorem fold_some (mb : List T → Option Sem) (jn : Sem → Sem → Sem) (ps : List (List T)) : (∃ f, foldB mb jn ps = some f) ↔ ps ≠ [] ∧ ∀ p ∈ ps, (mb p).isSome = true := by
  suffices H : ∀ (ps : List (List T)) (e : Sem), (∃ f, foldFrom mb jn e ps = some f) ↔ ∀ p ∈ ps, (mb p).isSome = true by
    cases ps with
    | nil => simp [foldB]
    | cons p ps =>
      cases hp : mb p with
      | none => simp [foldB, hp]
      | some g =>
        simp only [foldB, hp]
        rw [H ps g]
        simp [hp]
  intro ps
  induction ps with
  | nil => intro e; simp [foldFrom]
  | cons p ps ih =>
    intro e
    cases hp : mb p with
    | none => simp [foldFrom, hp]
    | some g =>
      simp only [foldFrom, hp]
      rw [ih]
      simp [hp]
/-- Two conditions with 'and' between: a condition; without an 'or' it holds just if both do. -/
theorem cond_and (a b : List T) (f g : Sem) (ha : condP a = some f) (hb : condP b = some g) : ∃ h, condP (a ++ [97, 110, 100] :: b) = some h ∧ ([111, 114] ∉ a → [111, 114] ∉ b → ∀ x y, h x y = (f x y && g x y)) := by
  rw [cond_parts] at ha hb
  rw [cond_parts]
  obtain ⟨ps, p, q, qs, h1, h2, h3⟩ := parts_and [111, 114] [97, 110, 100] (by decide) a b
  rw [h1] at ha
  rw [h2] at hb
  rw [h3]
  have sa := (fold_some _ _ _).1 ⟨f, ha⟩
  have sb := (fold_some _ _ _).1 ⟨g, hb⟩
  obtain ⟨fp, hfp⟩ := Option.isSome_iff_exists.1 (sa.2 p (by simp))
  obtain ⟨gq, hgq⟩ := Option.isSome_iff_exists.1 (sb.2 q (by simp))
  obtain ⟨m, hm1, hm2⟩ : ∃ m, foldB (whole relP) andS (partsAt [97, 110, 100] (p ++ [97, 110, 100] :: q)) = some m ∧ ∀ x y, m x y = (fp x y && gq x y) := by
    rw [parts_join, foldB_app _ _ _ _ fp hfp]
    exact fold_and _ _ fp gq hgq
  obtain ⟨h, hh⟩ : ∃ h, foldB (fun p => foldB (whole relP) andS (partsAt [97, 110, 100] p)) orS (ps ++ (p ++ [97, 110, 100] :: q) :: qs) = some h := by
    rw [fold_some]
    refine ⟨by simp, fun t ht => ?_⟩
    rcases List.mem_append.1 ht with ht | ht
    · exact sa.2 t (by simp [ht])
    · rcases List.mem_cons.1 ht with rfl | ht
      · rw [hm1]; rfl
      · exact sb.2 t (by simp [ht])
  refine ⟨h, hh, fun na nb x y => ?_⟩
  have e1 := parts_end [111, 114] a (fun t ht e => na (e ▸ ht))
  have e2 := parts_end [111, 114] b (fun t ht e => nb (e ▸ ht))
  rw [e1] at h1
  rw [e2] at h2
  have hps : ps = [] := by
    cases ps with
    | nil => rfl
    | cons z zs => simp at h1
  subst hps
  obtain ⟨rfl, rfl⟩ : q = b ∧ qs = [] := by
    injection h2 with h2 h2'
    exact ⟨h2.symm, h2'.symm⟩
  rw [List.nil_append, fold_one] at hh ha
  rw [fold_one] at hb
  have k1 : h = m := Option.some.inj (hh.symm.trans hm1)
  have k2 : f = fp := Option.some.inj (ha.symm.trans hfp)
  have k3 : g = gq := Option.some.inj (hb.symm.trans hgq)
  rw [k1, k2, k3]
  exact hm2 x y
/-- A word stands in the text. -/
theorem toks_infix : ∀ (n : Nat) (l : T), l.length ≤ n → ∀ ts, toks l = some ts → ∀ t ∈ ts, t <:+: l := by
  intro n
  induction n with
  | zero =>
    intro l h ts hts t ht
    have : l = [] := List.length_eq_zero_iff.1 (by omega)
    subst this
    have : ts = [] := by cases hts; rfl
    subst this
    cases ht
  | succ n ih =>
    intro l h ts hts t ht
    cases l with
    | nil =>
      have : ts = [] := by cases hts; rfl
      subst this
      cases ht
    | cons c r =>
      rw [toks_step] at hts
      by_cases hz : partLen (c :: r) = 0
      · simp [hz] at hts
      · simp only [hz, if_false] at hts
        cases hd : toks ((c :: r).drop (partLen (c :: r))) with
        | none => simp [hd] at hts
        | some l' =>
          simp only [hd, Option.some.injEq] at hts
          have hrec : ∀ t ∈ l', t <:+: c :: r := fun t ht => (ih _ (by simp at h ⊢; omega) l' hd t ht).trans (List.drop_suffix _ _).isInfix
          by_cases hc : c = 32
          · rw [if_pos hc] at hts
            subst hts
            exact hrec t ht
          · rw [if_neg hc] at hts
            subst hts
            rcases List.mem_cons.1 ht with rfl | ht
            · exact (List.take_prefix _ _).isInfix
            · exact hrec t ht
end Go.Proofs.YtaepcfidpekflaaGreatDoor.Pr
namespace Go.Proofs.YtaepcfidpekflaaGreatDoor
open Go.RowKit

/-- The words so far, the kind of the last byte, the bytes that are left. -/
def wGo (out : List Pr.T) (last : Nat) : Pr.T → Option (List Pr.T)
  | [] => some out
  | c :: r =>
    if kindN c = 3 then wGo out 3 r
    else if 0 < kindN c ∧ kindN c = last then wGo (out.dropLast ++ [out.getLastD [] ++ [c]]) (kindN c) r
    else if 0 < kindN c ∨ c = 61 ∨ c = 44 ∨ c = 37 then wGo (out ++ [[c]]) (kindN c) r
    else match r with
      | [] => none
      | d :: r' => if c = 33 ∧ d = 61 ∨ c = 46 ∧ d = 46 then wGo (out ++ [[c, d]]) (kindN c) r' else none
theorem wGo_cons (out : List Pr.T) (last : Nat) (c : UInt8) (r : Pr.T) : wGo out last (c :: r) = if kindN c = 3 then wGo out 3 r
    else if 0 < kindN c ∧ kindN c = last then wGo (out.dropLast ++ [out.getLastD [] ++ [c]]) (kindN c) r
    else if 0 < kindN c ∨ c = 61 ∨ c = 44 ∨ c = 37 then wGo (out ++ [[c]]) (kindN c) r
    else match r with
      | [] => none
      | d :: r' => if c = 33 ∧ d = 61 ∨ c = 46 ∧ d = 46 then wGo (out ++ [[c, d]]) (kindN c) r' else none := by
  cases r with
  | nil => simp only [wGo]
  | cons d r => rw [wGo]
def pK (k : Nat) : UInt8 → Bool := if k = 1 then Pr.isLet else if k = 2 then Pn.isDig else fun _ => false
theorem kind_four (c : UInt8) : (kindN c = 1 ∧ Pr.isLet c = true) ∨ (kindN c = 2 ∧ Pr.isLet c = false ∧ Pn.isDig c = true) ∨ (kindN c = 3 ∧ c = 32) ∨ (kindN c = 0 ∧ Pr.isLet c = false ∧ Pn.isDig c = false ∧ c ≠ 32) := by
  unfold kindN
  cases h1 : Pr.isLet c with
  | true => exact .inl ⟨by simp, rfl⟩
  | false =>
    cases h2 : Pn.isDig c with
    | true => exact .inr (.inl ⟨by simp, rfl, rfl⟩)
    | false =>
      by_cases h3 : c = 32
      · exact .inr (.inr (.inl ⟨by simp [h3], h3⟩))
      · exact .inr (.inr (.inr ⟨by simp [h3], rfl, rfl, h3⟩))
theorem pK_kind (c : UInt8) (last : Nat) (h : kindN c ≠ last ∨ kindN c = 0 ∨ kindN c = 3) : pK last c = false := by
  unfold pK
  have h4 := kind_four c
  by_cases h1 : last = 1
  · rw [if_pos h1]
    rcases h4 with ⟨a, b⟩ | ⟨a, b, _⟩ | ⟨a, b⟩ | ⟨a, b, _⟩
    · omega
    · exact b
    · subst b; decide
    · exact b
  · rw [if_neg h1]
    by_cases h2 : last = 2
    · rw [if_pos h2]
      rcases h4 with ⟨a, b⟩ | ⟨a, b, _⟩ | ⟨a, b⟩ | ⟨a, b, b2, _⟩
      · rcases (isLet_iff c).1 b with ⟨b1, b2⟩
        rw [← Bool.not_eq_true, Pn.isDig_iff]; omega
      · omega
      · subst b; decide
      · exact b2
    · rw [if_neg h2]
theorem pK_self (c : UInt8) (h : 0 < kindN c) (h3 : kindN c ≠ 3) : pK (kindN c) c = true := by
  rcases kind_four c with ⟨a, b⟩ | ⟨a, b, b2⟩ | ⟨a, b⟩ | ⟨a, b, b2, _⟩
  · rw [a]; exact b
  · rw [a]; exact b2
  · omega
  · omega
theorem part_kind (c : UInt8) (r : Pr.T) (h : 0 < kindN c) (h3 : kindN c ≠ 3) : Pr.partLen (c :: r) = (r.takeWhile (pK (kindN c))).length + 1 := by
  rcases kind_four c with ⟨a, b⟩ | ⟨a, b, b2⟩ | ⟨a, b⟩ | ⟨a, b, b2, _⟩
  · rw [a]; simp [Pr.partLen, b, pK]
  · rw [a]; simp [Pr.partLen, b, b2, pK]
  · omega
  · omega
theorem take_tw (p : UInt8 → Bool) (r : Pr.T) : r.take (r.takeWhile p).length = r.takeWhile p ∧ r.drop (r.takeWhile p).length = r.dropWhile p := by
  induction r with
  | nil => exact ⟨rfl, rfl⟩
  | cons c r ih =>
    cases h : p c with
    | true =>
      rw [List.takeWhile_cons_of_pos h, List.dropWhile_cons_of_pos h, List.length_cons, List.take_succ_cons, List.drop_succ_cons, ih.1, ih.2]
      exact ⟨rfl, rfl⟩
    | false =>
      rw [List.takeWhile_cons_of_neg (by simp [h]), List.dropWhile_cons_of_neg (by simp [h])]
      exact ⟨rfl, rfl⟩
theorem toks_kind (c : UInt8) (r : Pr.T) (h : 0 < kindN c) (h3 : kindN c ≠ 3) : Pr.toks (c :: r) = (Pr.toks (r.dropWhile (pK (kindN c)))).map ((c :: r.takeWhile (pK (kindN c))) :: ·) := by
  have hc : c ≠ 32 := fun e => by subst e; exact h3 (by decide)
  obtain ⟨t1, t2⟩ := take_tw (pK (kindN c)) r
  rw [Pr.toks_step, part_kind c r h h3, if_neg (by omega), List.drop_succ_cons, List.take_succ_cons, t1, t2]
  cases Pr.toks (r.dropWhile (pK (kindN c))) with
  | none => rfl
  | some l => simp [hc]
theorem toks_sign (c : UInt8) (r : Pr.T) (h : kindN c = 0) (hs : c = 61 ∨ c = 44 ∨ c = 37) : Pr.toks (c :: r) = (Pr.toks r).map ([c] :: ·) := by
  have hp : Pr.partLen (c :: r) = 1 := by rcases hs with rfl | rfl | rfl <;> simp [Pr.partLen, Pr.isLet, Pn.isDig]
  have hc : c ≠ 32 := by rcases hs with rfl | rfl | rfl <;> decide
  rw [Pr.toks_step, hp]
  simp only [List.drop_succ_cons, List.drop_zero, List.take_succ_cons, List.take_zero]
  cases Pr.toks r <;> simp [hc]
theorem toks_two (c d : UInt8) (r : Pr.T) (hs : c = 33 ∧ d = 61 ∨ c = 46 ∧ d = 46) : Pr.toks (c :: d :: r) = (Pr.toks r).map ([c, d] :: ·) := by
  have hp : Pr.partLen (c :: d :: r) = 2 := by rcases hs with ⟨rfl, rfl⟩ | ⟨rfl, rfl⟩ <;> simp [Pr.partLen, Pr.isLet, Pn.isDig]
  have hc : c ≠ 32 := by rcases hs with ⟨rfl, _⟩ | ⟨rfl, _⟩ <;> decide
  rw [Pr.toks_step, hp]
  simp only [List.drop_succ_cons, List.drop_zero, List.take_succ_cons, List.take_zero]
  cases Pr.toks r <;> simp [hc]
theorem toks_bad (c : UInt8) (r : Pr.T) (h : kindN c = 0) (hs : ¬ (c = 61 ∨ c = 44 ∨ c = 37)) (hr : ¬ (c = 33 ∧ r.head? = some 61 ∨ c = 46 ∧ r.head? = some 46)) : Pr.toks (c :: r) = none := by
  rcases kind_four c with ⟨a, b⟩ | ⟨a, b, b2⟩ | ⟨a, b⟩ | ⟨a, b, b2, b3⟩
  · omega
  · omega
  · omega
  · have hp : Pr.partLen (c :: r) = 0 := by
      rw [Pr.partLen, b, b2, if_neg Bool.false_ne_true, if_neg Bool.false_ne_true, if_neg hr, if_neg]
      rintro (e | e | e | e)
      · exact b3 e
      · exact hs (.inl e)
      · exact hs (.inr (.inr e))
      · exact hs (.inr (.inl e))
    rw [Pr.toks_step, hp]; rfl
theorem tw_stop (p : UInt8 → Bool) (c : UInt8) (r : Pr.T) (h : p c = false) : (c :: r).takeWhile p = [] ∧ (c :: r).dropWhile p = c :: r := by
  constructor
  · rw [List.takeWhile_cons_of_neg (by simp [h])]
  · rw [List.dropWhile_cons_of_neg (by simp [h])]
/-- Behind a word that may go on. -/
theorem words_go : ∀ (n : Nat) (s : Pr.T), s.length ≤ n → (∀ (out : List Pr.T) (last : Nat), last = 0 ∨ last = 3 → wGo out last s = (Pr.toks s).map (out ++ ·)) ∧
    (∀ (out : List Pr.T) (t : Pr.T) (last : Nat), wGo (out ++ [t]) last s = (Pr.toks (s.dropWhile (pK last))).map (fun l => (out ++ [t ++ s.takeWhile (pK last)]) ++ l)) := by
  intro n
  induction n with
  | zero =>
    intro s h
    have : s = [] := List.length_eq_zero_iff.1 (by omega)
    subst this
    refine ⟨fun out last _ => ?_, fun out t last => ?_⟩
    · simp [wGo, Pr.toks, Pr.splitGo]
    · simp [wGo, Pr.toks, Pr.splitGo]
  | succ n ih =>
    intro s h
    cases s with
    | nil =>
      refine ⟨fun out last _ => ?_, fun out t last => ?_⟩
      · simp [wGo, Pr.toks, Pr.splitGo]
      · simp [wGo, Pr.toks, Pr.splitGo]
    | cons c r =>
      have hr : r.length ≤ n := by simp at h; omega
      -- a byte that does not go on with the last word
      have step : ∀ (out : List Pr.T) (last : Nat), (kindN c ≠ last ∨ kindN c = 0 ∨ kindN c = 3) → wGo out last (c :: r) = (Pr.toks (c :: r)).map (out ++ ·) := by
        intro out last hl
        by_cases h3 : kindN c = 3
        · have hc : c = 32 := by
            rcases kind_four c with ⟨a, b⟩ | ⟨a, b, b2⟩ | ⟨a, b⟩ | ⟨a, b, b2, b3⟩
            · omega
            · omega
            · exact b
            · omega
          rw [wGo_cons, if_pos h3, (ih r hr).1 out 3 (.inr rfl), hc, Pr.toks_blank]
        · by_cases h0 : 0 < kindN c
          · have hn : ¬ (0 < kindN c ∧ kindN c = last) := by omega
            rw [wGo_cons, if_neg h3, if_neg hn, if_pos (.inl h0), (ih r hr).2 out [c] (kindN c), toks_kind c r h0 h3]
            cases Pr.toks (r.dropWhile (pK (kindN c))) with
            | none => rfl
            | some l => simp
          · have hn : ¬ (0 < kindN c ∧ kindN c = last) := by omega
            have hz : kindN c = 0 := by omega
            by_cases hs : c = 61 ∨ c = 44 ∨ c = 37
            · rw [wGo_cons, if_neg h3, if_neg hn, if_pos (.inr hs), (ih r hr).1 _ (kindN c) (.inl hz), toks_sign c r hz hs]
              cases Pr.toks r <;> simp
            · have hn2 : ¬ (0 < kindN c ∨ c = 61 ∨ c = 44 ∨ c = 37) := fun e => e.elim h0 hs
              cases r with
              | nil =>
                rw [wGo_cons, if_neg h3, if_neg hn, if_neg hn2, toks_bad c [] hz hs (by simp)]
                rfl
              | cons d r' =>
                by_cases h2 : c = 33 ∧ d = 61 ∨ c = 46 ∧ d = 46
                · rw [wGo_cons, if_neg h3, if_neg hn, if_neg hn2]
                  simp only [if_pos h2]
                  rw [(ih r' (by simp at hr; omega)).1 _ (kindN c) (.inl hz), toks_two c d r' h2]
                  cases Pr.toks r' <;> simp
                · rw [wGo_cons, if_neg h3, if_neg hn, if_neg hn2, toks_bad c (d :: r') hz hs (by simpa using h2)]
                  simp only [if_neg h2]
                  rfl
      refine ⟨fun out last hl => step out last (by omega), fun out t last => ?_⟩
      by_cases hl : kindN c ≠ last ∨ kindN c = 0 ∨ kindN c = 3
      · obtain ⟨t1, t2⟩ := tw_stop (pK last) c r (pK_kind c last hl)
        rw [step _ _ hl, t1, t2, List.append_nil]
      · have hk : 0 < kindN c ∧ kindN c = last := by omega
        have h3 : kindN c ≠ 3 := by omega
        have hp := pK_self c hk.1 h3
        rw [wGo_cons, if_neg h3, if_pos hk]
        simp only [List.dropLast_concat, List.getLastD_concat]
        rw [(ih r hr).2 out (t ++ [c]) (kindN c), ← hk.2, List.dropWhile_cons_of_pos hp, List.takeWhile_cons_of_pos hp]
        simp
theorem words_toks (s : Pr.T) : wGo [] 3 s = Pr.toks s := by
  rw [(words_go s.length s (Nat.le_refl _)).1 [] 3 (.inr rfl)]
  cases Pr.toks s <;> rfl
end Go.Proofs.YtaepcfidpekflaaGreatDoor
namespace Go.Proofs.YtaepcfidpekflaaGreatDoor
open Go.RowKit

theorem cut_at64 (l : List UInt8) (k : Nat) (hk : k < l.length) (h1 : ∀ j (hj : j < l.length), j < k → l[j] ≠ 64) (h2 : l[k] = 64) : Lib.cut l [64] = (l.take k, l.drop (k + 1), true) := by
  have hi : Lib.index l [64] = k := by
    refine Lib.index_first (by omega) ?_ ?_
    · rw [Lib.occAt, List.drop_eq_getElem_cons hk, h2]; simp [List.isPrefixOf]
    · intro j hj
      rw [Lib.occAt, List.drop_eq_getElem_cons (by omega)]
      have := h1 j (by omega) hj
      simp only [List.isPrefixOf, Bool.and_true, beq_eq_false_iff_ne]
      exact fun e => this e.symm
  unfold Lib.cut
  rw [hi, if_pos (by omega)]
  simp
theorem cut_end64 (l : List UInt8) (h1 : ∀ j (hj : j < l.length), l[j] ≠ 64) : Lib.cut l [64] = (l, [], false) := by
  have hi : Lib.index l [64] = -1 := by
    refine Lib.index_none ?_
    intro j hj
    rw [Lib.occAt]
    rcases Nat.lt_or_ge j l.length with h | h
    · rw [List.drop_eq_getElem_cons h]
      have := h1 j h
      simp only [List.isPrefixOf, Bool.and_true, beq_eq_false_iff_ne]
      exact fun e => this e.symm
    · rw [List.drop_eq_nil_of_le h]; rfl
  unfold Lib.cut
  rw [hi, if_neg (by omega)]
theorem ret_cut64 {l a b : List UInt8} {s t : ByteArray} {p q : Bool} (h : Lib.cut l [64] = (a, b, p)) (hs : s = ⟨a.toArray⟩) (ht : t = ⟨b.toArray⟩) (hq : q = p) :
    Ending.returned (.tuple #[.string s, .string t, .bool q]) = .returned (.tuple #[.string ⟨(Lib.cut l [64]).1.toArray⟩, .string ⟨(Lib.cut l [64]).2.1.toArray⟩, .bool (Lib.cut l [64]).2.2]) := by
  rw [h, hs, ht, hq]

set_option maxHeartbeats 400000 in
theorem rcut_at (s : ByteArray) (w : World) (hs : s.size ≤ 1000000) :
    Calls Tryz.prog 49 #[.string s, .int .u8 64] w fun e w' => e = .returned (.tuple #[.string ⟨(Lib.cut s.data.toList [64]).1.toArray⟩, .string ⟨(Lib.cut s.data.toList [64]).2.1.toArray⟩, .bool (Lib.cut s.data.toList [64]).2.2]) ∧ Below w.heap.size w w' := by
  go_enter Tryz.func49, Tryz.ntmps49
  go_wp2
  go_loop [7] (fun t => ∃ k : Nat, k ≤ s.size ∧ t = .int .i64 k ∧ Hid (∀ j (hj : j < s.data.toList.length), j < k → s.data.toList[j] ≠ 64)) (fun t => s.size - (intOf t).toNat)
  case atStart => exact ⟨0, Nat.zero_le _, rfl, fun j _ h => by omega⟩
  case round =>
    obtain ⟨k, hk, rfl, HK⟩ := hrel
    by_cases hlt : k < s.size
    · have hlt' : k < s.data.toList.length := by rw [← Lib.size_eq]; exact hlt
      have hgk : s.data.toList[k] = s[k] := rfl
      by_cases hc : s[k].toNat = 64
      · have hc' : ((s[k].toNat : Int) == 64) = true := by simp; omega
        have HX : Hid (Lib.cut s.data.toList [64] = (s.data.toList.take k, s.data.toList.drop (k + 1), true)) := cut_at64 _ k hlt' HK.out (by rw [hgk]; exact UInt8.toNat_inj.1 hc)
        clear hc hgk
        go_wp2
        go_quiet (fail)
        go_wp2
        go_ret3
        exact ⟨ret_cut64 HX.out (by rw [Lib.extract_upto]) (by rw [Lib.extract_from]) rfl, drewB _ _⟩
      · have hc' : ((s[k].toNat : Int) == 64) = false := by simp; omega
        have HK2 : Hid (∀ j (hj : j < s.data.toList.length), j < k + 1 → s.data.toList[j] ≠ 64) := by
          intro j hj h
          by_cases e : j = k
          · subst e; intro h64; rw [hgk] at h64; exact hc (by rw [h64]; rfl)
          · exact HK.out j hj (by omega)
        clear hc hgk
        go_wp2
        go_round
        case rel => exact ⟨k + 1, hlt, by go_num, HK2⟩
        case measure => simp [intOf]; omega
    · have HX : Hid (Lib.cut s.data.toList [64] = (s.data.toList, [], false)) := cut_end64 _ (fun j hj => HK.out j hj (by rw [← Lib.size_eq] at hj; omega))
      go_wp2
      go_ret3
      exact ⟨ret_cut64 HX.out (by rw [Lib.mk_data]) rfl rfl, Below.refl _ _⟩

end Go.Proofs.YtaepcfidpekflaaGreatDoor
