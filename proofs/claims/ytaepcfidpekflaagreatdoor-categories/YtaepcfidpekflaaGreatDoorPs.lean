/-
  PLAIN LEAN, no program in it: a row of words read from the left, against the words parted at a word. By the verifier.
-/
import Derived.Test.YtaepcfidpekflaaGreatDoorPr
namespace Go.Proofs.YtaepcfidpekflaaGreatDoor.Pr

def partsAt (sep : T) : List T → List (List T)
  | [] => [[]]
  | t :: l => if t = sep then [] :: partsAt sep l else match partsAt sep l with
    | p :: ps => (t :: p) :: ps
    | [] => [[t]]
def whole (mem : Rd) (p : List T) : Option Sem := match mem p with
  | some (f, []) => some f
  | _ => none
def foldFrom (mb : List T → Option Sem) (jn : Sem → Sem → Sem) : Sem → List (List T) → Option Sem
  | f, [] => some f
  | f, p :: ps => match mb p with
    | none => none
    | some g => foldFrom mb jn (jn f g) ps
def foldB (mb : List T → Option Sem) (jn : Sem → Sem → Sem) : List (List T) → Option Sem
  | [] => none
  | p :: ps => match mb p with
    | none => none
    | some f => foldFrom mb jn f ps
structure Good (mem : Rd) (Stop : T → Prop) : Prop where
  sound : ∀ l f r, mem l = some (f, r) → ∃ p, l = p ++ r ∧ mem p = some (f, []) ∧ ∀ t ∈ p, ¬ Stop t
  complete : ∀ p f r, mem p = some (f, []) → (r = [] ∨ ∃ t r', r = t :: r' ∧ Stop t) → mem (p ++ r) = some (f, r)

theorem parts_end (sep : T) (p : List T) (h : ∀ t ∈ p, t ≠ sep) : partsAt sep p = [p] := by
  induction p with
  | nil => rfl
  | cons t p ih =>
    have h1 := h t (by simp)
    have h2 := ih fun u hu => h u (by simp [hu])
    simp [partsAt, h1, h2]
theorem parts_app (sep : T) (p r : List T) (h : ∀ t ∈ p, t ≠ sep) : partsAt sep (p ++ sep :: r) = p :: partsAt sep r := by
  induction p with
  | nil => simp [partsAt]
  | cons t p ih =>
    have h1 := h t (by simp)
    have h2 := ih fun u hu => h u (by simp [hu])
    simp only [List.cons_append, partsAt, h1, if_false]
    rw [h2]
theorem parts_split (sep : T) (l : List T) : ∃ p rest, (∀ t ∈ p, t ≠ sep) ∧ l = p ++ rest ∧ ((rest = [] ∧ partsAt sep l = [p]) ∨ ∃ r', rest = sep :: r' ∧ partsAt sep l = p :: partsAt sep r') := by
  induction l with
  | nil => exact ⟨[], [], by simp, rfl, .inl ⟨rfl, rfl⟩⟩
  | cons t l ih =>
    by_cases c : t = sep
    · subst c
      exact ⟨[], t :: l, by simp, rfl, .inr ⟨l, rfl, by simp [partsAt]⟩⟩
    · obtain ⟨p, rest, h1, h2, h3⟩ := ih
      have hp : ∀ u ∈ t :: p, u ≠ sep := by
        intro u hu
        rcases List.mem_cons.1 hu with rfl | hu
        · exact c
        · exact h1 u hu
      refine ⟨t :: p, rest, hp, by rw [h2]; rfl, ?_⟩
      rcases h3 with ⟨h3, h4⟩ | ⟨r', h3, h4⟩
      · left
        refine ⟨h3, ?_⟩
        rw [h2, h3, List.append_nil]
        exact parts_end sep _ hp
      · right
        refine ⟨r', h3, ?_⟩
        rw [h2, h3]
        exact parts_app sep _ r' hp

variable {mem : Rd} {Stop : T → Prop} {sep : T} {jn : Sem → Sem → Sem}

theorem whole_some {p : List T} {f : Sem} (h : whole mem p = some f) : mem p = some (f, []) := by
  unfold whole at h
  split at h
  · cases h; assumption
  · cases h
theorem whole_of {p : List T} {f : Sem} (h : mem p = some (f, [])) : whole mem p = some f := by simp [whole, h]

theorem rowGo_whole (hg : Good mem Stop) (hs : Stop sep) : ∀ (k : Nat) (f : Sem) (l : List T), l.length ≤ k →
    (match rowGo mem sep jn k f l with
      | some (g, []) => some g
      | _ => none) = match l with
      | [] => some f
      | t :: l' => if t = sep then foldFrom (whole mem) jn f (partsAt sep l') else none := by
  intro k
  induction k with
  | zero =>
    intro f l hl
    obtain rfl : l = [] := List.length_eq_zero_iff.1 (by omega)
    rfl
  | succ k ih =>
    intro f l hl
    cases l with
    | nil => rfl
    | cons t l' =>
      by_cases c : t = sep
      · subst c
        have hl' : l'.length ≤ k := by simpa using hl
        obtain ⟨p, rest, h1, h2, h3⟩ := parts_split t l'
        simp only [rowGo, if_true]
        cases hw : whole mem p with
        | some g =>
          have hm : mem l' = some (g, rest) := by
            rw [h2]
            refine hg.complete p g rest (whole_some hw) ?_
            rcases h3 with ⟨h3, _⟩ | ⟨r', h3, _⟩
            · exact .inl h3
            · exact .inr ⟨t, r', h3, hs⟩
          simp only [hm]
          rw [ih (jn f g) rest (by rw [h2] at hl'; simp at hl'; omega)]
          rcases h3 with ⟨h3, h4⟩ | ⟨r', h3, h4⟩
          · subst h3; rw [h4]; simp [foldFrom, hw]
          · subst h3; rw [h4]; simp [foldFrom, hw]
        | none =>
          have hr : foldFrom (whole mem) jn f (partsAt t l') = none := by
            rcases h3 with ⟨_, h4⟩ | ⟨r', _, h4⟩ <;> rw [h4] <;> simp [foldFrom, hw]
          rw [hr]
          cases hm : mem l' with
          | none => rfl
          | some x =>
            obtain ⟨g, r⟩ := x
            simp only []
            obtain ⟨p', e1, e2, e3⟩ := hg.sound l' g r hm
            have hp' : ∀ u ∈ p', u ≠ t := fun u hu hut => e3 u hu (by rw [hut]; exact hs)
            have hrk : r.length ≤ k := by rw [e1] at hl'; simp at hl'; omega
            rw [ih (jn f g) r hrk]
            cases r with
            | nil =>
              exfalso
              rw [List.append_nil] at e1
              subst e1
              have := parts_end t l' hp'
              rcases h3 with ⟨_, h4⟩ | ⟨r', _, h4⟩ <;> rw [h4] at this <;> simp at this
              · subst this; rw [whole_of e2] at hw; cases hw
              · obtain ⟨this, hx⟩ := this
                subst this; rw [whole_of e2] at hw; cases hw
            | cons t' r'' =>
              by_cases c : t' = t
              · exfalso
                subst c
                have := parts_app t' p' r'' hp'
                rw [← e1] at this
                have hpp : p = p' := by
                  rcases h3 with ⟨_, h4⟩ | ⟨r', _, h4⟩ <;> rw [h4] at this
                  · injection this
                  · injection this
                rw [hpp, whole_of e2] at hw
                cases hw
              · simp [c]
      · simp [rowGo, c]

theorem row_whole (hg : Good mem Stop) (hs : Stop sep) (l : List T) : whole (rowP mem sep jn) l = foldB (whole mem) jn (partsAt sep l) := by
  obtain ⟨p, rest, h1, h2, h3⟩ := parts_split sep l
  show (match rowP mem sep jn l with
    | some (f, []) => some f
    | _ => none) = _
  unfold rowP
  cases hw : whole mem p with
  | some g =>
    have hm : mem l = some (g, rest) := by
      rw [h2]
      refine hg.complete p g rest (whole_some hw) ?_
      rcases h3 with ⟨h3, _⟩ | ⟨r', h3, _⟩
      · exact .inl h3
      · exact .inr ⟨sep, r', h3, hs⟩
    simp only [hm]
    have hk := rowGo_whole (jn := jn) hg hs rest.length g rest (Nat.le_refl _)
    rw [hk]
    rcases h3 with ⟨h3, h4⟩ | ⟨r', h3, h4⟩
    · subst h3; rw [h4]; simp [foldB, hw, foldFrom]
    · subst h3; rw [h4]; simp [foldB, hw]
  | none =>
    have hr : foldB (whole mem) jn (partsAt sep l) = none := by
      rcases h3 with ⟨_, h4⟩ | ⟨r', _, h4⟩ <;> rw [h4] <;> simp [foldB, hw]
    change _ = foldB (whole mem) jn (partsAt sep l)
    rw [hr]
    cases hm : mem l with
    | none => rfl
    | some x =>
      obtain ⟨g, r⟩ := x
      simp only []
      obtain ⟨p', e1, e2, e3⟩ := hg.sound l g r hm
      have hp' : ∀ u ∈ p', u ≠ sep := fun u hu hut => e3 u hu (by rw [hut]; exact hs)
      have hk := rowGo_whole (jn := jn) hg hs r.length g r (Nat.le_refl _)
      rw [hk]
      cases r with
      | nil =>
        exfalso
        rw [List.append_nil] at e1
        subst e1
        have := parts_end sep l hp'
        rcases h3 with ⟨_, h4⟩ | ⟨r', _, h4⟩ <;> rw [h4] at this <;> simp at this
        · subst this; rw [whole_of e2] at hw; cases hw
        · obtain ⟨this, hx⟩ := this
          subst this; rw [whole_of e2] at hw; cases hw
      | cons t' r'' =>
        by_cases c : t' = sep
        · exfalso
          subst c
          have := parts_app t' p' r'' hp'
          rw [← e1] at this
          have hpp : p = p' := by
            rcases h3 with ⟨_, h4⟩ | ⟨r', _, h4⟩ <;> rw [h4] at this
            · injection this
            · injection this
          rw [hpp, whole_of e2] at hw
          cases hw
        · simp [c]

theorem rowGo_sound (hg : Good mem Stop) (hs : Stop sep) (Stop' : T → Prop) (h' : ∀ t, Stop' t → Stop t ∧ t ≠ sep) : ∀ (k : Nat) (f : Sem) (l : List T) (g : Sem) (r : List T), l.length ≤ k → rowGo mem sep jn k f l = some (g, r) →
    ∃ p, l = p ++ r ∧ (p = [] ∨ ∃ p', p = sep :: p') ∧ (∀ k', p.length ≤ k' → rowGo mem sep jn k' f p = some (g, [])) ∧ ∀ t ∈ p, ¬ Stop' t := by
  intro k
  induction k with
  | zero =>
    intro f l g r hl h
    obtain rfl : l = [] := List.length_eq_zero_iff.1 (by omega)
    simp [rowGo] at h
    obtain ⟨rfl, rfl⟩ := h
    refine ⟨[], rfl, .inl rfl, ?_, by simp⟩
    intro k' _
    cases k' <;> rfl
  | succ k ih =>
    intro f l g r hl h
    cases l with
    | nil =>
      simp [rowGo] at h
      obtain ⟨rfl, rfl⟩ := h
      refine ⟨[], rfl, .inl rfl, ?_, by simp⟩
      intro k' _
      cases k' <;> rfl
    | cons t l' =>
      by_cases c : t = sep
      · subst c
        simp only [rowGo, if_true] at h
        cases hm : mem l' with
        | none => simp [hm] at h
        | some x =>
          obtain ⟨g1, r1⟩ := x
          simp only [hm] at h
          obtain ⟨p1, e1, e2, e3⟩ := hg.sound l' g1 r1 hm
          have hk : r1.length ≤ k := by
            have : l'.length ≤ k := by simpa using hl
            rw [e1] at this; simp at this; omega
          obtain ⟨p2, q1, q2, q3, q4⟩ := ih (jn f g1) r1 g r hk h
          refine ⟨t :: (p1 ++ p2), by rw [e1, q1]; simp, .inr ⟨_, rfl⟩, ?_, ?_⟩
          · intro k' hk'
            cases k' with
            | zero => simp at hk'
            | succ k' =>
              simp only [rowGo, if_true]
              have : mem (p1 ++ p2) = some (g1, p2) := by
                refine hg.complete p1 g1 p2 e2 ?_
                rcases q2 with rfl | ⟨p', rfl⟩
                · exact .inl rfl
                · exact .inr ⟨t, p', rfl, hs⟩
              rw [this]
              exact q3 k' (by simp at hk'; omega)
          · intro u hu hS
            rcases List.mem_cons.1 hu with rfl | hu
            · exact (h' u hS).2 rfl
            · rcases List.mem_append.1 hu with hu | hu
              · exact e3 u hu (h' u hS).1
              · exact q4 u hu hS
      · simp only [rowGo, c, if_false, Option.some.injEq, Prod.mk.injEq] at h
        obtain ⟨rfl, rfl⟩ := h
        refine ⟨[], rfl, .inl rfl, ?_, by simp⟩
        intro k' _
        cases k' <;> rfl

theorem rowGo_complete (hg : Good mem Stop) (hs : Stop sep) (Stop' : T → Prop) (h' : ∀ t, Stop' t → Stop t ∧ t ≠ sep) : ∀ (k : Nat) (f : Sem) (p : List T) (g : Sem) (r : List T), p.length ≤ k → rowGo mem sep jn k f p = some (g, []) →
    (r = [] ∨ ∃ t r', r = t :: r' ∧ Stop' t) → ∀ k', (p ++ r).length ≤ k' → rowGo mem sep jn k' f (p ++ r) = some (g, r) := by
  intro k
  induction k with
  | zero =>
    intro f p g r hl h hr k' hk'
    obtain rfl : p = [] := List.length_eq_zero_iff.1 (by omega)
    simp [rowGo] at h
    subst h
    rcases hr with rfl | ⟨t, r', rfl, hS⟩
    · cases k' <;> rfl
    · cases k' with
      | zero => simp at hk'
      | succ k' => simp [rowGo, (h' t hS).2]
  | succ k ih =>
    intro f p g r hl h hr k' hk'
    cases p with
    | nil =>
      simp [rowGo] at h
      subst h
      rcases hr with rfl | ⟨t, r', rfl, hS⟩
      · cases k' <;> rfl
      · cases k' with
        | zero => simp at hk'
        | succ k' => simp [rowGo, (h' t hS).2]
    | cons t p' =>
      by_cases c : t = sep
      · subst c
        simp only [rowGo, if_true] at h
        cases hm : mem p' with
        | none => simp [hm] at h
        | some x =>
          obtain ⟨g1, r1⟩ := x
          simp only [hm] at h
          obtain ⟨p1, e1, e2, e3⟩ := hg.sound p' g1 r1 hm
          have hk : r1.length ≤ k := by
            have : p'.length ≤ k := by simpa using hl
            rw [e1] at this; simp at this; omega
          cases k' with
          | zero => simp at hk'
          | succ k' =>
            simp only [List.cons_append, rowGo, if_true]
            have hc : r1 ++ r = [] ∨ ∃ t r', r1 ++ r = t :: r' ∧ Stop t := by
              cases r1 with
              | nil =>
                rcases hr with rfl | ⟨t, r', rfl, hS⟩
                · exact .inl rfl
                · exact .inr ⟨t, r', rfl, (h' t hS).1⟩
              | cons u r1' =>
                right
                refine ⟨u, r1' ++ r, rfl, ?_⟩
                cases k with
                | zero => simp at hk
                | succ k =>
                  by_cases c : u = t
                  · rw [c]; exact hs
                  · simp [rowGo, c] at h
            have : mem (p' ++ r) = some (g1, r1 ++ r) := by
              rw [e1, List.append_assoc]
              exact hg.complete p1 g1 (r1 ++ r) e2 hc
            rw [this]
            refine ih (jn f g1) r1 g r hk h hr k' ?_
            rw [e1] at hk'
            simp at hk' ⊢
            omega
      · simp [rowGo, c] at h

theorem row_good (hg : Good mem Stop) (hs : Stop sep) (Stop' : T → Prop) (h' : ∀ t, Stop' t → Stop t ∧ t ≠ sep) : Good (rowP mem sep jn) Stop' := by
  constructor
  · intro l f r h
    unfold rowP at h
    cases hm : mem l with
    | none => simp [hm] at h
    | some x =>
      obtain ⟨g1, r1⟩ := x
      simp only [hm] at h
      obtain ⟨p1, e1, e2, e3⟩ := hg.sound l g1 r1 hm
      obtain ⟨p2, q1, q2, q3, q4⟩ := rowGo_sound hg hs Stop' h' r1.length g1 r1 f r (Nat.le_refl _) h
      refine ⟨p1 ++ p2, by rw [e1, q1]; simp, ?_, ?_⟩
      · unfold rowP
        have : mem (p1 ++ p2) = some (g1, p2) := by
          refine hg.complete p1 g1 p2 e2 ?_
          rcases q2 with rfl | ⟨p', rfl⟩
          · exact .inl rfl
          · exact .inr ⟨sep, p', rfl, hs⟩
        rw [this]
        exact q3 _ (Nat.le_refl _)
      · intro u hu hS
        rcases List.mem_append.1 hu with hu | hu
        · exact e3 u hu (h' u hS).1
        · exact q4 u hu hS
  · intro p f r h hr
    unfold rowP at h ⊢
    cases hm : mem p with
    | none => simp [hm] at h
    | some x =>
      obtain ⟨g1, r1⟩ := x
      simp only [hm] at h
      obtain ⟨p1, e1, e2, e3⟩ := hg.sound p g1 r1 hm
      have hc : r1 ++ r = [] ∨ ∃ t r', r1 ++ r = t :: r' ∧ Stop t := by
        cases r1 with
        | nil =>
          rcases hr with rfl | ⟨t, r', rfl, hS⟩
          · exact .inl rfl
          · exact .inr ⟨t, r', rfl, (h' t hS).1⟩
        | cons u r1' =>
          right
          refine ⟨u, r1' ++ r, rfl, ?_⟩
          by_cases c : u = sep
          · rw [c]; exact hs
          · simp [rowGo, c] at h
      have : mem (p ++ r) = some (g1, r1 ++ r) := by
        rw [e1, List.append_assoc]
        exact hg.complete p1 g1 (r1 ++ r) e2 hc
      rw [this]
      exact rowGo_complete hg hs Stop' h' r1.length g1 r1 f r (Nat.le_refl _) h hr _ (Nat.le_refl _)
end Go.Proofs.YtaepcfidpekflaaGreatDoor.Pr
