/-
  Several texts in one (Ps, Pt, Pu). By the verifier.
-/
import Derived.Test.YtaepcfidpekflaaGreatDoorZ03
namespace Go.Proofs.YtaepcfidpekflaaGreatDoor.Pr

def partsAt (sep : T) : List T → List (List T)
  | [] => [[]]
  | t :: l => if t = sep then [] :: partsAt sep l else match partsAt sep l with
    | p :: ps => (t :: p) :: ps
    | [] => [[t]]
def whole (mem : Rd) (p : List T) : Option Sem := match mem p with
  | some (f, []) => some f
  | _ => none
def foldFrom (mb : List T → Option Sem) (jn : Sem → Sem → Sem) : Sem → List (List T) → Option Sem
  | f, [] => some f
  | f, p :: ps => match mb p with
    | none => none
    | some g => foldFrom mb jn (jn f g) ps
def foldB (mb : List T → Option Sem) (jn : Sem → Sem → Sem) : List (List T) → Option Sem
  | [] => none
  | p :: ps => match mb p with
    | none => none
    | some f => foldFrom mb jn f ps
structure Good (mem : Rd) (Stop : T → Prop) : Prop where
  sound : ∀ l f r, mem l = some (f, r) → ∃ p, l = p ++ r ∧ mem p = some (f, []) ∧ ∀ t ∈ p, ¬ Stop t
  complete : ∀ p f r, mem p = some (f, []) → (r = [] ∨ ∃ t r', r = t :: r' ∧ Stop t) → mem (p ++ r) = some (f, r)

theorem parts_end (sep : T) (p : List T) (h : ∀ t ∈ p, t ≠ sep) : partsAt sep p = [p] := by
  induction p with
  | nil => rfl
  | cons t p ih =>
    have h1 := h t (by simp)
    have h2 := ih fun u hu => h u (by simp [hu])
    simp [partsAt, h1, h2]
theorem parts_app (sep : T) (p r : List T) (h : ∀ t ∈ p, t ≠ sep) : partsAt sep (p ++ sep :: r) = p :: partsAt sep r := by
  induction p with
  | nil => simp [partsAt]
  | cons t p ih =>
    have h1 := h t (by simp)
    have h2 := ih fun u hu => h u (by simp [hu])
    simp only [List.cons_append, partsAt, h1, if_false]
    rw [h2]
theorem parts_split (sep : T) (l : List T) : ∃ p rest, (∀ t ∈ p, t ≠ sep) ∧ l = p ++ rest ∧ ((rest = [] ∧ partsAt sep l = [p]) ∨ ∃ r', rest = sep :: r' ∧ partsAt sep l = p :: partsAt sep r') := by
  induction l with
  | nil => exact ⟨[], [], by simp, rfl, .inl ⟨rfl, rfl⟩⟩
  | cons t l ih =>
    by_cases c : t = sep
    · subst c
      exact ⟨[], t :: l, by simp, rfl, .inr ⟨l, rfl, by simp [partsAt]⟩⟩
    · obtain ⟨p, rest, h1, h2, h3⟩ := ih
      have hp : ∀ u ∈ t :: p, u ≠ sep := by
        intro u hu
        rcases List.mem_cons.1 hu with rfl | hu
        · exact c
        · exact h1 u hu
      refine ⟨t :: p, rest, hp, by rw [h2]; rfl, ?_⟩
      rcases h3 with ⟨h3, h4⟩ | ⟨r', h3, h4⟩
      · left
        refine ⟨h3, ?_⟩
        rw [h2, h3, List.append_nil]
        exact parts_end sep _ hp
      · right
        refine ⟨r', h3, ?_⟩
        rw [h2, h3]
        exact parts_app sep _ r' hp

variable {mem : Rd} {Stop : T → Prop} {sep : T} {jn : Sem → Sem → Sem}

theorem whole_some {p : List T} {f : Sem} (h : whole mem p = some f) : mem p = some (f, []) := by
  unfold whole at h
  split at h
  · cases h; assumption
  · cases h
theorem whole_of {p : List T} {f : Sem} (h : mem p = some (f, [])) : whole mem p = some f := by simp [whole, h]

theorem rowGo_whole (hg : Good mem Stop) (hs : Stop sep) : ∀ (k : Nat) (f : Sem) (l : List T), l.length ≤ k →
    (match rowGo mem sep jn k f l with
      | some (g, []) => some g
      | _ => none) = match l with
      | [] => some f
      | t :: l' => if t = sep then foldFrom (whole mem) jn f (partsAt sep l') else none := by
  intro k
  induction k with
  | zero =>
    intro f l hl
    obtain rfl : l = [] := List.length_eq_zero_iff.1 (by omega)
    rfl
  | succ k ih =>
    intro f l hl
    cases l with
    | nil => rfl
    | cons t l' =>
      by_cases c : t = sep
      · subst c
        have hl' : l'.length ≤ k := by simpa using hl
        obtain ⟨p, rest, h1, h2, h3⟩ := parts_split t l'
        simp only [rowGo, if_true]
        cases hw : whole mem p with
        | some g =>
          have hm : mem l' = some (g, rest) := by
            rw [h2]
            refine hg.complete p g rest (whole_some hw) ?_
            rcases h3 with ⟨h3, _⟩ | ⟨r', h3, _⟩
            · exact .inl h3
            · exact .inr ⟨t, r', h3, hs⟩
          simp only [hm]
          rw [ih (jn f g) rest (by rw [h2] at hl'; simp at hl'; omega)]
          rcases h3 with ⟨h3, h4⟩ | ⟨r', h3, h4⟩
          · subst h3; rw [h4]; simp [foldFrom, hw]
          · subst h3; rw [h4]; simp [foldFrom, hw]
        | none =>
          have hr : foldFrom (whole mem) jn f (partsAt t l') = none := by
            rcases h3 with ⟨_, h4⟩ | ⟨r', _, h4⟩ <;> rw [h4] <;> simp [foldFrom, hw]
          rw [hr]
          cases hm : mem l' with
          | none => rfl
          | some x =>
            obtain ⟨g, r⟩ := x
            simp only []
            obtain ⟨p', e1, e2, e3⟩ := hg.sound l' g r hm
            have hp' : ∀ u ∈ p', u ≠ t := fun u hu hut => e3 u hu (by rw [hut]; exact hs)
            have hrk : r.length ≤ k := by rw [e1] at hl'; simp at hl'; omega
            rw [ih (jn f g) r hrk]
            cases r with
            | nil =>
              exfalso
              rw [List.append_nil] at e1
              subst e1
              have := parts_end t l' hp'
              rcases h3 with ⟨_, h4⟩ | ⟨r', _, h4⟩ <;> rw [h4] at this <;> simp at this
              · subst this; rw [whole_of e2] at hw; cases hw
              · obtain ⟨this, hx⟩ := this
                subst this; rw [whole_of e2] at hw; cases hw
            | cons t' r'' =>
              by_cases c : t' = t
              · exfalso
                subst c
                have := parts_app t' p' r'' hp'
                rw [← e1] at this
                have hpp : p = p' := by
                  rcases h3 with ⟨_, h4⟩ | ⟨r', _, h4⟩ <;> rw [h4] at this
                  · injection this
                  · injection this
                rw [hpp, whole_of e2] at hw
                cases hw
              · simp [c]
      · simp [rowGo, c]

theorem row_whole (hg : Good mem Stop) (hs : Stop sep) (l : List T) : whole (rowP mem sep jn) l = foldB (whole mem) jn (partsAt sep l) := by
  obtain ⟨p, rest, h1, h2, h3⟩ := parts_split sep l
  show (match rowP mem sep jn l with
    | some (f, []) => some f
    | _ => none) = _
  unfold rowP
  cases hw : whole mem p with
  | some g =>
    have hm : mem l = some (g, rest) := by
      rw [h2]
      refine hg.complete p g rest (whole_some hw) ?_
      rcases h3 with ⟨h3, _⟩ | ⟨r', h3, _⟩
      · exact .inl h3
      · exact .inr ⟨sep, r', h3, hs⟩
    simp only [hm]
    have hk := rowGo_whole (jn := jn) hg hs rest.length g rest (Nat.le_refl _)
    rw [hk]
    rcases h3 with ⟨h3, h4⟩ | ⟨r', h3, h4⟩
    · subst h3; rw [h4]; simp [foldB, hw, foldFrom]
    · subst h3; rw [h4]; simp [foldB, hw]
  | none =>
    have hr : foldB (whole mem) jn (partsAt sep l) = none := by
      rcases h3 with ⟨_, h4⟩ | ⟨r', _, h4⟩ <;> rw [h4] <;> simp [foldB, hw]
    change _ = foldB (whole mem) jn (partsAt sep l)
    rw [hr]
    cases hm : mem l with
    | none => rfl
    | some x =>
      obtain ⟨g, r⟩ := x
      simp only []
      obtain ⟨p', e1, e2, e3⟩ := hg.sound l g r hm
      have hp' : ∀ u ∈ p', u ≠ sep := fun u hu hut => e3 u hu (by rw [hut]; exact hs)
      have hk := rowGo_whole (jn := jn) hg hs r.length g r (Nat.le_refl _)
      rw [hk]
      cases r with
      | nil =>
        exfalso
        rw [List.append_nil] at e1
        subst e1
        have := parts_end sep l hp'
        rcases h3 with ⟨_, h4⟩ | ⟨r', _, h4⟩ <;> rw [h4] at this <;> simp at this
        · subst this; rw [whole_of e2] at hw; cases hw
        · obtain ⟨this, hx⟩ := this
          subst this; rw [whole_of e2] at hw; cases hw
      | cons t' r'' =>
        by_cases c : t' = sep
        · exfalso
          subst c
          have := parts_app t' p' r'' hp'
          rw [← e1] at this
          have hpp : p = p' := by
            rcases h3 with ⟨_, h4⟩ | ⟨r', _, h4⟩ <;> rw [h4] at this
            · injection this
            · injection this
          rw [hpp, whole_of e2] at hw
          cases hw
        · simp [c]

theorem rowGo_sound (hg : Good mem Stop) (hs : Stop sep) (Stop' : T → Prop) (h' : ∀ t, Stop' t → Stop t ∧ t ≠ sep) : ∀ (k : Nat) (f : Sem) (l : List T) (g : Sem) (r : List T), l.length ≤ k → rowGo mem sep jn k f l = some (g, r) →
    ∃ p, l = p ++ r ∧ (p = [] ∨ ∃ p', p = sep :: p') ∧ (∀ k', p.length ≤ k' → rowGo mem sep jn k' f p = some (g, [])) ∧ ∀ t ∈ p, ¬ Stop' t := by
  intro k
  induction k with
  | zero =>
    intro f l g r hl h
    obtain rfl : l = [] := List.length_eq_zero_iff.1 (by omega)
    simp [rowGo] at h
    obtain ⟨rfl, rfl⟩ := h
    refine ⟨[], rfl, .inl rfl, ?_, by simp⟩
    intro k' _
    cases k' <;> rfl
  | succ k ih =>
    intro f l g r hl h
    cases l with
    | nil =>
      simp [rowGo] at h
      obtain ⟨rfl, rfl⟩ := h
      refine ⟨[], rfl, .inl rfl, ?_, by simp⟩
      intro k' _
      cases k' <;> rfl
    | cons t l' =>
      by_cases c : t = sep
      · subst c
        simp only [rowGo, if_true] at h
        cases hm : mem l' with
        | none => simp [hm] at h
        | some x =>
          obtain ⟨g1, r1⟩ := x
          simp only [hm] at h
          obtain ⟨p1, e1, e2, e3⟩ := hg.sound l' g1 r1 hm
          have hk : r1.length ≤ k := by
            have : l'.length ≤ k := by simpa using hl
            rw [e1] at this; simp at this; omega
          obtain ⟨p2, q1, q2, q3, q4⟩ := ih (jn f g1) r1 g r hk h
          refine ⟨t :: (p1 ++ p2), by rw [e1, q1]; simp, .inr ⟨_, rfl⟩, ?_, ?_⟩
          · intro k' hk'
            cases k' with
            | zero => simp at hk'
            | succ k' =>
              simp only [rowGo, if_true]
              have : mem (p1 ++ p2) = some (g1, p2) := by
                refine hg.complete p1 g1 p2 e2 ?_
                rcases q2 with rfl | ⟨p', rfl⟩
                · exact .inl rfl
                · exact .inr ⟨t, p', rfl, hs⟩
              rw [this]
              exact q3 k' (by simp at hk'; omega)
          · intro u hu hS
            rcases List.mem_cons.1 hu with rfl | hu
            · exact (h' u hS).2 rfl
            · rcases List.mem_append.1 hu with hu | hu
              · exact e3 u hu (h' u hS).1
              · exact q4 u hu hS
      · simp only [rowGo, c, if_false, Option.some.injEq, Prod.mk.injEq] at h
        obtain ⟨rfl, rfl⟩ := h
        refine ⟨[], rfl, .inl rfl, ?_, by simp⟩
        intro k' _
        cases k' <;> rfl

theorem rowGo_complete (hg : Good mem Stop) (hs : Stop sep) (Stop' : T → Prop) (h' : ∀ t, Stop' t → Stop t ∧ t ≠ sep) : ∀ (k : Nat) (f : Sem) (p : List T) (g : Sem) (r : List T), p.length ≤ k → rowGo mem sep jn k f p = some (g, []) →
    (r = [] ∨ ∃ t r', r = t :: r' ∧ Stop' t) → ∀ k', (p ++ r).length ≤ k' → rowGo mem sep jn k' f (p ++ r) = some (g, r) := by
  intro k
  induction k with
  | zero =>
    intro f p g r hl h hr k' hk'
    obtain rfl : p = [] := List.length_eq_zero_iff.1 (by omega)
    simp [rowGo] at h
    subst h
    rcases hr with rfl | ⟨t, r', rfl, hS⟩
    · cases k' <;> rfl
    · cases k' with
      | zero => simp at hk'
      | succ k' => simp [rowGo, (h' t hS).2]
  | succ k ih =>
    intro f p g r hl h hr k' hk'
    cases p with
    | nil =>
      simp [rowGo] at h
      subst h
      rcases hr with rfl | ⟨t, r', rfl, hS⟩
      · cases k' <;> rfl
      · cases k' with
        | zero => simp at hk'
        | succ k' => simp [rowGo, (h' t hS).2]
    | cons t p' =>
      by_cases c : t = sep
      · subst c
        simp only [rowGo, if_true] at h
        cases hm : mem p' with
        | none => simp [hm] at h
        | some x =>
          obtain ⟨g1, r1⟩ := x
          simp only [hm] at h
          obtain ⟨p1, e1, e2, e3⟩ := hg.sound p' g1 r1 hm
          have hk : r1.length ≤ k := by
            have : p'.length ≤ k := by simpa using hl
            rw [e1] at this; simp at this; omega
          cases k' with
          | zero => simp at hk'
          | succ k' =>
            simp only [List.cons_append, rowGo, if_true]
            have hc : r1 ++ r = [] ∨ ∃ t r', r1 ++ r = t :: r' ∧ Stop t := by
              cases r1 with
              | nil =>
                rcases hr with rfl | ⟨t, r', rfl, hS⟩
                · exact .inl rfl
                · exact .inr ⟨t, r', rfl, (h' t hS).1⟩
              | cons u r1' =>
                right
                refine ⟨u, r1' ++ r, rfl, ?_⟩
                cases k with
                | zero => simp at hk
                | succ k =>
                  by_cases c : u = t
                  · rw [c]; exact hs
                  · simp [rowGo, c] at h
            have : mem (p' ++ r) = some (g1, r1 ++ r) := by
              rw [e1, List.append_assoc]
              exact hg.complete p1 g1 (r1 ++ r) e2 hc
            rw [this]
            refine ih (jn f g1) r1 g r hk h hr k' ?_
            rw [e1] at hk'
            simp at hk' ⊢
            omega
      · simp [rowGo, c] at h

theorem row_good (hg : Good mem Stop) (hs : Stop sep) (Stop' : T → Prop) (h' : ∀ t, Stop' t → Stop t ∧ t ≠ sep) : Good (rowP mem sep jn) Stop' := by
  constructor
  · intro l f r h
    unfold rowP at h
    cases hm : mem l with
    | none => simp [hm] at h
    | some x =>
      obtain ⟨g1, r1⟩ := x
      simp only [hm] at h
      obtain ⟨p1, e1, e2, e3⟩ := hg.sound l g1 r1 hm
      obtain ⟨p2, q1, q2, q3, q4⟩ := rowGo_sound hg hs Stop' h' r1.length g1 r1 f r (Nat.le_refl _) h
      refine ⟨p1 ++ p2, by rw [e1, q1]; simp, ?_, ?_⟩
      · unfold rowP
        have : mem (p1 ++ p2) = some (g1, p2) := by
          refine hg.complete p1 g1 p2 e2 ?_
          rcases q2 with rfl | ⟨p', rfl⟩
          · exact .inl rfl
          · exact .inr ⟨sep, p', rfl, hs⟩
        rw [this]
        exact q3 _ (Nat.le_refl _)
      · intro u hu hS
        rcases List.mem_append.1 hu with hu | hu
        · exact e3 u hu (h' u hS).1
        · exact q4 u hu hS
  · intro p f r h hr
    unfold rowP at h ⊢
    cases hm : mem p with
    | none => simp [hm] at h
    | some x =>
      obtain ⟨g1, r1⟩ := x
      simp only [hm] at h
      obtain ⟨p1, e1, e2, e3⟩ := hg.sound p g1 r1 hm
      have hc : r1 ++ r = [] ∨ ∃ t r', r1 ++ r = t :: r' ∧ Stop t := by
        cases r1 with
        | nil =>
          rcases hr with rfl | ⟨t, r', rfl, hS⟩
          · exact .inl rfl
          · exact .inr ⟨t, r', rfl, (h' t hS).1⟩
        | cons u r1' =>
          right
          refine ⟨u, r1' ++ r, rfl, ?_⟩
          by_cases c : u = sep
          · rw [c]; exact hs
          · simp [rowGo, c] at h
      have : mem (p ++ r) = some (g1, r1 ++ r) := by
        rw [e1, List.append_assoc]
        exact hg.complete p1 g1 (r1 ++ r) e2 hc
      rw [this]
      exact rowGo_complete hg hs Stop' h' r1.length g1 r1 f r (Nat.le_refl _) h hr _ (Nat.le_refl _)
end Go.Proofs.YtaepcfidpekflaaGreatDoor.Pr
namespace Go.Proofs.YtaepcfidpekflaaGreatDoor.Pr

def StopO (t : T) : Prop := t = [111, 114]
def StopA (t : T) : Prop := t = [97, 110, 100] ∨ t = [111, 114]
def StopI (t : T) : Prop := t = [44] ∨ StopA t

theorem good_none (S : T → Prop) : Good (fun _ => none) S := ⟨fun _ _ _ h => (by cases h), fun _ _ _ h => (by cases h)⟩
theorem good_ret (S : T → Prop) (F : Sem) : Good (fun l => some (F, l)) S := by
  constructor
  · intro l f r h
    simp only [Option.some.injEq, Prod.mk.injEq] at h
    obtain ⟨rfl, rfl⟩ := h
    exact ⟨[], rfl, rfl, by simp⟩
  · intro p f r h _
    simp only [Option.some.injEq, Prod.mk.injEq] at h
    obtain ⟨rfl, rfl⟩ := h
    rfl
theorem fig_dig {t : T} {v : Nat} (h : fig t = some v) : Pn.digitsB t = true := by
  unfold fig at h
  split at h
  · rename_i c; exact c.1
  · cases h
theorem good_value (S : T → Prop) (k : Nat → Rd) (hk : ∀ v, Good (k v) S) (hS : ∀ t, S t → Pn.digitsB t = false) : Good (valueP k) S := by
  constructor
  · intro l f r h
    cases l with
    | nil => simp [valueP, value] at h
    | cons t l =>
      cases hv : fig t with
      | none => simp [valueP, value, hv] at h
      | some v =>
        simp only [valueP, value, hv] at h
        obtain ⟨p, e1, e2, e3⟩ := (hk v).sound l f r h
        refine ⟨t :: p, by rw [e1]; rfl, by simp only [valueP, value, hv]; exact e2, ?_⟩
        intro u hu hs
        rcases List.mem_cons.1 hu with rfl | hu
        · have := hS u hs; rw [fig_dig hv] at this; cases this
        · exact e3 u hu hs
  · intro p f r h hr
    cases p with
    | nil => simp [valueP, value] at h
    | cons t l =>
      cases hv : fig t with
      | none => simp [valueP, value, hv] at h
      | some v =>
        simp only [valueP, value, hv] at h
        simp only [List.cons_append, valueP, value, hv]
        exact (hk v).complete l f r h hr
theorem sound_cons {S : T → Prop} {q m : Rd} {t : T} (hq : Good q S) (ht : ¬ S t) (hm : ∀ l, m (t :: l) = q l) {l : List T} {f : Sem} {r : List T} (h : m (t :: l) = some (f, r)) :
    ∃ p, t :: l = p ++ r ∧ m p = some (f, []) ∧ ∀ u ∈ p, ¬ S u := by
  rw [hm] at h
  obtain ⟨p, e1, e2, e3⟩ := hq.sound l f r h
  refine ⟨t :: p, by rw [e1]; rfl, by rw [hm]; exact e2, ?_⟩
  intro u hu
  rcases List.mem_cons.1 hu with rfl | hu
  · exact ht
  · exact e3 u hu
theorem complete_cons {S : T → Prop} {q m : Rd} {t : T} (hq : Good q S) (hm : ∀ l, m (t :: l) = q l) {p : List T} {f : Sem} {r : List T} (h : m (t :: p) = some (f, [])) (hr : r = [] ∨ ∃ t r', r = t :: r' ∧ S t) :
    m (t :: p ++ r) = some (f, r) := by
  rw [hm] at h
  rw [List.cons_append, hm]
  exact hq.complete p f r h hr

theorem stopI_dig (t : T) (h : StopI t) : Pn.digitsB t = false := by
  rcases h with rfl | rfl | rfl <;> decide
theorem stopA_dig (t : T) (h : StopA t) : Pn.digitsB t = false := stopI_dig t (.inr h)

theorem good_itemK (o : Opd) (wi : Bool) (lo : Nat) : Good (itemK o wi lo) StopI := by
  have hv : Good (valueP (fun hi l => if hi < lo then none else some (inS o wi lo hi, l))) StopI := by
    refine good_value _ _ (fun hi => ?_) stopI_dig
    by_cases c : hi < lo
    · simp only [c, if_true]; exact good_none _
    · simp only [c, if_false]; exact good_ret _ _
  have hd : ∀ l, itemK o wi lo ([46, 46] :: l) = valueP (fun hi l => if hi < lo then none else some (inS o wi lo hi, l)) l := fun l => by simp [itemK]
  constructor
  · intro l f r h
    cases l with
    | nil =>
      simp only [itemK, Option.some.injEq, Prod.mk.injEq] at h
      obtain ⟨rfl, rfl⟩ := h
      exact ⟨[], rfl, rfl, by simp⟩
    | cons t l =>
      by_cases c : t = [46, 46]
      · subst c
        exact sound_cons hv (by intro h; rcases h with h | h | h <;> cases h) hd h
      · simp only [itemK, c, if_false, Option.some.injEq, Prod.mk.injEq] at h
        obtain ⟨rfl, rfl⟩ := h
        exact ⟨[], rfl, rfl, by simp⟩
  · intro p f r h hr
    cases p with
    | nil =>
      simp only [itemK, Option.some.injEq, Prod.mk.injEq] at h
      obtain ⟨rfl, _⟩ := h
      rcases hr with rfl | ⟨t, r', rfl, hS⟩
      · rfl
      · have : t ≠ [46, 46] := by rintro rfl; rcases hS with h | h | h <;> cases h
        simp [itemK, this]
    | cons t l =>
      by_cases c : t = [46, 46]
      · subst c
        exact complete_cons hv hd h hr
      · simp [itemK, c] at h
theorem good_item (o : Opd) (wi : Bool) : Good (itemP o wi) StopI := good_value _ _ (good_itemK o wi) stopI_dig
theorem good_list (o : Opd) (n wi : Bool) : Good (listP o n wi) StopA := by
  have hg : Good (rowP (itemP o wi) [44] orS) StopA := row_good (good_item o wi) (.inl rfl) StopA (fun t h => ⟨.inr h, by rcases h with rfl | rfl <;> decide⟩)
  constructor
  · intro l f r h
    unfold listP at h
    cases hm : rowP (itemP o wi) [44] orS l with
    | none => simp [hm] at h
    | some x =>
      obtain ⟨g, r1⟩ := x
      simp only [hm, Option.some.injEq, Prod.mk.injEq] at h
      obtain ⟨rfl, rfl⟩ := h
      obtain ⟨p, e1, e2, e3⟩ := hg.sound l g r1 hm
      exact ⟨p, e1, by simp only [listP, e2], e3⟩
  · intro p f r h hr
    unfold listP at h ⊢
    cases hm : rowP (itemP o wi) [44] orS p with
    | none => simp [hm] at h
    | some x =>
      obtain ⟨g, r1⟩ := x
      simp only [hm, Option.some.injEq, Prod.mk.injEq] at h
      obtain ⟨rfl, rfl⟩ := h
      rw [hg.complete p g r hm hr]
theorem good_is (o : Opd) (n : Bool) : Good (isP o n) StopA := good_value _ _ (fun _ => good_ret _ _) stopA_dig
theorem good_isN (o : Opd) : Good (isN o) StopA := by
  have hd : ∀ l, isN o ([110, 111, 116] :: l) = isP o true l := fun l => by simp [isN]
  constructor
  · intro l f r h
    cases l with
    | nil => cases h
    | cons t l =>
      by_cases c : t = [110, 111, 116]
      · subst c
        exact sound_cons (good_is o true) (by intro h; rcases h with h | h <;> cases h) hd h
      · simp only [isN, c, if_false] at h
        obtain ⟨p, e1, e2, e3⟩ := (good_is o false).sound _ f r h
        refine ⟨p, e1, ?_, e3⟩
        cases p with
        | nil => simp [isP, valueP, value] at e2
        | cons u p =>
          have : u = t := by simp at e1; exact e1.1.symm
          subst this
          simp only [isN, c, if_false]; exact e2
  · intro p f r h hr
    cases p with
    | nil => cases h
    | cons t l =>
      by_cases c : t = [110, 111, 116]
      · subst c
        exact complete_cons (good_is o true) hd h hr
      · simp only [isN, c, if_false] at h
        simp only [List.cons_append, isN, c, if_false]
        exact (good_is o false).complete _ f r h hr
theorem good_inN (o : Opd) (n : Bool) : Good (inN o n) StopA := by
  have h1 : ∀ l, inN o n ([105, 110] :: l) = listP o n false l := fun l => by simp [inN]
  have h2 : ∀ l, inN o n ([119, 105, 116, 104, 105, 110] :: l) = listP o n true l := fun l => by simp [inN]
  constructor
  · intro l f r h
    cases l with
    | nil => cases h
    | cons t l =>
      by_cases c : t = [105, 110]
      · subst c
        exact sound_cons (good_list o n false) (by intro h; rcases h with h | h <;> cases h) h1 h
      · by_cases c2 : t = [119, 105, 116, 104, 105, 110]
        · subst c2
          exact sound_cons (good_list o n true) (by intro h; rcases h with h | h <;> cases h) h2 h
        · simp [inN, c, c2] at h
  · intro p f r h hr
    cases p with
    | nil => cases h
    | cons t l =>
      by_cases c : t = [105, 110]
      · subst c
        exact complete_cons (good_list o n false) h1 h hr
      · by_cases c2 : t = [119, 105, 116, 104, 105, 110]
        · subst c2
          exact complete_cons (good_list o n true) h2 h hr
        · simp [inN, c, c2] at h
theorem good_how (o : Opd) : Good (howP o) StopA := by
  have h1 : ∀ l, howP o ([61] :: l) = listP o false false l := fun l => by simp [howP]
  have h2 : ∀ l, howP o ([33, 61] :: l) = listP o true false l := fun l => by simp [howP]
  have h3 : ∀ l, howP o ([105, 115] :: l) = isN o l := fun l => by simp [howP]
  have h4 : ∀ l, howP o ([110, 111, 116] :: l) = inN o true l := fun l => by simp [howP]
  constructor
  · intro l f r h
    cases l with
    | nil => cases h
    | cons t l =>
      by_cases c1 : t = [61]
      · subst c1; exact sound_cons (good_list o _ _) (by intro h; rcases h with h | h <;> cases h) h1 h
      by_cases c2 : t = [33, 61]
      · subst c2; exact sound_cons (good_list o _ _) (by intro h; rcases h with h | h <;> cases h) h2 h
      by_cases c3 : t = [105, 115]
      · subst c3; exact sound_cons (good_isN o) (by intro h; rcases h with h | h <;> cases h) h3 h
      by_cases c4 : t = [110, 111, 116]
      · subst c4; exact sound_cons (good_inN o true) (by intro h; rcases h with h | h <;> cases h) h4 h
      simp only [howP, c1, c2, c3, c4, if_false] at h
      obtain ⟨p, e1, e2, e3⟩ := (good_inN o false).sound _ f r h
      refine ⟨p, e1, ?_, e3⟩
      cases p with
      | nil => cases e2
      | cons u p =>
        have : u = t := by simp at e1; exact e1.1.symm
        subst this
        simp only [howP, c1, c2, c3, c4, if_false]; exact e2
  · intro p f r h hr
    cases p with
    | nil => cases h
    | cons t l =>
      by_cases c1 : t = [61]
      · subst c1; exact complete_cons (good_list o _ _) h1 h hr
      by_cases c2 : t = [33, 61]
      · subst c2; exact complete_cons (good_list o _ _) h2 h hr
      by_cases c3 : t = [105, 115]
      · subst c3; exact complete_cons (good_isN o) h3 h hr
      by_cases c4 : t = [110, 111, 116]
      · subst c4; exact complete_cons (good_inN o true) h4 h hr
      simp only [howP, c1, c2, c3, c4, if_false] at h
      simp only [List.cons_append, howP, c1, c2, c3, c4, if_false]
      exact (good_inN o false).complete _ f r h hr
theorem good_mod (o : Opd) : Good (modP o) StopA := by
  have hv : Good (valueP (fun m r => if m = 0 then none else howP (modS o m) r)) StopA := by
    refine good_value _ _ (fun m => ?_) stopA_dig
    by_cases c : m = 0
    · simp only [c, if_true]; exact good_none _
    · simp only [c, if_false]; exact good_how _
  constructor
  · intro l f r h
    cases l with
    | nil => cases h
    | cons t l =>
      by_cases c : t = [109, 111, 100] ∨ t = [37]
      · exact sound_cons hv (by rintro (rfl | rfl) <;> rcases c with h | h <;> cases h) (fun l => by simp only [modP, c, if_true]) h
      · simp only [modP, c, if_false] at h
        obtain ⟨p, e1, e2, e3⟩ := (good_how o).sound _ f r h
        refine ⟨p, e1, ?_, e3⟩
        cases p with
        | nil => cases e2
        | cons u p =>
          have : u = t := by simp at e1; exact e1.1.symm
          subst this
          simp only [modP, c, if_false]; exact e2
  · intro p f r h hr
    cases p with
    | nil => cases h
    | cons t l =>
      by_cases c : t = [109, 111, 100] ∨ t = [37]
      · exact complete_cons hv (fun l => by simp only [modP, c, if_true]) h hr
      · simp only [modP, c, if_false] at h
        simp only [List.cons_append, modP, c, if_false]
        exact (good_how o).complete _ f r h hr
theorem opd_and : opd [97, 110, 100] = none := by decide
theorem opd_or : opd [111, 114] = none := by decide
theorem good_rel : Good relP StopA := by
  constructor
  · intro l f r h
    cases l with
    | nil => cases h
    | cons t l =>
      cases ho : opd t with
      | none => simp [relP, ho] at h
      | some o => exact sound_cons (good_mod o) (by rintro (rfl | rfl) <;> revert ho <;> simp [opd]) (fun l => by simp only [relP, ho]) h
  · intro p f r h hr
    cases p with
    | nil => cases h
    | cons t l =>
      cases ho : opd t with
      | none => simp [relP, ho] at h
      | some o => exact complete_cons (good_mod o) (fun l => by simp only [relP, ho]) h hr
theorem good_and : Good andP StopO := row_good good_rel (.inl rfl) StopO (fun t h => ⟨.inr h, by rw [show t = _ from h]; decide⟩)

/-- A condition, parted at 'or', then at 'and'. -/
theorem cond_parts (l : List T) : condP l = foldB (fun p => foldB (whole relP) andS (partsAt [97, 110, 100] p)) orS (partsAt [111, 114] l) := by
  have h1 : condP l = whole orP l := rfl
  rw [h1, orP, row_whole good_and (sep := [111, 114]) (jn := orS) rfl]
  have : whole andP = fun p => foldB (whole relP) andS (partsAt [97, 110, 100] p) := by
    funext p
    rw [andP, row_whole good_rel (sep := [97, 110, 100]) (jn := andS) (.inl rfl)]
  rw [this]
theorem list_parts (o : Opd) (n wi : Bool) (l : List T) : whole (listP o n wi) l = (foldB (whole (itemP o wi)) orS (partsAt [44] l)).map fun f => turnS f n := by
  rw [← row_whole (good_item o wi) (sep := [44]) (jn := orS) (.inl rfl)]
  unfold whole listP
  cases rowP (itemP o wi) [44] orS l with
  | none => rfl
  | some x =>
    obtain ⟨f, r⟩ := x
    cases r <;> rfl
end Go.Proofs.YtaepcfidpekflaaGreatDoor.Pr
namespace Go.Proofs.YtaepcfidpekflaaGreatDoor.Pr

theorem take_stop (p : UInt8 → Bool) (h : p 32 = false) (l r : T) : (l ++ 32 :: r).takeWhile p = l.takeWhile p := by
  induction l with
  | nil => simp [List.takeWhile_cons_of_neg, h]
  | cons c l ih =>
    cases hc : p c with
    | true => rw [List.cons_append, List.takeWhile_cons_of_pos hc, List.takeWhile_cons_of_pos hc, ih]
    | false => rw [List.cons_append, List.takeWhile_cons_of_neg (by simp [hc]), List.takeWhile_cons_of_neg (by simp [hc])]
theorem part_stop (c : UInt8) (l r : T) : partLen (c :: l ++ 32 :: r) = partLen (c :: l) := by
  have h1 : isLet 32 = false := by decide
  have h2 : Pn.isDig 32 = false := by decide
  have e1 := take_stop isLet h1 (c :: l) r
  have e2 := take_stop Pn.isDig h2 (c :: l) r
  rw [List.cons_append] at e1 e2 ⊢
  have e3 : (c = 33 ∧ (l ++ 32 :: r).head? = some 61 ∨ c = 46 ∧ (l ++ 32 :: r).head? = some 46) ↔ (c = 33 ∧ l.head? = some 61 ∨ c = 46 ∧ l.head? = some 46) := by
    cases l with
    | nil => simp
    | cons d l => simp
  simp only [partLen, e1, e2, e3]
theorem part_len (l : T) : partLen l ≤ l.length := by
  cases l with
  | nil => simp [partLen]
  | cons c r =>
    by_cases h1 : isLet c = true
    · rw [partLen, if_pos h1]; exact (List.takeWhile_prefix _).length_le
    · by_cases h2 : Pn.isDig c = true
      · rw [partLen, if_neg h1, if_pos h2]; exact (List.takeWhile_prefix _).length_le
      · rw [partLen, if_neg h1, if_neg h2]
        split
        · rename_i h
          cases r with
          | nil => rcases h with ⟨_, h⟩ | ⟨_, h⟩ <;> cases h
          | cons d r => simp
        · split <;> simp
theorem split_end (k : Nat) : splitGo k [] = some [] := by cases k <;> rfl
/-- More rounds than needed change nothing. -/
theorem split_more : ∀ (k : Nat) (l : T) (m : Nat), l.length ≤ k → l.length ≤ m → splitGo k l = splitGo m l := by
  intro k
  induction k with
  | zero =>
    intro l m h _
    have : l = [] := List.length_eq_zero_iff.1 (by omega)
    subst this
    rw [split_end, split_end]
  | succ k ih =>
    intro l m h1 h2
    cases l with
    | nil => rw [split_end, split_end]
    | cons c r =>
      cases m with
      | zero => simp at h2
      | succ m =>
        simp only [splitGo]
        by_cases hz : partLen (c :: r) = 0
        · simp [hz]
        · simp only [hz, if_false]
          rw [ih ((c :: r).drop (partLen (c :: r))) m (by simp at h1 ⊢; omega) (by simp at h2 ⊢; omega)]
theorem toks_step (c : UInt8) (r : T) : toks (c :: r) = if partLen (c :: r) = 0 then none else match toks ((c :: r).drop (partLen (c :: r))) with
    | none => none
    | some l => some (if c = 32 then l else (c :: r).take (partLen (c :: r)) :: l) := by
  unfold toks
  rw [show (c :: r).length = r.length + 1 from rfl, splitGo]
  by_cases hz : partLen (c :: r) = 0
  · simp [hz]
  · simp only [hz, if_false]
    rw [split_more r.length ((c :: r).drop (partLen (c :: r))) ((c :: r).drop (partLen (c :: r))).length (by simp; omega) (Nat.le_refl _)]
    cases splitGo ((c :: r).drop (partLen (c :: r))).length ((c :: r).drop (partLen (c :: r))) <;> rfl
theorem toks_blank (r : T) : toks (32 :: r) = toks r := by
  have h : partLen (32 :: r) = 1 := by simp [partLen, isLet, Pn.isDig]
  rw [toks_step, h]
  simp only [List.drop_succ_cons, List.drop_zero]
  cases toks r <;> simp
/-- Words of two texts with a blank between. -/
theorem toks_join : ∀ (n : Nat) (l r : T), l.length ≤ n → toks (l ++ 32 :: r) = match toks l with
    | none => none
    | some a => match toks r with
      | none => none
      | some b => some (a ++ b) := by
  intro n
  induction n with
  | zero =>
    intro l r h
    have : l = [] := List.length_eq_zero_iff.1 (by omega)
    subst this
    rw [List.nil_append, toks_blank]
    show _ = match toks r with
      | none => none
      | some b => some ([] ++ b)
    cases toks r <;> rfl
  | succ n ih =>
    intro l r h
    cases l with
    | nil =>
      rw [List.nil_append, toks_blank]
      show _ = match toks r with
        | none => none
        | some b => some ([] ++ b)
      cases toks r <;> rfl
    | cons c l =>
      have hp := part_stop c l r
      have hle := part_len (c :: l)
      rw [List.cons_append] at hp ⊢
      rw [toks_step c (l ++ 32 :: r), hp, toks_step c l]
      by_cases hz : partLen (c :: l) = 0
      · simp [hz]
      · simp only [hz, if_false]
        have hd : (c :: (l ++ 32 :: r)).drop (partLen (c :: l)) = (c :: l).drop (partLen (c :: l)) ++ 32 :: r := by
          rw [← List.cons_append, List.drop_append_of_le_length hle]
        have ht : (c :: (l ++ 32 :: r)).take (partLen (c :: l)) = (c :: l).take (partLen (c :: l)) := by
          rw [← List.cons_append, List.take_append_of_le_length hle]
        rw [hd, ht, ih ((c :: l).drop (partLen (c :: l))) r (by simp at h ⊢; omega)]
        cases toks ((c :: l).drop (partLen (c :: l))) with
        | none => rfl
        | some a =>
          cases toks r with
          | none => rfl
          | some b =>
            by_cases hc : c = 32
            · simp [hc]
            · simp [hc]
/-- A word between two texts. -/
theorem toks_word (l w r : T) (t : T) (hw : toks w = some [t]) (a b : List T) (ha : toks l = some a) (hb : toks r = some b) : toks (l ++ 32 :: (w ++ 32 :: r)) = some (a ++ t :: b) := by
  rw [toks_join l.length l _ (Nat.le_refl _), ha, toks_join w.length w _ (Nat.le_refl _), hw, hb]
  rfl
theorem parts_join (sep : T) (l r : List T) : partsAt sep (l ++ sep :: r) = partsAt sep l ++ partsAt sep r := by
  induction l with
  | nil => simp [partsAt]
  | cons t l ih =>
    by_cases h : t = sep
    · simp [partsAt, h, ih]
    · simp only [List.cons_append, partsAt, h, if_false, ih]
      cases e : partsAt sep l with
      | nil =>
        exfalso
        cases l with
        | nil => simp [partsAt] at e
        | cons u l =>
          simp only [partsAt] at e
          split at e
          · cases e
          · split at e <;> cases e
      | cons p ps => rfl
theorem parts_ne (sep : T) (l : List T) : partsAt sep l ≠ [] := by
  cases l with
  | nil => simp [partsAt]
  | cons t l =>
    simp only [partsAt]
    split
    · simp
    · split <;> simp
/-- A word that is not the one at which it is parted joins the part ahead and the part behind. -/
theorem parts_and (sep : T) (u : T) (hu : u ≠ sep) (l r : List T) : ∃ ps p q qs, partsAt sep l = ps ++ [p] ∧ partsAt sep r = q :: qs ∧ partsAt sep (l ++ u :: r) = ps ++ (p ++ u :: q) :: qs := by
  obtain ⟨q, qs, hq⟩ : ∃ q qs, partsAt sep r = q :: qs := by
    cases e : partsAt sep r with
    | nil => exact absurd e (parts_ne sep r)
    | cons q qs => exact ⟨q, qs, rfl⟩
  induction l with
  | nil => exact ⟨[], [], q, qs, rfl, hq, by simp [partsAt, hu, hq]⟩
  | cons t l ih =>
    obtain ⟨ps, p, q', qs', h1, h2, h3⟩ := ih
    by_cases h : t = sep
    · exact ⟨[] :: ps, p, q', qs', by simp [partsAt, h, h1], h2, by simp [partsAt, h, h3]⟩
    · cases ps with
      | nil => exact ⟨[], t :: p, q', qs', by simp [partsAt, h, h1], h2, by simp [partsAt, h, h3]⟩
      | cons p0 ps => exact ⟨(t :: p0) :: ps, p, q', qs', by simp [partsAt, h, h1], h2, by simp [partsAt, h, h3]⟩
theorem fold_or (mb : List T → Option Sem) : ∀ (qs : List (List T)) (f g : Sem), foldB mb orS qs = some g → ∃ h, foldFrom mb orS f qs = some h ∧ ∀ a b, h a b = (f a b || g a b) := by
  suffices H : ∀ (qs : List (List T)) (f g0 g : Sem), foldFrom mb orS g0 qs = some g → ∃ h, foldFrom mb orS (orS f g0) qs = some h ∧ ∀ a b, h a b = (f a b || g a b) by
    intro qs f g hg
    cases qs with
    | nil => cases hg
    | cons q qs =>
      simp only [foldB] at hg
      cases hq : mb q with
      | none => simp [hq] at hg
      | some g0 =>
        simp only [hq] at hg
        simp only [foldFrom, hq]
        exact H qs f g0 g hg
  intro qs
  induction qs with
  | nil =>
    intro f g0 g hg
    simp only [foldFrom, Option.some.injEq] at hg
    subst hg
    exact ⟨_, rfl, fun a b => rfl⟩
  | cons q qs ih =>
    intro f g0 g hg
    cases hq : mb q with
    | none => simp [foldFrom, hq] at hg
    | some g1 =>
      simp only [foldFrom, hq] at hg ⊢
      have : orS (orS f g0) g1 = orS f (orS g0 g1) := by funext a b; simp [orS, Bool.or_assoc]
      rw [this]
      exact ih f (orS g0 g1) g hg
theorem fold_and (mb : List T → Option Sem) : ∀ (qs : List (List T)) (f g : Sem), foldB mb andS qs = some g → ∃ h, foldFrom mb andS f qs = some h ∧ ∀ a b, h a b = (f a b && g a b) := by
  suffices H : ∀ (qs : List (List T)) (f g0 g : Sem), foldFrom mb andS g0 qs = some g → ∃ h, foldFrom mb andS (andS f g0) qs = some h ∧ ∀ a b, h a b = (f a b && g a b) by
    intro qs f g hg
    cases qs with
    | nil => cases hg
    | cons q qs =>
      simp only [foldB] at hg
      cases hq : mb q with
      | none => simp [hq] at hg
      | some g0 =>
        simp only [hq] at hg
        simp only [foldFrom, hq]
        exact H qs f g0 g hg
  intro qs
  induction qs with
  | nil =>
    intro f g0 g hg
    simp only [foldFrom, Option.some.injEq] at hg
    subst hg
    exact ⟨_, rfl, fun a b => rfl⟩
  | cons q qs ih =>
    intro f g0 g hg
    cases hq : mb q with
    | none => simp [foldFrom, hq] at hg
    | some g1 =>
      simp only [foldFrom, hq] at hg ⊢
      have : andS (andS f g0) g1 = andS f (andS g0 g1) := by funext a b; simp [andS, Bool.and_assoc]
      rw [this]
      exact ih f (andS g0 g1) g hg
theorem from_app (mb : List T → Option Sem) (jn : Sem → Sem → Sem) : ∀ (ps qs : List (List T)) (e f : Sem), foldFrom mb jn e ps = some f → foldFrom mb jn e (ps ++ qs) = foldFrom mb jn f qs := by
  intro ps
  induction ps with
  | nil =>
    intro qs e f h
    simp only [foldFrom, Option.some.injEq] at h
    subst h
    rfl
  | cons p ps ih =>
    intro qs e f h
    cases hp : mb p with
    | none => simp [foldFrom, hp] at h
    | some g =>
      simp only [foldFrom, hp] at h
      simp only [List.cons_append, foldFrom, hp]
      exact ih qs _ f h
theorem foldB_app (mb : List T → Option Sem) (jn : Sem → Sem → Sem) (ps qs : List (List T)) (f : Sem) (h : foldB mb jn ps = some f) : foldB mb jn (ps ++ qs) = foldFrom mb jn f qs := by
  cases ps with
  | nil => cases h
  | cons p ps =>
    cases hp : mb p with
    | none => simp [foldB, hp] at h
    | some g =>
      simp only [foldB, hp] at h
      simp only [List.cons_append, foldB, hp]
      exact from_app mb jn ps qs g f h
/-- Two conditions with 'or' between. -/
theorem cond_or (a b : List T) (f g : Sem) (ha : condP a = some f) (hb : condP b = some g) : ∃ h, condP (a ++ [111, 114] :: b) = some h ∧ ∀ x y, h x y = (f x y || g x y) := by
  rw [cond_parts] at ha hb
  rw [cond_parts, parts_join, foldB_app _ _ _ _ f ha]
  exact fold_or _ _ f g hb
theorem fold_one (mb : List T → Option Sem) (jn : Sem → Sem → Sem) (p : List T) : foldB mb jn [p] = mb p := by
  cases h : mb p <;> simp [foldB, foldFrom, h]
/-- All of the parts must be whole. -/
theorem fold_some (mb : List T → Option Sem) (jn : Sem → Sem → Sem) (ps : List (List T)) : (∃ f, foldB mb jn ps = some f) ↔ ps ≠ [] ∧ ∀ p ∈ ps, (mb p).isSome = true := by
  suffices H : ∀ (ps : List (List T)) (e : Sem), (∃ f, foldFrom mb jn e ps = some f) ↔ ∀ p ∈ ps, (mb p).isSome = true by
    cases ps with
    | nil => simp [foldB]
    | cons p ps =>
      cases hp : mb p with
      | none => simp [foldB, hp]
      | some g =>
        simp only [foldB, hp]
        rw [H ps g]
        simp [hp]
  intro ps
  induction ps with
  | nil => intro e; simp [foldFrom]
  | cons p ps ih =>
    intro e
    cases hp : mb p with
    | none => simp [foldFrom, hp]
    | some g =>
      simp only [foldFrom, hp]
      rw [ih]
      simp [hp]
/-- Two conditions with 'and' between: a condition; without an 'or' it holds just if both do. -/
theorem cond_and (a b : List T) (f g : Sem) (ha : condP a = some f) (hb : condP b = some g) : ∃ h, condP (a ++ [97, 110, 100] :: b) = some h ∧ ([111, 114] ∉ a → [111, 114] ∉ b → ∀ x y, h x y = (f x y && g x y)) := by
  rw [cond_parts] at ha hb
  rw [cond_parts]
  obtain ⟨ps, p, q, qs, h1, h2, h3⟩ := parts_and [111, 114] [97, 110, 100] (by decide) a b
  rw [h1] at ha
  rw [h2] at hb
  rw [h3]
  have sa := (fold_some _ _ _).1 ⟨f, ha⟩
  have sb := (fold_some _ _ _).1 ⟨g, hb⟩
  obtain ⟨fp, hfp⟩ := Option.isSome_iff_exists.1 (sa.2 p (by simp))
  obtain ⟨gq, hgq⟩ := Option.isSome_iff_exists.1 (sb.2 q (by simp))
  obtain ⟨m, hm1, hm2⟩ : ∃ m, foldB (whole relP) andS (partsAt [97, 110, 100] (p ++ [97, 110, 100] :: q)) = some m ∧ ∀ x y, m x y = (fp x y && gq x y) := by
    rw [parts_join, foldB_app _ _ _ _ fp hfp]
    exact fold_and _ _ fp gq hgq
  obtain ⟨h, hh⟩ : ∃ h, foldB (fun p => foldB (whole relP) andS (partsAt [97, 110, 100] p)) orS (ps ++ (p ++ [97, 110, 100] :: q) :: qs) = some h := by
    rw [fold_some]
    refine ⟨by simp, fun t ht => ?_⟩
    rcases List.mem_append.1 ht with ht | ht
    · exact sa.2 t (by simp [ht])
    · rcases List.mem_cons.1 ht with rfl | ht
      · rw [hm1]; rfl
      · exact sb.2 t (by simp [ht])
  refine ⟨h, hh, fun na nb x y => ?_⟩
  have e1 := parts_end [111, 114] a (fun t ht e => na (e ▸ ht))
  have e2 := parts_end [111, 114] b (fun t ht e => nb (e ▸ ht))
  rw [e1] at h1
  rw [e2] at h2
  have hps : ps = [] := by
    cases ps with
    | nil => rfl
    | cons z zs => simp at h1
  subst hps
  obtain ⟨rfl, rfl⟩ : q = b ∧ qs = [] := by
    injection h2 with h2 h2'
    exact ⟨h2.symm, h2'.symm⟩
  rw [List.nil_append, fold_one] at hh ha
  rw [fold_one] at hb
  have k1 : h = m := Option.some.inj (hh.symm.trans hm1)
  have k2 : f = fp := Option.some.inj (ha.symm.trans hfp)
  have k3 : g = gq := Option.some.inj (hb.symm.trans hgq)
  rw [k1, k2, k3]
  exact hm2 x y
/-- A word stands in the text. -/
theorem toks_infix : ∀ (n : Nat) (l : T), l.length ≤ n → ∀ ts, toks l = some ts → ∀ t ∈ ts, t <:+: l := by
  intro n
  induction n with
  | zero =>
    intro l h ts hts t ht
    have : l = [] := List.length_eq_zero_iff.1 (by omega)
    subst this
    have : ts = [] := by cases hts; rfl
    subst this
    cases ht
  | succ n ih =>
    intro l h ts hts t ht
    cases l with
    | nil =>
      have : ts = [] := by cases hts; rfl
      subst this
      cases ht
    | cons c r =>
      rw [toks_step] at hts
      by_cases hz : partLen (c :: r) = 0
      · simp [hz] at hts
      · simp only [hz, if_false] at hts
        cases hd : toks ((c :: r).drop (partLen (c :: r))) with
        | none => simp [hd] at hts
        | some l' =>
          simp only [hd, Option.some.injEq] at hts
          have hrec : ∀ t ∈ l', t <:+: c :: r := fun t ht => (ih _ (by simp at h ⊢; omega) l' hd t ht).trans (List.drop_suffix _ _).isInfix
          by_cases hc : c = 32
          · rw [if_pos hc] at hts
            subst hts
            exact hrec t ht
          · rw [if_neg hc] at hts
            subst hts
            rcases List.mem_cons.1 ht with rfl | ht
            · exact (List.take_prefix _ _).isInfix
            · exact hrec t ht
end Go.Proofs.YtaepcfidpekflaaGreatDoor.Pr
