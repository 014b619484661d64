/-
  PLAIN LEAN, no program in it: a condition read from the left is the one that is parted at 'or', then at 'and'. By the verifier.
-/
import Derived.Test.YtaepcfidpekflaaGreatDoorPs
namespace Go.Proofs.YtaepcfidpekflaaGreatDoor.Pr

def StopO (t : T) : Prop := t = [111, 114]
def StopA (t : T) : Prop := t = [97, 110, 100] ∨ t = [111, 114]
def StopI (t : T) : Prop := t = [44] ∨ StopA t

theorem good_none (S : T → Prop) : Good (fun _ => none) S := ⟨fun _ _ _ h => (by cases h), fun _ _ _ h => (by cases h)⟩
theorem good_ret (S : T → Prop) (F : Sem) : Good (fun l => some (F, l)) S := by
  constructor
  · intro l f r h
    simp only [Option.some.injEq, Prod.mk.injEq] at h
    obtain ⟨rfl, rfl⟩ := h
    exact ⟨[], rfl, rfl, by simp⟩
  · intro p f r h _
    simp only [Option.some.injEq, Prod.mk.injEq] at h
    obtain ⟨rfl, rfl⟩ := h
    rfl
theorem fig_dig {t : T} {v : Nat} (h : fig t = some v) : Pn.digitsB t = true := by
  unfold fig at h
  split at h
  · rename_i c; exact c.1
  · cases h
theorem good_value (S : T → Prop) (k : Nat → Rd) (hk : ∀ v, Good (k v) S) (hS : ∀ t, S t → Pn.digitsB t = false) : Good (valueP k) S := by
  constructor
  · intro l f r h
    cases l with
    | nil => simp [valueP, value] at h
    | cons t l =>
      cases hv : fig t with
      | none => simp [valueP, value, hv] at h
      | some v =>
        simp only [valueP, value, hv] at h
        obtain ⟨p, e1, e2, e3⟩ := (hk v).sound l f r h
        refine ⟨t :: p, by rw [e1]; rfl, by simp only [valueP, value, hv]; exact e2, ?_⟩
        intro u hu hs
        rcases List.mem_cons.1 hu with rfl | hu
        · have := hS u hs; rw [fig_dig hv] at this; cases this
        · exact e3 u hu hs
  · intro p f r h hr
    cases p with
    | nil => simp [valueP, value] at h
    | cons t l =>
      cases hv : fig t with
      | none => simp [valueP, value, hv] at h
      | some v =>
        simp only [valueP, value, hv] at h
        simp only [List.cons_append, valueP, value, hv]
        exact (hk v).complete l f r h hr
theorem sound_cons {S : T → Prop} {q m : Rd} {t : T} (hq : Good q S) (ht : ¬ S t) (hm : ∀ l, m (t :: l) = q l) {l : List T} {f : Sem} {r : List T} (h : m (t :: l) = some (f, r)) :
    ∃ p, t :: l = p ++ r ∧ m p = some (f, []) ∧ ∀ u ∈ p, ¬ S u := by
  rw [hm] at h
  obtain ⟨p, e1, e2, e3⟩ := hq.sound l f r h
  refine ⟨t :: p, by rw [e1]; rfl, by rw [hm]; exact e2, ?_⟩
  intro u hu
  rcases List.mem_cons.1 hu with rfl | hu
  · exact ht
  · exact e3 u hu
theorem complete_cons {S : T → Prop} {q m : Rd} {t : T} (hq : Good q S) (hm : ∀ l, m (t :: l) = q l) {p : List T} {f : Sem} {r : List T} (h : m (t :: p) = some (f, [])) (hr : r = [] ∨ ∃ t r', r = t :: r' ∧ S t) :
    m (t :: p ++ r) = some (f, r) := by
  rw [hm] at h
  rw [List.cons_append, hm]
  exact hq.complete p f r h hr

theorem stopI_dig (t : T) (h : StopI t) : Pn.digitsB t = false := by
  rcases h with rfl | rfl | rfl <;> decide
theorem stopA_dig (t : T) (h : StopA t) : Pn.digitsB t = false := stopI_dig t (.inr h)

theorem good_itemK (o : Opd) (wi : Bool) (lo : Nat) : Good (itemK o wi lo) StopI := by
  have hv : Good (valueP (fun hi l => if hi < lo then none else some (inS o wi lo hi, l))) StopI := by
    refine good_value _ _ (fun hi => ?_) stopI_dig
    by_cases c : hi < lo
    · simp only [c, if_true]; exact good_none _
    · simp only [c, if_false]; exact good_ret _ _
  have hd : ∀ l, itemK o wi lo ([46, 46] :: l) = valueP (fun hi l => if hi < lo then none else some (inS o wi lo hi, l)) l := fun l => by simp [itemK]
  constructor
  · intro l f r h
    cases l with
    | nil =>
      simp only [itemK, Option.some.injEq, Prod.mk.injEq] at h
      obtain ⟨rfl, rfl⟩ := h
      exact ⟨[], rfl, rfl, by simp⟩
    | cons t l =>
      by_cases c : t = [46, 46]
      · subst c
        exact sound_cons hv (by intro h; rcases h with h | h | h <;> cases h) hd h
      · simp only [itemK, c, if_false, Option.some.injEq, Prod.mk.injEq] at h
        obtain ⟨rfl, rfl⟩ := h
        exact ⟨[], rfl, rfl, by simp⟩
  · intro p f r h hr
    cases p with
    | nil =>
      simp only [itemK, Option.some.injEq, Prod.mk.injEq] at h
      obtain ⟨rfl, _⟩ := h
      rcases hr with rfl | ⟨t, r', rfl, hS⟩
      · rfl
      · have : t ≠ [46, 46] := by rintro rfl; rcases hS with h | h | h <;> cases h
        simp [itemK, this]
    | cons t l =>
      by_cases c : t = [46, 46]
      · subst c
        exact complete_cons hv hd h hr
      · simp [itemK, c] at h
theorem good_item (o : Opd) (wi : Bool) : Good (itemP o wi) StopI := good_value _ _ (good_itemK o wi) stopI_dig
theorem good_list (o : Opd) (n wi : Bool) : Good (listP o n wi) StopA := by
  have hg : Good (rowP (itemP o wi) [44] orS) StopA := row_good (good_item o wi) (.inl rfl) StopA (fun t h => ⟨.inr h, by rcases h with rfl | rfl <;> decide⟩)
  constructor
  · intro l f r h
    unfold listP at h
    cases hm : rowP (itemP o wi) [44] orS l with
    | none => simp [hm] at h
    | some x =>
      obtain ⟨g, r1⟩ := x
      simp only [hm, Option.some.injEq, Prod.mk.injEq] at h
      obtain ⟨rfl, rfl⟩ := h
      obtain ⟨p, e1, e2, e3⟩ := hg.sound l g r1 hm
      exact ⟨p, e1, by simp only [listP, e2], e3⟩
  · intro p f r h hr
    unfold listP at h ⊢
    cases hm : rowP (itemP o wi) [44] orS p with
    | none => simp [hm] at h
    | some x =>
      obtain ⟨g, r1⟩ := x
      simp only [hm, Option.some.injEq, Prod.mk.injEq] at h
      obtain ⟨rfl, rfl⟩ := h
      rw [hg.complete p g r hm hr]
theorem good_is (o : Opd) (n : Bool) : Good (isP o n) StopA := good_value _ _ (fun _ => good_ret _ _) stopA_dig
theorem good_isN (o : Opd) : Good (isN o) StopA := by
  have hd : ∀ l, isN o ([110, 111, 116] :: l) = isP o true l := fun l => by simp [isN]
  constructor
  · intro l f r h
    cases l with
    | nil => cases h
    | cons t l =>
      by_cases c : t = [110, 111, 116]
      · subst c
        exact sound_cons (good_is o true) (by intro h; rcases h with h | h <;> cases h) hd h
      · simp only [isN, c, if_false] at h
        obtain ⟨p, e1, e2, e3⟩ := (good_is o false).sound _ f r h
        refine ⟨p, e1, ?_, e3⟩
        cases p with
        | nil => simp [isP, valueP, value] at e2
        | cons u p =>
          have : u = t := by simp at e1; exact e1.1.symm
          subst this
          simp only [isN, c, if_false]; exact e2
  · intro p f r h hr
    cases p with
    | nil => cases h
    | cons t l =>
      by_cases c : t = [110, 111, 116]
      · subst c
        exact complete_cons (good_is o true) hd h hr
      · simp only [isN, c, if_false] at h
        simp only [List.cons_append, isN, c, if_false]
        exact (good_is o false).complete _ f r h hr
theorem good_inN (o : Opd) (n : Bool) : Good (inN o n) StopA := by
  have h1 : ∀ l, inN o n ([105, 110] :: l) = listP o n false l := fun l => by simp [inN]
  have h2 : ∀ l, inN o n ([119, 105, 116, 104, 105, 110] :: l) = listP o n true l := fun l => by simp [inN]
  constructor
  · intro l f r h
    cases l with
    | nil => cases h
    | cons t l =>
      by_cases c : t = [105, 110]
      · subst c
        exact sound_cons (good_list o n false) (by intro h; rcases h with h | h <;> cases h) h1 h
      · by_cases c2 : t = [119, 105, 116, 104, 105, 110]
        · subst c2
          exact sound_cons (good_list o n true) (by intro h; rcases h with h | h <;> cases h) h2 h
        · simp [inN, c, c2] at h
  · intro p f r h hr
    cases p with
    | nil => cases h
    | cons t l =>
      by_cases c : t = [105, 110]
      · subst c
        exact complete_cons (good_list o n false) h1 h hr
      · by_cases c2 : t = [119, 105, 116, 104, 105, 110]
        · subst c2
          exact complete_cons (good_list o n true) h2 h hr
        · simp [inN, c, c2] at h
theorem good_how (o : Opd) : Good (howP o) StopA := by
  have h1 : ∀ l, howP o ([61] :: l) = listP o false false l := fun l => by simp [howP]
  have h2 : ∀ l, howP o ([33, 61] :: l) = listP o true false l := fun l => by simp [howP]
  have h3 : ∀ l, howP o ([105, 115] :: l) = isN o l := fun l => by simp [howP]
  have h4 : ∀ l, howP o ([110, 111, 116] :: l) = inN o true l := fun l => by simp [howP]
  constructor
  · intro l f r h
    cases l with
    | nil => cases h
    | cons t l =>
      by_cases c1 : t = [61]
      · subst c1; exact sound_cons (good_list o _ _) (by intro h; rcases h with h | h <;> cases h) h1 h
      by_cases c2 : t = [33, 61]
      · subst c2; exact sound_cons (good_list o _ _) (by intro h; rcases h with h | h <;> cases h) h2 h
      by_cases c3 : t = [105, 115]
      · subst c3; exact sound_cons (good_isN o) (by intro h; rcases h with h | h <;> cases h) h3 h
      by_cases c4 : t = [110, 111, 116]
      · subst c4; exact sound_cons (good_inN o true) (by intro h; rcases h with h | h <;> cases h) h4 h
      simp only [howP, c1, c2, c3, c4, if_false] at h
      obtain ⟨p, e1, e2, e3⟩ := (good_inN o false).sound _ f r h
      refine ⟨p, e1, ?_, e3⟩
      cases p with
      | nil => cases e2
      | cons u p =>
        have : u = t := by simp at e1; exact e1.1.symm
        subst this
        simp only [howP, c1, c2, c3, c4, if_false]; exact e2
  · intro p f r h hr
    cases p with
    | nil => cases h
    | cons t l =>
      by_cases c1 : t = [61]
      · subst c1; exact complete_cons (good_list o _ _) h1 h hr
      by_cases c2 : t = [33, 61]
      · subst c2; exact complete_cons (good_list o _ _) h2 h hr
      by_cases c3 : t = [105, 115]
      · subst c3; exact complete_cons (good_isN o) h3 h hr
      by_cases c4 : t = [110, 111, 116]
      · subst c4; exact complete_cons (good_inN o true) h4 h hr
      simp only [howP, c1, c2, c3, c4, if_false] at h
      simp only [List.cons_append, howP, c1, c2, c3, c4, if_false]
      exact (good_inN o false).complete _ f r h hr
theorem good_mod (o : Opd) : Good (modP o) StopA := by
  have hv : Good (valueP (fun m r => if m = 0 then none else howP (modS o m) r)) StopA := by
    refine good_value _ _ (fun m => ?_) stopA_dig
    by_cases c : m = 0
    · simp only [c, if_true]; exact good_none _
    · simp only [c, if_false]; exact good_how _
  constructor
  · intro l f r h
    cases l with
    | nil => cases h
    | cons t l =>
      by_cases c : t = [109, 111, 100] ∨ t = [37]
      · exact sound_cons hv (by rintro (rfl | rfl) <;> rcases c with h | h <;> cases h) (fun l => by simp only [modP, c, if_true]) h
      · simp only [modP, c, if_false] at h
        obtain ⟨p, e1, e2, e3⟩ := (good_how o).sound _ f r h
        refine ⟨p, e1, ?_, e3⟩
        cases p with
        | nil => cases e2
        | cons u p =>
          have : u = t := by simp at e1; exact e1.1.symm
          subst this
          simp only [modP, c, if_false]; exact e2
  · intro p f r h hr
    cases p with
    | nil => cases h
    | cons t l =>
      by_cases c : t = [109, 111, 100] ∨ t = [37]
      · exact complete_cons hv (fun l => by simp only [modP, c, if_true]) h hr
      · simp only [modP, c, if_false] at h
        simp only [List.cons_append, modP, c, if_false]
        exact (good_how o).complete _ f r h hr
theorem opd_and : opd [97, 110, 100] = none := by decide
theorem opd_or : opd [111, 114] = none := by decide
theorem good_rel : Good relP StopA := by
  constructor
  · intro l f r h
    cases l with
    | nil => cases h
    | cons t l =>
      cases ho : opd t with
      | none => simp [relP, ho] at h
      | some o => exact sound_cons (good_mod o) (by rintro (rfl | rfl) <;> revert ho <;> simp [opd]) (fun l => by simp only [relP, ho]) h
  · intro p f r h hr
    cases p with
    | nil => cases h
    | cons t l =>
      cases ho : opd t with
      | none => simp [relP, ho] at h
      | some o => exact complete_cons (good_mod o) (fun l => by simp only [relP, ho]) h hr
theorem good_and : Good andP StopO := row_good good_rel (.inl rfl) StopO (fun t h => ⟨.inr h, by rw [show t = _ from h]; decide⟩)

/-- A condition, parted at 'or', then at 'and'. -/
theorem cond_parts (l : List T) : condP l = foldB (fun p => foldB (whole relP) andS (partsAt [97, 110, 100] p)) orS (partsAt [111, 114] l) := by
  have h1 : condP l = whole orP l := rfl
  rw [h1, orP, row_whole good_and (sep := [111, 114]) (jn := orS) rfl]
  have : whole andP = fun p => foldB (whole relP) andS (partsAt [97, 110, 100] p) := by
    funext p
    rw [andP, row_whole good_rel (sep := [97, 110, 100]) (jn := andS) (.inl rfl)]
  rw [this]
theorem list_parts (o : Opd) (n wi : Bool) (l : List T) : whole (listP o n wi) l = (foldB (whole (itemP o wi)) orS (partsAt [44] l)).map fun f => turnS f n := by
  rw [← row_whole (good_item o wi) (sep := [44]) (jn := orS) (.inl rfl)]
  unfold whole listP
  cases rowP (itemP o wi) [44] orS l with
  | none => rfl
  | some x =>
    obtain ⟨f, r⟩ := x
    cases r <;> rfl
end Go.Proofs.YtaepcfidpekflaaGreatDoor.Pr
