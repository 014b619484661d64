/-
  Several texts in one (Kx, Ky, Kz). By the verifier.
-/
import Derived.Test.YtaepcfidpekflaaGreatDoorU06
namespace Go.Proofs.YtaepcfidpekflaaGreatDoor.Dk
/-- Spoken of as a number (110), as a text (116), as it comes. -/
def sortM (m : Mark) : Nat := if m.kind = 110 ∨ m.kind = 40 ∧ m.how ≠ Pg.selectW then 110 else if m.kind = 40 then 116 else 0
def upd (st c : Nat × Nat) : Nat × Nat := if st.1 = 0 ∨ c.2 < st.2 then c else st
def delta (m : Mark) : Int := if m.kind = 40 ∨ m.kind = 91 then 1 else if m.kind = 41 ∨ m.kind = 93 then -1 else 0
def endF : Int → List Mark → Nat
  | _, [] => 0
  | d, m :: r => if d + delta m = 0 then 0 else endF (d + delta m) r + 1
def endAt (l : List Mark) (k : Nat) : Nat := k + endF 0 (l.drop k)
def brGo (l : List Mark) (e : Nat) : Nat → Nat → List Nat
  | 0, _ => []
  | n + 1, i => if i < e then i :: brGo l e n (endAt l i + 1) else []
def brsAt (l : List Mark) (k : Nat) : List Nat := brGo l (endAt l k) l.length (k + 1)
def firstK (n : T) : List Mark → Nat
  | [] => 0
  | m :: r => if sortM m ≠ 0 ∧ m.name = n then sortM m else firstK n r
def kindC (P : List Mark) (m : Mark) : List (Nat × Nat) := if sortM m ≠ 0 ∧ firstK m.name P ≠ 0 ∧ firstK m.name P ≠ sortM m then [(5, m.at_)] else []
def textAt (l : List Mark) (i : Nat) : T := (l[i]?.map Mark.text).getD []
def placeAt (l : List Mark) (i : Nat) : Nat := (l[i]?.map Mark.at_).getD 0
def twGo (l : List Mark) (seen : List Nat) : List Nat → List (Nat × Nat)
  | [] => []
  | a :: r => (seen.filter (fun b => textAt l a = textAt l b)).map (fun _ => (7, placeAt l a)) ++ twGo l (seen ++ [a]) r
def otherW : T := [111, 116, 104, 101, 114]
def othC (l : List Mark) (k : Nat) (bs : List Nat) : List (Nat × Nat) := if bs.any (fun b => textAt l b == otherW) = true then [] else [(6, placeAt l (endAt l k))]
def candsAt (l : List Mark) (i : Nat) : List (Nat × Nat) := match l[i]? with
  | none => []
  | some m => kindC (l.take i) m ++ if m.kind = 40 then twGo l [] (brsAt l i) ++ othC l i (brsAt l i) else []
def faults (l : List Mark) : Nat × Nat := ((List.range l.length).flatMap (candsAt l)).foldl upd (0, 0)
end Go.Proofs.YtaepcfidpekflaaGreatDoor.Dk
namespace Go.Proofs.YtaepcfidpekflaaGreatDoor.Pg
open Go.Proofs.YtaepcfidpekflaaGreatDoor

/-- Of what is found, that of the least place stays. -/
theorem upd_least : ∀ (C : List (Nat × Nat)) (st c : Nat × Nat), (st = c ∨ c ∈ C ∧ (st.1 = 0 ∨ c.2 < st.2)) → c.1 ≠ 0 → (∀ d ∈ C, c.2 ≤ d.2 ∧ (d.2 = c.2 → d = c)) → C.foldl Dk.upd st = c := by
  intro C
  induction C with
  | nil => intro st c h _ _; rcases h with h | h; exact h; cases h.1
  | cons d C ih =>
    intro st c h hc hd
    rw [List.foldl_cons]
    have hd' : ∀ d ∈ C, c.2 ≤ d.2 ∧ (d.2 = c.2 → d = c) := fun d h => hd d (by simp [h])
    obtain ⟨d1, d2⟩ := hd d (by simp)
    apply ih _ _ _ hc hd'
    unfold Dk.upd
    rcases h with h | ⟨h1, h2⟩
    · left
      rw [if_neg, h]
      rw [h]
      omega
    · by_cases hdc : d = c
      · left
        rw [hdc, if_pos h2]
      · right
        have hm : c ∈ C := by
          rcases List.mem_cons.1 h1 with h | h
          · exact absurd h.symm hdc
          · exact h
        refine ⟨hm, ?_⟩
        split
        · right
          rcases Nat.lt_or_ge c.2 d.2 with h | h
          · exact h
          · exact absurd (d2 (by omega)) hdc
        · exact h2
theorem upd_none (C : List (Nat × Nat)) (h : C = []) : C.foldl Dk.upd (0, 0) = (0, 0) := by rw [h]; rfl

/-- The places of a tree stand in their order. -/
def In : Nat → Nat → Tr → Prop
  | lo, hi, .nil => lo ≤ hi
  | lo, hi, .text _ r => In lo hi r
  | lo, hi, .sign r => In lo hi r
  | lo, hi, .simple _ a r => lo ≤ a ∧ In (a + 1) hi r
  | lo, hi, .num _ a r => lo ≤ a ∧ In (a + 1) hi r
  | lo, hi, .sel _ a bs e r => lo ≤ a ∧ In (a + 1) e bs ∧ In (e + 1) hi r
  | lo, hi, .plu _ a _ _ bs e r => lo ≤ a ∧ In (a + 1) e bs ∧ In (e + 1) hi r
  | lo, hi, .br _ a m r => lo ≤ a ∧ ∃ c, In (a + 1) c m ∧ In c hi r
theorem In.le {lo hi : Nat} {t : Tr} (h : In lo hi t) : lo ≤ hi := by
  induction t generalizing lo hi with
  | nil => exact h
  | text _ r ih => exact ih h
  | sign r ih => exact ih h
  | simple _ a r ih => have := ih h.2; have := h.1; omega
  | num _ a r ih => have := ih h.2; have := h.1; omega
  | sel _ a bs e r ih1 ih2 => have := ih1 h.2.1; have := ih2 h.2.2; have := h.1; omega
  | plu _ a _ _ bs e r ih1 ih2 => have := ih1 h.2.1; have := ih2 h.2.2; have := h.1; omega
  | br _ a m r ih1 ih2 =>
    obtain ⟨h1, c, h2, h3⟩ := h
    have := ih1 h2
    have := ih2 h3
    omega
/-- The keys of a row of branches. -/
def keys : Tr → List T
  | .br w _ _ r => w :: keys r
  | _ => []
def nodeM (o : Nat → Nat) : Tr → Dk.Mark
  | .num n a _ => { kind := 110, name := n, how := numberW, at_ := o a }
  | .sel n a _ _ _ => { kind := 40, name := n, how := selectW, offset := [48], at_ := o a }
  | .plu n a ord off _ _ _ => { kind := 40, name := n, how := if ord then ordinalW else pluralW, offset := off, at_ := o a }
  | _ => { kind := 0 }
def kindB (P : List Dk.Mark) (m : Dk.Mark) : Bool := decide (Dk.firstK m.name P ≠ 0 ∧ Dk.firstK m.name P ≠ Dk.sortM m)
abbrev kindBad (P : List Dk.Mark) (m : Dk.Mark) : Prop := kindB P m = true
theorem kindBad_iff {P : List Dk.Mark} {m : Dk.Mark} : kindBad P m ↔ (Dk.firstK m.name P ≠ 0 ∧ Dk.firstK m.name P ≠ Dk.sortM m) := by simp [kindBad, kindB]
/-- The fault that is met first; P: the marks ahead; seen: the keys ahead of the same argument. -/
def ck (o : Nat → Nat) : List Dk.Mark → List T → Tr → Option (Nat × Nat)
  | _, _, .nil => none
  | P, seen, .text t r => ck o (P ++ [{ kind := 116, text := t }]) seen r
  | P, seen, .sign r => ck o (P ++ [{ kind := 35 }]) seen r
  | P, seen, .simple n a r => ck o (P ++ [{ kind := 112, name := n, at_ := o a }]) seen r
  | P, seen, .num n a r => if kindBad P (nodeM o (.num n a r)) then some (5, a) else ck o (P ++ [nodeM o (.num n a r)]) seen r
  | P, seen, .sel n a bs e r => if kindBad P (nodeM o (.sel n a bs e r)) then some (5, a) else
      match ck o (P ++ [nodeM o (.sel n a bs e r)]) [] bs with
      | some f => some f
      | none => if Dk.otherW ∈ keys bs then ck o (P ++ flat o (.sel n a bs e .nil)) seen r else some (6, e)
  | P, seen, .plu n a ord off bs e r => if kindBad P (nodeM o (.plu n a ord off bs e r)) then some (5, a) else
      match ck o (P ++ [nodeM o (.plu n a ord off bs e r)]) [] bs with
      | some f => some f
      | none => if Dk.otherW ∈ keys bs then ck o (P ++ flat o (.plu n a ord off bs e .nil)) seen r else some (6, e)
  | P, seen, .br w a m r => if w ∈ seen then some (7, a) else
      match ck o (P ++ [{ kind := 91, text := w, at_ := o a }]) [] m with
      | some f => some f
      | none => ck o (P ++ flat o (.br w a m .nil)) (seen ++ [w]) r
/-- A selector that stands twice. -/
def Tw (o : Nat → Nat) : List T → Tr → Nat × Nat → Prop
  | seen, .br w a _ r, x => w ∈ seen ∧ x = (7, o a) ∨ Tw o (seen ++ [w]) r x
  | _, _, _ => False
/-- All faults but a selector twice in the row itself. -/
def Cd (o : Nat → Nat) : List Dk.Mark → Tr → Nat × Nat → Prop
  | _, .nil, _ => False
  | P, .text t r, x => Cd o (P ++ [{ kind := 116, text := t }]) r x
  | P, .sign r, x => Cd o (P ++ [{ kind := 35 }]) r x
  | P, .simple n a r, x => Cd o (P ++ [{ kind := 112, name := n, at_ := o a }]) r x
  | P, .num n a r, x => kindBad P (nodeM o (.num n a r)) ∧ x = (5, o a) ∨ Cd o (P ++ [nodeM o (.num n a r)]) r x
  | P, .sel n a bs e r, x => kindBad P (nodeM o (.sel n a bs e r)) ∧ x = (5, o a) ∨ Tw o [] bs x ∨ Cd o (P ++ [nodeM o (.sel n a bs e r)]) bs x ∨ Dk.otherW ∉ keys bs ∧ x = (6, o e) ∨ Cd o (P ++ flat o (.sel n a bs e .nil)) r x
  | P, .plu n a ord off bs e r, x => kindBad P (nodeM o (.plu n a ord off bs e r)) ∧ x = (5, o a) ∨ Tw o [] bs x ∨ Cd o (P ++ [nodeM o (.plu n a ord off bs e r)]) bs x ∨ Dk.otherW ∉ keys bs ∧ x = (6, o e) ∨ Cd o (P ++ flat o (.plu n a ord off bs e .nil)) r x
  | P, .br w a m r, x => Cd o (P ++ [{ kind := 91, text := w, at_ := o a }]) m x ∨ Cd o (P ++ flat o (.br w a m .nil)) r x
theorem Tw_In {o : Nat → Nat} : ∀ (t : Tr) (seen : List T) (lo hi : Nat) (x : Nat × Nat), In lo hi t → Tw o seen t x → ∃ a, lo ≤ a ∧ a < hi ∧ x = (7, o a) := by
  intro t
  induction t with
  | br w a m r ih1 ih2 =>
    intro seen lo hi x h hx
    obtain ⟨h1, c, h2, h3⟩ := h
    rcases hx with ⟨_, hx⟩ | hx
    · exact ⟨a, h1, by have := h2.le; have := h3.le; omega, hx⟩
    · obtain ⟨b, b1, b2, b3⟩ := ih2 _ _ _ _ h3 hx
      exact ⟨b, by have := h2.le; omega, b2, b3⟩
  | _ => intro seen lo hi x _ hx; exact hx.elim
theorem Cd_In {o : Nat → Nat} : ∀ (t : Tr) (P : List Dk.Mark) (lo hi : Nat) (x : Nat × Nat), In lo hi t → Cd o P t x → ∃ a, lo ≤ a ∧ a < hi ∧ x.2 = o a ∧ x.1 ≠ 0 := by
  intro t
  induction t with
  | nil => intro P lo hi x _ hx; exact hx.elim
  | text t r ih => intro P lo hi x h hx; exact ih _ _ _ _ h hx
  | sign r ih => intro P lo hi x h hx; exact ih _ _ _ _ h hx
  | simple n a r ih =>
    intro P lo hi x h hx
    obtain ⟨b, b1, b2, b3⟩ := ih _ _ _ _ h.2 hx
    exact ⟨b, by have := h.1; omega, b2, b3⟩
  | num n a r ih =>
    intro P lo hi x h hx
    rcases hx with ⟨_, rfl⟩ | hx
    · exact ⟨a, h.1, h.2.le, rfl, by simp⟩
    · obtain ⟨b, b1, b2, b3⟩ := ih _ _ _ _ h.2 hx
      exact ⟨b, by have := h.1; omega, b2, b3⟩
  | sel n a bs e r ih1 ih2 =>
    intro P lo hi x h hx
    obtain ⟨h1, h2, h3⟩ := h
    have l1 := h2.le
    have l2 := h3.le
    rcases hx with ⟨_, rfl⟩ | hx | hx | ⟨_, rfl⟩ | hx
    · exact ⟨a, h1, by omega, rfl, by simp⟩
    · obtain ⟨b, b1, b2, rfl⟩ := Tw_In _ _ _ _ _ h2 hx
      exact ⟨b, by omega, by omega, rfl, by simp⟩
    · obtain ⟨b, b1, b2, b3⟩ := ih1 _ _ _ _ h2 hx
      exact ⟨b, by omega, by omega, b3⟩
    · exact ⟨e, by omega, by omega, rfl, by simp⟩
    · obtain ⟨b, b1, b2, b3⟩ := ih2 _ _ _ _ h3 hx
      exact ⟨b, by omega, by omega, b3⟩
  | plu n a ord off bs e r ih1 ih2 =>
    intro P lo hi x h hx
    obtain ⟨h1, h2, h3⟩ := h
    have l1 := h2.le
    have l2 := h3.le
    rcases hx with ⟨_, rfl⟩ | hx | hx | ⟨_, rfl⟩ | hx
    · exact ⟨a, h1, by omega, rfl, by simp⟩
    · obtain ⟨b, b1, b2, rfl⟩ := Tw_In _ _ _ _ _ h2 hx
      exact ⟨b, by omega, by omega, rfl, by simp⟩
    · obtain ⟨b, b1, b2, b3⟩ := ih1 _ _ _ _ h2 hx
      exact ⟨b, by omega, by omega, b3⟩
    · exact ⟨e, by omega, by omega, rfl, by simp⟩
    · obtain ⟨b, b1, b2, b3⟩ := ih2 _ _ _ _ h3 hx
      exact ⟨b, by omega, by omega, b3⟩
  | br w a m r ih1 ih2 =>
    intro P lo hi x h hx
    obtain ⟨h1, c, h2, h3⟩ := h
    have l1 := h2.le
    have l2 := h3.le
    rcases hx with hx | hx
    · obtain ⟨b, b1, b2, b3⟩ := ih1 _ _ _ _ h2 hx
      exact ⟨b, by omega, by omega, b3⟩
    · obtain ⟨b, b1, b2, b3⟩ := ih2 _ _ _ _ h3 hx
      exact ⟨b, by omega, by omega, b3⟩
end Go.Proofs.YtaepcfidpekflaaGreatDoor.Pg
namespace Go.Proofs.YtaepcfidpekflaaGreatDoor.Pg
open Go.Proofs.YtaepcfidpekflaaGreatDoor

/-- A message's row, or (true) a row of branches. -/
def Wf : Bool → Tr → Prop
  | _, .nil => True
  | b, .text _ r => b = false ∧ Wf false r
  | b, .sign r => b = false ∧ Wf false r
  | b, .simple _ _ r => b = false ∧ Wf false r
  | b, .num _ _ r => b = false ∧ Wf false r
  | b, .sel _ _ bs _ r => b = false ∧ Wf true bs ∧ Wf false r
  | b, .plu _ _ _ _ bs _ r => b = false ∧ Wf true bs ∧ Wf false r
  | b, .br _ _ m r => b = true ∧ Wf false m ∧ Wf true r
theorem no_Tw {o : Nat → Nat} {t : Tr} (h : Wf false t) (seen : List T) (x : Nat × Nat) : ¬ Tw o seen t x := by
  cases t with
  | br w a m r => exact absurd h.1 (by simp)
  | _ => exact fun h => h
def Least (o : Nat → Nat) (S : Nat × Nat → Prop) (lo hi : Nat) : Option (Nat × Nat) → Prop
  | none => ∀ x, ¬ S x
  | some f => S (f.1, o f.2) ∧ lo ≤ f.2 ∧ f.2 < hi ∧ f.1 ≠ 0 ∧ ∀ x, S x → o f.2 ≤ x.2 ∧ (x.2 = o f.2 → x = (f.1, o f.2))
theorem Least.congr {o : Nat → Nat} {S S' : Nat × Nat → Prop} {lo lo' hi hi' : Nat} {r : Option (Nat × Nat)} (h : Least o S lo hi r) (hS : ∀ x, S x ↔ S' x) (h1 : lo' ≤ lo) (h2 : hi ≤ hi') : Least o S' lo' hi' r := by
  cases r with
  | none => exact fun x hx => h x ((hS x).2 hx)
  | some f =>
    obtain ⟨a, b, c, d, e⟩ := h
    exact ⟨(hS _).1 a, by omega, by omega, d, fun x hx => e x ((hS x).2 hx)⟩
/-- One that stands ahead of all others. -/
theorem Least.head {o : Nat → Nat} {S : Nat × Nat → Prop} {lo hi a e : Nat} (h : S (e, o a)) (h1 : lo ≤ a) (h2 : a < hi) (he : e ≠ 0) (h3 : ∀ x, S x → x = (e, o a) ∨ o a < x.2) : Least o S lo hi (some (e, a)) := by
  refine ⟨h, h1, h2, he, fun x hx => ?_⟩
  rcases h3 x hx with rfl | h
  · exact ⟨Nat.le_refl _, fun _ => rfl⟩
  · exact ⟨by simp only; omega, fun h' => by simp only at h'; omega⟩
/-- More of what stands behind. -/
theorem Least.more {o : Nat → Nat} {S S' : Nat × Nat → Prop} {lo hi mid : Nat} {f : Nat × Nat} (h : Least o S lo mid (some f)) (hm : mid ≤ hi) (hS : ∀ x, S x → S' x) (h3 : ∀ x, S' x → S x ∨ ∃ b, mid ≤ b ∧ b < hi ∧ x.2 = o b) (mono : ∀ a b, a < b → b < hi → o a < o b) : Least o S' lo hi (some f) := by
  obtain ⟨a, b, c, d, e⟩ := h
  refine ⟨hS _ a, b, by omega, d, fun x hx => ?_⟩
  rcases h3 x hx with h | ⟨b', b1, b2, b3⟩
  · exact e x h
  · have := mono f.2 b' (by omega) b2
    exact ⟨by omega, fun h => by omega⟩
theorem ck_least {o : Nat → Nat} {N : Nat} (mono : ∀ a b, a < b → b < N → o a < o b) : ∀ (t : Tr) (k : Bool) (P : List Dk.Mark) (seen : List T) (lo hi : Nat), hi ≤ N → Wf k t → In lo hi t → Least o (fun x => Tw o seen t x ∨ Cd o P t x) lo hi (ck o P seen t) := by
  intro t
  induction t with
  | nil => intro k P seen lo hi _ _ _ x hx; rcases hx with h | h <;> exact h.elim
  | text t r ih =>
    intro k P seen lo hi hN hw h
    rw [ck]
    refine Least.congr (ih false (P ++ [{ kind := 116, text := t }]) seen lo hi hN hw.2 h) (fun x => ?_) (Nat.le_refl _) (Nat.le_refl _)
    simp [Cd, Tw, no_Tw hw.2]
  | sign r ih =>
    intro k P seen lo hi hN hw h
    rw [ck]
    refine Least.congr (ih false (P ++ [{ kind := 35 }]) seen lo hi hN hw.2 h) (fun x => ?_) (Nat.le_refl _) (Nat.le_refl _)
    simp [Cd, Tw, no_Tw hw.2]
  | simple n a r ih =>
    intro k P seen lo hi hN hw h
    rw [ck]
    refine Least.congr (ih false (P ++ [{ kind := 112, name := n, at_ := o a }]) seen (a + 1) hi hN hw.2 h.2) (fun x => ?_) (by have := h.1; omega) (Nat.le_refl _)
    simp [Cd, Tw, no_Tw hw.2]
  | num n a r ih =>
    intro k P seen lo hi hN hw h
    have hle := h.2.le
    rw [ck]
    by_cases hk : kindBad P (nodeM o (.num n a r))
    · rw [if_pos hk]
      refine Least.head (.inr (.inl ⟨hk, rfl⟩)) h.1 (by omega) (by decide) fun x hx => ?_
      rcases hx with hx | ⟨_, hx⟩ | hx
      · exact hx.elim
      · exact .inl hx
      · obtain ⟨b, b1, b2, b3, _⟩ := Cd_In _ _ _ _ _ h.2 hx
        right
        rw [b3]
        exact mono a b (by omega) (by omega)
    · rw [if_neg hk]
      exact (ih false (P ++ [nodeM o (.num n a r)]) seen (a + 1) hi hN hw.2 h.2).congr (fun x => by simp [Cd, Tw, no_Tw hw.2, hk]) (by have := h.1; omega) (Nat.le_refl _)
  | sel n a bs e r ih1 ih2 =>
    intro k P seen lo hi hN hw h
    obtain ⟨h1, h2, h3⟩ := h
    obtain ⟨_, w1, w2⟩ := hw
    have l1 := h2.le
    have l2 := h3.le
    rw [ck]
    by_cases hk : kindBad P (nodeM o (.sel n a bs e r))
    · rw [if_pos hk]
      refine Least.head (.inr (.inl ⟨hk, rfl⟩)) h1 (by omega) (by decide) fun x hx => ?_
      rcases hx with hx | ⟨_, hx⟩ | hx | hx | ⟨_, rfl⟩ | hx
      · exact hx.elim
      · exact .inl hx
      · obtain ⟨b, b1, b2, rfl⟩ := Tw_In _ _ _ _ _ h2 hx
        exact .inr (mono a b (by omega) (by omega))
      · obtain ⟨b, b1, b2, b3, _⟩ := Cd_In _ _ _ _ _ h2 hx
        right
        rw [b3]
        exact mono a b (by omega) (by omega)
      · exact .inr (mono a e (by omega) (by omega))
      · obtain ⟨b, b1, b2, b3, _⟩ := Cd_In _ _ _ _ _ h3 hx
        right
        rw [b3]
        exact mono a b (by omega) (by omega)
    · rw [if_neg hk]
      have i1 := ih1 true (P ++ [nodeM o (.sel n a bs e r)]) [] (a + 1) e (by omega) w1 h2
      cases hc : ck o (P ++ [nodeM o (.sel n a bs e r)]) [] bs with
      | some f =>
        rw [hc] at i1
        have hL := Least.more (S' := fun x => Tw o seen (.sel n a bs e r) x ∨ Cd o P (.sel n a bs e r) x) (hi := hi) i1 (by omega) (fun x hx => by rcases hx with hx | hx; exact .inr (.inr (.inl hx)); exact .inr (.inr (.inr (.inl hx)))) (fun x hx => by
          rcases hx with hx | ⟨hx, _⟩ | hx | hx | ⟨_, rfl⟩ | hx
          · exact hx.elim
          · exact absurd hx hk
          · exact .inl (.inl hx)
          · exact .inl (.inr hx)
          · exact .inr ⟨e, Nat.le_refl _, by omega, rfl⟩
          · obtain ⟨b, b1, b2, b3, _⟩ := Cd_In _ _ _ _ _ h3 hx
            exact .inr ⟨b, by omega, b2, b3⟩) (fun a b h h' => mono a b h (by omega))
        exact hL.congr (fun x => Iff.rfl) (by omega) (Nat.le_refl _)
      | none =>
        rw [hc] at i1
        simp only
        have n1 : ∀ x, ¬ Tw o [] bs x := fun x hx => i1 x (.inl hx)
        have n2 : ∀ x, ¬ Cd o (P ++ [nodeM o (.sel n a bs e r)]) bs x := fun x hx => i1 x (.inr hx)
        by_cases ho : Dk.otherW ∈ keys bs
        · rw [if_pos ho]
          exact (ih2 false (P ++ flat o (.sel n a bs e .nil)) seen (e + 1) hi hN w2 h3).congr (fun x => by simp [Cd, Tw, no_Tw w2, hk, n1, n2, ho]) (by omega) (Nat.le_refl _)
        · rw [if_neg ho]
          refine Least.head (.inr (.inr (.inr (.inr (.inl ⟨ho, rfl⟩))))) (by omega) (by omega) (by decide) fun x hx => ?_
          rcases hx with hx | ⟨hx, _⟩ | hx | hx | ⟨_, rfl⟩ | hx
          · exact hx.elim
          · exact absurd hx hk
          · exact absurd hx (n1 x)
          · exact absurd hx (n2 x)
          · exact .inl rfl
          · obtain ⟨b, b1, b2, b3, _⟩ := Cd_In _ _ _ _ _ h3 hx
            right
            rw [b3]
            exact mono e b (by omega) (by omega)
  | plu n a ord off bs e r ih1 ih2 =>
    intro k P seen lo hi hN hw h
    obtain ⟨h1, h2, h3⟩ := h
    obtain ⟨_, w1, w2⟩ := hw
    have l1 := h2.le
    have l2 := h3.le
    rw [ck]
    by_cases hk : kindBad P (nodeM o (.plu n a ord off bs e r))
    · rw [if_pos hk]
      refine Least.head (.inr (.inl ⟨hk, rfl⟩)) h1 (by omega) (by decide) fun x hx => ?_
      rcases hx with hx | ⟨_, hx⟩ | hx | hx | ⟨_, rfl⟩ | hx
      · exact hx.elim
      · exact .inl hx
      · obtain ⟨b, b1, b2, rfl⟩ := Tw_In _ _ _ _ _ h2 hx
        exact .inr (mono a b (by omega) (by omega))
      · obtain ⟨b, b1, b2, b3, _⟩ := Cd_In _ _ _ _ _ h2 hx
        right
        rw [b3]
        exact mono a b (by omega) (by omega)
      · exact .inr (mono a e (by omega) (by omega))
      · obtain ⟨b, b1, b2, b3, _⟩ := Cd_In _ _ _ _ _ h3 hx
        right
        rw [b3]
        exact mono a b (by omega) (by omega)
    · rw [if_neg hk]
      have i1 := ih1 true (P ++ [nodeM o (.plu n a ord off bs e r)]) [] (a + 1) e (by omega) w1 h2
      cases hc : ck o (P ++ [nodeM o (.plu n a ord off bs e r)]) [] bs with
      | some f =>
        rw [hc] at i1
        have hL := Least.more (S' := fun x => Tw o seen (.plu n a ord off bs e r) x ∨ Cd o P (.plu n a ord off bs e r) x) (hi := hi) i1 (by omega) (fun x hx => by rcases hx with hx | hx; exact .inr (.inr (.inl hx)); exact .inr (.inr (.inr (.inl hx)))) (fun x hx => by
          rcases hx with hx | ⟨hx, _⟩ | hx | hx | ⟨_, rfl⟩ | hx
          · exact hx.elim
          · exact absurd hx hk
          · exact .inl (.inl hx)
          · exact .inl (.inr hx)
          · exact .inr ⟨e, Nat.le_refl _, by omega, rfl⟩
          · obtain ⟨b, b1, b2, b3, _⟩ := Cd_In _ _ _ _ _ h3 hx
            exact .inr ⟨b, by omega, b2, b3⟩) (fun a b h h' => mono a b h (by omega))
        exact hL.congr (fun x => Iff.rfl) (by omega) (Nat.le_refl _)
      | none =>
        rw [hc] at i1
        simp only
        have n1 : ∀ x, ¬ Tw o [] bs x := fun x hx => i1 x (.inl hx)
        have n2 : ∀ x, ¬ Cd o (P ++ [nodeM o (.plu n a ord off bs e r)]) bs x := fun x hx => i1 x (.inr hx)
        by_cases ho : Dk.otherW ∈ keys bs
        · rw [if_pos ho]
          exact (ih2 false (P ++ flat o (.plu n a ord off bs e .nil)) seen (e + 1) hi hN w2 h3).congr (fun x => by simp [Cd, Tw, no_Tw w2, hk, n1, n2, ho]) (by omega) (Nat.le_refl _)
        · rw [if_neg ho]
          refine Least.head (.inr (.inr (.inr (.inr (.inl ⟨ho, rfl⟩))))) (by omega) (by omega) (by decide) fun x hx => ?_
          rcases hx with hx | ⟨hx, _⟩ | hx | hx | ⟨_, rfl⟩ | hx
          · exact hx.elim
          · exact absurd hx hk
          · exact absurd hx (n1 x)
          · exact absurd hx (n2 x)
          · exact .inl rfl
          · obtain ⟨b, b1, b2, b3, _⟩ := Cd_In _ _ _ _ _ h3 hx
            right
            rw [b3]
            exact mono e b (by omega) (by omega)
  | br w a m r ih1 ih2 =>
    intro k P seen lo hi hN hw h
    obtain ⟨h1, c, h2, h3⟩ := h
    obtain ⟨_, w1, w2⟩ := hw
    have l1 := h2.le
    have l2 := h3.le
    rw [ck]
    by_cases hs : w ∈ seen
    · rw [if_pos hs]
      refine Least.head (.inl (.inl ⟨hs, rfl⟩)) h1 (by omega) (by decide) fun x hx => ?_
      rcases hx with (⟨_, hx⟩ | hx) | hx | hx
      · exact .inl hx
      · obtain ⟨b, b1, b2, rfl⟩ := Tw_In _ _ _ _ _ h3 hx
        exact .inr (mono a b (by omega) (by omega))
      · obtain ⟨b, b1, b2, b3, _⟩ := Cd_In _ _ _ _ _ h2 hx
        right
        rw [b3]
        exact mono a b (by omega) (by omega)
      · obtain ⟨b, b1, b2, b3, _⟩ := Cd_In _ _ _ _ _ h3 hx
        right
        rw [b3]
        exact mono a b (by omega) (by omega)
    · rw [if_neg hs]
      have i1 := ih1 false (P ++ [{ kind := 91, text := w, at_ := o a }]) [] (a + 1) c (by omega) w1 h2
      cases hc : ck o (P ++ [{ kind := 91, text := w, at_ := o a }]) [] m with
      | some f =>
        rw [hc] at i1
        have hL := Least.more (S' := fun x => Tw o seen (.br w a m r) x ∨ Cd o P (.br w a m r) x) (hi := hi) i1 (by omega) (fun x hx => by rcases hx with hx | hx; exact absurd hx (no_Tw w1 _ _); exact .inr (.inl hx)) (fun x hx => by
          rcases hx with (⟨hx, _⟩ | hx) | hx | hx
          · exact absurd hx hs
          · obtain ⟨b, b1, b2, rfl⟩ := Tw_In _ _ _ _ _ h3 hx
            exact .inr ⟨b, b1, b2, rfl⟩
          · exact .inl (.inr hx)
          · obtain ⟨b, b1, b2, b3, _⟩ := Cd_In _ _ _ _ _ h3 hx
            exact .inr ⟨b, b1, b2, b3⟩) (fun a b h h' => mono a b h (by omega))
        exact hL.congr (fun x => Iff.rfl) (by omega) (Nat.le_refl _)
      | none =>
        rw [hc] at i1
        simp only
        have n2 : ∀ x, ¬ Cd o (P ++ [{ kind := 91, text := w, at_ := o a }]) m x := fun x hx => i1 x (.inr hx)
        exact (ih2 true (P ++ flat o (.br w a m .nil)) (seen ++ [w]) c hi hN w2 h3).congr (fun x => by simp [Cd, Tw, hs, n2]) (by omega) (Nat.le_refl _)
end Go.Proofs.YtaepcfidpekflaaGreatDoor.Pg
namespace Go.Proofs.YtaepcfidpekflaaGreatDoor.Pg
open Go.Proofs.YtaepcfidpekflaaGreatDoor

theorem endF_flat {o : Nat → Nat} : ∀ (t : Tr) (d : Int) (r : List Dk.Mark), 1 ≤ d → Dk.endF d (flat o t ++ r) = (flat o t).length + Dk.endF d r := by
  intro t
  induction t with
  | nil => intro d r _; simp [flat]
  | text t r ih =>
    intro d q h
    rw [flat, List.cons_append, Dk.endF, show d + Dk.delta { kind := 116, text := t } = d by simp [Dk.delta], if_neg (by omega), ih d q h]
    simp only [List.length_cons]
    omega
  | sign r ih =>
    intro d q h
    rw [flat, List.cons_append, Dk.endF, show d + Dk.delta { kind := 35 } = d by simp [Dk.delta], if_neg (by omega), ih d q h]
    simp only [List.length_cons]
    omega
  | simple n a r ih =>
    intro d q h
    rw [flat, List.cons_append, Dk.endF, show d + Dk.delta { kind := 112, name := n, at_ := o a } = d by simp [Dk.delta], if_neg (by omega), ih d q h]
    simp only [List.length_cons]
    omega
  | num n a r ih =>
    intro d q h
    rw [flat, List.cons_append, Dk.endF, show d + Dk.delta { kind := 110, name := n, how := numberW, at_ := o a } = d by simp [Dk.delta], if_neg (by omega), ih d q h]
    simp only [List.length_cons]
    omega
  | sel n a bs e r ih1 ih2 =>
    intro d q h
    rw [flat, List.cons_append, List.append_assoc, List.cons_append, Dk.endF, show d + Dk.delta { kind := 40, name := n, how := selectW, offset := [48], at_ := o a } = d + 1 by simp [Dk.delta], if_neg (by omega), ih1 (d + 1) _ (by omega), Dk.endF, show d + 1 + Dk.delta { kind := 41, at_ := o e } = d by simp [Dk.delta]; omega, if_neg (by omega), ih2 d q h]
    simp only [List.length_cons, List.length_append]
    omega
  | plu n a ord off bs e r ih1 ih2 =>
    intro d q h
    rw [flat, List.cons_append, List.append_assoc, List.cons_append, Dk.endF, show d + Dk.delta { kind := 40, name := n, how := if ord then ordinalW else pluralW, offset := off, at_ := o a } = d + 1 by simp [Dk.delta], if_neg (by omega), ih1 (d + 1) _ (by omega), Dk.endF, show d + 1 + Dk.delta { kind := 41, at_ := o e } = d by simp [Dk.delta]; omega, if_neg (by omega), ih2 d q h]
    simp only [List.length_cons, List.length_append]
    omega
  | br w a m r ih1 ih2 =>
    intro d q h
    rw [flat, List.cons_append, List.append_assoc, List.cons_append, Dk.endF, show d + Dk.delta { kind := 91, text := w, at_ := o a } = d + 1 by simp [Dk.delta], if_neg (by omega), ih1 (d + 1) _ (by omega), Dk.endF, show d + 1 + Dk.delta { kind := 93 } = d by simp [Dk.delta]; omega, if_neg (by omega), ih2 d q h]
    simp only [List.length_cons, List.length_append]
    omega
/-- What opens there and is closed behind its tree. -/
theorem endAt_open {o : Nat → Nat} {P : List Dk.Mark} {m c : Dk.Mark} {t : Tr} {Q : List Dk.Mark} (hm : Dk.delta m = 1) (hc : Dk.delta c = -1) : Dk.endAt (P ++ m :: (flat o t ++ c :: Q)) P.length = P.length + 1 + (flat o t).length := by
  unfold Dk.endAt
  rw [List.drop_left, Dk.endF, hm, if_neg (by omega), endF_flat t _ _ (by omega), Dk.endF, hc, if_pos (by omega)]
  omega
def posns (o : Nat → Nat) : Nat → Tr → List Nat
  | k, .br w a m r => k :: posns o (k + (flat o (.br w a m .nil)).length) r
  | _, _ => []
theorem brGo_flat {o : Nat → Nat} : ∀ (bs : Tr) (P : List Dk.Mark) (c : Dk.Mark) (Q : List Dk.Mark) (n : Nat), Wf true bs → (flat o bs).length ≤ n → Dk.brGo (P ++ (flat o bs ++ c :: Q)) (P.length + (flat o bs).length) n P.length = posns o P.length bs := by
  intro bs
  induction bs with
  | nil => intro P c Q n _ _; cases n with
    | zero => rfl
    | succ n => rw [Dk.brGo, if_neg (by simp [flat])]; rfl
  | br w a m r _ ih =>
    intro P c Q n hw hn
    simp only [flat, List.length_cons, List.length_append] at hn
    obtain ⟨n, rfl⟩ : ∃ n', n = n' + 1 := ⟨n - 1, by omega⟩
    have e1 : P ++ (flat o (.br w a m r) ++ c :: Q) = P ++ { kind := 91, text := w, at_ := o a } :: (flat o m ++ { kind := 93 } :: (flat o r ++ c :: Q)) := by simp [flat]
    have e2 : P ++ (flat o (.br w a m r) ++ c :: Q) = (P ++ flat o (.br w a m .nil)) ++ (flat o r ++ c :: Q) := by simp [flat]
    have h1 := endAt_open (o := o) (P := P) (m := { kind := 91, text := w, at_ := o a }) (c := { kind := 93 }) (t := m) (Q := flat o r ++ c :: Q) (by simp [Dk.delta]) (by simp [Dk.delta])
    rw [Dk.brGo, if_pos (by simp [flat]), posns]
    congr 1
    rw [show Dk.endAt (P ++ (flat o (.br w a m r) ++ c :: Q)) P.length = P.length + 1 + (flat o m).length by rw [e1]; exact h1, e2]
    have := ih (P ++ flat o (.br w a m .nil)) c Q n hw.2.2 (by omega)
    simp only [List.length_append] at this
    rw [← this]
    congr 1
    · simp only [flat, List.length_cons, List.length_append, List.length_nil]; omega
    · simp only [flat, List.length_cons, List.length_append, List.length_nil]; omega
  | _ => intro P c Q n hw; exact absurd hw.1 (by simp)
theorem brsAt_open {o : Nat → Nat} {P : List Dk.Mark} {m c : Dk.Mark} {bs : Tr} {Q : List Dk.Mark} (hw : Wf true bs) (hm : Dk.delta m = 1) (hc : Dk.delta c = -1) : Dk.brsAt (P ++ m :: (flat o bs ++ c :: Q)) P.length = posns o (P.length + 1) bs := by
  unfold Dk.brsAt
  rw [endAt_open hm hc]
  have h := brGo_flat (o := o) bs (P ++ [m]) c Q (P ++ m :: (flat o bs ++ c :: Q)).length hw (by simp; omega)
  simp only [List.length_append, List.length_singleton, List.append_assoc, List.cons_append, List.nil_append] at h ⊢
  exact h
theorem at_app {P : List Dk.Mark} {m : Dk.Mark} {Q : List Dk.Mark} : (P ++ m :: Q)[P.length]? = some m := by simp
theorem twGo_flat {o : Nat → Nat} : ∀ (bs : Tr) (P Q : List Dk.Mark) (seen : List Nat) (x : Nat × Nat), Wf true bs → (x ∈ Dk.twGo (P ++ (flat o bs ++ Q)) seen (posns o P.length bs) ↔ Tw o (seen.map (Dk.textAt (P ++ (flat o bs ++ Q)))) bs x) := by
  intro bs
  induction bs with
  | nil => intro P Q seen x _; simp [posns, Dk.twGo, Tw]
  | br w a m r _ ih =>
    intro P Q seen x hw
    have e1 : P ++ (flat o (.br w a m r) ++ Q) = P ++ { kind := 91, text := w, at_ := o a } :: (flat o m ++ { kind := 93 } :: (flat o r ++ Q)) := by simp [flat]
    have e2 : P ++ (flat o (.br w a m r) ++ Q) = (P ++ flat o (.br w a m .nil)) ++ (flat o r ++ Q) := by simp [flat]
    have t1 : Dk.textAt (P ++ (flat o (.br w a m r) ++ Q)) P.length = w := by rw [e1, Dk.textAt, at_app]; rfl
    have p1 : Dk.placeAt (P ++ (flat o (.br w a m r) ++ Q)) P.length = o a := by rw [e1, Dk.placeAt, at_app]; rfl
    have i1 := ih (P ++ flat o (.br w a m .nil)) Q (seen ++ [P.length]) x hw.2.2
    rw [← e2, List.map_append, List.map_singleton, t1, List.length_append] at i1
    rw [posns, Dk.twGo, Tw, List.mem_append, i1, t1, p1]
    refine or_congr ?_ Iff.rfl
    simp only [List.mem_map, List.mem_filter, decide_eq_true_eq]
    constructor
    · rintro ⟨b, ⟨h1, h2⟩, rfl⟩
      exact ⟨⟨b, h1, h2.symm⟩, rfl⟩
    · rintro ⟨⟨b, h1, h2⟩, rfl⟩
      exact ⟨b, ⟨h1, h2.symm⟩, rfl⟩
  | _ => intro P Q seen x hw; exact absurd hw.1 (by simp)
theorem keys_flat {o : Nat → Nat} : ∀ (bs : Tr) (P Q : List Dk.Mark), Wf true bs → (posns o P.length bs).map (Dk.textAt (P ++ (flat o bs ++ Q))) = keys bs := by
  intro bs
  induction bs with
  | nil => intro P Q _; rfl
  | br w a m r _ ih =>
    intro P Q hw
    have e1 : P ++ (flat o (.br w a m r) ++ Q) = P ++ { kind := 91, text := w, at_ := o a } :: (flat o m ++ { kind := 93 } :: (flat o r ++ Q)) := by simp [flat]
    have e2 : P ++ (flat o (.br w a m r) ++ Q) = (P ++ flat o (.br w a m .nil)) ++ (flat o r ++ Q) := by simp [flat]
    have t1 : Dk.textAt (P ++ (flat o (.br w a m r) ++ Q)) P.length = w := by rw [e1, Dk.textAt, at_app]; rfl
    have i1 := ih (P ++ flat o (.br w a m .nil)) Q hw.2.2
    rw [← e2, List.length_append] at i1
    rw [posns, List.map_cons, t1, keys, i1]
  | _ => intro P Q hw; exact absurd hw.1 (by simp)
/-- Found between two places. -/
def CI (L : List Dk.Mark) (a n : Nat) (x : Nat × Nat) : Prop := ∃ i, a ≤ i ∧ i < a + n ∧ x ∈ Dk.candsAt L i
theorem CI_add (L : List Dk.Mark) (a n k : Nat) (x : Nat × Nat) : CI L a (n + k) x ↔ CI L a n x ∨ CI L (a + n) k x := by
  constructor
  · rintro ⟨i, h1, h2, h3⟩
    rcases Nat.lt_or_ge i (a + n) with h | h
    · exact .inl ⟨i, h1, h, h3⟩
    · exact .inr ⟨i, h, by omega, h3⟩
  · rintro (⟨i, h1, h2, h3⟩ | ⟨i, h1, h2, h3⟩)
    · exact ⟨i, h1, by omega, h3⟩
    · exact ⟨i, by omega, by omega, h3⟩
theorem CI_one (L : List Dk.Mark) (a : Nat) (x : Nat × Nat) : CI L a 1 x ↔ x ∈ Dk.candsAt L a := by
  constructor
  · rintro ⟨i, h1, h2, h3⟩
    have : i = a := by omega
    rw [← this]
    exact h3
  · intro h
    exact ⟨a, Nat.le_refl _, by omega, h⟩
theorem cands_none {P : List Dk.Mark} {m : Dk.Mark} {Q : List Dk.Mark} (h1 : Dk.sortM m = 0) (h2 : m.kind ≠ 40) : Dk.candsAt (P ++ m :: Q) P.length = [] := by
  unfold Dk.candsAt
  rw [at_app]
  simp only
  rw [if_neg h2, Dk.kindC, if_neg (by simp [h1])]
  rfl
theorem kindC_iff (P : List Dk.Mark) (m : Dk.Mark) (h : Dk.sortM m ≠ 0) (x : Nat × Nat) : x ∈ Dk.kindC P m ↔ kindBad P m ∧ x = (5, m.at_) := by
  rw [kindBad_iff]
  unfold Dk.kindC
  by_cases hk : Dk.firstK m.name P ≠ 0 ∧ Dk.firstK m.name P ≠ Dk.sortM m
  · rw [if_pos ⟨h, hk⟩]
    simp [hk]
  · rw [if_neg (fun h => hk h.2)]
    simp [hk]
theorem cands_open {o : Nat → Nat} {P : List Dk.Mark} {m c : Dk.Mark} {bs : Tr} {Q : List Dk.Mark} (hw : Wf true bs) (hm : m.kind = 40) (hc : c.kind = 41) (x : Nat × Nat) :
    x ∈ Dk.candsAt (P ++ m :: (flat o bs ++ c :: Q)) P.length ↔ (kindBad P m ∧ x = (5, m.at_)) ∨ Tw o [] bs x ∨ (Dk.otherW ∉ keys bs ∧ x = (6, c.at_)) := by
  have d1 : Dk.delta m = 1 := by simp [Dk.delta, hm]
  have d2 : Dk.delta c = -1 := by simp [Dk.delta, hc]
  have hs : Dk.sortM m ≠ 0 := by
    unfold Dk.sortM
    split
    · decide
    · decide
  have e1 : P ++ m :: (flat o bs ++ c :: Q) = (P ++ [m]) ++ (flat o bs ++ c :: Q) := by simp
  have hk := keys_flat (o := o) bs (P ++ [m]) (c :: Q) hw
  have ht := twGo_flat (o := o) bs (P ++ [m]) (c :: Q) [] x hw
  rw [← e1, List.length_append, List.length_singleton] at hk ht
  unfold Dk.candsAt
  rw [at_app]
  simp only
  rw [if_pos hm, brsAt_open hw d1 d2, List.take_left, List.mem_append, List.mem_append, kindC_iff P m hs, ht]
  refine or_congr Iff.rfl (or_congr Iff.rfl ?_)
  unfold Dk.othC
  have hp : Dk.placeAt (P ++ m :: (flat o bs ++ c :: Q)) (Dk.endAt (P ++ m :: (flat o bs ++ c :: Q)) P.length) = c.at_ := by
    rw [endAt_open d1 d2]
    have e2 : P ++ m :: (flat o bs ++ c :: Q) = (P ++ m :: flat o bs) ++ c :: Q := by simp
    have hl : P.length + 1 + (flat o bs).length = (P ++ m :: flat o bs).length := by simp; omega
    rw [e2, hl, Dk.placeAt, at_app]
    rfl
  rw [hp]
  have ha : ((posns o (P.length + 1) bs).any (fun b => Dk.textAt (P ++ m :: (flat o bs ++ c :: Q)) b == Dk.otherW)) = true ↔ Dk.otherW ∈ keys bs := by
    rw [← hk, List.any_eq_true]
    simp only [beq_iff_eq, List.mem_map]
  by_cases ho : Dk.otherW ∈ keys bs
  · rw [if_pos (ha.2 ho)]
    simp [ho]
  · rw [if_neg (fun h => ho (ha.1 h))]
    simp [ho]
theorem CI_flat {o : Nat → Nat} : ∀ (t : Tr) (k : Bool) (P Q : List Dk.Mark) (x : Nat × Nat), Wf k t → (CI (P ++ (flat o t ++ Q)) P.length (flat o t).length x ↔ Cd o P t x) := by
  have leaf : ∀ (m : Dk.Mark) (r : Tr) (P Q : List Dk.Mark) (x : Nat × Nat), (CI (P ++ [m] ++ (flat o r ++ Q)) (P ++ [m]).length (flat o r).length x ↔ Cd o (P ++ [m]) r x) → (CI (P ++ (m :: flat o r ++ Q)) P.length (m :: flat o r).length x ↔ x ∈ Dk.candsAt (P ++ m :: (flat o r ++ Q)) P.length ∨ Cd o (P ++ [m]) r x) := by
    intro m r P Q x h
    rw [List.length_cons, Nat.add_comm, CI_add, CI_one]
    simp only [List.append_assoc, List.cons_append, List.nil_append, List.length_append, List.length_singleton] at h ⊢
    rw [h]
  have node : ∀ (m c : Dk.Mark) (bs r : Tr) (P Q : List Dk.Mark) (x : Nat × Nat), c.kind = 41 ∨ c.kind = 93 → (CI (P ++ [m] ++ (flat o bs ++ (c :: (flat o r ++ Q)))) (P ++ [m]).length (flat o bs).length x ↔ Cd o (P ++ [m]) bs x) → (CI ((P ++ m :: (flat o bs ++ [c])) ++ (flat o r ++ Q)) (P ++ m :: (flat o bs ++ [c])).length (flat o r).length x ↔ Cd o (P ++ m :: (flat o bs ++ [c])) r x) →
      (CI (P ++ (m :: (flat o bs ++ c :: flat o r) ++ Q)) P.length (m :: (flat o bs ++ c :: flat o r)).length x ↔ x ∈ Dk.candsAt (P ++ m :: (flat o bs ++ c :: (flat o r ++ Q))) P.length ∨ Cd o (P ++ [m]) bs x ∨ Cd o (P ++ m :: (flat o bs ++ [c])) r x) := by
    intro m c bs r P Q x hc h1 h2
    have hlen : (m :: (flat o bs ++ c :: flat o r)).length = 1 + ((flat o bs).length + (1 + (flat o r).length)) := by simp; omega
    have hcs : Dk.sortM c = 0 ∧ c.kind ≠ 40 := by
      rcases hc with hc | hc <;> simp [Dk.sortM, hc]
    have hcc : Dk.candsAt (P ++ m :: (flat o bs ++ c :: (flat o r ++ Q))) (P.length + 1 + (flat o bs).length) = [] := by
      have e2 : P ++ m :: (flat o bs ++ c :: (flat o r ++ Q)) = (P ++ m :: flat o bs) ++ c :: (flat o r ++ Q) := by simp
      have hl : P.length + 1 + (flat o bs).length = (P ++ m :: flat o bs).length := by simp; omega
      rw [e2, hl]
      exact cands_none hcs.1 hcs.2
    have hl2 : (P ++ m :: (flat o bs ++ [c])).length = P.length + 1 + (flat o bs).length + 1 := by simp; omega
    rw [hlen, CI_add, CI_one, CI_add, CI_add, CI_one]
    rw [hl2] at h2
    simp only [List.append_assoc, List.cons_append, List.nil_append, List.length_append, List.length_singleton] at h1 h2 ⊢
    rw [h1, h2, hcc]
    simp
  intro t
  induction t with
  | nil =>
    intro k P Q x _
    constructor
    · rintro ⟨i, h1, h2, _⟩
      simp [flat] at h2
      omega
    · exact fun h => h.elim
  | text t r ih =>
    intro k P Q x hw
    rw [flat, Cd, leaf _ _ _ _ _ (ih false _ _ _ hw.2), cands_none (by simp [Dk.sortM]) (by simp)]
    simp
  | sign r ih =>
    intro k P Q x hw
    rw [flat, Cd, leaf _ _ _ _ _ (ih false _ _ _ hw.2), cands_none (by simp [Dk.sortM]) (by simp)]
    simp
  | simple n a r ih =>
    intro k P Q x hw
    rw [flat, Cd, leaf _ _ _ _ _ (ih false _ _ _ hw.2), cands_none (by simp [Dk.sortM]) (by simp)]
    simp
  | num n a r ih =>
    intro k P Q x hw
    rw [flat, Cd, leaf _ _ _ _ _ (ih false _ _ _ hw.2)]
    refine or_congr ?_ Iff.rfl
    unfold Dk.candsAt
    rw [at_app]
    simp only
    rw [if_neg (by decide), List.take_left, List.append_nil, kindC_iff _ _ (by simp [Dk.sortM])]
    rfl
  | sel n a bs e r ih1 ih2 =>
    intro k P Q x hw
    rw [flat, Cd, node _ _ _ _ _ _ _ (.inl rfl) (ih1 true _ _ _ hw.2.1) (ih2 false _ _ _ hw.2.2), cands_open hw.2.1 rfl rfl]
    simp only [nodeM, flat]
    constructor
    · rintro ((h | h | h) | h | h)
      · exact .inl h
      · exact .inr (.inl h)
      · exact .inr (.inr (.inr (.inl h)))
      · exact .inr (.inr (.inl h))
      · exact .inr (.inr (.inr (.inr h)))
    · rintro (h | h | h | h | h)
      · exact .inl (.inl h)
      · exact .inl (.inr (.inl h))
      · exact .inr (.inl h)
      · exact .inl (.inr (.inr h))
      · exact .inr (.inr h)
  | plu n a ord off bs e r ih1 ih2 =>
    intro k P Q x hw
    rw [flat, Cd, node _ _ _ _ _ _ _ (.inl rfl) (ih1 true _ _ _ hw.2.1) (ih2 false _ _ _ hw.2.2), cands_open hw.2.1 rfl rfl]
    simp only [nodeM, flat]
    constructor
    · rintro ((h | h | h) | h | h)
      · exact .inl h
      · exact .inr (.inl h)
      · exact .inr (.inr (.inr (.inl h)))
      · exact .inr (.inr (.inl h))
      · exact .inr (.inr (.inr (.inr h)))
    · rintro (h | h | h | h | h)
      · exact .inl (.inl h)
      · exact .inl (.inr (.inl h))
      · exact .inr (.inl h)
      · exact .inl (.inr (.inr h))
      · exact .inr (.inr h)
  | br w a m r ih1 ih2 =>
    intro k P Q x hw
    rw [flat, Cd, node _ _ _ _ _ _ _ (.inr rfl) (ih1 false _ _ _ hw.2.1) (ih2 true _ _ _ hw.2.2), cands_none (by simp [Dk.sortM]) (by simp)]
    simp [flat]
/-- The document's first fault of a tree's marks is the one that is met first. -/
theorem faults_flat {o : Nat → Nat} {N : Nat} (mono : ∀ a b, a < b → b < N → o a < o b) (t : Tr) (hw : Wf false t) (h : In 0 N t) : Dk.faults (flat o t) = match ck o [] [] t with | none => (0, 0) | some f => (f.1, o f.2) := by
  have hl := ck_least mono t false [] [] 0 N (Nat.le_refl _) hw h
  have hm : ∀ x, x ∈ (List.range (flat o t).length).flatMap (Dk.candsAt (flat o t)) ↔ Cd o [] t x := by
    intro x
    have := CI_flat (o := o) t false [] [] x hw
    simp only [List.nil_append, List.append_nil, List.length_nil] at this
    rw [← this, List.mem_flatMap]
    constructor
    · rintro ⟨i, h1, h2⟩
      exact ⟨i, by omega, by simpa using h1, h2⟩
    · rintro ⟨i, _, h1, h2⟩
      exact ⟨i, by simpa using h1, h2⟩
  unfold Dk.faults
  cases hc : ck o [] [] t with
  | none =>
    rw [hc] at hl
    refine upd_none _ ?_
    cases e : (List.range (flat o t).length).flatMap (Dk.candsAt (flat o t)) with
    | nil => rfl
    | cons x r =>
      exact absurd (.inr ((hm x).1 (by rw [e]; simp))) (hl x)
  | some f =>
    rw [hc] at hl
    obtain ⟨h1, _, _, h4, h5⟩ := hl
    have h1' : Cd o [] t (f.1, o f.2) := by
      rcases h1 with h1 | h1
      · exact absurd h1 (no_Tw hw _ _)
      · exact h1
    exact upd_least _ (0, 0) (f.1, o f.2) (.inr ⟨(hm _).2 h1', .inl rfl⟩) h4 fun d hd => h5 d (.inr ((hm d).1 hd))
end Go.Proofs.YtaepcfidpekflaaGreatDoor.Pg
