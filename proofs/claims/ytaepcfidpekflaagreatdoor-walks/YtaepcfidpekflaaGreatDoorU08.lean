/-
  Several texts in one (Ja, Rn, Jb, Jc, Ma). By the verifier.
-/
import Derived.Test.YtaepcfidpekflaaGreatDoorU07
import Derived.Test.YtaepcfidpekflaaGreatDoorU04
import Derived.Lib.MapLaws
import Derived.Lib.ValidLaws
import Derived.Lib.RuneCount
namespace Go.Proofs.YtaepcfidpekflaaGreatDoor.Pg
open Go.Proofs.YtaepcfidpekflaaGreatDoor

theorem In.mono {lo lo' hi : Nat} {t : Tr} (h : In lo hi t) (hl : lo' ≤ lo) : In lo' hi t := by
  induction t generalizing lo lo' hi with
  | nil => exact Nat.le_trans hl h
  | text _ r ih => exact ih h hl
  | sign r ih => exact ih h hl
  | simple _ a r ih => exact ⟨by have := h.1; omega, h.2⟩
  | num _ a r ih => exact ⟨by have := h.1; omega, h.2⟩
  | sel _ a bs e r ih1 ih2 => exact ⟨by have := h.1; omega, h.2⟩
  | plu _ a _ _ bs e r ih1 ih2 => exact ⟨by have := h.1; omega, h.2⟩
  | br _ a m r ih1 ih2 => exact ⟨by have := h.1; omega, h.2⟩
theorem In.hi {lo hi hi' : Nat} {t : Tr} (h : In lo hi t) (hl : hi ≤ hi') : In lo hi' t := by
  induction t generalizing lo hi with
  | nil => exact Nat.le_trans h hl
  | text _ r ih => exact ih h hl
  | sign r ih => exact ih h hl
  | simple _ a r ih => exact ⟨h.1, ih h.2 hl⟩
  | num _ a r ih => exact ⟨h.1, ih h.2 hl⟩
  | sel _ a bs e r ih1 ih2 => exact ⟨h.1, h.2.1, ih2 h.2.2 hl⟩
  | plu _ a _ _ bs e r ih1 ih2 => exact ⟨h.1, h.2.1, ih2 h.2.2 hl⟩
  | br _ a m r ih1 ih2 =>
    obtain ⟨h1, c, h2, h3⟩ := h
    exact ⟨h1, c, h2, ih2 h3 hl⟩
theorem In.app {lo mid hi : Nat} {t u : Tr} (h : In lo mid t) (h2 : In mid hi u) : In lo hi (t.app u) := by
  induction t generalizing lo with
  | nil => exact h2.mono h
  | text _ r ih => exact ih h
  | sign r ih => exact ih h
  | simple _ a r ih => exact ⟨h.1, ih h.2⟩
  | num _ a r ih => exact ⟨h.1, ih h.2⟩
  | sel _ a bs e r ih1 ih2 => exact ⟨h.1, h.2.1, ih2 h.2.2⟩
  | plu _ a _ _ bs e r ih1 ih2 => exact ⟨h.1, h.2.1, ih2 h.2.2⟩
  | br _ a m r ih1 ih2 =>
    obtain ⟨h1, c, h3, h4⟩ := h
    exact ⟨h1, c, h3, ih2 h4⟩
theorem Wf.app {k : Bool} {t u : Tr} (h : Wf k t) (h2 : Wf k u) : Wf k (t.app u) := by
  induction t with
  | nil => exact h2
  | text _ r ih => have := h.1; subst this; exact ⟨rfl, ih h.2⟩
  | sign r ih => have := h.1; subst this; exact ⟨rfl, ih h.2⟩
  | simple _ a r ih => have := h.1; subst this; exact ⟨rfl, ih h.2⟩
  | num _ a r ih => have := h.1; subst this; exact ⟨rfl, ih h.2⟩
  | sel _ a bs e r ih1 ih2 => have := h.1; subst this; exact ⟨rfl, h.2.1, ih2 h.2.2⟩
  | plu _ a _ _ bs e r ih1 ih2 => have := h.1; subst this; exact ⟨rfl, h.2.1, ih2 h.2.2⟩
  | br _ a m r ih1 ih2 => have := h.1; subst this; exact ⟨rfl, h.2.1, ih2 h.2.2⟩
theorem tw_le {α : Type} (f : α → Bool) (rs : List α) (p : Nat) (h : p ≤ rs.length) : p + ((rs.drop p).takeWhile f).length ≤ rs.length := by
  have : ((rs.drop p).takeWhile f).length ≤ (rs.drop p).length := (List.takeWhile_prefix f).length_le
  rw [List.length_drop] at this
  omega
theorem bl_ge (rs : List T) (p : Nat) : p ≤ bl rs p := Nat.le_add_right _ _
theorem bl_le (rs : List T) (p : Nat) (h : p ≤ rs.length) : bl rs p ≤ rs.length := tw_le _ rs p h
theorem word_le (rs : List T) (p : Nat) (h : p ≤ rs.length) : p + (word rs p).length ≤ rs.length := tw_le _ rs p h
theorem digs_le (rs : List T) (p : Nat) (h : p ≤ rs.length) : p + (digs rs p).length ≤ rs.length := tw_le _ rs p h
theorem nameR_le {rs : List T} {p : Nat} (hp : p ≤ rs.length) : (∀ n q, nameR rs p = .inr (n, q) → p ≤ q ∧ q ≤ rs.length) ∧ ∀ a, nameR rs p = .inl a → p ≤ a ∧ a ≤ rs.length := by
  have hw := word_le rs p hp
  unfold nameR
  constructor
  · intro n q h
    split at h
    · cases h
    split at h
    · cases h
    split at h
    · cases h
    injection h with h
    injection h with h1 h2
    omega
  · intro a h
    split at h
    · injection h with h; omega
    split at h
    · injection h with h; omega
    split at h
    · injection h with h; omega
    cases h
theorem valR_le {rs : List T} {p : Nat} (hp : p ≤ rs.length) : (∀ n q, valR rs p = .inr (n, q) → p ≤ q ∧ q ≤ rs.length) ∧ ∀ a, valR rs p = .inl a → p ≤ a ∧ a ≤ rs.length := by
  have hw := digs_le rs p hp
  unfold valR
  constructor
  · intro n q h
    split at h
    · cases h
    split at h
    · cases h
    split at h
    · cases h
    injection h with h
    injection h with h1 h2
    omega
  · intro a h
    split at h
    · injection h with h; omega
    split at h
    · injection h with h; omega
    split at h
    · injection h with h; omega
    cases h
theorem selR_le {num : Bool} {rs : List T} {p : Nat} (hp : p ≤ rs.length) : (∀ n q, selR num rs p = .inr (n, q) → p ≤ q ∧ q ≤ rs.length) ∧ ∀ a, selR num rs p = .inl a → p ≤ a ∧ a ≤ rs.length := by
  have hw := word_le rs p hp
  unfold selR
  by_cases hn : num = false
  · rw [if_pos hn]
    exact nameR_le hp
  · rw [if_neg hn]
    by_cases h61 : rs[p]? = some [61]
    · rw [if_pos h61]
      have hv := valR_le (rs := rs) (p := p + 1) (by have := lt_of_some h61; omega)
      constructor
      · intro n q h
        split at h
        · cases h
        · rename_i t q' e
          injection h with h
          injection h with h1 h2
          have := hv.1 t q' e
          omega
      · intro a h
        split at h
        · rename_i a' e
          injection h with h
          have := hv.2 a' e
          omega
        · cases h
    · rw [if_neg h61]
      constructor
      · intro n q h
        split at h
        · injection h with h
          injection h with h1 h2
          omega
        · cases h
      · intro a h
        split at h
        · cases h
        · injection h with h; omega
theorem offR_le {rs : List T} {p : Nat} (hp : p ≤ rs.length) : (∀ n q, offR rs p = .inr (n, q) → p ≤ q ∧ q ≤ rs.length) ∧ ∀ a, offR rs p = .inl a → p ≤ a ∧ a ≤ rs.length := by
  unfold offR
  by_cases ho : (word rs p).flatten = offW ∧ rs[p + (word rs p).length]? = some [58]
  · rw [if_pos ho]
    have hlt := lt_of_some ho.2
    have hg := bl_ge rs (p + (word rs p).length + 1)
    have hv := valR_le (rs := rs) (p := bl rs (p + (word rs p).length + 1)) (bl_le rs _ (by omega))
    exact ⟨fun n q h => by have := hv.1 n q h; omega, fun a h => by have := hv.2 a h; omega⟩
  · rw [if_neg ho]
    constructor
    · intro n q h
      injection h with h
      injection h with h1 h2
      omega
    · intro a h; cases h
theorem said_le (num : Bool) : ∀ (n : Nat) (L : List T) (q : Bool), L.length < n → (saidGo num q L).2 ≤ L.length := by
  intro n
  induction n with
  | zero => intro L q h; omega
  | succ n ih =>
    intro L q hn
    cases L with
    | nil => simp [saidGo]
    | cons d r =>
      simp only [List.length_cons] at hn ⊢
      by_cases h0 : q = false ∧ spec num d = true
      · rw [h0.1, saidGo_stop num d r h0.2]
        omega
      by_cases h39 : d = [39]
      · subst h39
        cases r with
        | nil =>
          rw [saidGo.eq_def]
          simp only
          rw [if_neg h0, if_neg (by simp)]
          split <;> simp
        | cons e r =>
          simp only [List.length_cons] at hn ⊢
          by_cases he : e = [39]
          · subst he
            rw [saidGo_two]
            have := ih r q (by omega)
            simp only
            omega
          · by_cases hs : q = true ∨ spec num e = true
            · rw [saidGo_quote num q e r he hs]
              have := ih (e :: r) (!q) (by simp; omega)
              simp only [List.length_cons] at this ⊢
              omega
            · have hq : q = false := by cases q with | false => rfl | true => exact absurd (.inl rfl) hs
              have hs' : spec num e = false := by
                cases h : spec num e with
                | false => rfl
                | true => exact absurd (.inr h) hs
              subst hq
              rw [saidGo_one num e r he hs']
              have := ih (e :: r) false (by simp; omega)
              simp only [List.length_cons] at this ⊢
              omega
      · rw [saidGo_ne num q d r h0 h39]
        have := ih r q (by omega)
        simp only
        omega
def Fine (rs : List T) : Mode → Nat → Res → Prop
  | .msg _ _, p, .ok t q => Wf false t ∧ In p q t ∧ q ≤ rs.length
  | .arg _, p, .ok t q => Wf false t ∧ In p q t ∧ q ≤ rs.length
  | .brs _ _ _, p, .okB t e q => Wf true t ∧ In p e t ∧ e < q ∧ q ≤ rs.length
  | _, _, .bad e a => (e = 3 ∨ e = 4) ∧ a ≤ rs.length
  | _, _, _ => False
def Pre (rs : List T) : Mode → Nat → Prop
  | .arg _, p => p < rs.length
  | _, p => p ≤ rs.length
theorem fine_of {rs : List T} {mode : Mode} {p : Nat} {res : Res} (h : Rd rs mode p res) : Pre rs mode p → Fine rs mode p res := by
  induction h with
  | @stop d num p h => intro hp; exact ⟨trivial, Nat.le_refl _, hp⟩
  | @argB d num p e a h h1 ih => intro hp; exact ih (lt_of_some h)
  | @argK d num p n q res h h1 h2 ih1 ih2 =>
    intro hp
    obtain ⟨a1, a2, a3⟩ := ih1 (lt_of_some h)
    have := ih2 a3
    cases res with
    | ok t q' => exact ⟨a1.app this.1, a2.app this.2.1, this.2.2⟩
    | okB t e q' => exact this
    | bad e a => exact this
  | @sign d p res h h1 ih =>
    intro hp
    have := ih (lt_of_some h)
    cases res with
    | ok t q' => exact ⟨⟨rfl, this.1⟩, this.2.1.mono (Nat.le_succ _), this.2.2⟩
    | okB t e q' => exact this
    | bad e a => exact this
  | @said d num p c res h hs h1 ih =>
    intro hp
    have hp' : p ≤ rs.length := hp
    have hle := said_le num _ (rs.drop p) false (Nat.lt_succ_self _)
    rw [List.length_drop] at hle
    have := ih (show _ ≤ _ by omega)
    cases res with
    | ok t q' => exact ⟨⟨rfl, this.1⟩, this.2.1.mono (Nat.le_add_right _ _), this.2.2⟩
    | okB t e q' => exact this
    | bad e a => exact this
  | @nameB d p a h =>
    intro hp
    have h1 := bl_le rs (p + 1) hp
    exact ⟨.inl rfl, ((nameR_le h1).2 a h).2⟩
  | @simple d p n q h h1 =>
    intro hp
    have h2 := bl_le rs (p + 1) hp
    have h3 := (nameR_le h2).1 n q h
    have h4 := bl_ge rs (p + 1)
    have h5 := bl_ge rs q
    have h6 := lt_of_some h1
    exact ⟨⟨rfl, trivial⟩, ⟨Nat.le_refl _, show p + 1 ≤ bl rs q + 1 by omega⟩, h6⟩
  | @commaB d p n q h h1 h2 =>
    intro hp
    have h2 := bl_le rs (p + 1) hp
    have h3 := (nameR_le h2).1 n q h
    exact ⟨.inl rfl, bl_le rs q h3.2⟩
  | @kindB d p n q k h h2 hk h3 =>
    intro hp
    exact ⟨.inl rfl, by rw [hk]; exact bl_le rs _ (lt_of_some h2)⟩
  | @numB d p n q k j h h2 hk h3 hj h4 =>
    intro hp
    exact ⟨.inl rfl, by rw [hj]; exact bl_le rs _ (word_le rs k (by rw [hk]; exact bl_le rs _ (lt_of_some h2)))⟩
  | @num d p n q k j h h2 hk h3 hj h4 =>
    intro hp
    have a2 := bl_le rs (p + 1) hp
    have a3 := (nameR_le a2).1 n q h
    have a4 := bl_ge rs (p + 1)
    have a5 := bl_ge rs q
    have a6 := bl_ge rs (bl rs q + 1)
    have a7 := bl_ge rs (k + (word rs k).length)
    exact ⟨⟨rfl, trivial⟩, ⟨Nat.le_refl _, show p + 1 ≤ j + 1 by omega⟩, lt_of_some h4⟩
  | @argC d p n q k j h h2 hk h3 hj h4 =>
    intro hp
    exact ⟨.inl rfl, by rw [hj]; exact bl_le rs _ (word_le rs k (by rw [hk]; exact bl_le rs _ (lt_of_some h2)))⟩
  | @sel d p n q k j res h h2 hk h3 hj h4 h5 ih =>
    intro hp
    have a2 := bl_le rs (p + 1) hp
    have a3 := (nameR_le a2).1 n q h
    have a4 := bl_ge rs (p + 1)
    have a5 := bl_ge rs q
    have a6 := bl_ge rs (bl rs q + 1)
    have a7 := bl_ge rs (k + (word rs k).length)
    have a8 := bl_ge rs (j + 1)
    have := ih (bl_le rs _ (lt_of_some h4))
    cases res with
    | ok t q' => exact this.elim
    | okB t e q' =>
      obtain ⟨b1, b2, b3, b4⟩ := this
      exact ⟨⟨rfl, b1, trivial⟩, ⟨Nat.le_refl _, b2.mono (by omega), show e + 1 ≤ q' from b3⟩, b4⟩
    | bad e a => exact this
  | @offB d p n q k j a h h2 hk h3 hj h4 h5 =>
    intro hp
    exact ⟨.inl rfl, ((offR_le (bl_le rs _ (lt_of_some h4))).2 a h5).2⟩
  | @plu d p n q k j ord off i res h h2 hk h3 hj h4 h5 h6 ih =>
    intro hp
    have a2 := bl_le rs (p + 1) hp
    have a3 := (nameR_le a2).1 n q h
    have a4 := bl_ge rs (p + 1)
    have a5 := bl_ge rs q
    have a6 := bl_ge rs (bl rs q + 1)
    have a7 := bl_ge rs (k + (word rs k).length)
    have a8 := bl_ge rs (j + 1)
    have a9 := (offR_le (rs := rs) (p := bl rs (j + 1)) (bl_le rs (j + 1) (lt_of_some h4))).1 off i h5
    have := ih a9.2
    cases res with
    | ok t q' => exact this.elim
    | okB t e q' =>
      obtain ⟨b1, b2, b3, b4⟩ := this
      exact ⟨⟨rfl, b1, trivial⟩, ⟨Nat.le_refl _, b2.mono (by omega), show e + 1 ≤ q' from b3⟩, b4⟩
    | bad e a => exact this
  | @brsEnd d num p h =>
    intro hp
    exact ⟨trivial, bl_ge rs p, Nat.lt_succ_self _, lt_of_some h⟩
  | @brsSel d num first p a h h1 =>
    intro hp
    exact ⟨.inl rfl, ((selR_le (bl_le rs p hp)).2 a h1).2⟩
  | @brsOpen d num first p w q h h1 h2 =>
    intro hp
    exact ⟨.inl rfl, bl_le rs q ((selR_le (bl_le rs p hp)).1 w q h1).2⟩
  | @brsDeep num first p w q h h1 h2 =>
    intro hp
    exact ⟨.inr rfl, bl_le rs q ((selR_le (bl_le rs p hp)).1 w q h1).2⟩
  | @brsMsg d num first p w q e a h h1 h2 hd6 h3 ih =>
    intro hp
    exact ih (lt_of_some h2)
  | @brsClose d num first p w q m j h h1 h2 hd6 h3 h4 ih =>
    intro hp
    obtain ⟨b1, b2, b3⟩ := ih (lt_of_some h2)
    exact ⟨.inl rfl, b3⟩
  | @brs d num first p w q m j res h h1 h2 hd6 h3 h4 h5 ih1 ih2 =>
    intro hp
    obtain ⟨b1, b2, b3⟩ := ih1 (lt_of_some h2)
    have a1 := bl_ge rs p
    have a2 := (selR_le (bl_le rs p hp)).1 w q h1
    have a3 := bl_ge rs q
    have := ih2 (lt_of_some h4)
    cases res with
    | ok t q' => exact this.elim
    | okB t e q' =>
      obtain ⟨c1, c2, c3, c4⟩ := this
      exact ⟨⟨rfl, b1, c1⟩, ⟨a1, j + 1, (b2.mono (by omega)).hi (Nat.le_succ _), c2⟩, c3, c4⟩
    | bad e a => exact this
theorem o_mono {rs : List T} (hc : Cps rs) : ∀ a b, a < b → b < rs.length + 1 → o rs a < o rs b := by
  intro a b h hb
  induction b with
  | zero => omega
  | succ b ih =>
    have hlt : b < rs.length := by omega
    have h1 := o_succ (List.getElem?_eq_getElem hlt)
    have h2 : 0 < (rs[b]).length := List.length_pos_iff.2 (hc _ (List.getElem_mem hlt)).ne
    rcases Nat.lt_or_ge a b with h3 | h3
    · have := ih h3 (by omega)
      omega
    · have : a = b := by omega
      rw [this]
      omega
end Go.Proofs.YtaepcfidpekflaaGreatDoor.Pg
namespace Go.Proofs.YtaepcfidpekflaaGreatDoor.Pn

def v2 (b0 b1 : Nat) : Int := 64 * ((b0 : Int) - 192) + b1 - 128
def v3 (b0 b1 b2 : Nat) : Int := 64 * (64 * ((b0 : Int) - 224) + b1 - 128) + b2 - 128
def v4 (b0 b1 b2 b3 : Nat) : Int := 64 * (64 * (64 * ((b0 : Int) - 240) + b1 - 128) + b2 - 128) + b3 - 128
abbrev okP (v least : Int) : Prop := least ≤ v ∧ v ≤ 1114111 ∧ (v < 55296 ∨ 57343 < v)
abbrev contP (b : Nat) : Prop := 128 ≤ b ∧ b ≤ 191
/-- How many bytes the code point takes that so many bytes begin with; 0: they begin with none. -/
def szN (n b0 b1 b2 b3 : Nat) : Nat :=
  if b0 < 128 then 1
  else if b0 < 192 then 0
  else if b0 < 224 then (if 2 ≤ n ∧ contP b1 ∧ okP (v2 b0 b1) 128 then 2 else 0)
  else if b0 < 240 then (if 3 ≤ n ∧ contP b1 ∧ contP b2 ∧ okP (v3 b0 b1 b2) 2048 then 3 else 0)
  else if b0 < 248 then (if 4 ≤ n ∧ contP b1 ∧ contP b2 ∧ contP b3 ∧ okP (v4 b0 b1 b2 b3) 65536 then 4 else 0)
  else 0

theorem sz_fin {n b0 b1 b2 b3 k r t : Nat} (hS : szN n b0 b1 b2 b3 = k) (hD : Lib.decodeN n b0 b1 b2 b3 = (r, t)) (h : k = if r = 65533 ∧ t = 1 then 0 else t) :
    szN n b0 b1 b2 b3 = if (Lib.decodeN n b0 b1 b2 b3).1 = 65533 ∧ (Lib.decodeN n b0 b1 b2 b3).2 = 1 then 0 else (Lib.decodeN n b0 b1 b2 b3).2 := by
  rw [hS, hD]; exact h
set_option maxHeartbeats 4000000 in
theorem szN_dec (n b0 b1 b2 b3 : Nat) (h1 : b1 < 256) (h2 : b2 < 256) (h3 : b3 < 256) :
    szN n b0 b1 b2 b3 = if (Lib.decodeN n b0 b1 b2 b3).1 = 65533 ∧ (Lib.decodeN n b0 b1 b2 b3).2 = 1 then 0 else (Lib.decodeN n b0 b1 b2 b3).2 := by
  by_cases c0 : b0 < 128
  · exact sz_fin (k := 1) (r := b0) (t := 1) (by unfold szN; rw [if_pos c0]) (by unfold Lib.decodeN; rw [if_pos c0]) (by rw [if_neg (by omega)])
  by_cases c1 : b0 < 192
  · exact sz_fin (k := 0) (r := 65533) (t := 1) (by unfold szN; rw [if_neg c0, if_pos c1]) (by unfold Lib.decodeN; rw [if_neg c0, if_neg (by omega), if_neg (by omega), if_neg (by omega)]) rfl
  by_cases c2 : b0 < 224
  · by_cases d : 1 < n ∧ b1 / 64 = 2
    · by_cases e : b0 % 32 * 64 + b1 % 64 ≥ 128
      · exact sz_fin (k := 2) (t := 2) (by unfold szN contP okP v2; rw [if_neg c0, if_neg c1, if_pos c2, if_pos (by omega)]) (by unfold Lib.decodeN; rw [if_neg c0, if_pos (by omega), if_pos e]) (by rw [if_neg (by omega)])
      · exact sz_fin (k := 0) (r := 65533) (t := 1) (by unfold szN contP okP v2; rw [if_neg c0, if_neg c1, if_pos c2, if_neg (by omega)]) (by unfold Lib.decodeN; rw [if_neg c0, if_pos (by omega), if_neg e]) rfl
    · exact sz_fin (k := 0) (r := 65533) (t := 1) (by unfold szN contP okP v2; rw [if_neg c0, if_neg c1, if_pos c2, if_neg (by omega)]) (by unfold Lib.decodeN; rw [if_neg c0, if_neg (by omega), if_neg (by omega), if_neg (by omega)]) rfl
  by_cases c3 : b0 < 240
  · by_cases d : (1 < n ∧ b1 / 64 = 2) ∧ (2 < n ∧ b2 / 64 = 2)
    · by_cases e : b0 % 16 * 4096 + b1 % 64 * 64 + b2 % 64 ≥ 2048 ∧ (b0 % 16 * 4096 + b1 % 64 * 64 + b2 % 64 < 55296 ∨ (57344 ≤ b0 % 16 * 4096 + b1 % 64 * 64 + b2 % 64 ∧ b0 % 16 * 4096 + b1 % 64 * 64 + b2 % 64 ≤ 1114111))
      · exact sz_fin (k := 3) (t := 3) (by unfold szN contP okP v3; rw [if_neg c0, if_neg c1, if_neg c2, if_pos c3, if_pos (by omega)]) (by unfold Lib.decodeN; rw [if_neg c0, if_neg (by omega), if_pos (by omega), if_pos e]) (by rw [if_neg (by omega)])
      · exact sz_fin (k := 0) (r := 65533) (t := 1) (by unfold szN contP okP v3; rw [if_neg c0, if_neg c1, if_neg c2, if_pos c3, if_neg (by omega)]) (by unfold Lib.decodeN; rw [if_neg c0, if_neg (by omega), if_pos (by omega), if_neg e]) rfl
    · exact sz_fin (k := 0) (r := 65533) (t := 1) (by unfold szN contP okP v3; rw [if_neg c0, if_neg c1, if_neg c2, if_pos c3, if_neg (by omega)]) (by unfold Lib.decodeN; rw [if_neg c0, if_neg (by omega), if_neg (by omega), if_neg (by omega)]) rfl
  by_cases c4 : b0 < 248
  · by_cases d : (1 < n ∧ b1 / 64 = 2) ∧ (2 < n ∧ b2 / 64 = 2) ∧ (3 < n ∧ b3 / 64 = 2)
    · by_cases e : b0 % 8 * 262144 + b1 % 64 * 4096 + b2 % 64 * 64 + b3 % 64 ≥ 65536 ∧ (b0 % 8 * 262144 + b1 % 64 * 4096 + b2 % 64 * 64 + b3 % 64 < 55296 ∨ (57344 ≤ b0 % 8 * 262144 + b1 % 64 * 4096 + b2 % 64 * 64 + b3 % 64 ∧ b0 % 8 * 262144 + b1 % 64 * 4096 + b2 % 64 * 64 + b3 % 64 ≤ 1114111))
      · exact sz_fin (k := 4) (t := 4) (by unfold szN contP okP v4; rw [if_neg c0, if_neg c1, if_neg c2, if_neg c3, if_pos c4, if_pos (by omega)]) (by unfold Lib.decodeN; rw [if_neg c0, if_neg (by omega), if_neg (by omega), if_pos (by omega), if_pos e]) (by rw [if_neg (by omega)])
      · exact sz_fin (k := 0) (r := 65533) (t := 1) (by unfold szN contP okP v4; rw [if_neg c0, if_neg c1, if_neg c2, if_neg c3, if_pos c4, if_neg (by omega)]) (by unfold Lib.decodeN; rw [if_neg c0, if_neg (by omega), if_neg (by omega), if_pos (by omega), if_neg e]) rfl
    · exact sz_fin (k := 0) (r := 65533) (t := 1) (by unfold szN contP okP v4; rw [if_neg c0, if_neg c1, if_neg c2, if_neg c3, if_pos c4, if_neg (by omega)]) (by unfold Lib.decodeN; rw [if_neg c0, if_neg (by omega), if_neg (by omega), if_neg (by omega)]) rfl
  · exact sz_fin (k := 0) (r := 65533) (t := 1) (by unfold szN; rw [if_neg c0, if_neg c1, if_neg c2, if_neg c3, if_neg c4]) (by unfold Lib.decodeN; rw [if_neg c0, if_neg (by omega), if_neg (by omega), if_neg (by omega)]) rfl

theorem sz2_yes (n b0 b1 b2 b3 : Nat) (h : 192 ≤ b0 ∧ b0 < 224) (hy : 2 ≤ n ∧ contP b1 ∧ okP (v2 b0 b1) 128) : szN n b0 b1 b2 b3 = 2 := by
  unfold szN; rw [if_neg (by omega), if_neg (by omega), if_pos h.2, if_pos hy]
theorem sz2_no (n b0 b1 b2 b3 : Nat) (h : 192 ≤ b0 ∧ b0 < 224) (hy : ¬ (2 ≤ n ∧ contP b1 ∧ okP (v2 b0 b1) 128)) : szN n b0 b1 b2 b3 = 0 := by
  unfold szN; rw [if_neg (by omega), if_neg (by omega), if_pos h.2, if_neg hy]
theorem sz3_yes (n b0 b1 b2 b3 : Nat) (h : 224 ≤ b0 ∧ b0 < 240) (hy : 3 ≤ n ∧ contP b1 ∧ contP b2 ∧ okP (v3 b0 b1 b2) 2048) : szN n b0 b1 b2 b3 = 3 := by
  unfold szN; rw [if_neg (by omega), if_neg (by omega), if_neg (by omega), if_pos h.2, if_pos hy]
theorem sz3_no (n b0 b1 b2 b3 : Nat) (h : 224 ≤ b0 ∧ b0 < 240) (hy : ¬ (3 ≤ n ∧ contP b1 ∧ contP b2 ∧ okP (v3 b0 b1 b2) 2048)) : szN n b0 b1 b2 b3 = 0 := by
  unfold szN; rw [if_neg (by omega), if_neg (by omega), if_neg (by omega), if_pos h.2, if_neg hy]
theorem sz4_yes (n b0 b1 b2 b3 : Nat) (h : 240 ≤ b0 ∧ b0 < 248) (hy : 4 ≤ n ∧ contP b1 ∧ contP b2 ∧ contP b3 ∧ okP (v4 b0 b1 b2 b3) 65536) : szN n b0 b1 b2 b3 = 4 := by
  unfold szN; rw [if_neg (by omega), if_neg (by omega), if_neg (by omega), if_neg (by omega), if_pos h.2, if_pos hy]
theorem sz4_no (n b0 b1 b2 b3 : Nat) (h : 240 ≤ b0 ∧ b0 < 248) (hy : ¬ (4 ≤ n ∧ contP b1 ∧ contP b2 ∧ contP b3 ∧ okP (v4 b0 b1 b2 b3) 65536)) : szN n b0 b1 b2 b3 = 0 := by
  unfold szN; rw [if_neg (by omega), if_neg (by omega), if_neg (by omega), if_neg (by omega), if_pos h.2, if_neg hy]
theorem sz_bad (n b0 b1 b2 b3 : Nat) (h : (128 ≤ b0 ∧ b0 < 192) ∨ 248 ≤ b0) : szN n b0 b1 b2 b3 = 0 := by
  unfold szN
  rw [if_neg (by omega)]
  rcases h with h | h
  · rw [if_pos h.2]
  · rw [if_neg (by omega), if_neg (by omega), if_neg (by omega), if_neg (by omega)]

/-- The same of a text. -/
def szL (l : List UInt8) : Nat := szN l.length (l.getD 0 0).toNat (l.getD 1 0).toNat (l.getD 2 0).toNat (l.getD 3 0).toNat
theorem szL_dec (l : List UInt8) : szL l = if (Lib.decodeL l).1 = 65533 ∧ (Lib.decodeL l).2 = 1 then 0 else (Lib.decodeL l).2 := by
  rw [szL, szN_dec _ _ _ _ _ (UInt8.toNat_lt _) (UInt8.toNat_lt _) (UInt8.toNat_lt _), ← Lib.decodeL_N]
theorem szL_le (l : List UInt8) (h : l ≠ []) : szL l ≤ l.length := by
  rw [szL_dec]
  split
  · omega
  · exact Lib.decodeL_le l h

/-- A text's code points, each as its bytes; at most n of them. -/
def ptsN : Nat → List UInt8 → List (List UInt8)
  | 0, _ => []
  | n + 1, l => if l = [] then [] else if szL l = 0 then [] else l.take (szL l) :: ptsN n (l.drop (szL l))
/-- How many bytes they are. -/
def lenN : Nat → List UInt8 → Nat
  | 0, _ => 0
  | n + 1, l => if l = [] then 0 else if szL l = 0 then 0 else szL l + lenN n (l.drop (szL l))
def pts (l : List UInt8) : List (List UInt8) := ptsN l.length l
def ptsLen (l : List UInt8) : Nat := lenN l.length l
/-- The runes of a text, as the decoder gives them. -/
def runesN : Nat → List UInt8 → List Int
  | 0, _ => []
  | n + 1, l => if l = [] then [] else ((Lib.decodeL l).1 : Int) :: runesN n (l.drop (Lib.decodeL l).2)
def runes (l : List UInt8) : List Int := runesN l.length l

theorem lenN_le : ∀ (n : Nat) (l : List UInt8), lenN n l ≤ l.length
  | 0, _ => by simp [lenN]
  | n + 1, l => by
    rw [lenN]
    split
    · omega
    · split
      · omega
      · rename_i h1 h2
        have := lenN_le n (l.drop (szL l))
        have := szL_le l h1
        simp at *
        omega
/-- It is UTF-8 just if its code points are all of it; then they are the runes' bytes. -/
theorem valid_pts : ∀ (n : Nat) (l : List UInt8), l.length ≤ n → (Lib.validD l = true ↔ lenN n l = l.length) ∧ (Lib.validD l = true → ptsN n l = (runesN n l).map Lib.encodeRune)
  | 0, l, h => by
    have : l = [] := List.eq_nil_of_length_eq_zero (by omega)
    subst this
    simp [lenN, ptsN, runesN, Lib.validD, Lib.validGoD]
  | n + 1, l, h => by
    by_cases hl : l = []
    · subst hl; simp [lenN, ptsN, runesN, Lib.validD, Lib.validGoD]
    · have hpos : 0 < l.length := List.length_pos_iff.2 hl
      rw [lenN, ptsN, runesN, if_neg hl, if_neg hl, if_neg hl, Lib.validD_step l hl]
      by_cases hv : (Lib.decodeL l).1 = 65533 ∧ (Lib.decodeL l).2 = 1
      · have hz : szL l = 0 := by rw [szL_dec, if_pos hv]
        rw [if_pos hv, if_pos hz, if_pos hz]
        simp
        omega
      · have hz : szL l = (Lib.decodeL l).2 := by rw [szL_dec, if_neg hv]
        have hw := Lib.decodeL_width l
        have hle := Lib.decodeL_le l hl
        rw [if_neg hv, if_neg (by omega), if_neg (by omega), hz]
        have ih := valid_pts n (l.drop (Lib.decodeL l).2) (by simp; omega)
        refine ⟨?_, fun h2 => ?_⟩
        · rw [ih.1]
          simp
          omega
        · rw [ih.2 h2, List.map_cons, Lib.encode_decode l hl hv]
theorem valid_len (l : List UInt8) : Lib.validD l = true ↔ ptsLen l = l.length := (valid_pts l.length l (Nat.le_refl _)).1
theorem valid_runes (l : List UInt8) (h : Lib.validD l = true) : pts l = (runes l).map Lib.encodeRune := (valid_pts l.length l (Nat.le_refl _)).2 h
theorem count_runes (s : ByteArray) : ∀ (n pos : Nat), s.data.toList.length ≤ pos + n → Lib.runeCountFrom s n pos = (runesN n (s.data.toList.drop pos)).length
  | 0, _, _ => rfl
  | n + 1, pos, h => by
    rw [Lib.runeCountFrom, runesN]
    by_cases hp : pos < s.size
    · have hne : s.data.toList.drop pos ≠ [] := by
        intro e
        have := congrArg List.length e
        rw [List.length_drop, ← Lib.size_eq] at this
        simp at this
        omega
      rw [if_pos hp, if_neg hne, List.length_cons, Lib.decodeL_drop, List.drop_drop, count_runes s n (pos + (Utf8.decode s pos).2) ?_]
      · omega
      · have := Lib.decodeL_width (s.data.toList.drop pos)
        rw [Lib.decodeL_drop] at this
        omega
    · rw [if_neg hp, List.drop_eq_nil_of_le (by rw [← Lib.size_eq]; omega)]
      simp
theorem count_eq (s : ByteArray) : Lib.runeCount s = (runes s.data.toList).length := by
  rw [Lib.runeCount, Lib.size_eq, count_runes s _ 0 (by omega)]
  rfl
end Go.Proofs.YtaepcfidpekflaaGreatDoor.Pn
namespace Go.Proofs.YtaepcfidpekflaaGreatDoor.Pg
open Go.Proofs.YtaepcfidpekflaaGreatDoor

theorem szN_cases (n b0 b1 b2 b3 : Nat) : Pn.szN n b0 b1 b2 b3 = 0 ∨
    (Pn.szN n b0 b1 b2 b3 = 1 ∧ b0 < 128) ∨
    (Pn.szN n b0 b1 b2 b3 = 2 ∧ (192 ≤ b0 ∧ b0 < 224) ∧ 2 ≤ n ∧ Pn.contP b1 ∧ Pn.okP (Pn.v2 b0 b1) 128) ∨
    (Pn.szN n b0 b1 b2 b3 = 3 ∧ (224 ≤ b0 ∧ b0 < 240) ∧ 3 ≤ n ∧ Pn.contP b1 ∧ Pn.contP b2 ∧ Pn.okP (Pn.v3 b0 b1 b2) 2048) ∨
    (Pn.szN n b0 b1 b2 b3 = 4 ∧ (240 ≤ b0 ∧ b0 < 248) ∧ 4 ≤ n ∧ Pn.contP b1 ∧ Pn.contP b2 ∧ Pn.contP b3 ∧ Pn.okP (Pn.v4 b0 b1 b2 b3) 65536) := by
  by_cases c0 : b0 < 128
  · exact .inr (.inl ⟨by unfold Pn.szN; rw [if_pos c0], c0⟩)
  by_cases c1 : b0 < 192 ∨ 248 ≤ b0
  · exact .inl (Pn.sz_bad n b0 b1 b2 b3 (by omega))
  by_cases c2 : b0 < 224
  · by_cases d : 2 ≤ n ∧ Pn.contP b1 ∧ Pn.okP (Pn.v2 b0 b1) 128
    · exact .inr (.inr (.inl ⟨Pn.sz2_yes n b0 b1 b2 b3 (by omega) d, by omega, d⟩))
    · exact .inl (Pn.sz2_no n b0 b1 b2 b3 (by omega) d)
  by_cases c3 : b0 < 240
  · by_cases d : 3 ≤ n ∧ Pn.contP b1 ∧ Pn.contP b2 ∧ Pn.okP (Pn.v3 b0 b1 b2) 2048
    · exact .inr (.inr (.inr (.inl ⟨Pn.sz3_yes n b0 b1 b2 b3 (by omega) d, by omega, d⟩)))
    · exact .inl (Pn.sz3_no n b0 b1 b2 b3 (by omega) d)
  · by_cases d : 4 ≤ n ∧ Pn.contP b1 ∧ Pn.contP b2 ∧ Pn.contP b3 ∧ Pn.okP (Pn.v4 b0 b1 b2 b3) 65536
    · exact .inr (.inr (.inr (.inr ⟨Pn.sz4_yes n b0 b1 b2 b3 (by omega) d, by omega, d⟩)))
    · exact .inl (Pn.sz4_no n b0 b1 b2 b3 (by omega) d)
/-- A code point's bytes, whatever stands behind them. -/
theorem szL_any (l : T) (h : Pn.szL l ≠ 0) (hne : l ≠ []) (r : T) : Pn.szL (l.take (Pn.szL l) ++ r) = Pn.szL l ∧ Cp (l.take (Pn.szL l)) := by
  have hle := Pn.szL_le l hne
  unfold Pn.szL at h hle ⊢
  rcases szN_cases l.length (l.getD 0 0).toNat (l.getD 1 0).toNat (l.getD 2 0).toNat (l.getD 3 0).toNat with h0 | ⟨h0, h1⟩ | ⟨h0, h1, h2, h3, h4⟩ | ⟨h0, h1, h2, h3, h4, h5⟩ | ⟨h0, h1, h2, h3, h4, h5, h6⟩
  · exact absurd h0 h
  all_goals rw [h0] at hle ⊢
  · obtain ⟨a, l', rfl⟩ : ∃ a l', l = a :: l' := by
      cases l with
      | nil => exact absurd rfl hne
      | cons a l' => exact ⟨a, l', rfl⟩
    refine ⟨?_, .inl ⟨a, rfl, h1⟩⟩
    unfold Pn.szN
    rw [if_pos (by simpa using h1)]
  · obtain ⟨a, b, l', rfl⟩ : ∃ a b l', l = a :: b :: l' := by
      match l, hle with
      | a :: b :: l', _ => exact ⟨a, b, l', rfl⟩
    simp at h1 h3 h4
    refine ⟨?_, .inr ⟨by simp, ?_⟩⟩
    · refine Pn.sz2_yes _ _ _ _ _ (by simpa using h1) ⟨by simp, by simpa using h3, by simpa using h4⟩
    · intro c hc
      unfold Pn.contP at h3
      simp at hc
      rcases hc with rfl | rfl <;> omega
  · obtain ⟨a, b, c, l', rfl⟩ : ∃ a b c l', l = a :: b :: c :: l' := by
      match l, hle with
      | a :: b :: c :: l', _ => exact ⟨a, b, c, l', rfl⟩
    simp at h1 h3 h4 h5
    refine ⟨?_, .inr ⟨by simp, ?_⟩⟩
    · refine Pn.sz3_yes _ _ _ _ _ (by simpa using h1) ⟨by simp, by simpa using h3, by simpa using h4, by simpa using h5⟩
    · intro c hc
      unfold Pn.contP at h3 h4
      simp at hc
      rcases hc with rfl | rfl | rfl <;> omega
  · obtain ⟨a, b, c, d, l', rfl⟩ : ∃ a b c d l', l = a :: b :: c :: d :: l' := by
      match l, hle with
      | a :: b :: c :: d :: l', _ => exact ⟨a, b, c, d, l', rfl⟩
    simp at h1 h3 h4 h5 h6
    refine ⟨?_, .inr ⟨by simp, ?_⟩⟩
    · refine Pn.sz4_yes _ _ _ _ _ (by simpa using h1) ⟨by simp, by simpa using h3, by simpa using h4, by simpa using h5, by simpa using h6⟩
    · intro c hc
      unfold Pn.contP at h3 h4 h5
      simp at hc
      rcases hc with rfl | rfl | rfl | rfl <;> omega
/-- Pieces that are code points, each as the document takes it. -/
def Pts (rs : List T) : Prop := ∀ c ∈ rs, Cp c ∧ ∀ r, Pn.szL (c ++ r) = c.length
theorem ptsN_pts : ∀ (n : Nat) (l : T), Pts (Pn.ptsN n l) ∧ (Pn.ptsN n l).flatten = l.take (Pn.lenN n l) := by
  intro n
  induction n with
  | zero => intro l; exact ⟨fun c h => by simp [Pn.ptsN] at h, by simp [Pn.ptsN, Pn.lenN]⟩
  | succ n ih =>
    intro l
    rw [Pn.ptsN, Pn.lenN]
    by_cases hne : l = []
    · rw [if_pos hne, if_pos hne]
      exact ⟨fun c h => by simp at h, by simp⟩
    rw [if_neg hne, if_neg hne]
    by_cases h0 : Pn.szL l = 0
    · rw [if_pos h0, if_pos h0]
      exact ⟨fun c h => by simp at h, by simp⟩
    rw [if_neg h0, if_neg h0]
    have hle := Pn.szL_le l hne
    obtain ⟨i1, i2⟩ := ih (l.drop (Pn.szL l))
    constructor
    · intro c hc
      rcases List.mem_cons.1 hc with rfl | hc
      · refine ⟨(szL_any l h0 hne []).2, fun r => ?_⟩
        rw [(szL_any l h0 hne r).1, List.length_take, Nat.min_eq_left hle]
      · exact i1 c hc
    · rw [List.flatten_cons, i2, List.take_add]
theorem pts_of (l : T) (h : Pn.ptsLen l = l.length) : Pts (Pn.pts l) ∧ (Pn.pts l).flatten = l := by
  obtain ⟨h1, h2⟩ := ptsN_pts l.length l
  refine ⟨h1, ?_⟩
  show (Pn.ptsN l.length l).flatten = l
  rw [h2]
  unfold Pn.ptsLen at h
  rw [h, List.take_length]
theorem Pts.cps {rs : List T} (h : Pts rs) : Cps rs := fun c hc => (h c hc).1
/-- Such pieces are taken as they are. -/
theorem pts_flat : ∀ (rs : List T) (n : Nat), Pts rs → rs.flatten.length ≤ n → Pn.ptsN n rs.flatten = rs ∧ Pn.lenN n rs.flatten = rs.flatten.length := by
  intro rs
  induction rs with
  | nil => intro n _ _; cases n <;> simp [Pn.ptsN, Pn.lenN]
  | cons c rs ih =>
    intro n h hn
    obtain ⟨h1, h2⟩ := h c (by simp)
    have hcl : 0 < c.length := List.length_pos_iff.2 h1.ne
    rw [List.flatten_cons] at hn ⊢
    simp only [List.length_append] at hn
    obtain ⟨n, rfl⟩ : ∃ n', n = n' + 1 := ⟨n - 1, by omega⟩
    have hs := h2 rs.flatten
    have hne : c ++ rs.flatten ≠ [] := by simp [h1.ne]
    obtain ⟨i1, i2⟩ := ih n (fun d hd => h d (by simp [hd])) (by omega)
    rw [Pn.ptsN, Pn.lenN, if_neg hne, if_neg hne, hs, if_neg (by omega), if_neg (by omega), List.take_left, List.drop_left, i1, i2]
    simp
/-- How many code points stand ahead. -/
theorem pts_ahead {rs : List T} (h : Pts rs) (a : Nat) (ha : a ≤ rs.length) : (Pn.pts (rs.flatten.take (o rs a))).length = a := by
  have e : rs.flatten.take (o rs a) = (rs.take a).flatten := by
    unfold o
    conv => lhs; rw [← List.take_append_drop a rs, List.flatten_append]
    rw [List.take_append_drop, List.take_left]
  rw [e]
  unfold Pn.pts
  rw [(pts_flat (rs.take a) _ (fun c hc => h c (List.mem_of_mem_take hc)) (Nat.le_refl _)).1]
  simp
  omega
end Go.Proofs.YtaepcfidpekflaaGreatDoor.Pg
namespace Go.Proofs.YtaepcfidpekflaaGreatDoor.Dk
def inRun (num : Bool) (c : UInt8) : Bool := c == 39 || c == 123 || c == 125 || (c == 35 && num)
def dbl : T → T
  | [] => []
  | c :: r => if c = 39 then 39 :: c :: dbl r else c :: dbl r
/-- Apostrophes and what must be quoted, that stand together. -/
def runW (r : T) : T := if r.any (fun c => c != 39) = true then 39 :: (dbl r ++ [39]) else dbl r
def writtenGo (num : Bool) : Nat → T → T
  | 0, _ => []
  | _ + 1, [] => []
  | k + 1, c :: r => if inRun num c = false then c :: writtenGo num k r else runW ((c :: r).takeWhile (inRun num)) ++ writtenGo num k ((c :: r).dropWhile (inRun num))
def written (num : Bool) (s : T) : T := writtenGo num s.length s
def offT (off : T) : T := if off = [48] then [] else [32, 111, 102, 102, 115, 101, 116, 58] ++ off
def piece (num : List Bool) (m : Mark) : T :=
  if m.kind = 116 then written (num.getLastD false) m.text
  else if m.kind = 35 then [35]
  else if m.kind = 112 then 123 :: m.name ++ [125]
  else if m.kind = 110 then 123 :: m.name ++ [44, 32, 110, 117, 109, 98, 101, 114, 125]
  else if m.kind = 40 then 123 :: m.name ++ [44, 32] ++ m.how ++ [44] ++ offT m.offset
  else if m.kind = 91 then 32 :: m.text ++ [32, 123]
  else if m.kind = 93 then [125]
  else if m.kind = 41 then [125]
  else []
def stack (num : List Bool) (m : Mark) : List Bool :=
  if m.kind = 40 then num ++ [decide (m.how ≠ Pg.selectW)] else if m.kind = 41 then num.dropLast else num
def canGo : List Bool → List Mark → T
  | _, [] => []
  | num, m :: r => piece num m ++ canGo (stack num m) r
/-- Names and their places. -/
def namesGo : List Mark → List (T × Nat)
  | [] => []
  | m :: r => if m.name ≠ [] then (m.name, m.at_) :: namesGo r else namesGo r
end Go.Proofs.YtaepcfidpekflaaGreatDoor.Dk
namespace Go.Proofs.YtaepcfidpekflaaGreatDoor.Pg
open Go.Proofs.YtaepcfidpekflaaGreatDoor

def canT : Bool → Tr → T
  | _, .nil => []
  | num, .text t r => Dk.written num t ++ canT num r
  | num, .sign r => 35 :: canT num r
  | num, .simple n _ r => 123 :: n ++ [125] ++ canT num r
  | num, .num n _ r => 123 :: n ++ [44, 32, 110, 117, 109, 98, 101, 114, 125] ++ canT num r
  | num, .sel n _ bs _ r => 123 :: n ++ [44, 32] ++ selectW ++ [44] ++ canT false bs ++ [125] ++ canT num r
  | num, .plu n _ ord off bs _ r => 123 :: n ++ [44, 32] ++ (if ord = true then ordinalW else pluralW) ++ [44] ++ Dk.offT off ++ canT true bs ++ [125] ++ canT num r
  | num, .br w _ m r => 32 :: w ++ [32, 123] ++ canT num m ++ [125] ++ canT num r
theorem ord_ne (ord : Bool) : (if ord = true then ordinalW else pluralW) ≠ selectW := by cases ord <;> decide
theorem canGo_flat {o : Nat → Nat} : ∀ (t : Tr) (st : List Bool) (R : List Dk.Mark), Dk.canGo st (flat o t ++ R) = canT (st.getLastD false) t ++ Dk.canGo st R := by
  intro t
  induction t with
  | nil => intro st R; rfl
  | text t r ih => intro st R; rw [flat, List.cons_append, Dk.canGo, canT, show Dk.stack st { kind := 116, text := t } = st from rfl, ih]; simp [Dk.piece]
  | sign r ih => intro st R; rw [flat, List.cons_append, Dk.canGo, canT, show Dk.stack st { kind := 35 } = st from rfl, ih]; simp [Dk.piece]
  | simple n a r ih => intro st R; rw [flat, List.cons_append, Dk.canGo, canT, show Dk.stack st { kind := 112, name := n, at_ := o a } = st from rfl, ih]; simp [Dk.piece]
  | num n a r ih => intro st R; rw [flat, List.cons_append, Dk.canGo, canT, show Dk.stack st { kind := 110, name := n, how := numberW, at_ := o a } = st from rfl, ih]; simp [Dk.piece]
  | sel n a bs e r ih1 ih2 =>
    intro st R
    have h1 : Dk.stack st { kind := 40, name := n, how := selectW, offset := [48], at_ := o a } = st ++ [false] := by simp [Dk.stack]
    have h2 : Dk.stack (st ++ [false]) { kind := 41, at_ := o e } = st := by simp [Dk.stack]
    rw [flat, List.cons_append, List.append_assoc, List.cons_append, Dk.canGo, canT, h1, ih1, Dk.canGo, h2, ih2]
    simp [Dk.piece, Dk.offT]
  | plu n a ord off bs e r ih1 ih2 =>
    intro st R
    have h1 : Dk.stack st { kind := 40, name := n, how := if ord then ordinalW else pluralW, offset := off, at_ := o a } = st ++ [true] := by
      have := ord_ne ord
      simp [Dk.stack, this]
    have h2 : Dk.stack (st ++ [true]) { kind := 41, at_ := o e } = st := by simp [Dk.stack]
    rw [flat, List.cons_append, List.append_assoc, List.cons_append, Dk.canGo, canT, h1, ih1, Dk.canGo, h2, ih2]
    simp [Dk.piece]
  | br w a m r ih1 ih2 =>
    intro st R
    rw [flat, List.cons_append, List.append_assoc, List.cons_append, Dk.canGo, canT, show Dk.stack st { kind := 91, text := w, at_ := o a } = st from rfl, ih1, Dk.canGo, show Dk.stack st { kind := 93 } = st from rfl, ih2]
    simp [Dk.piece]
def argsT : Tr → List (T × Nat)
  | .nil => []
  | .text _ r => argsT r
  | .sign r => argsT r
  | .simple n a r => (n, a) :: argsT r
  | .num n a r => (n, a) :: argsT r
  | .sel n a bs _ r => (n, a) :: (argsT bs ++ argsT r)
  | .plu n a _ _ bs _ r => (n, a) :: (argsT bs ++ argsT r)
  | .br _ _ m r => argsT m ++ argsT r
/-- All names are some. -/
def Nm : Tr → Prop
  | .nil => True
  | .text _ r => Nm r
  | .sign r => Nm r
  | .simple n _ r => n ≠ [] ∧ Nm r
  | .num n _ r => n ≠ [] ∧ Nm r
  | .sel n _ bs _ r => n ≠ [] ∧ Nm bs ∧ Nm r
  | .plu n _ _ _ bs _ r => n ≠ [] ∧ Nm bs ∧ Nm r
  | .br _ _ m r => Nm m ∧ Nm r
theorem namesGo_app (l r : List Dk.Mark) : Dk.namesGo (l ++ r) = Dk.namesGo l ++ Dk.namesGo r := by
  induction l with
  | nil => rfl
  | cons m l ih =>
    rw [List.cons_append, Dk.namesGo, Dk.namesGo, ih]
    split <;> rfl
theorem names_flat {o : Nat → Nat} : ∀ (t : Tr), Nm t → Dk.namesGo (flat o t) = (argsT t).map (fun x => (x.1, o x.2)) := by
  intro t
  induction t with
  | nil => intro _; rfl
  | text t r ih => intro h; simp [flat, Dk.namesGo, argsT, ih h]
  | sign r ih => intro h; simp [flat, Dk.namesGo, argsT, ih h]
  | simple n a r ih => intro h; simp [flat, Dk.namesGo, argsT, ih h.2, h.1]
  | num n a r ih => intro h; simp [flat, Dk.namesGo, argsT, ih h.2, h.1]
  | sel n a bs e r ih1 ih2 => intro h; simp [flat, Dk.namesGo, argsT, ih1 h.2.1, ih2 h.2.2, h.1, namesGo_app]
  | plu n a ord off bs e r ih1 ih2 => intro h; simp [flat, Dk.namesGo, argsT, ih1 h.2.1, ih2 h.2.2, h.1, namesGo_app]
  | br w a m r ih1 ih2 => intro h; simp [flat, Dk.namesGo, argsT, ih1 h.1, ih2 h.2, namesGo_app]
theorem Nm.app {t u : Tr} (h : Nm t) (h2 : Nm u) : Nm (t.app u) := by
  induction t with
  | nil => exact h2
  | text _ r ih => exact ih h
  | sign r ih => exact ih h
  | simple _ a r ih => exact ⟨h.1, ih h.2⟩
  | num _ a r ih => exact ⟨h.1, ih h.2⟩
  | sel _ a bs e r ih1 ih2 => exact ⟨h.1, h.2.1, ih2 h.2.2⟩
  | plu _ a _ _ bs e r ih1 ih2 => exact ⟨h.1, h.2.1, ih2 h.2.2⟩
  | br _ a m r ih1 ih2 => exact ⟨h.1, ih2 h.2⟩
theorem nameR_ne {rs : List T} (hc : Cps rs) {p : Nat} {n : T} {q : Nat} (h : nameR rs p = .inr (n, q)) : n ≠ [] := by
  have hl : (word rs p).flatten.length = (word rs p).length := (tw _ isN_lt _ (hc.drop p)).2
  unfold nameR at h
  split at h
  · cases h
  split at h
  · cases h
  rename_i h2
  split at h
  · cases h
  injection h with h
  injection h with h1 h3
  rw [← h1]
  intro e
  rw [e] at hl
  exact h2 hl.symm
def resT : Res → Tr
  | .ok t _ => t
  | .okB t _ _ => t
  | .bad _ _ => .nil
theorem nm_of {rs : List T} (hc : Cps rs) {mode : Mode} {p : Nat} {res : Res} (h : Rd rs mode p res) : Nm (resT res) := by
  induction h with
  | argK h h1 h2 ih1 ih2 =>
    rename_i res
    cases res with
    | bad e a => exact trivial
    | _ => exact Nm.app ih1 ih2
  | sign h h1 ih => rename_i res; cases res with
    | bad e a => exact trivial
    | _ => exact ih
  | said h hs h1 ih => rename_i res; cases res with
    | bad e a => exact trivial
    | _ => exact ih
  | simple h h1 => exact ⟨nameR_ne hc h, trivial⟩
  | num h h2 hk h3 hj h4 => exact ⟨nameR_ne hc h, trivial⟩
  | sel h h2 hk h3 hj h4 h5 ih => rename_i res; cases res with
    | bad e a => exact trivial
    | ok t q => exact ih
    | okB t e q => exact ⟨nameR_ne hc h, ih, trivial⟩
  | plu h h2 hk h3 hj h4 h5 h6 ih => rename_i res; cases res with
    | bad e a => exact trivial
    | ok t q => exact ih
    | okB t e q => exact ⟨nameR_ne hc h, ih, trivial⟩
  | brs h h1 h2 hd h3 h4 h5 ih1 ih2 => rename_i res; cases res with
    | bad e a => exact trivial
    | _ => exact ⟨ih1, ih2⟩
  | _ => exact trivial
end Go.Proofs.YtaepcfidpekflaaGreatDoor.Pg
namespace Go.Proofs.YtaepcfidpekflaaGreatDoor.Pg
open Go.Proofs.YtaepcfidpekflaaGreatDoor

def rv (c : T) : Int := ((Lib.decodeL c).1 : Nat)
/-- A code point as the document takes it. -/
def Pt (c : T) : Prop := Cp c ∧ ∀ r, Pn.szL (c ++ r) = c.length
theorem Pt.dec {c : T} (h : Pt c) : ¬ ((Lib.decodeL c).1 = 65533 ∧ (Lib.decodeL c).2 = 1) ∧ (Lib.decodeL c).2 = c.length := by
  have h1 := h.2 []
  rw [List.append_nil, Pn.szL_dec] at h1
  have h2 := h.1.ne
  have h3 : 0 < c.length := List.length_pos_iff.2 h2
  split at h1
  · omega
  · rename_i hn
    exact ⟨hn, h1⟩
theorem Pt.enc {c : T} (h : Pt c) : Lib.encodeRune (rv c) = c := by
  obtain ⟨h1, h2⟩ := h.dec
  have := Lib.encode_decode c h.1.ne h1
  rw [h2, List.take_length] at this
  exact this
theorem rv_lo (c : T) : 0 ≤ rv c := Int.natCast_nonneg _
theorem rv_one {b : UInt8} (hb : b.toNat < 128) : rv [b] = b.toNat := by
  unfold rv
  rw [Lib.decodeL_N]
  unfold Lib.decodeN
  rw [if_pos (by simpa using hb)]
  simp
theorem Pt.hi {c : T} (h : Pt c) : rv c ≤ 1114111 := by
  rcases Int.lt_or_le 1114111 (rv c) with h1 | h1
  · have he := h.enc
    unfold Lib.encodeRune at he
    rw [Lib.encodeRuneZ_bad (by omega)] at he
    have : c = [239, 191, 189] := he.symm
    rw [this] at h1
    exact absurd h1 (by decide +kernel)
  · exact h1
theorem Pt.two {c : T} (h : Pt c) (h2 : 2 ≤ c.length) : 128 ≤ rv c := by
  rcases Int.lt_or_le (rv c) 128 with h1 | h1
  · have he := h.enc
    unfold Lib.encodeRune at he
    rw [Lib.encodeRuneZ_one (rv_lo c) (by omega)] at he
    have := congrArg List.length he
    simp at this
    omega
  · exact h1
theorem Pt.eq {c : T} (h : Pt c) {b : UInt8} (hb : b.toNat < 128) : rv c = b.toNat ↔ c = [b] := by
  refine ⟨fun h1 => ?_, fun h1 => by rw [h1]; exact rv_one hb⟩
  rcases h.1 with ⟨d, rfl, hd⟩ | ⟨h2, _⟩
  · rw [rv_one hd] at h1
    have : d.toNat = b.toNat := by omega
    rw [UInt8.toNat_inj.1 this]
  · have := h.two h2
    omega
theorem Pts.pt {rs : List T} (h : Pts rs) {p : Nat} {c : T} (hc : rs[p]? = some c) : Pt c := h c (List.mem_of_getElem? hc)
/-- What stands at a place; -1 behind the end. -/
def pk (rs : List T) (p : Nat) : Int := match rs[p]? with | some c => rv c | none => -1
theorem pk_some {rs : List T} {p : Nat} {c : T} (h : rs[p]? = some c) : pk rs p = rv c := by unfold pk; rw [h]
theorem pk_none {rs : List T} {p : Nat} (h : rs[p]? = none) : pk rs p = -1 := by unfold pk; rw [h]
theorem pk_bd {rs : List T} (h : Pts rs) (p : Nat) : -1 ≤ pk rs p ∧ pk rs p ≤ 1114111 := by
  cases e : rs[p]? with
  | none => rw [pk_none e]; omega
  | some c => rw [pk_some e]; have := rv_lo c; have := (h.pt e).hi; omega
theorem pk_eq {rs : List T} (h : Pts rs) (p : Nat) (b : UInt8) (hb : b.toNat < 128) : pk rs p = b.toNat ↔ rs[p]? = some [b] := by
  cases e : rs[p]? with
  | none => rw [pk_none e]; simp
  | some c => rw [pk_some e, (h.pt e).eq hb]; simp
theorem pk_end {rs : List T} (p : Nat) : pk rs p = -1 ↔ rs[p]? = none := by
  cases e : rs[p]? with
  | none => rw [pk_none e]; simp
  | some c => rw [pk_some e]; have := rv_lo c; simp; omega
def blkZ (r : Int) : Bool := r == 32 || r == 9 || r == 10 || r == 13
def digZ (r : Int) : Bool := decide (48 ≤ r) && decide (r ≤ 57)
def nameZ (r : Int) : Bool := decide (97 ≤ r) && decide (r ≤ 122) || decide (65 ≤ r) && decide (r ≤ 90) || r == 95 || digZ r
def specZ (num : Bool) (r : Int) : Bool := r == 123 || r == 125 || (r == 35 && num)
theorem at1_of {rs : List T} (h : Pts rs) (p : Nat) (f : UInt8 → Bool) (z : Int → Bool) (h1 : ∀ b : UInt8, b.toNat < 128 → z b.toNat = f b) (h2 : ∀ r : Int, r < 0 ∨ 128 ≤ r → z r = false) : z (pk rs p) = at1 rs p f := by
  unfold at1
  cases e : rs[p]? with
  | none => rw [pk_none e]; exact h2 _ (by omega)
  | some c =>
    rw [pk_some e]
    rcases (h.pt e).1 with ⟨d, rfl, hd⟩ | ⟨h3, _⟩
    · rw [rv_one hd, h1 d hd]; rfl
    · rw [h2 _ (.inr ((h.pt e).two h3))]
      cases c with
      | nil => rfl
      | cons a l =>
        cases l with
        | nil => simp at h3
        | cons _ _ => rfl
theorem byte_beq (b : UInt8) (k : UInt8) : ((b.toNat : Int) == (k.toNat : Int)) = (b == k) := by
  rw [Bool.eq_iff_iff, beq_iff_eq, beq_iff_eq, ← UInt8.toNat_inj]
  omega
theorem blkZ_at {rs : List T} (h : Pts rs) (p : Nat) : blkZ (pk rs p) = at1 rs p Dk.isBlk := by
  refine at1_of h p _ _ (fun b hb => ?_) (fun r hr => ?_)
  · unfold blkZ Dk.isBlk
    rw [← byte_beq b 32, ← byte_beq b 9, ← byte_beq b 10, ← byte_beq b 13]
    rfl
  · unfold blkZ
    simp
    omega
theorem digZ_at {rs : List T} (h : Pts rs) (p : Nat) : digZ (pk rs p) = at1 rs p Pn.isDig := by
  refine at1_of h p _ _ (fun b hb => ?_) (fun r hr => ?_)
  · rw [Bool.eq_iff_iff, Pn.isDig_iff]
    unfold digZ
    simp
    omega
  · unfold digZ
    simp
    omega
theorem nameZ_at {rs : List T} (h : Pts rs) (p : Nat) : nameZ (pk rs p) = at1 rs p isN := by
  refine at1_of h p _ _ (fun b hb => ?_) (fun r hr => ?_)
  · have := byte_beq b 95
    rw [Bool.eq_iff_iff]
    unfold nameZ isN Dk.isAlpha
    rw [Bool.or_eq_true _ (Pn.isDig b), Pn.isDig_iff, ← this]
    unfold digZ
    simp
    omega
  · unfold nameZ digZ
    simp
    omega
theorem specZ_at {rs : List T} (h : Pts rs) (p : Nat) (num : Bool) : specZ num (pk rs p) = match rs[p]? with | some c => spec num c | none => false := by
  cases e : rs[p]? with
  | none => rw [pk_none e]; cases num <;> rfl
  | some c =>
    have a := (h.pt e).eq (b := 123) (by decide)
    have b := (h.pt e).eq (b := 125) (by decide)
    have d := (h.pt e).eq (b := 35) (by decide)
    rw [pk_some e, Bool.eq_iff_iff]
    unfold specZ spec
    simp only [Bool.or_eq_true, Bool.and_eq_true, beq_iff_eq]
    rw [← a, ← b, ← d]
    simp
theorem at_end {rs : List T} (f : UInt8 → Bool) (p : Nat) : at1 rs (p + ((rs.drop p).takeWhile (one1 f)).length) f = false := by
  have h := tw_stop (one1 f) (rs.drop p) _ rfl
  rw [List.drop_drop] at h
  unfold at1
  cases e : rs[p + ((rs.drop p).takeWhile (one1 f)).length]? with
  | none => rfl
  | some c =>
    have hd : rs.drop (p + ((rs.drop p).takeWhile (one1 f)).length) = c :: rs.drop (p + ((rs.drop p).takeWhile (one1 f)).length + 1) := by
      have hl := lt_of_some e
      rw [List.drop_eq_getElem_cons hl]
      rw [List.getElem?_eq_getElem hl] at e
      injection e with e
      rw [e]
    rw [hd, List.takeWhile_cons] at h
    cases hf : one1 f c with
    | false => exact hf
    | true => rw [hf] at h; simp at h
theorem tw_lt {rs : List T} (f : UInt8 → Bool) {p n : Nat} (hn : n ≤ ((rs.drop p).takeWhile (one1 f)).length) (h : at1 rs (p + n) f = true) : n < ((rs.drop p).takeWhile (one1 f)).length := by
  rcases Nat.lt_or_ge n ((rs.drop p).takeWhile (one1 f)).length with h1 | h1
  · exact h1
  · have : n = ((rs.drop p).takeWhile (one1 f)).length := by omega
    rw [this, at_end] at h
    cases h
theorem tw_eq {rs : List T} (f : UInt8 → Bool) {p n : Nat} (hn : n ≤ ((rs.drop p).takeWhile (one1 f)).length) (h : at1 rs (p + n) f = false) : n = ((rs.drop p).takeWhile (one1 f)).length := by
  rcases Nat.lt_or_ge n ((rs.drop p).takeWhile (one1 f)).length with h1 | h1
  · rw [at_tw f p n h1] at h; cases h
  · omega
end Go.Proofs.YtaepcfidpekflaaGreatDoor.Pg
