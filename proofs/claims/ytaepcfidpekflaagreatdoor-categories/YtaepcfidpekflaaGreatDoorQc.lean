/-
  The parser: take, value. By the verifier.
-/
import Derived.Test.YtaepcfidpekflaaGreatDoorQa
import Derived.Test.YtaepcfidpekflaaGreatDoorSw
namespace Go.Proofs.YtaepcfidpekflaaGreatDoor
open Go.RowKit

theorem cont_one (x t : Pr.T) : Lib.containsS [⟨x.toArray⟩] ⟨t.toArray⟩ = decide (t = x) := by
  by_cases h : t = x
  · rw [decide_eq_true h]; rw [Lib.containsS_iff]; simp [h]
  · rw [decide_eq_false h]
    cases e : Lib.containsS [⟨x.toArray⟩] ⟨t.toArray⟩ with
    | false => rfl
    | true => rw [Lib.containsS_iff] at e; simp at e; exact absurd e h
theorem cont_two (x y t : Pr.T) : Lib.containsS [⟨x.toArray⟩, ⟨y.toArray⟩] ⟨t.toArray⟩ = decide (t = x ∨ t = y) := by
  by_cases h : t = x ∨ t = y
  · rw [decide_eq_true h]; rw [Lib.containsS_iff]; simpa using h
  · rw [decide_eq_false h]
    cases e : Lib.containsS [⟨x.toArray⟩, ⟨y.toArray⟩] ⟨t.toArray⟩ with
    | false => rfl
    | true => rw [Lib.containsS_iff] at e; simp at e; exact absurd e h

set_option maxHeartbeats 400000 in
theorem take_nil (P : Nat) (w : World) (v : Value) (h : Left P w []) :
    Calls Tryz.prog 214 #[.pointer (some ⟨P, 0, none⟩), v] w fun e w' => e = .returned (.bool false) ∧ Left P w' [] ∧ Ag P w w' := by
  obtain ⟨a, c, h1, h2, h3, h4⟩ := h
  have q1 := h1.2.1
  have q2 := h1.2.2
  go_enter Tryz.func214, Tryz.ntmps214
  go_wp2
  go_ret
  exact ⟨rfl, ⟨a, c, h1, h2, h3, .inl rfl⟩, Ag.refl _ _⟩

set_option maxHeartbeats 400000 in
theorem take_core (P : Nat) (w : World) (t : Pr.T) (l : List Pr.T) (v : Value) (hit : Bool) (h : Left P w (t :: l))
    (hc : Calls Tryz.prog 154 #[v, .string ⟨t.toArray⟩] w fun e w' => e = .returned (.bool hit) ∧ w' = w) :
    Calls Tryz.prog 214 #[.pointer (some ⟨P, 0, none⟩), v] w fun e w' => e = .returned (.bool hit) ∧ Left P w' (if hit then l else t :: l) ∧ Ag P w w' := by
  obtain ⟨a, c, h1, h2, h3, h4⟩ := h
  have q1 := h1.2.1
  have q2 := h1.2.2
  rcases h4 with h4 | ⟨blk, off, rfl, h5, h6, h7⟩
  · cases h4
  obtain ⟨h3, hsm⟩ := h3
  have q0 := h7 0 (by simp)
  simp only [List.length_cons] at h2 h3 q1
  have q0' : w.cell? ⟨blk, off, none⟩ = some (.string ⟨t.toArray⟩) := by simpa using q0
  clear q0
  go_enter Tryz.func214, Tryz.ntmps214
  go_wp2_with fail
  refine hc.mono ?_
  rintro e w1 ⟨rfl, rfl⟩
  cases hit with
  | false =>
    go_wp2
    go_ret
    exact ⟨rfl, ⟨_, c, h1, h2, ⟨h3, hsm⟩, .inr ⟨blk, off, rfl, h5, h6, h7⟩⟩, Ag.refl _ _⟩
  | true =>
    by_cases e : c = 1
    · obtain rfl : l = [] := List.length_eq_zero_iff.1 (by omega)
      subst e
      go_wp2
      go_ret
      exact ⟨rfl, left_set h1 _ _ [] (by simp) ⟨by simp, small_tail hsm⟩ (.inl rfl), (Ag.refl P w1).setCell 0 _⟩
    · go_wp2
      go_ret
      exact ⟨rfl, left_set h1 _ _ l (by omega) ⟨by omega, small_tail hsm⟩ (txts_tail h5 h6 h7), (Ag.refl P w1).setCell 0 _⟩

/-- What take makes of what is left. -/
def took (b : Bool) (l : List Pr.T) : List Pr.T := if b then l.tail else l
def isHead (x : Pr.T) : List Pr.T → Bool
  | [] => false
  | t :: _ => decide (t = x)
theorem take_one (P Q : Nat) (w : World) (l : List Pr.T) (x : Pr.T) (h : Left P w l) (hQ : Row w Q #[.string ⟨x.toArray⟩]) :
    Calls Tryz.prog 214 #[.pointer (some ⟨P, 0, none⟩), .slice (some ⟨Q, 0, none⟩) 1 1] w fun e w' => e = .returned (.bool (isHead x l)) ∧ Left P w' (took (isHead x l) l) ∧ Ag P w w' := by
  cases l with
  | nil => exact take_nil P w _ h
  | cons t l =>
    refine (take_core P w t l _ (decide (t = x)) h ?_).mono fun e w' hh => ?_
    · have := Tryz.slices_Contains_string Q 0 1 1 [⟨x.toArray⟩] ⟨t.toArray⟩ w (by simp) (by simp) (fun j hj => by
        have : j = 0 := by simpa using hj
        subst this
        simpa using hQ.2.1 0)
      simp only [List.take_one, List.head?_cons, Option.toList_some] at this
      rw [cont_one] at this
      exact this
    · obtain ⟨h1, h2, h3⟩ := hh
      refine ⟨h1, ?_, h3⟩
      unfold took isHead
      exact h2
theorem take_two (P Q : Nat) (w : World) (l : List Pr.T) (x y : Pr.T) (h : Left P w l) (hQ : Row w Q #[.string ⟨x.toArray⟩, .string ⟨y.toArray⟩]) :
    Calls Tryz.prog 214 #[.pointer (some ⟨P, 0, none⟩), .slice (some ⟨Q, 0, none⟩) 2 2] w fun e w' => e = .returned (.bool (isHead x l || isHead y l)) ∧ Left P w' (took (isHead x l || isHead y l) l) ∧ Ag P w w' := by
  cases l with
  | nil => exact take_nil P w _ h
  | cons t l =>
    refine (take_core P w t l _ (decide (t = x ∨ t = y)) h ?_).mono fun e w' hh => ?_
    · have := Tryz.slices_Contains_string Q 0 2 2 [⟨x.toArray⟩, ⟨y.toArray⟩] ⟨t.toArray⟩ w (by simp) (by simp) (fun j hj => by
        match j, hj with
        | 0, _ => simpa using hQ.2.1 0
        | 1, _ => simpa using hQ.2.1 1)
      simp only [List.take_succ_cons, List.take_zero] at this
      rw [cont_two] at this
      exact this
    · obtain ⟨h1, h2, h3⟩ := hh
      have : decide (t = x ∨ t = y) = (isHead x (t :: l) || isHead y (t :: l)) := by simp [isHead]
      rw [← this]
      exact ⟨h1, h2, h3⟩

theorem parse_val : ∀ (l : List UInt8) (acc k : Nat), (∀ c ∈ l, Pn.isDig c = true) → acc < 10 ^ k → k + l.length ≤ 18 → Lib.parseUintM (2 ^ 64 - 1) acc l = .ok (l.foldl (fun v c => 10 * v + (c.toNat - 48)) acc) := by
  intro l
  induction l with
  | nil => intro acc k _ _ _; rfl
  | cons c r ih =>
    intro acc k hd ha hk
    have hc := (Pn.isDig_iff c).1 (hd c (by simp))
    simp only [List.length_cons] at hk
    have hp : 10 ^ (k + 1) ≤ 10 ^ 18 := Nat.pow_le_pow_right (by omega) (by omega)
    have hp2 : 10 ^ (k + 1) = 10 * 10 ^ k := by rw [Nat.pow_succ]; omega
    have e18 : (10 : Nat) ^ 18 = 1000000000000000000 := by decide
    have e64 : (2 : Nat) ^ 64 - 1 = 18446744073709551615 := by decide
    simp only [Lib.parseUintM, List.foldl_cons]
    rw [if_pos hc, if_neg (by omega), if_neg (by rw [e64]; omega), show acc * 10 + (c.toNat - 48) = 10 * acc + (c.toNat - 48) by omega]
    exact ih _ (k + 1) (fun x hx => hd x (by simp [hx])) (by omega) (by omega)
theorem parse_digs : ∀ (l : List UInt8) (acc u : Nat), Lib.parseUintM (2 ^ 64 - 1) acc l = .ok u → ∀ c ∈ l, Pn.isDig c = true := by
  intro l
  induction l with
  | nil => intro _ _ _ c hc; cases hc
  | cons x r ih =>
    intro acc u h c hc
    simp only [Lib.parseUintM] at h
    split at h
    · rename_i hx
      split at h
      · cases h
      · split at h
        · cases h
        · rcases List.mem_cons.1 hc with rfl | hc
          · exact (Pn.isDig_iff _).2 hx
          · exact ih _ _ h c hc
    · cases h
theorem digitsB_iff (l : List UInt8) : Pn.digitsB l = true ↔ l ≠ [] ∧ ∀ c ∈ l, Pn.isDig c = true := by
  cases l <;> simp [Pn.digitsB]
theorem parse_fig (t : Pr.T) (v : Nat) (h : Pr.fig t = some v) : Lib.parseUintB 64 t = .ok v ∧ t.length ≤ 9 ∧ (t.length = 1 ∨ t.head? ≠ some 48) ∧ t ≠ [] := by
  unfold Pr.fig at h
  split at h
  · rename_i c
    obtain ⟨c1, c2, c3⟩ := c
    obtain ⟨d1, d2⟩ := (digitsB_iff t).1 c1
    refine ⟨?_, c2, c3, d1⟩
    rw [Lib.parseUintB, if_neg d1, parse_val t 0 0 d2 (by decide) (by omega)]
    injection h with h
    rw [← h]; rfl
  · cases h
theorem parse_nofig (t : Pr.T) (h : Pr.fig t = none) (u : Nat) (hu : Lib.parseUintB 64 t = .ok u) : 9 < t.length ∨ (1 < t.length ∧ t.head? = some 48) := by
  unfold Lib.parseUintB at hu
  split at hu
  · cases hu
  · rename_i hne
    have hd := parse_digs t 0 u hu
    unfold Pr.fig at h
    split at h
    · cases h
    · rename_i c
      have hD := (digitsB_iff t).2 ⟨hne, hd⟩
      rcases Nat.lt_or_ge 9 t.length with h9 | h9
      · exact .inl h9
      · right
        have h1 : t.length ≠ 1 := fun h1 => c ⟨hD, h9, .inl h1⟩
        have h0 : t.length ≠ 0 := fun h0 => hne (List.length_eq_zero_iff.1 h0)
        refine ⟨by omega, ?_⟩
        cases e : decide (t.head? = some 48) with
        | true => exact of_decide_eq_true e
        | false => exact absurd ⟨hD, h9, .inr (of_decide_eq_false e)⟩ c
theorem head_data (t : Pr.T) (h : 0 < t.length) : ∃ c r, t = c :: r := by
  cases t with
  | nil => simp at h
  | cons c r => exact ⟨c, r, rfl⟩
end Go.Proofs.YtaepcfidpekflaaGreatDoor
