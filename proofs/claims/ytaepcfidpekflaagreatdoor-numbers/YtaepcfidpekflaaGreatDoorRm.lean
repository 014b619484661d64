/-
  PLAIN LEAN: groups cut off at the right end, as the document's answer does it, against wWhole. By the verifier.
-/
import Derived.Test.YtaepcfidpekflaaGreatDoorPn
namespace Go.Proofs.YtaepcfidpekflaaGreatDoor.Pn

/-- wWhole of what stands ahead of off digits. -/
def wOff (g : List UInt8) (f n : Nat) (dig : UInt8 → List UInt8) (off : Nat) : Bool → List UInt8 → List UInt8
  | _, [] => []
  | later, c :: r => (if later && endsG f n (r.length + 1 + off) then g else []) ++ (dig c ++ wOff g f n dig off true r)
theorem wOff_zero (g : List UInt8) (f n : Nat) (dig : UInt8 → List UInt8) : ∀ (l : List UInt8) (later : Bool), wOff g f n dig 0 later l = wWhole g f n dig later l
  | [], _ => rfl
  | c :: r, later => by rw [wOff, wWhole, wOff_zero g f n dig r true, Nat.add_zero]

/-- Where the next group is to be cut off: m digits on, behind off digits. -/
def cutAt (f n off m : Nat) : Prop := 0 < f ∧ 0 < n ∧ ((off = 0 ∧ m = f) ∨ (f ≤ off ∧ (off - f) % n = 0 ∧ m = n))
theorem ends_cut (f n off m : Nat) (h : cutAt f n off m) : endsG f n (m + off) = true := by
  obtain ⟨h0, h1, h2⟩ := h
  have hb : (f != 0) = true := by simp; omega
  rcases h2 with ⟨rfl, rfl⟩ | ⟨ho, hm, rfl⟩
  · simp [endsG, hb]
  · rw [endsG, hb, Bool.true_and, decide_eq_true (by omega), Bool.true_and, beq_iff_eq]
    have : m + off - f = (off - f) + m := by omega
    rw [this, Nat.add_mod_right]
    exact hm
theorem ends_not (f n off m j : Nat) (h : cutAt f n off m) (h0 : 0 < j) (hj : j < m) : endsG f n (j + off) = false := by
  obtain ⟨h1, h2, h3⟩ := h
  rcases h3 with ⟨rfl, rfl⟩ | ⟨ho, hm, rfl⟩
  · have : decide (m ≤ j + 0) = false := decide_eq_false (by omega)
    rw [endsG, this, Bool.false_and, Bool.and_false]
  · have e : j + off - f = (off - f) + j := by omega
    have hne : ¬ (j + off - f) % m = 0 := by
      rw [e, Nat.add_mod, hm, Nat.zero_add, Nat.mod_mod, Nat.mod_eq_of_lt hj]
      omega
    rw [endsG]
    have : ((j + off - f) % m == 0) = false := by rw [beq_eq_false_iff_ne]; exact hne
    rw [this, Bool.and_false, Bool.and_false]
theorem cut_next (f n off m : Nat) (h : cutAt f n off m) : cutAt f n (off + m) n := by
  obtain ⟨h1, h2, h3⟩ := h
  refine ⟨h1, h2, Or.inr ?_⟩
  rcases h3 with ⟨rfl, rfl⟩ | ⟨ho, hm, rfl⟩
  · exact ⟨by omega, by simp, rfl⟩
  · refine ⟨by omega, ?_, rfl⟩
    have : off + m - f = (off - f) + m := by omega
    rw [this, Nat.add_mod_right]
    exact hm
/-- Digits in which no group ends. -/
theorem wOff_in (g : List UInt8) (f n : Nat) (dig : UInt8 → List UInt8) (off m : Nat) (h : cutAt f n off m) : ∀ (l : List UInt8) (later : Bool), (l.length < m ∨ (l.length ≤ m ∧ later = false)) → wOff g f n dig off later l = l.flatMap dig
  | [], _, _ => rfl
  | c :: r, later, hl => by
    have hr : wOff g f n dig off true r = r.flatMap dig := wOff_in g f n dig off m h r true (Or.inl (by simp at hl; omega))
    rw [wOff, hr, List.flatMap_cons]
    rcases hl with hl | ⟨hl, rfl⟩
    · rw [ends_not f n off m (r.length + 1) h (by omega) (by simpa using hl)]
      simp
    · simp
/-- A group is cut off. -/
theorem wOff_cut (g : List UInt8) (f n : Nat) (dig : UInt8 → List UInt8) (off m : Nat) (h : cutAt f n off m) (y : List UInt8) (hy : y.length = m) : ∀ (x : List UInt8) (later : Bool), (x ≠ [] ∨ later = true) → wOff g f n dig off later (x ++ y) = wOff g f n dig (off + m) later x ++ (g ++ y.flatMap dig)
  | [], later, hx => by
    rcases hx with hx | rfl
    · exact absurd rfl hx
    cases y with
    | nil =>
      exfalso
      obtain ⟨h1, h2, h3⟩ := h
      simp at hy
      omega
    | cons c r =>
      have hr : wOff g f n dig off true r = r.flatMap dig := wOff_in g f n dig off m h r true (Or.inl (by simp at hy; omega))
      have he : endsG f n (r.length + 1 + off) = true := by
        have : r.length + 1 = m := by simpa using hy
        rw [this]; exact ends_cut f n off m h
      have e0 : wOff g f n dig (off + m) true [] = [] := rfl
      rw [List.nil_append, e0, List.nil_append, wOff, hr, he, List.flatMap_cons]
      simp
  | c :: r, later, _ => by
    rw [List.cons_append, wOff, wOff, wOff_cut g f n dig off m h y hy r true (Or.inr rfl)]
    have e : (r ++ y).length + 1 + off = r.length + 1 + (off + m) := by simp; omega
    rw [e]
    simp
end Go.Proofs.YtaepcfidpekflaaGreatDoor.Pn
