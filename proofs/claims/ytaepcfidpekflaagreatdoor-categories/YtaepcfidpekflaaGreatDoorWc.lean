/-
  isZero, hasSigns, and Parse (P2) by their contracts. By the verifier.
-/
import Derived.Test.YtaepcfidpekflaaGreatDoorWa
import Derived.Test.YtaepcfidpekflaaGreatDoorBase
import Derived.Test.YtaepcfidpekflaaGreatDoorSh
namespace Go.Proofs.YtaepcfidpekflaaGreatDoor
open Go.RowKit

theorem dropWhile_nil (l : List UInt8) (c : UInt8) : l.dropWhile (· == c) = [] ↔ l.all (· == c) = true := by
  induction l with
  | nil => simp
  | cons x r ih =>
    by_cases h : (x == c) = true
    · simp only [List.dropWhile, h, ih, List.all_cons, Bool.true_and]
    · simp [List.dropWhile, h]
theorem trim_zero (l : List UInt8) : (Lib.trimB l 48).isEmpty = Pn.zeroB l := by
  have h1 : Lib.trimB l 48 = [] ↔ l.all (· == 48) = true := by
    unfold Lib.trimB Lib.trimLeftB Lib.trimRightB
    rw [dropWhile_nil]
    constructor
    · intro h
      rw [List.all_eq_true] at h
      have h0 : l.reverse.dropWhile (· == 48) = [] := by
        cases hd : l.reverse.dropWhile (· == 48) with
        | nil => rfl
        | cons x r =>
          have hx := List.head_dropWhile_not (· == (48 : UInt8)) (l := l.reverse) (by rw [hd]; simp)
          have hm : x ∈ (l.reverse.dropWhile (· == 48)).reverse := by rw [hd]; simp
          have := h x hm
          simp [hd] at hx
          simp [hx] at this
      rw [dropWhile_nil, List.all_reverse] at h0
      exact h0
    · intro h
      have : l.reverse.dropWhile (· == 48) = [] := by rw [dropWhile_nil, List.all_reverse]; exact h
      rw [this]; rfl
  rw [Pn.zeroB, Bool.eq_iff_iff, List.isEmpty_iff, h1]

theorem isDigits_l (l : List UInt8) (w : World) :
    Calls Tryz.prog 79 #[.string ⟨l.toArray⟩] w fun e w' => e = .returned (.bool (Pn.digitsB l)) ∧ Below w.heap.size w w' := isDigits_any ⟨l.toArray⟩ w
theorem isWhole_l (l : List UInt8) (w : World) :
    Calls Tryz.prog 78 #[.string ⟨l.toArray⟩] w fun e w' => e = .returned (.bool (Pn.wholeB l)) ∧ Below w.heap.size w w' := isWhole_any ⟨l.toArray⟩ w

set_option maxHeartbeats 400000 in
theorem isZero_l (l : List UInt8) (w : World) (hl : l.length ≤ 4294967280) :
    Calls Tryz.prog 80 #[.string ⟨l.toArray⟩] w fun e w' => e = .returned (.bool (Pn.zeroB l)) ∧ Below w.heap.size w w' := by
  have HZ : Hid ((Lib.trimB l 48).isEmpty = Pn.zeroB l) := trim_zero l
  go_enter Tryz.func80, Tryz.ntmps80
  go_wp2_with fail
  refine (Tryz.strings_Trim_one ⟨l.toArray⟩ 48 (by decide) _ (by rw [Lib.size_mk]; omega)).mono ?_
  rintro e w1 ⟨rfl, hw⟩
  have hb : Below w.heap.size w w1 := by
    rcases hw with rfl | rfl
    · exact Below.refl _ _
    · exact (Below.refl _ _).drew
  clear hw
  generalize Lib.trimB l 48 = t at HZ
  go_wp2
  go_ret
  exact ⟨ret_bool HZ.out, hb⟩

theorem cutPrefix_l (s : ByteArray) (w : World) :
    Calls Tryz.prog 76 #[.string s, .string ⟨#[45]⟩] w fun e w' => e = .returned (.tuple #[.string ⟨(Pn.restOf s.data.toList).toArray⟩, .bool (Pn.minusOf s.data.toList)]) ∧ w' = w := Tryz.strings_CutPrefix s ⟨#[45]⟩ w
theorem cut_l (l : List UInt8) (w : World) (hl : l.length < 4294967281) (hB : Base w) :
    Calls Tryz.prog 77 #[.string ⟨l.toArray⟩, .string ⟨#[46]⟩] w fun e w' => e = .returned (.tuple #[.string ⟨(Lib.cut l [46]).1.toArray⟩, .string ⟨(Lib.cut l [46]).2.1.toArray⟩, .bool (Lib.cut l [46]).2.2]) ∧ Below w.heap.size w w' := by
  obtain ⟨_, ⟨m, hm⟩, _⟩ := hB
  refine (Tryz.strings_Cut ⟨l.toArray⟩ ⟨#[46]⟩ m w (by rw [Lib.size_mk]; exact hl) hm).mono ?_
  rintro e w' ⟨rfl, n, rfl⟩
  exact ⟨rfl, below_drewN (Below.refl _ _) n⟩

/-! ### Parse -/
theorem cut_len (r a b : List UInt8) (p : Bool) (h : Lib.cut r [46] = (a, b, p)) : a.length + b.length ≤ r.length := by
  rcases Pn.cut_spec r with ⟨_, h2, _⟩ | ⟨_, h2, h3, _⟩
  · rw [h] at h2
    rw [h2]; simp
  · rw [h] at h2 h3
    simp only at h2 h3
    rw [h2, h3]; simp

end Go.Proofs.YtaepcfidpekflaaGreatDoor
