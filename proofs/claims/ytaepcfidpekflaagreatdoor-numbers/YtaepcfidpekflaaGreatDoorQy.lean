/-
  The six categories; IsCategory, mayHaveRule by their contracts. By the verifier.
-/
import Derived.Test.YtaepcfidpekflaaGreatDoorSw
import Derived.Test.YtaepcfidpekflaaGreatDoorBase
import Derived.Test.YtaepcfidpekflaaGreatDoorPr
namespace Go.Proofs.YtaepcfidpekflaaGreatDoor
open Go.RowKit

/-- The six categories, in the program's order. -/
def sixT : List Pr.T := [[122, 101, 114, 111], [111, 110, 101], [116, 119, 111], [102, 101, 119], [109, 97, 110, 121], [111, 116, 104, 101, 114]]
def sixV : Array Value := #[.string ⟨#[122, 101, 114, 111]⟩, .string ⟨#[111, 110, 101]⟩, .string ⟨#[116, 119, 111]⟩, .string ⟨#[102, 101, 119]⟩, .string ⟨#[109, 97, 110, 121]⟩, .string ⟨#[111, 116, 104, 101, 114]⟩]
set_option maxHeartbeats 400000 in
theorem categories6_any (w : World) : Calls Tryz.prog 155 #[] w fun e w' => e = .returned (.slice (some ⟨w.heap.size, 0, none⟩) 6 6) ∧ Row w' w.heap.size sixV ∧ Below w.heap.size w w' := by
  go_enter Tryz.func155, Tryz.ntmps155
  go_wp2
  go_ret
  exact ⟨rfl, row_at w sixV _, (Below.refl _ _).alloc (Nat.le_refl _) _⟩
set_option maxHeartbeats 400000 in
theorem isCategory_any (n : Pr.T) (w : World) : Calls Tryz.prog 123 #[.string ⟨n.toArray⟩] w fun e w' => e = .returned (.bool (decide (n ∈ sixT))) ∧ Below w.heap.size w w' := by
  have hin : Hid (Lib.containsS ((sixT.map fun t => (⟨t.toArray⟩ : ByteArray)).take 6) ⟨n.toArray⟩ = decide (n ∈ sixT)) := by
    show _ = _
    rw [Bool.eq_iff_iff, Lib.containsS_iff, decide_eq_true_eq]
    simp [sixT]
  go_enter Tryz.func123, Tryz.ntmps123
  go_wp2_with fail
  refine (categories6_any w).mono ?_
  rintro e w1 ⟨rfl, hr, hb⟩
  have hc : ∀ j, j < (sixT.map fun t => (⟨t.toArray⟩ : ByteArray)).length → w1.cell? ⟨w.heap.size, 0 + j, none⟩ = some (.string ((sixT.map fun t => (⟨t.toArray⟩ : ByteArray)).getD j ByteArray.empty)) := by
    intro j hj
    rw [Nat.zero_add, hr.2.1 j]
    match j, hj with
    | 0, _ => rfl
    | 1, _ => rfl
    | 2, _ => rfl
    | 3, _ => rfl
    | 4, _ => rfl
    | 5, _ => rfl
  have cc := Tryz.slices_Contains_string w.heap.size 0 6 6 (sixT.map fun t => (⟨t.toArray⟩ : ByteArray)) ⟨n.toArray⟩ w1 (by simp [sixT]) (by decide) hc
  go_wp2_with fail
  refine cc.mono ?_
  rintro e w2 ⟨rfl, rfl⟩
  go_wp2
  go_ret
  exact ⟨by rw [hin.out]; rfl, hb⟩
theorem six_cat (n : Pr.T) (h : n ≠ [111, 116, 104, 101, 114]) : decide (n ∈ sixT) = Pr.catB n := by
  unfold sixT Pr.catB
  simp [h]
set_option maxHeartbeats 400000 in
theorem mayHaveRule_any (n : Pr.T) (w : World) : Calls Tryz.prog 91 #[.string ⟨n.toArray⟩] w fun e w' => e = .returned (.bool (Pr.catB n)) ∧ Below w.heap.size w w' := by
  by_cases h : n = [111, 116, 104, 101, 114]
  · subst h
    go_enter Tryz.func91, Tryz.ntmps91
    go_wp2
    go_ret
    exact ⟨rfl, Below.refl _ _⟩
  · have hc := isCategory_any n w
    rw [six_cat n h] at hc
    have h' : (n == [111, 116, 104, 101, 114]) = false := by simpa using h
    clear h
    generalize Pr.catB n = R at *
    go_enter Tryz.func91, Tryz.ntmps91
    go_wp2_with fail
    refine hc.mono ?_
    rintro e w1 ⟨rfl, hb⟩
    go_wp2
    go_ret
    exact ⟨rfl, hb⟩
end Go.Proofs.YtaepcfidpekflaaGreatDoor
