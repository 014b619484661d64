/-
  Several texts in one (Je). By the verifier.
-/
import Derived.Test.YtaepcfidpekflaaGreatDoorU38
namespace Go.Proofs.YtaepcfidpekflaaGreatDoor
open Go.RowKit

/-- Which one it is; -1: none. -/
def PlaceIx (l : List Pr.T) (t : Pr.T) (k : Int) : Prop := k = -1 ∧ t ∉ l ∨ ∃ j : Nat, k = j ∧ j < l.length ∧ l.getD j [] = t ∧ ∀ i, i < j → l.getD i [] ≠ t
set_option maxHeartbeats 800000 in
theorem place_ix (w : World) (l : List Pr.T) (t : Pr.T) (blk off c : Nat) (hl : l.length ≤ 1000000) (_hcap : l.length ≤ c) (_hb : blk < w.heap.size) (hcell : ∀ j, j < l.length → w.cell? ⟨blk, off + j, none⟩ = some (strV (l.getD j []))) :
    Calls Tryz.prog 58 #[.slice (some ⟨blk, off, none⟩) l.length c, .string ⟨t.toArray⟩] w fun e w' => (∃ k, e = .returned (.int .i64 k) ∧ PlaceIx l t k) ∧ w' = w := by
  have HC : Hid (∀ j, j < l.length → w.cell? ⟨blk, off + j, none⟩ = some (strV (l.getD j []))) := hcell
  clear hcell
  go_enter Tryz.func58, Tryz.ntmps58
  go_wp2_with fail
  go_loop [5] (fun i => ∃ k : Nat, k ≤ l.length ∧ i = .int .i64 k ∧ Hid (∀ j, j < k → l.getD j [] ≠ t)) (fun i => l.length - (intOf i).toNat)
  case atStart => exact ⟨0, Nat.zero_le _, rfl, fun j h => absurd h (Nat.not_lt_zero _)⟩
  case round =>
    obtain ⟨k, hk, rfl, HK⟩ := hrel
    by_cases hlt : k < l.length
    · have hlt' : (k : Int) < l.length := by omega
      have ck := HC.out k hlt
      unfold strV at ck
      obtain ⟨u, hu⟩ : ∃ u, l.getD k [] = u := ⟨_, rfl⟩
      have HU : Hid (l.getD k [] = u) := hu
      rw [hu] at ck
      by_cases hut : u = t
      · have hut' : (u == t) = true := by rw [beq_iff_eq]; exact hut
        have HM : Hid (l.getD k [] = t) := by show _ = _; rw [← hut]; exact hu
        clear hut hu HU
        go_wp2
        go_ret
        exact ⟨⟨k, rfl, .inr ⟨k, rfl, hlt, HM.out, HK.out⟩⟩, rfl⟩
      · have hut' : (u == t) = false := by rw [beq_eq_false_iff_ne]; exact hut
        have HK2 : Hid (∀ j, j < k + 1 → l.getD j [] ≠ t) := by
          intro j hj
          by_cases e : j = k
          · rw [e, hu]; exact hut
          · exact HK.out j (by omega)
        clear hut hu HK HU
        go_wp2
        go_round
        case rel => exact ⟨k + 1, hlt, by go_num, HK2⟩
        case measure => simp [intOf]; omega
    · have hlt' : ¬ (k : Int) < l.length := by omega
      have HM : Hid (t ∉ l) := mem_not (fun j hj => HK.out j (by omega))
      clear HK
      go_wp2
      go_ret
      exact ⟨⟨-1, rfl, .inl ⟨rfl, HM.out⟩⟩, rfl⟩
def kinds4 : List Pr.T := [[110, 117, 109, 98, 101, 114], [112, 108, 117, 114, 97, 108], [115, 101, 108, 101, 99, 116, 111, 114, 100, 105, 110, 97, 108], [115, 101, 108, 101, 99, 116]]
theorem known_ix (t : Pr.T) (k : Int) (h : PlaceIx kinds4 t k) : (k = -1 ∧ Dk.knownOf t = 4) ∨ (k = Dk.knownOf t ∧ Dk.knownOf t < 4) := by
  rcases h with ⟨h1, h2⟩ | ⟨j, rfl, hj, ht, _⟩
  · left
    refine ⟨h1, ?_⟩
    simp only [kinds4, List.mem_cons, List.not_mem_nil, or_false, not_or] at h2
    obtain ⟨a, b, c, d⟩ := h2
    unfold Dk.knownOf
    rw [if_neg a, if_neg b, if_neg c, if_neg d]
  · right
    have : j = 0 ∨ j = 1 ∨ j = 2 ∨ j = 3 := by
      simp [kinds4] at hj
      omega
    rcases this with rfl | rfl | rfl | rfl <;> (subst ht; decide)
end Go.Proofs.YtaepcfidpekflaaGreatDoor
