/-
  Several texts in one (Jp). By the verifier.
-/
import Derived.Test.YtaepcfidpekflaaGreatDoorU07
import Derived.Test.YtaepcfidpekflaaGreatDoorU33
import Derived.Test.YtaepcfidpekflaaGreatDoorU44
import Derived.Test.YtaepcfidpekflaaGreatDoorU08
namespace Go.Proofs.YtaepcfidpekflaaGreatDoor.Pg
open Go.Proofs.YtaepcfidpekflaaGreatDoor

theorem ends_in {o : Nat → Nat} : ∀ (t : Tr) (P Q : List Dk.Mark) (i : Nat) (m : Dk.Mark), P.length ≤ i → i < P.length + (flat o t).length → (P ++ (flat o t ++ Q))[i]? = some m → m.kind = 40 → Dk.endAt (P ++ (flat o t ++ Q)) i < P.length + (flat o t).length := by
  intro t
  have step : ∀ (r : Tr) (ih : ∀ (P Q : List Dk.Mark) (i : Nat) (m : Dk.Mark), P.length ≤ i → i < P.length + (flat o r).length → (P ++ (flat o r ++ Q))[i]? = some m → m.kind = 40 → Dk.endAt (P ++ (flat o r ++ Q)) i < P.length + (flat o r).length) (x : Dk.Mark) (hx : x.kind ≠ 40) (P Q : List Dk.Mark) (i : Nat) (m : Dk.Mark), P.length ≤ i → i < P.length + (x :: flat o r).length → (P ++ ((x :: flat o r) ++ Q))[i]? = some m → m.kind = 40 → Dk.endAt (P ++ ((x :: flat o r) ++ Q)) i < P.length + (x :: flat o r).length := by
    intro r ih x hx P Q i m h1 h2 h3 h4
    have e : P ++ ((x :: flat o r) ++ Q) = (P ++ [x]) ++ (flat o r ++ Q) := by simp
    by_cases hi : i = P.length
    · subst hi
      rw [List.cons_append, at_app] at h3
      injection h3 with h3
      rw [h3] at hx
      exact absurd h4 hx
    · rw [e] at h3 ⊢
      have := ih (P ++ [x]) Q i m (by simp; omega) (by simp at h2 ⊢; omega) h3 h4
      simp at this ⊢
      omega
  have open_ : ∀ (bs r : Tr) (ih1 : ∀ (P Q : List Dk.Mark) (i : Nat) (m : Dk.Mark), P.length ≤ i → i < P.length + (flat o bs).length → (P ++ (flat o bs ++ Q))[i]? = some m → m.kind = 40 → Dk.endAt (P ++ (flat o bs ++ Q)) i < P.length + (flat o bs).length) (ih2 : ∀ (P Q : List Dk.Mark) (i : Nat) (m : Dk.Mark), P.length ≤ i → i < P.length + (flat o r).length → (P ++ (flat o r ++ Q))[i]? = some m → m.kind = 40 → Dk.endAt (P ++ (flat o r ++ Q)) i < P.length + (flat o r).length) (x c : Dk.Mark) (hx : Dk.delta x = 1) (hc : Dk.delta c = -1) (hk : c.kind ≠ 40) (P Q : List Dk.Mark) (i : Nat) (m : Dk.Mark), P.length ≤ i → i < P.length + (x :: (flat o bs ++ c :: flat o r)).length → (P ++ ((x :: (flat o bs ++ c :: flat o r)) ++ Q))[i]? = some m → m.kind = 40 → Dk.endAt (P ++ ((x :: (flat o bs ++ c :: flat o r)) ++ Q)) i < P.length + (x :: (flat o bs ++ c :: flat o r)).length := by
    intro bs r ih1 ih2 x c hx hc hk P Q i m h1 h2 h3 h4
    have e0 : P ++ ((x :: (flat o bs ++ c :: flat o r)) ++ Q) = P ++ x :: (flat o bs ++ c :: (flat o r ++ Q)) := by simp
    have e1 : P ++ ((x :: (flat o bs ++ c :: flat o r)) ++ Q) = (P ++ [x]) ++ (flat o bs ++ (c :: (flat o r ++ Q))) := by simp
    have e2 : P ++ ((x :: (flat o bs ++ c :: flat o r)) ++ Q) = (P ++ x :: flat o bs) ++ ((c :: flat o r) ++ Q) := by simp
    have L : (x :: (flat o bs ++ c :: flat o r)).length = (flat o bs).length + (flat o r).length + 2 := by simp; omega
    rw [L] at h2 ⊢
    by_cases hi : i = P.length
    · subst hi
      rw [e0, endAt_open hx hc]
      omega
    · by_cases hj : i < P.length + 1 + (flat o bs).length
      · rw [e1] at h3 ⊢
        have := ih1 (P ++ [x]) _ i m (by simp; omega) (by simp; omega) h3 h4
        simp at this ⊢
        omega
      · rw [e2] at h3 ⊢
        have := step r ih2 c hk (P ++ x :: flat o bs) Q i m (by simp; omega) (by simp; omega) h3 h4
        simp at this ⊢
        omega
  induction t with
  | nil => intro P Q i m h1 h2; simp [flat] at h2; omega
  | text t r ih => exact step r ih _ (by simp)
  | sign r ih => exact step r ih _ (by simp)
  | simple n a r ih => exact step r ih _ (by simp)
  | num n a r ih => exact step r ih _ (by simp)
  | sel n a bs e r ih1 ih2 => exact open_ bs r ih1 ih2 _ _ rfl rfl (by simp)
  | plu n a ord off bs e r ih1 ih2 => exact open_ bs r ih1 ih2 _ _ rfl rfl (by simp)
  | br w a m r ih1 ih2 => exact open_ m r ih1 ih2 _ _ rfl rfl (by simp)
theorem ends_flat {o : Nat → Nat} (t : Tr) (i : Nat) (m : Dk.Mark) (h : (flat o t)[i]? = some m) (hk : m.kind = 40) : Dk.endAt (flat o t) i < (flat o t).length := by
  have hi : i < (flat o t).length := by
    rcases Nat.lt_or_ge i (flat o t).length with h' | h'
    · exact h'
    · rw [List.getElem?_eq_none h'] at h; cases h
  have := ends_in (o := o) t [] [] i m (Nat.zero_le _) (by simpa using hi) (by simpa using h) hk
  simpa using this
end Go.Proofs.YtaepcfidpekflaaGreatDoor.Pg
namespace Go.Proofs.YtaepcfidpekflaaGreatDoor.Dk
/-- The document's reading: marks, fault, its place in code points. -/
def readS (s : T) : List Mark × Nat × Nat :=
  if 1000 < s.length then ([], 1, 0)
  else if Pn.ptsLen s < s.length then ([], 2, (Pn.pts s).length)
  else if (marks s).err ≠ 0 then ([], (marks s).err, (Pn.pts (s.take (marks s).place)).length)
  else if (faults (marks s).out).1 ≠ 0 then ([], (faults (marks s).out).1, (Pn.pts (s.take (faults (marks s).out).2)).length)
  else ((marks s).out, 0, 0)
/-- What the document's reading needs of the marks. -/
def ReadOk (s : T) : Prop := s.length ≤ 1000 → Pn.ptsLen s = s.length → (marks s).place ≤ s.length ∧ ((marks s).err = 0 → (marks s).out.length ≤ 3016 ∧ (∀ i m, (marks s).out[i]? = some m → m.kind = 40 → endAt (marks s).out i < (marks s).out.length) ∧ (faults (marks s).out).2 ≤ s.length)
end Go.Proofs.YtaepcfidpekflaaGreatDoor.Dk
