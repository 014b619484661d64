/-
  Several texts in one (Jh). By the verifier.
-/
import Derived.Test.YtaepcfidpekflaaGreatDoorU33
namespace Go.Proofs.YtaepcfidpekflaaGreatDoor.Dk
open Go.Proofs.YtaepcfidpekflaaGreatDoor Pg

theorem fault_op (x : Sc) (e a : Nat) : (x.fault e a).opens = x.opens := by unfold Sc.fault; split <;> rfl
theorem name_op (s : T) (x : Sc) : (x.name s).opens = x.opens := by unfold Sc.name Sc.go; split; exact fault_op _ _ _; rfl
theorem whole_op (s : T) (x : Sc) : (x.whole s).opens = x.opens := by unfold Sc.whole Sc.go; split; exact fault_op _ _ _; rfl
theorem needs_op (s : T) (x : Sc) (c : UInt8) : (x.needs s c).opens = x.opens := by unfold Sc.needs; split; rfl; exact fault_op _ _ _
theorem blanks_op (s : T) (x : Sc) : (x.blanks s).opens = x.opens := rfl
theorem say_op (x : Sc) (t : T) : (x.say t).opens = x.opens := by unfold Sc.say; split <;> rfl
theorem go_op (x : Sc) (n : Nat) : (x.go n).opens = x.opens := rfl
theorem put_op (x : Sc) (m : Mark) : (x.put m).opens = x.opens := rfl
theorem opened_op (s : T) (x : Sc) (num : Bool) (m : Mark) : (x.opened s num m).opens.length = x.opens.length + 1 := by
  unfold Sc.opened
  simp only
  rw [List.length_append]
  split
  · rw [fault_op, needs_op, blanks_op]; rfl
  · rw [needs_op, blanks_op]; rfl
theorem branch_op (s : T) (x : Sc) (num : Bool) : (x.branch s num).opens.length ≤ x.opens.length + 1 := by
  unfold Sc.branch
  split
  · omega
  · split
    · rw [opened_op, whole_op, go_op]; exact Nat.le_refl _
    · simp only
      rw [opened_op]
      split
      · rw [fault_op, name_op]; exact Nat.le_refl _
      · rw [name_op]; exact Nat.le_refl _
theorem behind_op (s : T) (x : Sc) : (x.behind s).opens.length ≤ x.opens.length + 1 := by
  unfold Sc.behind
  simp only
  split
  · show (x.opens.dropLast).length ≤ _
    rw [List.length_dropLast]
    omega
  · have h := branch_op s (({ x with opens := x.opens.dropLast } : Sc).blanks s) x.byNumber
    rw [blanks_op] at h
    have h2 : (x.opens.dropLast).length ≤ x.opens.length := by rw [List.length_dropLast]; omega
    exact Nat.le_trans h (by show (x.opens.dropLast).length + 1 ≤ _; omega)
theorem args_op (s : T) (x : Sc) (known : Nat) (m : Mark) : (x.args s known m).opens.length ≤ x.opens.length + 1 := by
  unfold Sc.args
  simp only
  split
  · have h := branch_op s (((((((x.needs s 44).blanks s).go 7).blanks s).whole s).blanks s).put { m with offset := ((((x.needs s 44).blanks s).go 7).blanks s).wholeT s }) true
    rw [put_op, blanks_op, whole_op, blanks_op, go_op, blanks_op, needs_op] at h
    exact h
  · have h := branch_op s ((((x.needs s 44).blanks s)).put { m with offset := [48] }) (decide (known < 3))
    rw [put_op, blanks_op, needs_op] at h
    exact h
theorem brace_op (s : T) (x : Sc) : (x.brace s).opens.length ≤ x.opens.length + 1 := by
  have hb : ((((x.go 1).blanks s).name s).blanks s).opens = x.opens := by rw [blanks_op, name_op]; rfl
  unfold Sc.brace
  simp only
  generalize (((x.go 1).blanks s).name s).blanks s = b at *
  split
  · rw [hb]; omega
  · split
    · rw [put_op, needs_op, hb]; omega
    · split
      · rw [fault_op, name_op, blanks_op, go_op, hb]; omega
      · split
        · rw [put_op, needs_op, blanks_op, name_op, blanks_op, go_op, hb]; omega
        · have h := args_op s ((((b.go 1).blanks s).name s).blanks s) (knownOf (((b.go 1).blanks s).nameT s)) { kind := 40, name := ((x.go 1).blanks s).nameT s, how := ((b.go 1).blanks s).nameT s, at_ := x.i }
          rw [blanks_op, name_op, blanks_op, go_op, hb] at h
          exact h
theorem quote_op : ∀ (k : Nat) (x : Sc) (r : T), (x.quoteGo k r).opens = x.opens := by
  intro k
  induction k with
  | zero => intro x r; rfl
  | succ k ih =>
    intro x r
    rw [Sc.quoteGo]
    simp only
    split
    · rw [go_op, say_op]
    · split
      · split
        · rw [ih, go_op, say_op, go_op, go_op, say_op]
        · rw [go_op, go_op, say_op]
      · rw [go_op, go_op, say_op]
theorem apos_op (s : T) (x : Sc) (num : Bool) : (x.apostrophe s num).opens = x.opens := by
  unfold Sc.apostrophe
  simp only
  split
  · rw [say_op, go_op]
  · split
    · rw [say_op, go_op, go_op]
    · split
      · rw [quote_op, go_op]
      · rw [say_op, go_op]
theorem one_op (s : T) (x : Sc) : (x.one s).opens.length ≤ x.opens.length + 1 := by
  unfold Sc.one
  split
  · omega
  · split
    · rw [apos_op]; omega
    · split
      · exact brace_op s x
      · split
        · rw [fault_op]; omega
        · split
          · exact behind_op s ((x.go 1).put { kind := 93 })
          · split
            · rw [put_op, go_op]; omega
            · rw [say_op, go_op]; omega
end Go.Proofs.YtaepcfidpekflaaGreatDoor.Dk
