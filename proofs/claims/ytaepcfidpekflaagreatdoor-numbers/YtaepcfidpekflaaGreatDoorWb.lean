/-
  The contracts of endsGroup, groupsOf, digitsOf of no digits. By the verifier.
-/
import Derived.Test.YtaepcfidpekflaaGreatDoorProg
import Derived.Test.YtaepcfidpekflaaGreatDoorPn
import Derived.WalkKit
import Derived.WalkSpells
import Derived.WalkLawsBesides
import Derived.BigQuiet
namespace Go.Proofs.YtaepcfidpekflaaGreatDoor
open Go.RowKit
variable {u0 u1 : Option Addr} {v0 x0 v1 x1 : Nat}

theorem ret_two {k l : IntKind} {a b c d : Int} (h : a = b) (h2 : c = d) : Ending.returned (.tuple #[.int k a, .int l c]) = .returned (.tuple #[.int k b, .int l d]) := by rw [h, h2]
theorem ends_yes (f n left : Nat) (h0 : ¬ f = 0) (hfl : f ≤ left) : (((left : Int) - f) % n == 0) = Pn.endsG f n left := by
  have e : ((left : Int) - f) = ((left - f : Nat) : Int) := by omega
  have hb : (f != 0) = true := by simp [h0]
  rw [e, Pn.endsG, hb, Bool.true_and, decide_eq_true hfl, Bool.true_and, Bool.eq_iff_iff, beq_iff_eq, beq_iff_eq]
  omega
theorem ret_bool2 {a b : Bool} (h : a = b) : Ending.returned (.bool a) = .returned (.bool b) := by rw [h]

set_option maxHeartbeats 400000 in
theorem endsGroup_any (mi po g d0 d1 d2 d3 d4 d5 d6 d7 d8 d9 : Int) (f n left : Nat) (w : World) (hf : f ≤ 9) (hn : n ≤ 9) (h1 : f ≠ 0 → n ≠ 0) (hl : left ≤ 1000) :
    Calls Tryz.prog 82 #[.agg #[.int .i32 mi, .int .i32 po, .int .i32 g, .int .i64 f, .int .i64 n, .int .i32 d0, .int .i32 d1, .int .i32 d2, .int .i32 d3, .int .i32 d4, .int .i32 d5, .int .i32 d6, .int .i32 d7, .int .i32 d8, .int .i32 d9, .slice u0 v0 x0, .slice u1 v1 x1], .int .i64 left] w fun e w' => e = .returned (.bool (Pn.endsG f n left)) ∧ w' = w.alloc (.cells #[.int .i32 mi, .int .i32 po, .int .i32 g, .int .i64 f, .int .i64 n, .int .i32 d0, .int .i32 d1, .int .i32 d2, .int .i32 d3, .int .i32 d4, .int .i32 d5, .int .i32 d6, .int .i32 d7, .int .i32 d8, .int .i32 d9, .slice u0 v0 x0, .slice u1 v1 x1] 105) := by
  by_cases h0 : f = 0
  · subst h0
    go_enter Tryz.func82, Tryz.ntmps82
    go_wp2
    go_ret
    exact ⟨ret_bool2 (by simp [Pn.endsG]), rfl⟩
  · have hn0 := h1 h0
    have hb0 : ((f : Int) != 0) = true := by simp; omega
    have hpos : (0 : Int) < n := by omega
    by_cases hfl : f ≤ left
    · go_enter Tryz.func82, Tryz.ntmps82
      go_wp2
      go_ret
      exact ⟨ret_bool2 (ends_yes f n left h0 hfl), rfl⟩
    · go_enter Tryz.func82, Tryz.ntmps82
      go_wp2
      go_ret
      exact ⟨ret_bool2 (by simp [Pn.endsG, hfl]), rfl⟩

set_option maxHeartbeats 400000 in
theorem digitsOf_none (w : World) :
    Calls Tryz.prog 73 #[.string ⟨#[]⟩] w fun e w' => e = .returned (.tuple #[.agg #[.int .i32 48, .int .i32 49, .int .i32 50, .int .i32 51, .int .i32 52, .int .i32 53, .int .i32 54, .int .i32 55, .int .i32 56, .int .i32 57], .bool true]) ∧ Below w.heap.size w w' := by
  go_enter Tryz.func73, Tryz.ntmps73
  go_wp2
  exact bodyPost_ret (v := .tuple #[.agg #[.int .i32 48, .int .i32 49, .int .i32 50, .int .i32 51, .int .i32 52, .int .i32 53, .int .i32 54, .int .i32 55, .int .i32 56, .int .i32 57], .bool true]) (by simp [results, Tryz.results73, go_sem]) rfl ⟨rfl, (Below.refl _ _).alloc (Nat.le_refl _) _⟩

set_option maxHeartbeats 400000 in
theorem groupsOf_any (a0 a1 : Option Addr) (n0 c0 n1 c1 : Nat) (mi po g : Int) (f n : Nat) (d : ByteArray) (w : World) (hf : f ≤ 9) (hn : n ≤ 9) :
    Calls Tryz.prog 75 #[.agg #[.slice a0 n0 c0, .slice a1 n1 c1, .int .i32 mi, .int .i32 po, .int .i32 g, .int .u8 f, .int .u8 n, .string d]] w fun e w' => e = .returned (.tuple #[.int .i64 (Pn.firstOf g f : Nat), .int .i64 (Pn.nextOf g f n : Nat)]) ∧ Below w.heap.size w w' := by
  by_cases hg : g = 0
  · subst hg
    go_enter Tryz.func75, Tryz.ntmps75
    go_wp2
    go_ret2
    exact ⟨ret_two (by simp [Pn.firstOf]) (by simp [Pn.nextOf]), (Below.refl _ _).alloc (Nat.le_refl _) _⟩
  · have hg0 : (g == 0) = false := by simpa using hg
    by_cases h0 : f = 0
    · subst h0
      go_enter Tryz.func75, Tryz.ntmps75
      go_wp2
      go_ret2
      exact ⟨ret_two (by simp [Pn.firstOf]) (by simp [Pn.nextOf]), (Below.refl _ _).alloc (Nat.le_refl _) _⟩
    · have hb0 : ((f : Int) == 0) = false := by simp; omega
      by_cases hn0 : n = 0
      · subst hn0
        go_enter Tryz.func75, Tryz.ntmps75
        go_wp2
        go_quiet (fail)
        go_wp2
        go_ret2
        exact ⟨ret_two (by simp [Pn.firstOf, hg, h0]) (by simp [Pn.nextOf, hg, h0]), below_drewN ((Below.refl _ _).alloc (Nat.le_refl _) _) _⟩
      · have hc0 : ((n : Int) == 0) = false := by simp; omega
        go_enter Tryz.func75, Tryz.ntmps75
        go_wp2
        go_quiet (fail)
        go_wp2
        go_ret2
        exact ⟨ret_two (by simp [Pn.firstOf, hg, h0]) (by simp [Pn.nextOf, hg, h0, hn0]), below_drewN ((Below.refl _ _).alloc (Nat.le_refl _) _) _⟩
end Go.Proofs.YtaepcfidpekflaaGreatDoor
