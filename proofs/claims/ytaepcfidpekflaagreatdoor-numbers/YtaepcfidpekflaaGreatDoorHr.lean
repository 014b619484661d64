/-
  The rules of a locale (P3). By the verifier.
-/
import Derived.Test.YtaepcfidpekflaaGreatDoorQr
namespace Go.Proofs.YtaepcfidpekflaaGreatDoor
open Go.RowKit

def slotOf (k : Nat) : Value → Value
  | .agg cs => cs.getD k .nilIface
  | v => v
/-- The rules of a locale are right, from the world w on. -/
def RulesOk (w : World) (v : Value) : Prop := ∀ k, k < 2 → ∀ W, Below w.heap.size w W → Calls Tryz.prog 62 #[slotOf k v] W fun e w' => ∃ rs, NewSaid W (some rs) e w'
theorem RulesOk.later {w w1 : World} {v : Value} (h : RulesOk w v) (hb : Below w.heap.size w w1) : RulesOk w1 v := fun k hk W hW => h k hk W (below_of hb hW)
theorem rules_after {w : World} {v : Value} (h : Hid (RulesOk w v)) (o : Obj) : Hid (RulesOk (w.alloc o) v) := h.out.later ((Below.refl _ _).alloc (Nat.le_refl _) _)
theorem rules_hid {w w1 : World} {v : Value} (h : Hid (RulesOk w v)) (hb : Below w.heap.size w w1) : Hid (RulesOk w1 v) := h.out.later hb
theorem rulesV_form {w : World} {v : Value} {rs : List (Pr.T × Pr.Sem)} (h : RulesV w v rs) : ∃ a n c, v = .slice a n c := by
  obtain ⟨B, M, g, qs, _, h, _⟩ := h
  rcases h.2 with ⟨rfl, _⟩ | ⟨g, cap, cur, rfl, _⟩
  · exact ⟨none, 0, 0, rfl⟩
  · exact ⟨_, _, _, rfl⟩
/-- What New answers of right rules. -/
theorem RulesOk.one {w : World} {v : Value} (h : RulesOk w v) (k : Nat) (hk : k < 2) (W : World) (hW : Below w.heap.size w W) : Calls Tryz.prog 62 #[slotOf k v] W fun e w' => (∃ a n c, e = .returned (.tuple #[.slice a n c, .nilIface])) ∧ Below W.heap.size W w' := by
  refine (h k hk W hW).mono ?_
  rintro e w' ⟨rs, hb, v, rfl, hr⟩
  obtain ⟨a, n, c, rfl⟩ := rulesV_form hr
  exact ⟨⟨a, n, c, rfl⟩, hb⟩
/-- A locale without rules. -/
theorem rules_nil (mi po g : Int) (f n : Nat) (d : ByteArray) (w : World) : RulesOk w (.agg #[.slice none 0 0, .slice none 0 0, .int .i32 mi, .int .i32 po, .int .i32 g, .int .u8 f, .int .u8 n, .string d]) := fun k hk W _ => by
  have h : Calls Tryz.prog 62 #[.slice none 0 0] W fun e w' => ∃ rs, NewSaid W (some rs) e w' := (new_nil W none 0).mono fun e w' h => ⟨[], h⟩
  match k, hk with
  | 0, _ => exact h
  | 1, _ => exact h
/-- A locale whose rules lie in w. -/
theorem rules_in (a0 a1 : Option Addr) (c0 c1 : Nat) (l0 l1 : List (Pr.T × Pr.T)) (mi po g : Int) (f n : Nat) (d : ByteArray) (w : World) (hB : Base w) (k0 : l0.length ≤ 100000) (k1 : l1.length ≤ 100000) (s0 : ∀ q ∈ l0, q.1.length < 1000000 ∧ q.2.length < 1000000) (s1 : ∀ q ∈ l1, q.1.length < 1000000 ∧ q.2.length < 1000000) (h0 : RIn w a0 l0) (h1 : RIn w a1 l1)
    (e0 : (Pr.rulesP [] l0).isSome = true) (e1 : (Pr.rulesP [] l1).isSome = true) : RulesOk w (.agg #[.slice a0 l0.length c0, .slice a1 l1.length c1, .int .i32 mi, .int .i32 po, .int .i32 g, .int .u8 f, .int .u8 n, .string d]) := fun k hk W hW => by
  obtain ⟨r0, e0⟩ := Option.isSome_iff_exists.1 e0
  obtain ⟨r1, e1⟩ := Option.isSome_iff_exists.1 e1
  match k, hk with
  | 0, _ => exact (new_any W a0 l0 c0 k0 s0 (hB.below hW) (h0.keep hW)).mono fun e w' h => ⟨r0, by rw [e0] at h; exact h⟩
  | 1, _ => exact (new_any W a1 l1 c1 k1 s1 (hB.below hW) (h1.keep hW)).mono fun e w' h => ⟨r1, by rw [e1] at h; exact h⟩
end Go.Proofs.YtaepcfidpekflaaGreatDoor
