/-
  hasRules (P3) by its contract. By the verifier.
-/
import Derived.Test.YtdhkkikejeanjaaGreatDoorQr
namespace Go.Proofs.YtdhkkikejeanjaaGreatDoor
open Go.RowKit

/-- The rules of a locale are right, from the world w on. -/
def RulesOk (w : World) (v : Value) : Prop := ∀ W, Below w.heap.size w W → Calls Tryz.prog 69 #[v] W fun e w' => e = .returned (.bool true) ∧ Below W.heap.size W w'
theorem RulesOk.later {w w1 : World} {v : Value} (h : RulesOk w v) (hb : Below w.heap.size w w1) : RulesOk w1 v := fun W hW => h W (below_of hb hW)
theorem rules_after {w : World} {v : Value} (h : Hid (RulesOk w v)) (o : Obj) : Hid (RulesOk (w.alloc o) v) := h.out.later ((Below.refl _ _).alloc (Nat.le_refl _) _)
theorem rules_hid {w w1 : World} {v : Value} (h : Hid (RulesOk w v)) (hb : Below w.heap.size w w1) : Hid (RulesOk w1 v) := h.out.later hb

set_option maxHeartbeats 800000 in
theorem hasRules_core (a0 a1 : Option Addr) (c0 c1 : Nat) (l0 l1 : List (Pr.T × Pr.T)) (mi po g : Int) (f n : Nat) (d : ByteArray) (w : World) (r0 r1 : List (Pr.T × Pr.Sem)) (e0 : Pr.rulesP [] l0 = some r0) (e1 : Pr.rulesP [] l1 = some r1)
    (h0 : ∀ W, Below w.heap.size w W → Calls Tryz.prog 58 #[.slice a0 l0.length c0] W fun e w' => NewSaid W (Pr.rulesP [] l0) e w') (h1 : ∀ W, Below w.heap.size w W → Calls Tryz.prog 58 #[.slice a1 l1.length c1] W fun e w' => NewSaid W (Pr.rulesP [] l1) e w') :
    Calls Tryz.prog 69 #[.agg #[.slice a0 l0.length c0, .slice a1 l1.length c1, .int .i32 mi, .int .i32 po, .int .i32 g, .int .u8 f, .int .u8 n, .string d]] w fun e w' => e = .returned (.bool true) ∧ Below w.heap.size w w' := by
  rw [e0] at h0
  rw [e1] at h1
  have hw := (Below.refl w.heap.size w).alloc (Nat.le_refl _) (.cells #[.slice a0 l0.length c0, .slice a1 l1.length c1, .int .i32 mi, .int .i32 po, .int .i32 g, .int .u8 f, .int .u8 n, .string d] 25)
  have rr := row_at w #[.slice a0 l0.length c0, .slice a1 l1.length c1, .int .i32 mi, .int .i32 po, .int .i32 g, .int .u8 f, .int .u8 n, .string d] 25
  clear e0 e1
  go_enter Tryz.func69, Tryz.ntmps69
  go_wp2_with fail
  refine (h0 _ hw).mono ?_
  rintro e w1 ⟨hb1, v1, rfl, _⟩
  replace rr := rr.keep hb1
  replace hw := below_of hw hb1
  have q1 := rr.2.1
  go_wp2_with fail
  refine (h1 _ hw).mono ?_
  rintro e w2 ⟨hb2, v2, rfl, _⟩
  replace hw := below_of hw hb2
  clear q1 rr h0 h1
  go_wp2
  go_ret
  exact ⟨rfl, hw⟩
/-- A locale without rules. -/
theorem rules_nil (mi po g : Int) (f n : Nat) (d : ByteArray) (w : World) : RulesOk w (.agg #[.slice none 0 0, .slice none 0 0, .int .i32 mi, .int .i32 po, .int .i32 g, .int .u8 f, .int .u8 n, .string d]) := fun W _ =>
  hasRules_core none none 0 0 [] [] mi po g f n d W [] [] rfl rfl (fun W' _ => new_nil W' none 0) (fun W' _ => new_nil W' none 0)
/-- A locale whose rules lie in w. -/
theorem rules_in (a0 a1 : Option Addr) (c0 c1 : Nat) (l0 l1 : List (Pr.T × Pr.T)) (mi po g : Int) (f n : Nat) (d : ByteArray) (w : World) (hB : Base w) (k0 : l0.length ≤ 100000) (k1 : l1.length ≤ 100000) (s0 : ∀ q ∈ l0, q.1.length < 1000000 ∧ q.2.length < 1000000) (s1 : ∀ q ∈ l1, q.1.length < 1000000 ∧ q.2.length < 1000000) (h0 : RIn w a0 l0) (h1 : RIn w a1 l1)
    (e0 : (Pr.rulesP [] l0).isSome = true) (e1 : (Pr.rulesP [] l1).isSome = true) : RulesOk w (.agg #[.slice a0 l0.length c0, .slice a1 l1.length c1, .int .i32 mi, .int .i32 po, .int .i32 g, .int .u8 f, .int .u8 n, .string d]) := fun W hW => by
  obtain ⟨r0, e0⟩ := Option.isSome_iff_exists.1 e0
  obtain ⟨r1, e1⟩ := Option.isSome_iff_exists.1 e1
  exact hasRules_core a0 a1 c0 c1 l0 l1 mi po g f n d W r0 r1 e0 e1 (fun W' hW' => new_any W' a0 l0 c0 k0 s0 ((hB.below hW).below hW') ((h0.keep hW).keep hW')) (fun W' hW' => new_any W' a1 l1 c1 k1 s1 ((hB.below hW).below hW') ((h1.keep hW).keep hW'))
end Go.Proofs.YtdhkkikejeanjaaGreatDoor
