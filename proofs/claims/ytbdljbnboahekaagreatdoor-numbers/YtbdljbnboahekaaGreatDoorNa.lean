/-
  The law's own functions: rules, sign, locale, copied. By the verifier.
-/
import Derived.Test.YtbdljbnboahekaaGreatDoorProg
import Derived.Test.YtbdljbnboahekaaGreatDoorBase
import Derived.WalkKit
import Derived.WalkSpells
import Derived.WalkLawsBesides
import Derived.BigQuiet
import Derived.Outline
namespace Go.Proofs.YtbdljbnboahekaaGreatDoor
open Go.RowKit

set_option maxHeartbeats 400000 in
theorem rules_none (w : World) : Calls Tryz.prog 14 #[.slice none 0 0] w fun e w' => e = .returned (.slice none 0 0) ∧ w' = w := by
  go_enter Tryz.func14, Tryz.ntmps14
  go_wp2
  go_loop [3, 4] (fun t i => t = .slice none 0 0 ∧ i = .int .i64 0) (fun _ _ => 0)
  case atStart => exact ⟨rfl, rfl⟩
  case round =>
    obtain ⟨rfl, rfl⟩ := hrel
    go_wp2
    go_ret
    exact ⟨rfl, rfl⟩
set_option maxHeartbeats 400000 in
theorem sign_in (b off len cap k : Nat) (x : Int) (w : World) (h : (k : Int) < len) (hc : w.cell? ⟨b, off + k, none⟩ = some (.int .i64 x)) :
    Calls Tryz.prog 20 #[.slice (some ⟨b, off, none⟩) len cap, .int .i64 k] w fun e w' => e = .returned (.int .i32 (wrap32 x)) ∧ w' = w := by
  go_enter Tryz.func20, Tryz.ntmps20
  go_wp2
  go_ret
  exact ⟨rfl, rfl⟩
set_option maxHeartbeats 400000 in
theorem sign_out (a : Option Addr) (len cap k : Nat) (w : World) (h : ¬ (k : Int) < len) :
    Calls Tryz.prog 20 #[.slice a len cap, .int .i64 k] w fun e w' => e = .returned (.int .i32 0) ∧ w' = w := by
  go_enter Tryz.func20, Tryz.ntmps20
  go_wp2
  go_ret
  exact ⟨rfl, rfl⟩
set_option maxHeartbeats 400000 in
theorem copied_none (mi po g : Int) (f n : Nat) (d : ByteArray) (w : World) :
    Calls Tryz.prog 21 #[.agg #[.slice none 0 0, .slice none 0 0, .int .i32 mi, .int .i32 po, .int .i32 g, .int .u8 f, .int .u8 n, .string d]] w fun e w' => e = .returned (.agg #[.slice none 0 0, .slice none 0 0, .int .i32 mi, .int .i32 po, .int .i32 g, .int .u8 f, .int .u8 n, .string d]) ∧ Below w.heap.size w w' := by
  go_enter Tryz.func21, Tryz.ntmps21
  go_wp2
  exact bodyPost_ret (v := .agg #[.slice none 0 0, .slice none 0 0, .int .i32 mi, .int .i32 po, .int .i32 g, .int .u8 f, .int .u8 n, .string d]) (by simp [results, Tryz.results21, go_sem]) rfl ⟨rfl, ((Below.refl _ _).alloc (Nat.le_refl _) _).alloc (by simp) _⟩

set_option maxHeartbeats 1000000 in
theorem locale_any (v : Value) (mi po g fi ne : Int) (d : ByteArray) (w : World)
    (h0 : Hid (∀ w', Below w.heap.size w w' → Calls Tryz.prog 20 #[v, .int .i64 0] w' fun e w2 => e = .returned (.int .i32 mi) ∧ w2 = w'))
    (h1 : Hid (∀ w', Below w.heap.size w w' → Calls Tryz.prog 20 #[v, .int .i64 1] w' fun e w2 => e = .returned (.int .i32 po) ∧ w2 = w'))
    (h2 : Hid (∀ w', Below w.heap.size w w' → Calls Tryz.prog 20 #[v, .int .i64 2] w' fun e w2 => e = .returned (.int .i32 g) ∧ w2 = w')) :
    Calls Tryz.prog 7 #[.slice none 0 0, .slice none 0 0, v, .int .i64 fi, .int .i64 ne, .string d] w fun e w' => e = .returned (.agg #[.slice none 0 0, .slice none 0 0, .int .i32 mi, .int .i32 po, .int .i32 g, .int .u8 (fi % 256), .int .u8 (ne % 256), .string d]) ∧ Below w.heap.size w w' := by
  go_enter Tryz.func7, Tryz.ntmps7
  have hb := fun o => (Below.refl w.heap.size w).alloc (Nat.le_refl _) o
  have hb2 := fun o o2 => (hb o).alloc (by simp) o2
  go_wp2_with (go_at_call 14; refine (rules_none _).mono ?_; rintro e w' ⟨rfl, rfl⟩)
  refine (h0.out _ (hb2 _ _)).mono ?_
  rintro e w' ⟨rfl, rfl⟩
  go_wp2_with fail
  refine (h1.out _ (hb2 _ _)).mono ?_
  rintro e w' ⟨rfl, rfl⟩
  go_wp2_with fail
  refine (h2.out _ (hb2 _ _)).mono ?_
  rintro e w' ⟨rfl, rfl⟩
  go_wp2
  exact bodyPost_ret (v := .agg #[.slice none 0 0, .slice none 0 0, .int .i32 mi, .int .i32 po, .int .i32 g, .int .u8 (fi % 256), .int .u8 (ne % 256), .string d]) (by simp [results, Tryz.results7, go_sem]) rfl ⟨rfl, hb2 _ _⟩
end Go.Proofs.YtbdljbnboahekaaGreatDoor
