/-
  modulo, span, stretch: the makers. By the verifier.
-/
import Derived.Test.YtaepcfidpekflaaGreatDoorQg
namespace Go.Proofs.YtaepcfidpekflaaGreatDoor
open Go.RowKit

theorem three_rows (w : World) (x y z : Value) (t u s : TypeId) : Row (((w.alloc (.cells #[x] t)).alloc (.cells #[y] u)).alloc (.cells #[z] s)) w.heap.size #[x] ∧ Row (((w.alloc (.cells #[x] t)).alloc (.cells #[y] u)).alloc (.cells #[z] s)) (w.heap.size + 1) #[y] ∧ Row (((w.alloc (.cells #[x] t)).alloc (.cells #[y] u)).alloc (.cells #[z] s)) (w.heap.size + 2) #[z] := by
  obtain ⟨h1, h2⟩ := two_rows w x y t u
  refine ⟨h1.alloc _, h2.alloc _, ?_⟩
  have := row_at ((w.alloc (.cells #[x] t)).alloc (.cells #[y] u)) #[z] s
  simpa using this
theorem three_below (w : World) (o p q : Obj) : Below w.heap.size w (((w.alloc o).alloc p).alloc q) := (two_below w o p).alloc (by simp; omega) q

set_option maxHeartbeats 400000 in
theorem span_any (P : Nat) (w : World) (x : Value) (o : Pr.Opd) (lo hi : Nat) (h1 : lo ≤ 999999999) (h2 : hi ≤ 999999999) (hP : P < w.heap.size) (hx : Opv P w x o) :
    Calls Tryz.prog 278 #[x, .int .u64 lo, .int .u64 hi] w fun e w' => (∃ v, e = .returned v ∧ Cnd P w' v (Pr.spanS o lo hi)) ∧ Below w.heap.size w w' := by
  obtain ⟨g1, l1, rfl, e1, c1⟩ := hx
  go_enter Tryz.func278, Tryz.ntmps278
  go_wp2
  go_ret
  refine ⟨⟨_, rfl, _, _, rfl, enters_span1, fun W hW hA m a b da db => ?_⟩, three_below _ _ _ _⟩
  obtain ⟨r1, r2, r3⟩ := three_rows w (.func (.func g1) #[] l1) (.int .u64 lo) (.int .u64 hi) 372 314 314
  have h0 := Up.after (three_below w (.cells #[.func (.func g1) #[] l1] 372) (.cells #[.int .u64 lo] 314) (.cells #[.int .u64 hi] 314)) hA
  exact span1_any m a b _ _ _ g1 l1 W _ _ lo hi (r1.up hA (by omega)) (r2.up hA (by omega)) (r3.up hA (by omega)) e1 (fun W' hW' => c1 W' (hW.below hW') (h0.then hW') m a b da db) h1 h2
set_option maxHeartbeats 400000 in
theorem stretch_any (P : Nat) (w : World) (x : Value) (o : Pr.Opd) (lo hi : Nat) (h1 : lo ≤ 999999999) (h2 : hi ≤ 999999999) (hP : P < w.heap.size) (hx : Opv P w x o) :
    Calls Tryz.prog 295 #[x, .int .u64 lo, .int .u64 hi] w fun e w' => (∃ v, e = .returned v ∧ Cnd P w' v (Pr.stretchS o lo hi)) ∧ Below w.heap.size w w' := by
  obtain ⟨g1, l1, rfl, e1, c1⟩ := hx
  go_enter Tryz.func295, Tryz.ntmps295
  go_wp2
  go_ret
  refine ⟨⟨_, rfl, _, _, rfl, enters_stretch1, fun W hW hA m a b da db => ?_⟩, three_below _ _ _ _⟩
  obtain ⟨r1, r2, r3⟩ := three_rows w (.func (.func g1) #[] l1) (.int .u64 lo) (.int .u64 hi) 372 314 314
  have h0 := Up.after (three_below w (.cells #[.func (.func g1) #[] l1] 372) (.cells #[.int .u64 lo] 314) (.cells #[.int .u64 hi] 314)) hA
  exact stretch1_any m a b _ _ _ g1 l1 W _ _ lo hi (r1.up hA (by omega)) (r2.up hA (by omega)) (r3.up hA (by omega)) e1 (fun W' hW' => c1 W' (hW.below hW') (h0.then hW') m a b da db) h1 h2
set_option maxHeartbeats 400000 in
theorem modulo_any (P : Nat) (w : World) (x : Value) (o : Pr.Opd) (mm : Nat) (h1 : 1 ≤ mm) (h2 : mm ≤ 999999999) (hP : P < w.heap.size) (hx : Opv P w x o) :
    Calls Tryz.prog 235 #[x, .int .u64 mm] w fun e w' => (∃ v, e = .returned v ∧ Opv P w' v (Pr.modS o mm)) ∧ Below w.heap.size w w' := by
  obtain ⟨g1, l1, rfl, e1, c1⟩ := hx
  go_enter Tryz.func235, Tryz.ntmps235
  go_wp2
  go_ret
  refine ⟨⟨_, rfl, _, _, rfl, enters_mod1, fun W hW hA m a b da db => ?_⟩, two_below _ _ _⟩
  obtain ⟨r1, r2⟩ := two_rows w (.func (.func g1) #[] l1) (.int .u64 mm) 372 314
  have h0 := Up.after (two_below w (.cells #[.func (.func g1) #[] l1] 372) (.cells #[.int .u64 mm] 314)) hA
  refine (mod1_any m a b _ _ g1 l1 W (o a b).1 (o a b).2 mm (r1.up hA (by omega)) (r2.up hA (by omega)) e1 (fun W' hW' => c1 W' (hW.below hW') (h0.then hW') m a b da db) hW h1 h2).mono fun e w' hh => ⟨⟨_, hh.1, ?_, (dec_val _).1⟩, hh.2⟩
  exact dec_digs _ (by have := Nat.mod_lt (o a b).1 h1; omega)
end Go.Proofs.YtaepcfidpekflaaGreatDoor
