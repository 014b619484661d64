/-
  The law: number. By the verifier.
-/
import Derived.Test.YtbdljbnboahekaaGreatDoorNa
import Derived.Test.YtbdljbnboahekaaGreatDoorRf
import Derived.Test.YtbdljbnboahekaaGreatDoorRi
namespace Go.Proofs.YtbdljbnboahekaaGreatDoor
open Go.RowKit

set_option maxHeartbeats 1000000 in
theorem number_0 (mi po g : Int) (f n : Nat) (d s : ByteArray) (w : World) (hB : Base w) (hs : s.size ≤ 100000) (hd : d.size ≤ 100000)
    (hP : Hid (∀ w, Base w → Calls Tryz.prog 10 #[.string s, .agg #[.slice none 0 0, .slice none 0 0, .int .i32 mi, .int .i32 po, .int .i32 g, .int .u8 f, .int .u8 n, .string d]] w fun e w' => e = .returned (.tuple #[.string ⟨#[]⟩, .int .i64 8]) ∧ Below w.heap.size w w')) (hk : Pn.knownB mi po g f n d.data.toList = false) :
    Calls Tryz.prog 8 #[.string s, .agg #[.slice none 0 0, .slice none 0 0, .int .i32 mi, .int .i32 po, .int .i32 g, .int .u8 f, .int .u8 n, .string d]] w fun e w' => e = .returned (.bool true) ∧ Below w.heap.size w w' := by
  have HB : Hid (Base w) := hB
  clear hB
  have r0 := row_at w #[.slice none 0 0, .slice none 0 0, .int .i32 mi, .int .i32 po, .int .i32 g, .int .u8 f, .int .u8 n, .string d] 25
  have hw := (Below.refl w.heap.size w).alloc (Nat.le_refl _) (.cells #[.slice none 0 0, .slice none 0 0, .int .i32 mi, .int .i32 po, .int .i32 g, .int .u8 f, .int .u8 n, .string d] 25)
  go_enter Tryz.func8, Tryz.ntmps8
  go_wp2_with fail
  refine (copied_none _ _ _ _ _ _ _).mono ?_
  rintro e w1 ⟨rfl, hb1⟩
  replace r0 := r0.keep hb1
  replace hw := below_of hw hb1
  clear hb1
  have e0 := r0.1
  have q0 := fun o => (r0.alloc o).2.1
  go_wp2_with fail
  refine (hP.out _ ((HB.out.below hw).alloc _)).mono ?_
  rintro e w2 ⟨rfl, hb2⟩
  clear q0 r0
  have r1 := (row_at w1 #[.slice none 0 0, .slice none 0 0, .int .i32 mi, .int .i32 po, .int .i32 g, .int .u8 f, .int .u8 n, .string d] 25).keep hb2
  replace hw := below_of (hw.alloc hw.size _) hb2
  clear hb2
  have q1 := r1.2.1
  go_wp2_with fail
  refine (known_any _ _ _ _ _ _ _ hd).mono ?_
  rintro e w3 ⟨rfl, hb3⟩
  rw [hk]
  replace hw := below_of hw hb3
  replace r1 := r1.keep hb3
  clear hb3 q1
  have q1 := r1.2.1
  go_wp2_with fail
  refine (numOf_any s _ hs).mono ?_
  rintro e w4 ⟨hN, hb4⟩
  replace hw := below_of hw hb4
  replace r1 := r1.keep hb4
  clear hb4 q1
  have e1 := r1.1
  have q1 := fun o => (r1.alloc o).2.1
  unfold numRes at hN
  split at hN
  · subst hN
    go_wp2
    all_goals go_ret
    all_goals exact ⟨rfl, hw.alloc hw.size _⟩
  · obtain ⟨m, x, y, rfl⟩ := hN
    go_wp2
    all_goals go_ret
    all_goals exact ⟨rfl, hw.alloc hw.size _⟩

set_option maxHeartbeats 1000000 in
theorem number_1 (mi po g : Int) (f n : Nat) (d s : ByteArray) (w : World) (hB : Base w) (hs : s.size ≤ 100000) (hd : d.size ≤ 100000)
    (hP : Hid (∀ w, Base w → Calls Tryz.prog 10 #[.string s, .agg #[.slice none 0 0, .slice none 0 0, .int .i32 mi, .int .i32 po, .int .i32 g, .int .u8 f, .int .u8 n, .string d]] w fun e w' => e = .returned (.tuple #[.string ⟨#[]⟩, .int .i64 10]) ∧ Below w.heap.size w w')) (hk : Pn.knownB mi po g f n d.data.toList = true) (hn : Pn.isNum s.data.toList = false) :
    Calls Tryz.prog 8 #[.string s, .agg #[.slice none 0 0, .slice none 0 0, .int .i32 mi, .int .i32 po, .int .i32 g, .int .u8 f, .int .u8 n, .string d]] w fun e w' => e = .returned (.bool true) ∧ Below w.heap.size w w' := by
  have HB : Hid (Base w) := hB
  clear hB
  have r0 := row_at w #[.slice none 0 0, .slice none 0 0, .int .i32 mi, .int .i32 po, .int .i32 g, .int .u8 f, .int .u8 n, .string d] 25
  have hw := (Below.refl w.heap.size w).alloc (Nat.le_refl _) (.cells #[.slice none 0 0, .slice none 0 0, .int .i32 mi, .int .i32 po, .int .i32 g, .int .u8 f, .int .u8 n, .string d] 25)
  go_enter Tryz.func8, Tryz.ntmps8
  go_wp2_with fail
  refine (copied_none _ _ _ _ _ _ _).mono ?_
  rintro e w1 ⟨rfl, hb1⟩
  replace r0 := r0.keep hb1
  replace hw := below_of hw hb1
  clear hb1
  have e0 := r0.1
  have q0 := fun o => (r0.alloc o).2.1
  go_wp2_with fail
  refine (hP.out _ ((HB.out.below hw).alloc _)).mono ?_
  rintro e w2 ⟨rfl, hb2⟩
  clear q0 r0
  have r1 := (row_at w1 #[.slice none 0 0, .slice none 0 0, .int .i32 mi, .int .i32 po, .int .i32 g, .int .u8 f, .int .u8 n, .string d] 25).keep hb2
  replace hw := below_of (hw.alloc hw.size _) hb2
  clear hb2
  have q1 := r1.2.1
  go_wp2_with fail
  refine (known_any _ _ _ _ _ _ _ hd).mono ?_
  rintro e w3 ⟨rfl, hb3⟩
  rw [hk]
  replace hw := below_of hw hb3
  replace r1 := r1.keep hb3
  clear hb3 q1
  have q1 := r1.2.1
  go_wp2_with fail
  refine (numOf_any s _ hs).mono ?_
  rintro e w4 ⟨hN, hb4⟩
  replace hw := below_of hw hb4
  replace r1 := r1.keep hb4
  clear hb4 q1
  have e1 := r1.1
  have q1 := fun o => (r1.alloc o).2.1
  unfold numRes at hN
  rw [if_neg (by rw [hn]; decide)] at hN
  obtain ⟨m, x, y, rfl⟩ := hN
  go_wp2
  all_goals go_ret
  all_goals exact ⟨rfl, hw.alloc hw.size _⟩

set_option maxHeartbeats 1000000 in
theorem number_2 (T : List UInt8) (mi po g : Int) (f n : Nat) (d s : ByteArray) (w : World) (hB : Base w) (hs : s.size ≤ 100000) (hd : d.size ≤ 100000)
    (hP : Hid (∀ w, Base w → Calls Tryz.prog 10 #[.string s, .agg #[.slice none 0 0, .slice none 0 0, .int .i32 mi, .int .i32 po, .int .i32 g, .int .u8 f, .int .u8 n, .string d]] w fun e w' => e = .returned (.tuple #[.string ⟨T.toArray⟩, .int .i64 0]) ∧ Below w.heap.size w w')) (hk : Pn.knownB mi po g f n d.data.toList = true) (hn : Pn.isNum s.data.toList = true)
    (hW : Hid (∀ w, Calls Tryz.prog 24 #[.agg #[.bool (Pn.minusOf s.data.toList), .string ⟨(Pn.aOf s.data.toList).toArray⟩, .string ⟨(Pn.bOf s.data.toList).toArray⟩], .agg #[.slice none 0 0, .slice none 0 0, .int .i32 mi, .int .i32 po, .int .i32 g, .int .u8 f, .int .u8 n, .string d]] w fun e w' => e = .returned (.string ⟨T.toArray⟩) ∧ Below w.heap.size w w')) :
    Calls Tryz.prog 8 #[.string s, .agg #[.slice none 0 0, .slice none 0 0, .int .i32 mi, .int .i32 po, .int .i32 g, .int .u8 f, .int .u8 n, .string d]] w fun e w' => e = .returned (.bool true) ∧ Below w.heap.size w w' := by
  have HB : Hid (Base w) := hB
  clear hB
  have r0 := row_at w #[.slice none 0 0, .slice none 0 0, .int .i32 mi, .int .i32 po, .int .i32 g, .int .u8 f, .int .u8 n, .string d] 25
  have hw := (Below.refl w.heap.size w).alloc (Nat.le_refl _) (.cells #[.slice none 0 0, .slice none 0 0, .int .i32 mi, .int .i32 po, .int .i32 g, .int .u8 f, .int .u8 n, .string d] 25)
  go_enter Tryz.func8, Tryz.ntmps8
  go_wp2_with fail
  refine (copied_none _ _ _ _ _ _ _).mono ?_
  rintro e w1 ⟨rfl, hb1⟩
  replace r0 := r0.keep hb1
  replace hw := below_of hw hb1
  clear hb1
  have e0 := r0.1
  have q0 := fun o => (r0.alloc o).2.1
  go_wp2_with fail
  refine (hP.out _ ((HB.out.below hw).alloc _)).mono ?_
  rintro e w2 ⟨rfl, hb2⟩
  clear q0 r0
  have r1 := (row_at w1 #[.slice none 0 0, .slice none 0 0, .int .i32 mi, .int .i32 po, .int .i32 g, .int .u8 f, .int .u8 n, .string d] 25).keep hb2
  replace hw := below_of (hw.alloc hw.size _) hb2
  clear hb2
  have q1 := r1.2.1
  go_wp2_with fail
  refine (known_any _ _ _ _ _ _ _ hd).mono ?_
  rintro e w3 ⟨rfl, hb3⟩
  rw [hk]
  replace hw := below_of hw hb3
  replace r1 := r1.keep hb3
  clear hb3 q1
  have q1 := r1.2.1
  go_wp2_with fail
  refine (numOf_any s _ hs).mono ?_
  rintro e w4 ⟨hN, hb4⟩
  replace hw := below_of hw hb4
  replace r1 := r1.keep hb4
  clear hb4 q1
  have e1 := r1.1
  have q1 := fun o => (r1.alloc o).2.1
  unfold numRes at hN
  rw [if_pos hn] at hN
  subst hN
  go_wp2_with fail
  refine (hW.out _).mono ?_
  rintro e w5 ⟨rfl, hb5⟩
  clear q1
  replace hw := below_of (hw.alloc hw.size _) hb5
  clear hb5
  go_wp2
  all_goals go_ret
  all_goals exact ⟨rfl, hw⟩
end Go.Proofs.YtbdljbnboahekaaGreatDoor
