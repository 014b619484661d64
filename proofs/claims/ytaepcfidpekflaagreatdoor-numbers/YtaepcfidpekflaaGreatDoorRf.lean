/-
  Known (is a locale one: P3, without rules) by its contract. By the verifier.
-/
import Derived.Test.YtaepcfidpekflaaGreatDoorRe
namespace Go.Proofs.YtaepcfidpekflaaGreatDoor.Pn
def digitsOkB (l : List UInt8) : Bool := ptsLen l == l.length && (l.isEmpty || (pts l).length == 10)
theorem dok_no1 (l : List UInt8) (h : ¬ ptsLen l = l.length) : digitsOkB l = false := by
  rw [digitsOkB, beq_eq_false_iff_ne.2 h, Bool.false_and]
theorem dok_no2 (l : List UInt8) (h7 : ¬ l = []) (h8 : ¬ (pts l).length = 10) : digitsOkB l = false := by
  have : l.isEmpty = false := by simpa using h7
  rw [digitsOkB, this, Bool.false_or, beq_eq_false_iff_ne.2 h8, Bool.and_false]
theorem dok_yes (l : List UInt8) (h6 : ptsLen l = l.length) (h8 : (pts l).length = 10) : digitsOkB l = true := by
  rw [digitsOkB, beq_iff_eq.2 h6, beq_iff_eq.2 h8, Bool.or_true]; rfl
theorem dok_nil (l : List UInt8) (h7 : l = []) : digitsOkB l = true := by subst h7; rfl
def knownB (mi po g : Int) (f n : Nat) (l : List UInt8) : Bool := signsB mi po g && digitsOkB l && decide (f ≤ 9) && decide (n ≤ 9)
theorem known_no (mi po g : Int) (f n : Nat) (l : List UInt8) (h : digitsOkB l = false) : knownB mi po g f n l = false := by
  rw [knownB, h, Bool.and_false, Bool.false_and, Bool.false_and]
theorem known_yes (mi po g : Int) (f n : Nat) (l : List UInt8) (hs : signsB mi po g = true) (h : digitsOkB l = true) : knownB mi po g f n l = (decide (f ≤ 9) && decide (n ≤ 9)) := by
  rw [knownB, hs, h, Bool.and_true, Bool.true_and]
end Go.Proofs.YtaepcfidpekflaaGreatDoor.Pn
namespace Go.Proofs.YtaepcfidpekflaaGreatDoor
open Go.RowKit

set_option maxHeartbeats 1000000 in
theorem known_1 (mi po g : Int) (f n : Nat) (d : ByteArray) (w : World) (h1 : Lib.validRune mi = false) :
    Calls Tryz.prog 28 #[.agg #[.slice none 0 0, .slice none 0 0, .int .i32 mi, .int .i32 po, .int .i32 g, .int .u8 f, .int .u8 n, .string d]] w fun e w' => e = .returned (.bool (Pn.knownB mi po g f n d.data.toList)) ∧ Below w.heap.size w w' := by
  have HK : Hid (false = Pn.knownB mi po g f n d.data.toList) := by show _ = _; simp [Pn.knownB, Pn.signsB, h1]
  have r0 := row_at w #[.slice none 0 0, .slice none 0 0, .int .i32 mi, .int .i32 po, .int .i32 g, .int .u8 f, .int .u8 n, .string d] 25
  have q0 := r0.2.1
  have hw := (Below.refl w.heap.size w).alloc (Nat.le_refl _) (.cells #[.slice none 0 0, .slice none 0 0, .int .i32 mi, .int .i32 po, .int .i32 g, .int .u8 f, .int .u8 n, .string d] 25)
  go_enter Tryz.func28, Tryz.ntmps28
  go_wp2_with (first | (go_at_call 33; refine (ruled_none _).mono ?_; rintro e w2 ⟨rfl, h2⟩; replace r0 := r0.keep h2; replace q0 := r0.2.1; replace hw := below_of hw h2; clear h2) | (go_at_call 47; refine (point_any _ _).mono ?_; rintro e w3 ⟨rfl, rfl⟩))
  go_ret
  exact ⟨rb HK.out, hw⟩

set_option maxHeartbeats 1000000 in
theorem known_2 (mi po g : Int) (f n : Nat) (d : ByteArray) (w : World) (h1 : Lib.validRune mi = true) (h2 : Lib.validRune po = false) :
    Calls Tryz.prog 28 #[.agg #[.slice none 0 0, .slice none 0 0, .int .i32 mi, .int .i32 po, .int .i32 g, .int .u8 f, .int .u8 n, .string d]] w fun e w' => e = .returned (.bool (Pn.knownB mi po g f n d.data.toList)) ∧ Below w.heap.size w w' := by
  have HK : Hid (false = Pn.knownB mi po g f n d.data.toList) := by show _ = _; simp [Pn.knownB, Pn.signsB, h2]
  have r0 := row_at w #[.slice none 0 0, .slice none 0 0, .int .i32 mi, .int .i32 po, .int .i32 g, .int .u8 f, .int .u8 n, .string d] 25
  have q0 := r0.2.1
  have hw := (Below.refl w.heap.size w).alloc (Nat.le_refl _) (.cells #[.slice none 0 0, .slice none 0 0, .int .i32 mi, .int .i32 po, .int .i32 g, .int .u8 f, .int .u8 n, .string d] 25)
  go_enter Tryz.func28, Tryz.ntmps28
  go_wp2_with (first | (go_at_call 33; refine (ruled_none _).mono ?_; rintro e w2 ⟨rfl, h2⟩; replace r0 := r0.keep h2; replace q0 := r0.2.1; replace hw := below_of hw h2; clear h2) | (go_at_call 47; refine (point_any _ _).mono ?_; rintro e w3 ⟨rfl, rfl⟩))
  go_ret
  exact ⟨rb HK.out, hw⟩

set_option maxHeartbeats 1000000 in
theorem known_3 (mi po g : Int) (f n : Nat) (d : ByteArray) (w : World) (h1 : Lib.validRune mi = true) (h2 : Lib.validRune po = true) (h3 : Lib.validRune g = false) :
    Calls Tryz.prog 28 #[.agg #[.slice none 0 0, .slice none 0 0, .int .i32 mi, .int .i32 po, .int .i32 g, .int .u8 f, .int .u8 n, .string d]] w fun e w' => e = .returned (.bool (Pn.knownB mi po g f n d.data.toList)) ∧ Below w.heap.size w w' := by
  have HK : Hid (false = Pn.knownB mi po g f n d.data.toList) := by show _ = _; simp [Pn.knownB, Pn.signsB, h3]
  have r0 := row_at w #[.slice none 0 0, .slice none 0 0, .int .i32 mi, .int .i32 po, .int .i32 g, .int .u8 f, .int .u8 n, .string d] 25
  have q0 := r0.2.1
  have hw := (Below.refl w.heap.size w).alloc (Nat.le_refl _) (.cells #[.slice none 0 0, .slice none 0 0, .int .i32 mi, .int .i32 po, .int .i32 g, .int .u8 f, .int .u8 n, .string d] 25)
  go_enter Tryz.func28, Tryz.ntmps28
  go_wp2_with (first | (go_at_call 33; refine (ruled_none _).mono ?_; rintro e w2 ⟨rfl, h2⟩; replace r0 := r0.keep h2; replace q0 := r0.2.1; replace hw := below_of hw h2; clear h2) | (go_at_call 47; refine (point_any _ _).mono ?_; rintro e w3 ⟨rfl, rfl⟩))
  go_ret
  exact ⟨rb HK.out, hw⟩

set_option maxHeartbeats 1000000 in
theorem known_4 (mi po g : Int) (f n : Nat) (d : ByteArray) (w : World) (h1 : Lib.validRune mi = true) (h2 : Lib.validRune po = true) (h3 : Lib.validRune g = true) (h4 : (mi == 0) = true) :
    Calls Tryz.prog 28 #[.agg #[.slice none 0 0, .slice none 0 0, .int .i32 mi, .int .i32 po, .int .i32 g, .int .u8 f, .int .u8 n, .string d]] w fun e w' => e = .returned (.bool (Pn.knownB mi po g f n d.data.toList)) ∧ Below w.heap.size w w' := by
  have h4' : mi = 0 := by simpa using h4
  have HK : Hid (false = Pn.knownB mi po g f n d.data.toList) := by show _ = _; simp [Pn.knownB, Pn.signsB, h4']
  clear h4'
  have r0 := row_at w #[.slice none 0 0, .slice none 0 0, .int .i32 mi, .int .i32 po, .int .i32 g, .int .u8 f, .int .u8 n, .string d] 25
  have q0 := r0.2.1
  have hw := (Below.refl w.heap.size w).alloc (Nat.le_refl _) (.cells #[.slice none 0 0, .slice none 0 0, .int .i32 mi, .int .i32 po, .int .i32 g, .int .u8 f, .int .u8 n, .string d] 25)
  go_enter Tryz.func28, Tryz.ntmps28
  go_wp2_with (first | (go_at_call 33; refine (ruled_none _).mono ?_; rintro e w2 ⟨rfl, h2⟩; replace r0 := r0.keep h2; replace q0 := r0.2.1; replace hw := below_of hw h2; clear h2) | (go_at_call 47; refine (point_any _ _).mono ?_; rintro e w3 ⟨rfl, rfl⟩))
  go_ret
  exact ⟨rb HK.out, hw⟩

set_option maxHeartbeats 1000000 in
theorem known_5 (mi po g : Int) (f n : Nat) (d : ByteArray) (w : World) (h1 : Lib.validRune mi = true) (h2 : Lib.validRune po = true) (h3 : Lib.validRune g = true) (h4 : (mi == 0) = false) (h5 : (po == 0) = true) :
    Calls Tryz.prog 28 #[.agg #[.slice none 0 0, .slice none 0 0, .int .i32 mi, .int .i32 po, .int .i32 g, .int .u8 f, .int .u8 n, .string d]] w fun e w' => e = .returned (.bool (Pn.knownB mi po g f n d.data.toList)) ∧ Below w.heap.size w w' := by
  have h5' : po = 0 := by simpa using h5
  have HK : Hid (false = Pn.knownB mi po g f n d.data.toList) := by show _ = _; simp [Pn.knownB, Pn.signsB, h5']
  clear h5'
  have r0 := row_at w #[.slice none 0 0, .slice none 0 0, .int .i32 mi, .int .i32 po, .int .i32 g, .int .u8 f, .int .u8 n, .string d] 25
  have q0 := r0.2.1
  have hw := (Below.refl w.heap.size w).alloc (Nat.le_refl _) (.cells #[.slice none 0 0, .slice none 0 0, .int .i32 mi, .int .i32 po, .int .i32 g, .int .u8 f, .int .u8 n, .string d] 25)
  go_enter Tryz.func28, Tryz.ntmps28
  go_wp2_with (first | (go_at_call 33; refine (ruled_none _).mono ?_; rintro e w2 ⟨rfl, h2⟩; replace r0 := r0.keep h2; replace q0 := r0.2.1; replace hw := below_of hw h2; clear h2) | (go_at_call 47; refine (point_any _ _).mono ?_; rintro e w3 ⟨rfl, rfl⟩))
  go_ret
  exact ⟨rb HK.out, hw⟩

set_option maxHeartbeats 1000000 in
theorem known_6 (mi po g : Int) (f n : Nat) (d : ByteArray) (w : World) (hd : d.size ≤ 100000) (h1 : Lib.validRune mi = true) (h2 : Lib.validRune po = true) (h3 : Lib.validRune g = true) (h4 : (mi == 0) = false) (h5 : (po == 0) = false) (h6 : ¬ Pn.ptsLen d.data.toList = d.data.toList.length) :
    Calls Tryz.prog 28 #[.agg #[.slice none 0 0, .slice none 0 0, .int .i32 mi, .int .i32 po, .int .i32 g, .int .u8 f, .int .u8 n, .string d]] w fun e w' => e = .returned (.bool (Pn.knownB mi po g f n d.data.toList)) ∧ Below w.heap.size w w' := by
  have HK : Hid (false = Pn.knownB mi po g f n d.data.toList) := (Pn.known_no mi po g f n _ (Pn.dok_no1 _ h6)).symm
  rw [← Lib.size_eq] at h6
  have h6' : ((Pn.ptsLen d.data.toList : Int) != d.size) = true := by rw [bne_iff_ne]; omega
  clear h6
  have r0 := row_at w #[.slice none 0 0, .slice none 0 0, .int .i32 mi, .int .i32 po, .int .i32 g, .int .u8 f, .int .u8 n, .string d] 25
  have q0 := r0.2.1
  have hw := (Below.refl w.heap.size w).alloc (Nat.le_refl _) (.cells #[.slice none 0 0, .slice none 0 0, .int .i32 mi, .int .i32 po, .int .i32 g, .int .u8 f, .int .u8 n, .string d] 25)
  go_enter Tryz.func28, Tryz.ntmps28
  go_wp2_with (first | (go_at_call 33; refine (ruled_none _).mono ?_; rintro e w2 ⟨rfl, h2⟩; replace r0 := r0.keep h2; replace q0 := r0.2.1; replace hw := below_of hw h2; clear h2) | (go_at_call 47; refine (point_any _ _).mono ?_; rintro e w3 ⟨rfl, rfl⟩))
  refine (points_any d _ (by omega)).mono ?_
  rintro e w4 ⟨ao, cv, rfl, hown, h4⟩
  replace r0 := r0.keep h4
  replace q0 := r0.2.1
  replace hw := below_of hw h4
  clear h4 hown
  go_wp2
  go_ret
  exact ⟨rb HK.out, hw⟩

set_option maxHeartbeats 1000000 in
theorem known_7 (mi po g : Int) (f n : Nat) (d : ByteArray) (w : World) (hd : d.size ≤ 100000) (h1 : Lib.validRune mi = true) (h2 : Lib.validRune po = true) (h3 : Lib.validRune g = true) (h4 : (mi == 0) = false) (h5 : (po == 0) = false) (h6 : Pn.ptsLen d.data.toList = d.data.toList.length) (h7 : ¬ d.data.toList = []) (h8 : ¬ (Pn.pts d.data.toList).length = 10) :
    Calls Tryz.prog 28 #[.agg #[.slice none 0 0, .slice none 0 0, .int .i32 mi, .int .i32 po, .int .i32 g, .int .u8 f, .int .u8 n, .string d]] w fun e w' => e = .returned (.bool (Pn.knownB mi po g f n d.data.toList)) ∧ Below w.heap.size w w' := by
  have HK : Hid (false = Pn.knownB mi po g f n d.data.toList) := (Pn.known_no mi po g f n _ (Pn.dok_no2 _ h7 h8)).symm
  have hpos : 0 < d.data.toList.length := List.length_pos_iff.2 h7
  rw [← Lib.size_eq] at h6 hpos
  have h6' : ((Pn.ptsLen d.data.toList : Int) != d.size) = false := by rw [bne_eq_false_iff_eq]; omega
  have h7' : (0 : Int) < Pn.ptsLen d.data.toList := by omega
  have h8' : (((Pn.pts d.data.toList).length : Int) != 10) = true := by rw [bne_iff_ne]; omega
  clear h6 h7 h8 hpos
  have r0 := row_at w #[.slice none 0 0, .slice none 0 0, .int .i32 mi, .int .i32 po, .int .i32 g, .int .u8 f, .int .u8 n, .string d] 25
  have q0 := r0.2.1
  have hw := (Below.refl w.heap.size w).alloc (Nat.le_refl _) (.cells #[.slice none 0 0, .slice none 0 0, .int .i32 mi, .int .i32 po, .int .i32 g, .int .u8 f, .int .u8 n, .string d] 25)
  go_enter Tryz.func28, Tryz.ntmps28
  go_wp2_with (first | (go_at_call 33; refine (ruled_none _).mono ?_; rintro e w2 ⟨rfl, h2⟩; replace r0 := r0.keep h2; replace q0 := r0.2.1; replace hw := below_of hw h2; clear h2) | (go_at_call 47; refine (point_any _ _).mono ?_; rintro e w3 ⟨rfl, rfl⟩))
  refine (points_any d _ (by omega)).mono ?_
  rintro e w4 ⟨ao, cv, rfl, hown, h4⟩
  replace r0 := r0.keep h4
  replace q0 := r0.2.1
  replace hw := below_of hw h4
  clear h4 hown
  go_wp2
  go_ret
  exact ⟨rb HK.out, hw⟩

set_option maxHeartbeats 1000000 in
theorem known_8 (mi po g : Int) (f n : Nat) (d : ByteArray) (w : World) (hd : d.size ≤ 100000) (h1 : Lib.validRune mi = true) (h2 : Lib.validRune po = true) (h3 : Lib.validRune g = true) (h4 : (mi == 0) = false) (h5 : (po == 0) = false) (h6 : Pn.ptsLen d.data.toList = d.data.toList.length) (h7 : ¬ d.data.toList = []) (h8 : (Pn.pts d.data.toList).length = 10) (h9 : f ≤ 9) :
    Calls Tryz.prog 28 #[.agg #[.slice none 0 0, .slice none 0 0, .int .i32 mi, .int .i32 po, .int .i32 g, .int .u8 f, .int .u8 n, .string d]] w fun e w' => e = .returned (.bool (Pn.knownB mi po g f n d.data.toList)) ∧ Below w.heap.size w w' := by
  have HS : Hid (Pn.signsB mi po g = true) := by show _ = _; simp [Pn.signsB, h1, h2, h3]; exact ⟨by simpa using h4, by simpa using h5⟩
  have HK : Hid (Pn.knownB mi po g f n d.data.toList = (decide (f ≤ 9) && decide (n ≤ 9))) := Pn.known_yes mi po g f n _ HS.out (Pn.dok_yes _ h6 h8)
  have hpos : 0 < d.data.toList.length := List.length_pos_iff.2 h7
  rw [← Lib.size_eq] at h6 hpos
  have h6' : ((Pn.ptsLen d.data.toList : Int) != d.size) = false := by rw [bne_eq_false_iff_eq]; omega
  have h7' : (0 : Int) < Pn.ptsLen d.data.toList := by omega
  have h8' : (((Pn.pts d.data.toList).length : Int) != 10) = false := by rw [bne_eq_false_iff_eq]; omega
  have h9' : (f : Int) ≤ 9 := by omega
  clear h6 h7 h8 hpos h9
  have r0 := row_at w #[.slice none 0 0, .slice none 0 0, .int .i32 mi, .int .i32 po, .int .i32 g, .int .u8 f, .int .u8 n, .string d] 25
  have q0 := r0.2.1
  have hw := (Below.refl w.heap.size w).alloc (Nat.le_refl _) (.cells #[.slice none 0 0, .slice none 0 0, .int .i32 mi, .int .i32 po, .int .i32 g, .int .u8 f, .int .u8 n, .string d] 25)
  go_enter Tryz.func28, Tryz.ntmps28
  go_wp2_with (first | (go_at_call 33; refine (ruled_none _).mono ?_; rintro e w2 ⟨rfl, h2⟩; replace r0 := r0.keep h2; replace q0 := r0.2.1; replace hw := below_of hw h2; clear h2) | (go_at_call 47; refine (point_any _ _).mono ?_; rintro e w3 ⟨rfl, rfl⟩))
  refine (points_any d _ (by omega)).mono ?_
  rintro e w4 ⟨ao, cv, rfl, hown, h4⟩
  replace r0 := r0.keep h4
  replace q0 := r0.2.1
  replace hw := below_of hw h4
  clear h4 hown
  go_wp2
  go_ret
  exact ⟨rb (by rw [HK.out]; first | (simp; omega) | (rw [Bool.eq_iff_iff, Bool.and_eq_true, decide_eq_true_eq, decide_eq_true_eq, decide_eq_true_eq]; omega)), hw⟩

set_option maxHeartbeats 1000000 in
theorem known_9 (mi po g : Int) (f n : Nat) (d : ByteArray) (w : World) (hd : d.size ≤ 100000) (h1 : Lib.validRune mi = true) (h2 : Lib.validRune po = true) (h3 : Lib.validRune g = true) (h4 : (mi == 0) = false) (h5 : (po == 0) = false) (h6 : Pn.ptsLen d.data.toList = d.data.toList.length) (h7 : d.data.toList = []) (h9 : f ≤ 9) :
    Calls Tryz.prog 28 #[.agg #[.slice none 0 0, .slice none 0 0, .int .i32 mi, .int .i32 po, .int .i32 g, .int .u8 f, .int .u8 n, .string d]] w fun e w' => e = .returned (.bool (Pn.knownB mi po g f n d.data.toList)) ∧ Below w.heap.size w w' := by
  have HS : Hid (Pn.signsB mi po g = true) := by show _ = _; simp [Pn.signsB, h1, h2, h3]; exact ⟨by simpa using h4, by simpa using h5⟩
  have HK : Hid (Pn.knownB mi po g f n d.data.toList = (decide (f ≤ 9) && decide (n ≤ 9))) := Pn.known_yes mi po g f n _ HS.out (Pn.dok_nil _ h7)
  rw [← Lib.size_eq] at h6
  have h6' : ((Pn.ptsLen d.data.toList : Int) != d.size) = false := by rw [bne_eq_false_iff_eq]; omega
  have h7' : ¬ (0 : Int) < Pn.ptsLen d.data.toList := by rw [h6, Lib.size_eq, h7]; decide
  have h9' : (f : Int) ≤ 9 := by omega
  clear h6 h7 h9
  have r0 := row_at w #[.slice none 0 0, .slice none 0 0, .int .i32 mi, .int .i32 po, .int .i32 g, .int .u8 f, .int .u8 n, .string d] 25
  have q0 := r0.2.1
  have hw := (Below.refl w.heap.size w).alloc (Nat.le_refl _) (.cells #[.slice none 0 0, .slice none 0 0, .int .i32 mi, .int .i32 po, .int .i32 g, .int .u8 f, .int .u8 n, .string d] 25)
  go_enter Tryz.func28, Tryz.ntmps28
  go_wp2_with (first | (go_at_call 33; refine (ruled_none _).mono ?_; rintro e w2 ⟨rfl, h2⟩; replace r0 := r0.keep h2; replace q0 := r0.2.1; replace hw := below_of hw h2; clear h2) | (go_at_call 47; refine (point_any _ _).mono ?_; rintro e w3 ⟨rfl, rfl⟩))
  refine (points_any d _ (by omega)).mono ?_
  rintro e w4 ⟨ao, cv, rfl, hown, h4⟩
  replace r0 := r0.keep h4
  replace q0 := r0.2.1
  replace hw := below_of hw h4
  clear h4 hown
  go_wp2
  go_ret
  exact ⟨rb (by rw [HK.out]; first | (simp; omega) | (rw [Bool.eq_iff_iff, Bool.and_eq_true, decide_eq_true_eq, decide_eq_true_eq, decide_eq_true_eq]; omega)), hw⟩

set_option maxHeartbeats 1000000 in
theorem known_8n (mi po g : Int) (f n : Nat) (d : ByteArray) (w : World) (hd : d.size ≤ 100000) (h1 : Lib.validRune mi = true) (h2 : Lib.validRune po = true) (h3 : Lib.validRune g = true) (h4 : (mi == 0) = false) (h5 : (po == 0) = false) (h6 : Pn.ptsLen d.data.toList = d.data.toList.length) (h7 : ¬ d.data.toList = []) (h8 : (Pn.pts d.data.toList).length = 10) (h9 : ¬ f ≤ 9) :
    Calls Tryz.prog 28 #[.agg #[.slice none 0 0, .slice none 0 0, .int .i32 mi, .int .i32 po, .int .i32 g, .int .u8 f, .int .u8 n, .string d]] w fun e w' => e = .returned (.bool (Pn.knownB mi po g f n d.data.toList)) ∧ Below w.heap.size w w' := by
  have HS : Hid (Pn.signsB mi po g = true) := by show _ = _; simp [Pn.signsB, h1, h2, h3]; exact ⟨by simpa using h4, by simpa using h5⟩
  have HK : Hid (Pn.knownB mi po g f n d.data.toList = (decide (f ≤ 9) && decide (n ≤ 9))) := Pn.known_yes mi po g f n _ HS.out (Pn.dok_yes _ h6 h8)
  have hpos : 0 < d.data.toList.length := List.length_pos_iff.2 h7
  rw [← Lib.size_eq] at h6 hpos
  have h6' : ((Pn.ptsLen d.data.toList : Int) != d.size) = false := by rw [bne_eq_false_iff_eq]; omega
  have h7' : (0 : Int) < Pn.ptsLen d.data.toList := by omega
  have h8' : (((Pn.pts d.data.toList).length : Int) != 10) = false := by rw [bne_eq_false_iff_eq]; omega
  have h9' : ¬ (f : Int) ≤ 9 := by omega
  clear h6 h7 h8 hpos h9
  have r0 := row_at w #[.slice none 0 0, .slice none 0 0, .int .i32 mi, .int .i32 po, .int .i32 g, .int .u8 f, .int .u8 n, .string d] 25
  have q0 := r0.2.1
  have hw := (Below.refl w.heap.size w).alloc (Nat.le_refl _) (.cells #[.slice none 0 0, .slice none 0 0, .int .i32 mi, .int .i32 po, .int .i32 g, .int .u8 f, .int .u8 n, .string d] 25)
  go_enter Tryz.func28, Tryz.ntmps28
  go_wp2_with (first | (go_at_call 33; refine (ruled_none _).mono ?_; rintro e w2 ⟨rfl, h2⟩; replace r0 := r0.keep h2; replace q0 := r0.2.1; replace hw := below_of hw h2; clear h2) | (go_at_call 47; refine (point_any _ _).mono ?_; rintro e w3 ⟨rfl, rfl⟩))
  refine (points_any d _ (by omega)).mono ?_
  rintro e w4 ⟨ao, cv, rfl, hown, h4⟩
  replace r0 := r0.keep h4
  replace q0 := r0.2.1
  replace hw := below_of hw h4
  clear h4 hown
  go_wp2
  go_ret
  exact ⟨rb (by rw [HK.out]; first | (simp; omega) | (rw [Bool.eq_iff_iff, Bool.and_eq_true, decide_eq_true_eq, decide_eq_true_eq, decide_eq_true_eq]; omega)), hw⟩

set_option maxHeartbeats 1000000 in
theorem known_9n (mi po g : Int) (f n : Nat) (d : ByteArray) (w : World) (hd : d.size ≤ 100000) (h1 : Lib.validRune mi = true) (h2 : Lib.validRune po = true) (h3 : Lib.validRune g = true) (h4 : (mi == 0) = false) (h5 : (po == 0) = false) (h6 : Pn.ptsLen d.data.toList = d.data.toList.length) (h7 : d.data.toList = []) (h9 : ¬ f ≤ 9) :
    Calls Tryz.prog 28 #[.agg #[.slice none 0 0, .slice none 0 0, .int .i32 mi, .int .i32 po, .int .i32 g, .int .u8 f, .int .u8 n, .string d]] w fun e w' => e = .returned (.bool (Pn.knownB mi po g f n d.data.toList)) ∧ Below w.heap.size w w' := by
  have HS : Hid (Pn.signsB mi po g = true) := by show _ = _; simp [Pn.signsB, h1, h2, h3]; exact ⟨by simpa using h4, by simpa using h5⟩
  have HK : Hid (Pn.knownB mi po g f n d.data.toList = (decide (f ≤ 9) && decide (n ≤ 9))) := Pn.known_yes mi po g f n _ HS.out (Pn.dok_nil _ h7)
  rw [← Lib.size_eq] at h6
  have h6' : ((Pn.ptsLen d.data.toList : Int) != d.size) = false := by rw [bne_eq_false_iff_eq]; omega
  have h7' : ¬ (0 : Int) < Pn.ptsLen d.data.toList := by rw [h6, Lib.size_eq, h7]; decide
  have h9' : ¬ (f : Int) ≤ 9 := by omega
  clear h6 h7 h9
  have r0 := row_at w #[.slice none 0 0, .slice none 0 0, .int .i32 mi, .int .i32 po, .int .i32 g, .int .u8 f, .int .u8 n, .string d] 25
  have q0 := r0.2.1
  have hw := (Below.refl w.heap.size w).alloc (Nat.le_refl _) (.cells #[.slice none 0 0, .slice none 0 0, .int .i32 mi, .int .i32 po, .int .i32 g, .int .u8 f, .int .u8 n, .string d] 25)
  go_enter Tryz.func28, Tryz.ntmps28
  go_wp2_with (first | (go_at_call 33; refine (ruled_none _).mono ?_; rintro e w2 ⟨rfl, h2⟩; replace r0 := r0.keep h2; replace q0 := r0.2.1; replace hw := below_of hw h2; clear h2) | (go_at_call 47; refine (point_any _ _).mono ?_; rintro e w3 ⟨rfl, rfl⟩))
  refine (points_any d _ (by omega)).mono ?_
  rintro e w4 ⟨ao, cv, rfl, hown, h4⟩
  replace r0 := r0.keep h4
  replace q0 := r0.2.1
  replace hw := below_of hw h4
  clear h4 hown
  go_wp2
  go_ret
  exact ⟨rb (by rw [HK.out]; first | (simp; omega) | (rw [Bool.eq_iff_iff, Bool.and_eq_true, decide_eq_true_eq, decide_eq_true_eq, decide_eq_true_eq]; omega)), hw⟩

theorem known_any (mi po g : Int) (f n : Nat) (d : ByteArray) (w : World) (hd : d.size ≤ 100000) :
    Calls Tryz.prog 28 #[.agg #[.slice none 0 0, .slice none 0 0, .int .i32 mi, .int .i32 po, .int .i32 g, .int .u8 f, .int .u8 n, .string d]] w fun e w' => e = .returned (.bool (Pn.knownB mi po g f n d.data.toList)) ∧ Below w.heap.size w w' := by
  cases h1 : Lib.validRune mi with
  | false => exact known_1 mi po g f n d w h1
  | true =>
  cases h2 : Lib.validRune po with
  | false => exact known_2 mi po g f n d w h1 h2
  | true =>
  cases h3 : Lib.validRune g with
  | false => exact known_3 mi po g f n d w h1 h2 h3
  | true =>
  cases h4 : (mi == 0) with
  | true => exact known_4 mi po g f n d w h1 h2 h3 h4
  | false =>
  cases h5 : (po == 0) with
  | true => exact known_5 mi po g f n d w h1 h2 h3 h4 h5
  | false =>
  by_cases h6 : Pn.ptsLen d.data.toList = d.data.toList.length
  · by_cases h7 : d.data.toList = []
    · by_cases h9 : f ≤ 9
      · exact known_9 mi po g f n d w hd h1 h2 h3 h4 h5 h6 h7 h9
      · exact known_9n mi po g f n d w hd h1 h2 h3 h4 h5 h6 h7 h9
    · by_cases h8 : (Pn.pts d.data.toList).length = 10
      · by_cases h9 : f ≤ 9
        · exact known_8 mi po g f n d w hd h1 h2 h3 h4 h5 h6 h7 h8 h9
        · exact known_8n mi po g f n d w hd h1 h2 h3 h4 h5 h6 h7 h8 h9
      · exact known_7 mi po g f n d w hd h1 h2 h3 h4 h5 h6 h7 h8
  · exact known_6 mi po g f n d w hd h1 h2 h3 h4 h5 h6
end Go.Proofs.YtaepcfidpekflaaGreatDoor
