/-
  NumOf (P2) by its contract. By the verifier.
-/
import Derived.Test.YtaepcfidpekflaaGreatDoorRa
import Derived.RegionTactic
import Derived.BigRegion
namespace Go.Proofs.YtaepcfidpekflaaGreatDoor
open Go.RowKit

theorem zero_cat (a b : List UInt8) : (⟨a.toArray⟩ ++ ⟨b.toArray⟩ : ByteArray).data.toList = a ++ b := by simp [ByteArray.data_append]
theorem below_drewish {w w' : World} (h : Below w.heap.size w w') : Below w.heap.size w w'.drew := h.drew
theorem zeroB_cat (a b : List UInt8) : Pn.zeroB (a ++ b) = (Pn.zeroB a && Pn.zeroB b) := by simp [Pn.zeroB]
theorem nought_cat (a b : List UInt8) (w : World) (h : a.length + b.length ≤ 100000) :
    Calls Tryz.prog 51 #[.string (⟨a.toArray⟩ ++ ⟨b.toArray⟩)] w fun e w' => e = .returned (.bool (Pn.zeroB a && Pn.zeroB b)) ∧ w' = w := by
  have h2 := nought_any (⟨a.toArray⟩ ++ ⟨b.toArray⟩) w (by rw [Lib.size_eq, zero_cat]; simp; omega)
  rw [zero_cat, zeroB_cat] at h2
  exact h2
theorem numerals_l (a : List UInt8) (w : World) (h : a.length ≤ 100000) :
    Calls Tryz.prog 50 #[.string ⟨a.toArray⟩] w fun e w' => e = .returned (.bool (Pn.digitsB a)) ∧ w' = w := numerals_any ⟨a.toArray⟩ w (by rw [Lib.size_mk]; omega)

set_option maxHeartbeats 2000000 in
theorem numOf_m1 (s : ByteArray) (w : World) (p : Bool) (a b : List UInt8) (hs : s.size ≤ 100000) (hpos : 0 < s.size) (h45 : ((s[0].toNat : Int) == 45) = true)
    (hR : Hid ((s.extract 1 s.size).data.toList = Pn.restOf s.data.toList)) (hc : Hid (Lib.cut (Pn.restOf s.data.toList) [46] = (a, b, p)))
    (hab : a.length + b.length ≤ 100000) (hd : Pn.digitsB a = false) :
    Calls Tryz.prog 29 #[.string s] w fun e w' => (∃ (m : Bool) (x y : ByteArray), e = .returned (.tuple #[.agg #[.bool m, .string x, .string y], .bool false])) ∧ Below w.heap.size w w' := by
  have x0 : Row ((w.alloc (.cells #[.bool false, .string ⟨#[]⟩, .string ⟨#[]⟩] 62)).alloc (.cells #[.bool true, .string ⟨#[]⟩, .string ⟨#[]⟩] 62)) w.heap.size #[.bool false, .string ⟨#[]⟩, .string ⟨#[]⟩] := (row_at w _ _).alloc _
  have x1 : Row ((w.alloc (.cells #[.bool false, .string ⟨#[]⟩, .string ⟨#[]⟩] 62)).alloc (.cells #[.bool true, .string ⟨#[]⟩, .string ⟨#[]⟩] 62)) (w.heap.size + 1) #[.bool true, .string ⟨#[]⟩, .string ⟨#[]⟩] := by simpa using row_at (w.alloc (.cells #[.bool false, .string ⟨#[]⟩, .string ⟨#[]⟩] 62)) #[.bool true, .string ⟨#[]⟩, .string ⟨#[]⟩] 62
  have hw0 : Below w.heap.size w ((w.alloc (.cells #[.bool false, .string ⟨#[]⟩, .string ⟨#[]⟩] 62)).alloc (.cells #[.bool true, .string ⟨#[]⟩, .string ⟨#[]⟩] 62)) := ((Below.refl _ _).alloc (Nat.le_refl _) _).alloc (by simp) _
  go_enter Tryz.func29, Tryz.ntmps29
  go_wp2_with fail
  refine (rcut_any _ _ (by first | omega | (simp; omega))).mono ?_
  rintro e w1 ⟨rfl, hb1⟩
  rw [hR.out]
  rw [hc.out]
  replace x0 := x0.keep hb1
  replace x1 := x1.keep hb1
  have hw := below_of hw0 hb1
  clear hb1 hw0
  have q0 := x0.2.1
  have p0 := x0.2.2
  have q1 := x1.2.1
  have p1 := x1.2.2
  clear x0 x1
  go_wp2_with (first | (go_at_call 50; refine (numerals_l _ _ (by omega)).mono ?_; rintro e w2 ⟨rfl, rfl⟩) | (go_at_call 51; refine (nought_cat _ _ _ (by omega)).mono ?_; rintro e w2 ⟨rfl, rfl⟩))
  exact bodyPost_ret (v := .tuple #[.agg #[.bool true, .string ⟨a.toArray⟩, .string ⟨b.toArray⟩], .bool false]) (by simp [results, Tryz.results29, go_sem, q0]) rfl ⟨⟨_, _, _, rfl⟩, ((((((hw.setCell (p := ⟨w.heap.size + 1, 1, none⟩) (Nat.le_succ _) _).setCell (p := ⟨w.heap.size + 1, 2, none⟩) (Nat.le_succ _) _)).setCell (p := ⟨w.heap.size, 0, none⟩) (Nat.le_refl _) _).setCell (p := ⟨w.heap.size, 1, none⟩) (Nat.le_refl _) _).setCell (p := ⟨w.heap.size, 2, none⟩) (Nat.le_refl _) _)⟩

set_option maxHeartbeats 2000000 in
theorem numOf_m2 (s : ByteArray) (w : World) (p : Bool) (a b : List UInt8) (hs : s.size ≤ 100000) (hpos : 0 < s.size) (h45 : ((s[0].toNat : Int) == 45) = true)
    (hR : Hid ((s.extract 1 s.size).data.toList = Pn.restOf s.data.toList)) (hc : Hid (Lib.cut (Pn.restOf s.data.toList) [46] = (a, b, p)))
    (hab : a.length + b.length ≤ 100000) (hd : Pn.digitsB a = true) (hp : p = true) (hdb : Pn.digitsB b = false) :
    Calls Tryz.prog 29 #[.string s] w fun e w' => (∃ (m : Bool) (x y : ByteArray), e = .returned (.tuple #[.agg #[.bool m, .string x, .string y], .bool false])) ∧ Below w.heap.size w w' := by
  have x0 : Row ((w.alloc (.cells #[.bool false, .string ⟨#[]⟩, .string ⟨#[]⟩] 62)).alloc (.cells #[.bool true, .string ⟨#[]⟩, .string ⟨#[]⟩] 62)) w.heap.size #[.bool false, .string ⟨#[]⟩, .string ⟨#[]⟩] := (row_at w _ _).alloc _
  have x1 : Row ((w.alloc (.cells #[.bool false, .string ⟨#[]⟩, .string ⟨#[]⟩] 62)).alloc (.cells #[.bool true, .string ⟨#[]⟩, .string ⟨#[]⟩] 62)) (w.heap.size + 1) #[.bool true, .string ⟨#[]⟩, .string ⟨#[]⟩] := by simpa using row_at (w.alloc (.cells #[.bool false, .string ⟨#[]⟩, .string ⟨#[]⟩] 62)) #[.bool true, .string ⟨#[]⟩, .string ⟨#[]⟩] 62
  have hw0 : Below w.heap.size w ((w.alloc (.cells #[.bool false, .string ⟨#[]⟩, .string ⟨#[]⟩] 62)).alloc (.cells #[.bool true, .string ⟨#[]⟩, .string ⟨#[]⟩] 62)) := ((Below.refl _ _).alloc (Nat.le_refl _) _).alloc (by simp) _
  subst hp
  go_enter Tryz.func29, Tryz.ntmps29
  go_wp2_with fail
  refine (rcut_any _ _ (by first | omega | (simp; omega))).mono ?_
  rintro e w1 ⟨rfl, hb1⟩
  rw [hR.out]
  rw [hc.out]
  replace x0 := x0.keep hb1
  replace x1 := x1.keep hb1
  have hw := below_of hw0 hb1
  clear hb1 hw0
  have q0 := x0.2.1
  have p0 := x0.2.2
  have q1 := x1.2.1
  have p1 := x1.2.2
  clear x0 x1
  go_wp2_with (first | (go_at_call 50; refine (numerals_l _ _ (by omega)).mono ?_; rintro e w2 ⟨rfl, rfl⟩) | (go_at_call 51; refine (nought_cat _ _ _ (by omega)).mono ?_; rintro e w2 ⟨rfl, rfl⟩))
  exact bodyPost_ret (v := .tuple #[.agg #[.bool true, .string ⟨a.toArray⟩, .string ⟨b.toArray⟩], .bool false]) (by simp [results, Tryz.results29, go_sem, q0]) rfl ⟨⟨_, _, _, rfl⟩, ((((((hw.setCell (p := ⟨w.heap.size + 1, 1, none⟩) (Nat.le_succ _) _).setCell (p := ⟨w.heap.size + 1, 2, none⟩) (Nat.le_succ _) _)).setCell (p := ⟨w.heap.size, 0, none⟩) (Nat.le_refl _) _).setCell (p := ⟨w.heap.size, 1, none⟩) (Nat.le_refl _) _).setCell (p := ⟨w.heap.size, 2, none⟩) (Nat.le_refl _) _)⟩

set_option maxHeartbeats 2000000 in
theorem numOf_m3f (s : ByteArray) (w : World) (p : Bool) (a b : List UInt8) (hs : s.size ≤ 100000) (hpos : 0 < s.size) (h45 : ((s[0].toNat : Int) == 45) = true)
    (hR : Hid ((s.extract 1 s.size).data.toList = Pn.restOf s.data.toList)) (hc : Hid (Lib.cut (Pn.restOf s.data.toList) [46] = (a, b, p)))
    (hab : a.length + b.length ≤ 100000) (hd : Pn.digitsB a = true) (hp : p = false) (h30 : (30 : Int) < (a.length : Int) + b.length) :
    Calls Tryz.prog 29 #[.string s] w fun e w' => (∃ (m : Bool) (x y : ByteArray), e = .returned (.tuple #[.agg #[.bool m, .string x, .string y], .bool false])) ∧ Below w.heap.size w w' := by
  have x0 : Row ((w.alloc (.cells #[.bool false, .string ⟨#[]⟩, .string ⟨#[]⟩] 62)).alloc (.cells #[.bool true, .string ⟨#[]⟩, .string ⟨#[]⟩] 62)) w.heap.size #[.bool false, .string ⟨#[]⟩, .string ⟨#[]⟩] := (row_at w _ _).alloc _
  have x1 : Row ((w.alloc (.cells #[.bool false, .string ⟨#[]⟩, .string ⟨#[]⟩] 62)).alloc (.cells #[.bool true, .string ⟨#[]⟩, .string ⟨#[]⟩] 62)) (w.heap.size + 1) #[.bool true, .string ⟨#[]⟩, .string ⟨#[]⟩] := by simpa using row_at (w.alloc (.cells #[.bool false, .string ⟨#[]⟩, .string ⟨#[]⟩] 62)) #[.bool true, .string ⟨#[]⟩, .string ⟨#[]⟩] 62
  have hw0 : Below w.heap.size w ((w.alloc (.cells #[.bool false, .string ⟨#[]⟩, .string ⟨#[]⟩] 62)).alloc (.cells #[.bool true, .string ⟨#[]⟩, .string ⟨#[]⟩] 62)) := ((Below.refl _ _).alloc (Nat.le_refl _) _).alloc (by simp) _
  subst hp
  go_enter Tryz.func29, Tryz.ntmps29
  go_wp2_with fail
  refine (rcut_any _ _ (by first | omega | (simp; omega))).mono ?_
  rintro e w1 ⟨rfl, hb1⟩
  rw [hR.out]
  rw [hc.out]
  replace x0 := x0.keep hb1
  replace x1 := x1.keep hb1
  have hw := below_of hw0 hb1
  clear hb1 hw0
  have q0 := x0.2.1
  have p0 := x0.2.2
  have q1 := x1.2.1
  have p1 := x1.2.2
  clear x0 x1
  go_wp2_with (first | (go_at_call 50; refine (numerals_l _ _ (by omega)).mono ?_; rintro e w2 ⟨rfl, rfl⟩) | (go_at_call 51; refine (nought_cat _ _ _ (by omega)).mono ?_; rintro e w2 ⟨rfl, rfl⟩))
  exact bodyPost_ret (v := .tuple #[.agg #[.bool true, .string ⟨a.toArray⟩, .string ⟨b.toArray⟩], .bool false]) (by simp [results, Tryz.results29, go_sem, q0]) rfl ⟨⟨_, _, _, rfl⟩, ((((((hw.setCell (p := ⟨w.heap.size + 1, 1, none⟩) (Nat.le_succ _) _).setCell (p := ⟨w.heap.size + 1, 2, none⟩) (Nat.le_succ _) _)).setCell (p := ⟨w.heap.size, 0, none⟩) (Nat.le_refl _) _).setCell (p := ⟨w.heap.size, 1, none⟩) (Nat.le_refl _) _).setCell (p := ⟨w.heap.size, 2, none⟩) (Nat.le_refl _) _)⟩

set_option maxHeartbeats 2000000 in
theorem numOf_m4f (s : ByteArray) (w : World) (p : Bool) (a b : List UInt8) (hs : s.size ≤ 100000) (hpos : 0 < s.size) (h45 : ((s[0].toNat : Int) == 45) = true)
    (hR : Hid ((s.extract 1 s.size).data.toList = Pn.restOf s.data.toList)) (hc : Hid (Lib.cut (Pn.restOf s.data.toList) [46] = (a, b, p)))
    (hab : a.length + b.length ≤ 100000) (hd : Pn.digitsB a = true) (hp : p = false) (h30 : ¬ (30 : Int) < (a.length : Int) + b.length) (h0a : 0 < a.length) (h1 : (1 : Int) < a.length) (h48 : ((((⟨a.toArray⟩ : ByteArray)[0]'(by rw [Lib.size_mk]; exact h0a)).toNat : Int) == 48) = true) :
    Calls Tryz.prog 29 #[.string s] w fun e w' => (∃ (m : Bool) (x y : ByteArray), e = .returned (.tuple #[.agg #[.bool m, .string x, .string y], .bool false])) ∧ Below w.heap.size w w' := by
  have x0 : Row ((w.alloc (.cells #[.bool false, .string ⟨#[]⟩, .string ⟨#[]⟩] 62)).alloc (.cells #[.bool true, .string ⟨#[]⟩, .string ⟨#[]⟩] 62)) w.heap.size #[.bool false, .string ⟨#[]⟩, .string ⟨#[]⟩] := (row_at w _ _).alloc _
  have x1 : Row ((w.alloc (.cells #[.bool false, .string ⟨#[]⟩, .string ⟨#[]⟩] 62)).alloc (.cells #[.bool true, .string ⟨#[]⟩, .string ⟨#[]⟩] 62)) (w.heap.size + 1) #[.bool true, .string ⟨#[]⟩, .string ⟨#[]⟩] := by simpa using row_at (w.alloc (.cells #[.bool false, .string ⟨#[]⟩, .string ⟨#[]⟩] 62)) #[.bool true, .string ⟨#[]⟩, .string ⟨#[]⟩] 62
  have hw0 : Below w.heap.size w ((w.alloc (.cells #[.bool false, .string ⟨#[]⟩, .string ⟨#[]⟩] 62)).alloc (.cells #[.bool true, .string ⟨#[]⟩, .string ⟨#[]⟩] 62)) := ((Below.refl _ _).alloc (Nat.le_refl _) _).alloc (by simp) _
  subst hp
  go_enter Tryz.func29, Tryz.ntmps29
  go_wp2_with fail
  refine (rcut_any _ _ (by first | omega | (simp; omega))).mono ?_
  rintro e w1 ⟨rfl, hb1⟩
  rw [hR.out]
  rw [hc.out]
  replace x0 := x0.keep hb1
  replace x1 := x1.keep hb1
  have hw := below_of hw0 hb1
  clear hb1 hw0
  have q0 := x0.2.1
  have p0 := x0.2.2
  have q1 := x1.2.1
  have p1 := x1.2.2
  clear x0 x1
  go_wp2_with (first | (go_at_call 50; refine (numerals_l _ _ (by omega)).mono ?_; rintro e w2 ⟨rfl, rfl⟩) | (go_at_call 51; refine (nought_cat _ _ _ (by omega)).mono ?_; rintro e w2 ⟨rfl, rfl⟩))
  go_region
  all_goals go_wp2
  all_goals exact bodyPost_ret (v := .tuple #[.agg #[.bool true, .string ⟨a.toArray⟩, .string ⟨b.toArray⟩], .bool false]) (by simp [results, Tryz.results29, go_sem, q0]) rfl ⟨⟨_, _, _, rfl⟩, below_drewish ((((((hw.setCell (p := ⟨w.heap.size + 1, 1, none⟩) (Nat.le_succ _) _).setCell (p := ⟨w.heap.size + 1, 2, none⟩) (Nat.le_succ _) _)).setCell (p := ⟨w.heap.size, 0, none⟩) (Nat.le_refl _) _).setCell (p := ⟨w.heap.size, 1, none⟩) (Nat.le_refl _) _).setCell (p := ⟨w.heap.size, 2, none⟩) (Nat.le_refl _) _)⟩

set_option maxHeartbeats 2000000 in
theorem numOf_m5fz (s : ByteArray) (w : World) (p : Bool) (a b : List UInt8) (hs : s.size ≤ 100000) (hpos : 0 < s.size) (h45 : ((s[0].toNat : Int) == 45) = true)
    (hR : Hid ((s.extract 1 s.size).data.toList = Pn.restOf s.data.toList)) (hc : Hid (Lib.cut (Pn.restOf s.data.toList) [46] = (a, b, p)))
    (hab : a.length + b.length ≤ 100000) (hd : Pn.digitsB a = true) (hp : p = false) (h30 : ¬ (30 : Int) < (a.length : Int) + b.length) (h0a : 0 < a.length) (h1 : decide ((1 : Int) < a.length) = false) (hz : (Pn.zeroB a && Pn.zeroB b) = true) :
    Calls Tryz.prog 29 #[.string s] w fun e w' => (∃ (m : Bool) (x y : ByteArray), e = .returned (.tuple #[.agg #[.bool m, .string x, .string y], .bool false])) ∧ Below w.heap.size w w' := by
  have x0 : Row ((w.alloc (.cells #[.bool false, .string ⟨#[]⟩, .string ⟨#[]⟩] 62)).alloc (.cells #[.bool true, .string ⟨#[]⟩, .string ⟨#[]⟩] 62)) w.heap.size #[.bool false, .string ⟨#[]⟩, .string ⟨#[]⟩] := (row_at w _ _).alloc _
  have x1 : Row ((w.alloc (.cells #[.bool false, .string ⟨#[]⟩, .string ⟨#[]⟩] 62)).alloc (.cells #[.bool true, .string ⟨#[]⟩, .string ⟨#[]⟩] 62)) (w.heap.size + 1) #[.bool true, .string ⟨#[]⟩, .string ⟨#[]⟩] := by simpa using row_at (w.alloc (.cells #[.bool false, .string ⟨#[]⟩, .string ⟨#[]⟩] 62)) #[.bool true, .string ⟨#[]⟩, .string ⟨#[]⟩] 62
  have hw0 : Below w.heap.size w ((w.alloc (.cells #[.bool false, .string ⟨#[]⟩, .string ⟨#[]⟩] 62)).alloc (.cells #[.bool true, .string ⟨#[]⟩, .string ⟨#[]⟩] 62)) := ((Below.refl _ _).alloc (Nat.le_refl _) _).alloc (by simp) _
  subst hp
  go_enter Tryz.func29, Tryz.ntmps29
  go_wp2_with fail
  refine (rcut_any _ _ (by first | omega | (simp; omega))).mono ?_
  rintro e w1 ⟨rfl, hb1⟩
  rw [hR.out]
  rw [hc.out]
  replace x0 := x0.keep hb1
  replace x1 := x1.keep hb1
  have hw := below_of hw0 hb1
  clear hb1 hw0
  have q0 := x0.2.1
  have p0 := x0.2.2
  have q1 := x1.2.1
  have p1 := x1.2.2
  clear x0 x1
  go_wp2_with (first | (go_at_call 50; refine (numerals_l _ _ (by omega)).mono ?_; rintro e w2 ⟨rfl, rfl⟩) | (go_at_call 51; refine (nought_cat _ _ _ (by omega)).mono ?_; rintro e w2 ⟨rfl, rfl⟩))
  go_region
  all_goals go_wp2
  all_goals exact bodyPost_ret (v := .tuple #[.agg #[.bool true, .string ⟨a.toArray⟩, .string ⟨b.toArray⟩], .bool false]) (by simp [results, Tryz.results29, go_sem, q0]) rfl ⟨⟨_, _, _, rfl⟩, below_drewish ((((((hw.setCell (p := ⟨w.heap.size + 1, 1, none⟩) (Nat.le_succ _) _).setCell (p := ⟨w.heap.size + 1, 2, none⟩) (Nat.le_succ _) _)).setCell (p := ⟨w.heap.size, 0, none⟩) (Nat.le_refl _) _).setCell (p := ⟨w.heap.size, 1, none⟩) (Nat.le_refl _) _).setCell (p := ⟨w.heap.size, 2, none⟩) (Nat.le_refl _) _)⟩

set_option maxHeartbeats 2000000 in
theorem numOf_m5fy (s : ByteArray) (w : World) (p : Bool) (a b : List UInt8) (hs : s.size ≤ 100000) (hpos : 0 < s.size) (h45 : ((s[0].toNat : Int) == 45) = true)
    (hR : Hid ((s.extract 1 s.size).data.toList = Pn.restOf s.data.toList)) (hc : Hid (Lib.cut (Pn.restOf s.data.toList) [46] = (a, b, p)))
    (hab : a.length + b.length ≤ 100000) (hd : Pn.digitsB a = true) (hp : p = false) (h30 : ¬ (30 : Int) < (a.length : Int) + b.length) (h0a : 0 < a.length) (h1 : decide ((1 : Int) < a.length) = false) (hz : (Pn.zeroB a && Pn.zeroB b) = false) :
    Calls Tryz.prog 29 #[.string s] w fun e w' => e = .returned (.tuple #[.agg #[.bool true, .string ⟨a.toArray⟩, .string ⟨b.toArray⟩], .bool true]) ∧ Below w.heap.size w w' := by
  have x0 : Row ((w.alloc (.cells #[.bool false, .string ⟨#[]⟩, .string ⟨#[]⟩] 62)).alloc (.cells #[.bool true, .string ⟨#[]⟩, .string ⟨#[]⟩] 62)) w.heap.size #[.bool false, .string ⟨#[]⟩, .string ⟨#[]⟩] := (row_at w _ _).alloc _
  have x1 : Row ((w.alloc (.cells #[.bool false, .string ⟨#[]⟩, .string ⟨#[]⟩] 62)).alloc (.cells #[.bool true, .string ⟨#[]⟩, .string ⟨#[]⟩] 62)) (w.heap.size + 1) #[.bool true, .string ⟨#[]⟩, .string ⟨#[]⟩] := by simpa using row_at (w.alloc (.cells #[.bool false, .string ⟨#[]⟩, .string ⟨#[]⟩] 62)) #[.bool true, .string ⟨#[]⟩, .string ⟨#[]⟩] 62
  have hw0 : Below w.heap.size w ((w.alloc (.cells #[.bool false, .string ⟨#[]⟩, .string ⟨#[]⟩] 62)).alloc (.cells #[.bool true, .string ⟨#[]⟩, .string ⟨#[]⟩] 62)) := ((Below.refl _ _).alloc (Nat.le_refl _) _).alloc (by simp) _
  subst hp
  go_enter Tryz.func29, Tryz.ntmps29
  go_wp2_with fail
  refine (rcut_any _ _ (by first | omega | (simp; omega))).mono ?_
  rintro e w1 ⟨rfl, hb1⟩
  rw [hR.out]
  rw [hc.out]
  replace x0 := x0.keep hb1
  replace x1 := x1.keep hb1
  have hw := below_of hw0 hb1
  clear hb1 hw0
  have q0 := x0.2.1
  have p0 := x0.2.2
  have q1 := x1.2.1
  have p1 := x1.2.2
  clear x0 x1
  go_wp2_with (first | (go_at_call 50; refine (numerals_l _ _ (by omega)).mono ?_; rintro e w2 ⟨rfl, rfl⟩) | (go_at_call 51; refine (nought_cat _ _ _ (by omega)).mono ?_; rintro e w2 ⟨rfl, rfl⟩))
  go_region
  all_goals go_wp2
  all_goals exact bodyPost_ret (v := .tuple #[.agg #[.bool true, .string ⟨a.toArray⟩, .string ⟨b.toArray⟩], .bool true]) (by simp [results, Tryz.results29, go_sem, q0]) rfl ⟨rfl, below_drewish ((((((hw.setCell (p := ⟨w.heap.size + 1, 1, none⟩) (Nat.le_succ _) _).setCell (p := ⟨w.heap.size + 1, 2, none⟩) (Nat.le_succ _) _)).setCell (p := ⟨w.heap.size, 0, none⟩) (Nat.le_refl _) _).setCell (p := ⟨w.heap.size, 1, none⟩) (Nat.le_refl _) _).setCell (p := ⟨w.heap.size, 2, none⟩) (Nat.le_refl _) _)⟩

set_option maxHeartbeats 2000000 in
theorem numOf_m6fz (s : ByteArray) (w : World) (p : Bool) (a b : List UInt8) (hs : s.size ≤ 100000) (hpos : 0 < s.size) (h45 : ((s[0].toNat : Int) == 45) = true)
    (hR : Hid ((s.extract 1 s.size).data.toList = Pn.restOf s.data.toList)) (hc : Hid (Lib.cut (Pn.restOf s.data.toList) [46] = (a, b, p)))
    (hab : a.length + b.length ≤ 100000) (hd : Pn.digitsB a = true) (hp : p = false) (h30 : ¬ (30 : Int) < (a.length : Int) + b.length) (h0a : 0 < a.length) (h1 : (1 : Int) < a.length) (h48 : ((((⟨a.toArray⟩ : ByteArray)[0]'(by rw [Lib.size_mk]; exact h0a)).toNat : Int) == 48) = false) (hz : (Pn.zeroB a && Pn.zeroB b) = true) :
    Calls Tryz.prog 29 #[.string s] w fun e w' => (∃ (m : Bool) (x y : ByteArray), e = .returned (.tuple #[.agg #[.bool m, .string x, .string y], .bool false])) ∧ Below w.heap.size w w' := by
  have x0 : Row ((w.alloc (.cells #[.bool false, .string ⟨#[]⟩, .string ⟨#[]⟩] 62)).alloc (.cells #[.bool true, .string ⟨#[]⟩, .string ⟨#[]⟩] 62)) w.heap.size #[.bool false, .string ⟨#[]⟩, .string ⟨#[]⟩] := (row_at w _ _).alloc _
  have x1 : Row ((w.alloc (.cells #[.bool false, .string ⟨#[]⟩, .string ⟨#[]⟩] 62)).alloc (.cells #[.bool true, .string ⟨#[]⟩, .string ⟨#[]⟩] 62)) (w.heap.size + 1) #[.bool true, .string ⟨#[]⟩, .string ⟨#[]⟩] := by simpa using row_at (w.alloc (.cells #[.bool false, .string ⟨#[]⟩, .string ⟨#[]⟩] 62)) #[.bool true, .string ⟨#[]⟩, .string ⟨#[]⟩] 62
  have hw0 : Below w.heap.size w ((w.alloc (.cells #[.bool false, .string ⟨#[]⟩, .string ⟨#[]⟩] 62)).alloc (.cells #[.bool true, .string ⟨#[]⟩, .string ⟨#[]⟩] 62)) := ((Below.refl _ _).alloc (Nat.le_refl _) _).alloc (by simp) _
  subst hp
  go_enter Tryz.func29, Tryz.ntmps29
  go_wp2_with fail
  refine (rcut_any _ _ (by first | omega | (simp; omega))).mono ?_
  rintro e w1 ⟨rfl, hb1⟩
  rw [hR.out]
  rw [hc.out]
  replace x0 := x0.keep hb1
  replace x1 := x1.keep hb1
  have hw := below_of hw0 hb1
  clear hb1 hw0
  have q0 := x0.2.1
  have p0 := x0.2.2
  have q1 := x1.2.1
  have p1 := x1.2.2
  clear x0 x1
  go_wp2_with (first | (go_at_call 50; refine (numerals_l _ _ (by omega)).mono ?_; rintro e w2 ⟨rfl, rfl⟩) | (go_at_call 51; refine (nought_cat _ _ _ (by omega)).mono ?_; rintro e w2 ⟨rfl, rfl⟩))
  go_region
  all_goals go_wp2
  all_goals exact bodyPost_ret (v := .tuple #[.agg #[.bool true, .string ⟨a.toArray⟩, .string ⟨b.toArray⟩], .bool false]) (by simp [results, Tryz.results29, go_sem, q0]) rfl ⟨⟨_, _, _, rfl⟩, below_drewish ((((((hw.setCell (p := ⟨w.heap.size + 1, 1, none⟩) (Nat.le_succ _) _).setCell (p := ⟨w.heap.size + 1, 2, none⟩) (Nat.le_succ _) _)).setCell (p := ⟨w.heap.size, 0, none⟩) (Nat.le_refl _) _).setCell (p := ⟨w.heap.size, 1, none⟩) (Nat.le_refl _) _).setCell (p := ⟨w.heap.size, 2, none⟩) (Nat.le_refl _) _)⟩

set_option maxHeartbeats 2000000 in
theorem numOf_m6fy (s : ByteArray) (w : World) (p : Bool) (a b : List UInt8) (hs : s.size ≤ 100000) (hpos : 0 < s.size) (h45 : ((s[0].toNat : Int) == 45) = true)
    (hR : Hid ((s.extract 1 s.size).data.toList = Pn.restOf s.data.toList)) (hc : Hid (Lib.cut (Pn.restOf s.data.toList) [46] = (a, b, p)))
    (hab : a.length + b.length ≤ 100000) (hd : Pn.digitsB a = true) (hp : p = false) (h30 : ¬ (30 : Int) < (a.length : Int) + b.length) (h0a : 0 < a.length) (h1 : (1 : Int) < a.length) (h48 : ((((⟨a.toArray⟩ : ByteArray)[0]'(by rw [Lib.size_mk]; exact h0a)).toNat : Int) == 48) = false) (hz : (Pn.zeroB a && Pn.zeroB b) = false) :
    Calls Tryz.prog 29 #[.string s] w fun e w' => e = .returned (.tuple #[.agg #[.bool true, .string ⟨a.toArray⟩, .string ⟨b.toArray⟩], .bool true]) ∧ Below w.heap.size w w' := by
  have x0 : Row ((w.alloc (.cells #[.bool false, .string ⟨#[]⟩, .string ⟨#[]⟩] 62)).alloc (.cells #[.bool true, .string ⟨#[]⟩, .string ⟨#[]⟩] 62)) w.heap.size #[.bool false, .string ⟨#[]⟩, .string ⟨#[]⟩] := (row_at w _ _).alloc _
  have x1 : Row ((w.alloc (.cells #[.bool false, .string ⟨#[]⟩, .string ⟨#[]⟩] 62)).alloc (.cells #[.bool true, .string ⟨#[]⟩, .string ⟨#[]⟩] 62)) (w.heap.size + 1) #[.bool true, .string ⟨#[]⟩, .string ⟨#[]⟩] := by simpa using row_at (w.alloc (.cells #[.bool false, .string ⟨#[]⟩, .string ⟨#[]⟩] 62)) #[.bool true, .string ⟨#[]⟩, .string ⟨#[]⟩] 62
  have hw0 : Below w.heap.size w ((w.alloc (.cells #[.bool false, .string ⟨#[]⟩, .string ⟨#[]⟩] 62)).alloc (.cells #[.bool true, .string ⟨#[]⟩, .string ⟨#[]⟩] 62)) := ((Below.refl _ _).alloc (Nat.le_refl _) _).alloc (by simp) _
  subst hp
  go_enter Tryz.func29, Tryz.ntmps29
  go_wp2_with fail
  refine (rcut_any _ _ (by first | omega | (simp; omega))).mono ?_
  rintro e w1 ⟨rfl, hb1⟩
  rw [hR.out]
  rw [hc.out]
  replace x0 := x0.keep hb1
  replace x1 := x1.keep hb1
  have hw := below_of hw0 hb1
  clear hb1 hw0
  have q0 := x0.2.1
  have p0 := x0.2.2
  have q1 := x1.2.1
  have p1 := x1.2.2
  clear x0 x1
  go_wp2_with (first | (go_at_call 50; refine (numerals_l _ _ (by omega)).mono ?_; rintro e w2 ⟨rfl, rfl⟩) | (go_at_call 51; refine (nought_cat _ _ _ (by omega)).mono ?_; rintro e w2 ⟨rfl, rfl⟩))
  go_region
  all_goals go_wp2
  all_goals exact bodyPost_ret (v := .tuple #[.agg #[.bool true, .string ⟨a.toArray⟩, .string ⟨b.toArray⟩], .bool true]) (by simp [results, Tryz.results29, go_sem, q0]) rfl ⟨rfl, below_drewish ((((((hw.setCell (p := ⟨w.heap.size + 1, 1, none⟩) (Nat.le_succ _) _).setCell (p := ⟨w.heap.size + 1, 2, none⟩) (Nat.le_succ _) _)).setCell (p := ⟨w.heap.size, 0, none⟩) (Nat.le_refl _) _).setCell (p := ⟨w.heap.size, 1, none⟩) (Nat.le_refl _) _).setCell (p := ⟨w.heap.size, 2, none⟩) (Nat.le_refl _) _)⟩

set_option maxHeartbeats 2000000 in
theorem numOf_m3t (s : ByteArray) (w : World) (p : Bool) (a b : List UInt8) (hs : s.size ≤ 100000) (hpos : 0 < s.size) (h45 : ((s[0].toNat : Int) == 45) = true)
    (hR : Hid ((s.extract 1 s.size).data.toList = Pn.restOf s.data.toList)) (hc : Hid (Lib.cut (Pn.restOf s.data.toList) [46] = (a, b, p)))
    (hab : a.length + b.length ≤ 100000) (hd : Pn.digitsB a = true) (hp : p = true) (hdb : Pn.digitsB b = true) (h30 : (30 : Int) < (a.length : Int) + b.length) :
    Calls Tryz.prog 29 #[.string s] w fun e w' => (∃ (m : Bool) (x y : ByteArray), e = .returned (.tuple #[.agg #[.bool m, .string x, .string y], .bool false])) ∧ Below w.heap.size w w' := by
  have x0 : Row ((w.alloc (.cells #[.bool false, .string ⟨#[]⟩, .string ⟨#[]⟩] 62)).alloc (.cells #[.bool true, .string ⟨#[]⟩, .string ⟨#[]⟩] 62)) w.heap.size #[.bool false, .string ⟨#[]⟩, .string ⟨#[]⟩] := (row_at w _ _).alloc _
  have x1 : Row ((w.alloc (.cells #[.bool false, .string ⟨#[]⟩, .string ⟨#[]⟩] 62)).alloc (.cells #[.bool true, .string ⟨#[]⟩, .string ⟨#[]⟩] 62)) (w.heap.size + 1) #[.bool true, .string ⟨#[]⟩, .string ⟨#[]⟩] := by simpa using row_at (w.alloc (.cells #[.bool false, .string ⟨#[]⟩, .string ⟨#[]⟩] 62)) #[.bool true, .string ⟨#[]⟩, .string ⟨#[]⟩] 62
  have hw0 : Below w.heap.size w ((w.alloc (.cells #[.bool false, .string ⟨#[]⟩, .string ⟨#[]⟩] 62)).alloc (.cells #[.bool true, .string ⟨#[]⟩, .string ⟨#[]⟩] 62)) := ((Below.refl _ _).alloc (Nat.le_refl _) _).alloc (by simp) _
  subst hp
  go_enter Tryz.func29, Tryz.ntmps29
  go_wp2_with fail
  refine (rcut_any _ _ (by first | omega | (simp; omega))).mono ?_
  rintro e w1 ⟨rfl, hb1⟩
  rw [hR.out]
  rw [hc.out]
  replace x0 := x0.keep hb1
  replace x1 := x1.keep hb1
  have hw := below_of hw0 hb1
  clear hb1 hw0
  have q0 := x0.2.1
  have p0 := x0.2.2
  have q1 := x1.2.1
  have p1 := x1.2.2
  clear x0 x1
  go_wp2_with (first | (go_at_call 50; refine (numerals_l _ _ (by omega)).mono ?_; rintro e w2 ⟨rfl, rfl⟩) | (go_at_call 51; refine (nought_cat _ _ _ (by omega)).mono ?_; rintro e w2 ⟨rfl, rfl⟩))
  exact bodyPost_ret (v := .tuple #[.agg #[.bool true, .string ⟨a.toArray⟩, .string ⟨b.toArray⟩], .bool false]) (by simp [results, Tryz.results29, go_sem, q0]) rfl ⟨⟨_, _, _, rfl⟩, ((((((hw.setCell (p := ⟨w.heap.size + 1, 1, none⟩) (Nat.le_succ _) _).setCell (p := ⟨w.heap.size + 1, 2, none⟩) (Nat.le_succ _) _)).setCell (p := ⟨w.heap.size, 0, none⟩) (Nat.le_refl _) _).setCell (p := ⟨w.heap.size, 1, none⟩) (Nat.le_refl _) _).setCell (p := ⟨w.heap.size, 2, none⟩) (Nat.le_refl _) _)⟩

set_option maxHeartbeats 2000000 in
theorem numOf_m4t (s : ByteArray) (w : World) (p : Bool) (a b : List UInt8) (hs : s.size ≤ 100000) (hpos : 0 < s.size) (h45 : ((s[0].toNat : Int) == 45) = true)
    (hR : Hid ((s.extract 1 s.size).data.toList = Pn.restOf s.data.toList)) (hc : Hid (Lib.cut (Pn.restOf s.data.toList) [46] = (a, b, p)))
    (hab : a.length + b.length ≤ 100000) (hd : Pn.digitsB a = true) (hp : p = true) (hdb : Pn.digitsB b = true) (h30 : ¬ (30 : Int) < (a.length : Int) + b.length) (h0a : 0 < a.length) (h1 : (1 : Int) < a.length) (h48 : ((((⟨a.toArray⟩ : ByteArray)[0]'(by rw [Lib.size_mk]; exact h0a)).toNat : Int) == 48) = true) :
    Calls Tryz.prog 29 #[.string s] w fun e w' => (∃ (m : Bool) (x y : ByteArray), e = .returned (.tuple #[.agg #[.bool m, .string x, .string y], .bool false])) ∧ Below w.heap.size w w' := by
  have x0 : Row ((w.alloc (.cells #[.bool false, .string ⟨#[]⟩, .string ⟨#[]⟩] 62)).alloc (.cells #[.bool true, .string ⟨#[]⟩, .string ⟨#[]⟩] 62)) w.heap.size #[.bool false, .string ⟨#[]⟩, .string ⟨#[]⟩] := (row_at w _ _).alloc _
  have x1 : Row ((w.alloc (.cells #[.bool false, .string ⟨#[]⟩, .string ⟨#[]⟩] 62)).alloc (.cells #[.bool true, .string ⟨#[]⟩, .string ⟨#[]⟩] 62)) (w.heap.size + 1) #[.bool true, .string ⟨#[]⟩, .string ⟨#[]⟩] := by simpa using row_at (w.alloc (.cells #[.bool false, .string ⟨#[]⟩, .string ⟨#[]⟩] 62)) #[.bool true, .string ⟨#[]⟩, .string ⟨#[]⟩] 62
  have hw0 : Below w.heap.size w ((w.alloc (.cells #[.bool false, .string ⟨#[]⟩, .string ⟨#[]⟩] 62)).alloc (.cells #[.bool true, .string ⟨#[]⟩, .string ⟨#[]⟩] 62)) := ((Below.refl _ _).alloc (Nat.le_refl _) _).alloc (by simp) _
  subst hp
  go_enter Tryz.func29, Tryz.ntmps29
  go_wp2_with fail
  refine (rcut_any _ _ (by first | omega | (simp; omega))).mono ?_
  rintro e w1 ⟨rfl, hb1⟩
  rw [hR.out]
  rw [hc.out]
  replace x0 := x0.keep hb1
  replace x1 := x1.keep hb1
  have hw := below_of hw0 hb1
  clear hb1 hw0
  have q0 := x0.2.1
  have p0 := x0.2.2
  have q1 := x1.2.1
  have p1 := x1.2.2
  clear x0 x1
  go_wp2_with (first | (go_at_call 50; refine (numerals_l _ _ (by omega)).mono ?_; rintro e w2 ⟨rfl, rfl⟩) | (go_at_call 51; refine (nought_cat _ _ _ (by omega)).mono ?_; rintro e w2 ⟨rfl, rfl⟩))
  go_region
  all_goals go_wp2
  all_goals exact bodyPost_ret (v := .tuple #[.agg #[.bool true, .string ⟨a.toArray⟩, .string ⟨b.toArray⟩], .bool false]) (by simp [results, Tryz.results29, go_sem, q0]) rfl ⟨⟨_, _, _, rfl⟩, below_drewish ((((((hw.setCell (p := ⟨w.heap.size + 1, 1, none⟩) (Nat.le_succ _) _).setCell (p := ⟨w.heap.size + 1, 2, none⟩) (Nat.le_succ _) _)).setCell (p := ⟨w.heap.size, 0, none⟩) (Nat.le_refl _) _).setCell (p := ⟨w.heap.size, 1, none⟩) (Nat.le_refl _) _).setCell (p := ⟨w.heap.size, 2, none⟩) (Nat.le_refl _) _)⟩

set_option maxHeartbeats 2000000 in
theorem numOf_m5tz (s : ByteArray) (w : World) (p : Bool) (a b : List UInt8) (hs : s.size ≤ 100000) (hpos : 0 < s.size) (h45 : ((s[0].toNat : Int) == 45) = true)
    (hR : Hid ((s.extract 1 s.size).data.toList = Pn.restOf s.data.toList)) (hc : Hid (Lib.cut (Pn.restOf s.data.toList) [46] = (a, b, p)))
    (hab : a.length + b.length ≤ 100000) (hd : Pn.digitsB a = true) (hp : p = true) (hdb : Pn.digitsB b = true) (h30 : ¬ (30 : Int) < (a.length : Int) + b.length) (h0a : 0 < a.length) (h1 : decide ((1 : Int) < a.length) = false) (hz : (Pn.zeroB a && Pn.zeroB b) = true) :
    Calls Tryz.prog 29 #[.string s] w fun e w' => (∃ (m : Bool) (x y : ByteArray), e = .returned (.tuple #[.agg #[.bool m, .string x, .string y], .bool false])) ∧ Below w.heap.size w w' := by
  have x0 : Row ((w.alloc (.cells #[.bool false, .string ⟨#[]⟩, .string ⟨#[]⟩] 62)).alloc (.cells #[.bool true, .string ⟨#[]⟩, .string ⟨#[]⟩] 62)) w.heap.size #[.bool false, .string ⟨#[]⟩, .string ⟨#[]⟩] := (row_at w _ _).alloc _
  have x1 : Row ((w.alloc (.cells #[.bool false, .string ⟨#[]⟩, .string ⟨#[]⟩] 62)).alloc (.cells #[.bool true, .string ⟨#[]⟩, .string ⟨#[]⟩] 62)) (w.heap.size + 1) #[.bool true, .string ⟨#[]⟩, .string ⟨#[]⟩] := by simpa using row_at (w.alloc (.cells #[.bool false, .string ⟨#[]⟩, .string ⟨#[]⟩] 62)) #[.bool true, .string ⟨#[]⟩, .string ⟨#[]⟩] 62
  have hw0 : Below w.heap.size w ((w.alloc (.cells #[.bool false, .string ⟨#[]⟩, .string ⟨#[]⟩] 62)).alloc (.cells #[.bool true, .string ⟨#[]⟩, .string ⟨#[]⟩] 62)) := ((Below.refl _ _).alloc (Nat.le_refl _) _).alloc (by simp) _
  subst hp
  go_enter Tryz.func29, Tryz.ntmps29
  go_wp2_with fail
  refine (rcut_any _ _ (by first | omega | (simp; omega))).mono ?_
  rintro e w1 ⟨rfl, hb1⟩
  rw [hR.out]
  rw [hc.out]
  replace x0 := x0.keep hb1
  replace x1 := x1.keep hb1
  have hw := below_of hw0 hb1
  clear hb1 hw0
  have q0 := x0.2.1
  have p0 := x0.2.2
  have q1 := x1.2.1
  have p1 := x1.2.2
  clear x0 x1
  go_wp2_with (first | (go_at_call 50; refine (numerals_l _ _ (by omega)).mono ?_; rintro e w2 ⟨rfl, rfl⟩) | (go_at_call 51; refine (nought_cat _ _ _ (by omega)).mono ?_; rintro e w2 ⟨rfl, rfl⟩))
  go_region
  all_goals go_wp2
  all_goals exact bodyPost_ret (v := .tuple #[.agg #[.bool true, .string ⟨a.toArray⟩, .string ⟨b.toArray⟩], .bool false]) (by simp [results, Tryz.results29, go_sem, q0]) rfl ⟨⟨_, _, _, rfl⟩, below_drewish ((((((hw.setCell (p := ⟨w.heap.size + 1, 1, none⟩) (Nat.le_succ _) _).setCell (p := ⟨w.heap.size + 1, 2, none⟩) (Nat.le_succ _) _)).setCell (p := ⟨w.heap.size, 0, none⟩) (Nat.le_refl _) _).setCell (p := ⟨w.heap.size, 1, none⟩) (Nat.le_refl _) _).setCell (p := ⟨w.heap.size, 2, none⟩) (Nat.le_refl _) _)⟩

set_option maxHeartbeats 2000000 in
theorem numOf_m5ty (s : ByteArray) (w : World) (p : Bool) (a b : List UInt8) (hs : s.size ≤ 100000) (hpos : 0 < s.size) (h45 : ((s[0].toNat : Int) == 45) = true)
    (hR : Hid ((s.extract 1 s.size).data.toList = Pn.restOf s.data.toList)) (hc : Hid (Lib.cut (Pn.restOf s.data.toList) [46] = (a, b, p)))
    (hab : a.length + b.length ≤ 100000) (hd : Pn.digitsB a = true) (hp : p = true) (hdb : Pn.digitsB b = true) (h30 : ¬ (30 : Int) < (a.length : Int) + b.length) (h0a : 0 < a.length) (h1 : decide ((1 : Int) < a.length) = false) (hz : (Pn.zeroB a && Pn.zeroB b) = false) :
    Calls Tryz.prog 29 #[.string s] w fun e w' => e = .returned (.tuple #[.agg #[.bool true, .string ⟨a.toArray⟩, .string ⟨b.toArray⟩], .bool true]) ∧ Below w.heap.size w w' := by
  have x0 : Row ((w.alloc (.cells #[.bool false, .string ⟨#[]⟩, .string ⟨#[]⟩] 62)).alloc (.cells #[.bool true, .string ⟨#[]⟩, .string ⟨#[]⟩] 62)) w.heap.size #[.bool false, .string ⟨#[]⟩, .string ⟨#[]⟩] := (row_at w _ _).alloc _
  have x1 : Row ((w.alloc (.cells #[.bool false, .string ⟨#[]⟩, .string ⟨#[]⟩] 62)).alloc (.cells #[.bool true, .string ⟨#[]⟩, .string ⟨#[]⟩] 62)) (w.heap.size + 1) #[.bool true, .string ⟨#[]⟩, .string ⟨#[]⟩] := by simpa using row_at (w.alloc (.cells #[.bool false, .string ⟨#[]⟩, .string ⟨#[]⟩] 62)) #[.bool true, .string ⟨#[]⟩, .string ⟨#[]⟩] 62
  have hw0 : Below w.heap.size w ((w.alloc (.cells #[.bool false, .string ⟨#[]⟩, .string ⟨#[]⟩] 62)).alloc (.cells #[.bool true, .string ⟨#[]⟩, .string ⟨#[]⟩] 62)) := ((Below.refl _ _).alloc (Nat.le_refl _) _).alloc (by simp) _
  subst hp
  go_enter Tryz.func29, Tryz.ntmps29
  go_wp2_with fail
  refine (rcut_any _ _ (by first | omega | (simp; omega))).mono ?_
  rintro e w1 ⟨rfl, hb1⟩
  rw [hR.out]
  rw [hc.out]
  replace x0 := x0.keep hb1
  replace x1 := x1.keep hb1
  have hw := below_of hw0 hb1
  clear hb1 hw0
  have q0 := x0.2.1
  have p0 := x0.2.2
  have q1 := x1.2.1
  have p1 := x1.2.2
  clear x0 x1
  go_wp2_with (first | (go_at_call 50; refine (numerals_l _ _ (by omega)).mono ?_; rintro e w2 ⟨rfl, rfl⟩) | (go_at_call 51; refine (nought_cat _ _ _ (by omega)).mono ?_; rintro e w2 ⟨rfl, rfl⟩))
  go_region
  all_goals go_wp2
  all_goals exact bodyPost_ret (v := .tuple #[.agg #[.bool true, .string ⟨a.toArray⟩, .string ⟨b.toArray⟩], .bool true]) (by simp [results, Tryz.results29, go_sem, q0]) rfl ⟨rfl, below_drewish ((((((hw.setCell (p := ⟨w.heap.size + 1, 1, none⟩) (Nat.le_succ _) _).setCell (p := ⟨w.heap.size + 1, 2, none⟩) (Nat.le_succ _) _)).setCell (p := ⟨w.heap.size, 0, none⟩) (Nat.le_refl _) _).setCell (p := ⟨w.heap.size, 1, none⟩) (Nat.le_refl _) _).setCell (p := ⟨w.heap.size, 2, none⟩) (Nat.le_refl _) _)⟩

set_option maxHeartbeats 2000000 in
theorem numOf_m6tz (s : ByteArray) (w : World) (p : Bool) (a b : List UInt8) (hs : s.size ≤ 100000) (hpos : 0 < s.size) (h45 : ((s[0].toNat : Int) == 45) = true)
    (hR : Hid ((s.extract 1 s.size).data.toList = Pn.restOf s.data.toList)) (hc : Hid (Lib.cut (Pn.restOf s.data.toList) [46] = (a, b, p)))
    (hab : a.length + b.length ≤ 100000) (hd : Pn.digitsB a = true) (hp : p = true) (hdb : Pn.digitsB b = true) (h30 : ¬ (30 : Int) < (a.length : Int) + b.length) (h0a : 0 < a.length) (h1 : (1 : Int) < a.length) (h48 : ((((⟨a.toArray⟩ : ByteArray)[0]'(by rw [Lib.size_mk]; exact h0a)).toNat : Int) == 48) = false) (hz : (Pn.zeroB a && Pn.zeroB b) = true) :
    Calls Tryz.prog 29 #[.string s] w fun e w' => (∃ (m : Bool) (x y : ByteArray), e = .returned (.tuple #[.agg #[.bool m, .string x, .string y], .bool false])) ∧ Below w.heap.size w w' := by
  have x0 : Row ((w.alloc (.cells #[.bool false, .string ⟨#[]⟩, .string ⟨#[]⟩] 62)).alloc (.cells #[.bool true, .string ⟨#[]⟩, .string ⟨#[]⟩] 62)) w.heap.size #[.bool false, .string ⟨#[]⟩, .string ⟨#[]⟩] := (row_at w _ _).alloc _
  have x1 : Row ((w.alloc (.cells #[.bool false, .string ⟨#[]⟩, .string ⟨#[]⟩] 62)).alloc (.cells #[.bool true, .string ⟨#[]⟩, .string ⟨#[]⟩] 62)) (w.heap.size + 1) #[.bool true, .string ⟨#[]⟩, .string ⟨#[]⟩] := by simpa using row_at (w.alloc (.cells #[.bool false, .string ⟨#[]⟩, .string ⟨#[]⟩] 62)) #[.bool true, .string ⟨#[]⟩, .string ⟨#[]⟩] 62
  have hw0 : Below w.heap.size w ((w.alloc (.cells #[.bool false, .string ⟨#[]⟩, .string ⟨#[]⟩] 62)).alloc (.cells #[.bool true, .string ⟨#[]⟩, .string ⟨#[]⟩] 62)) := ((Below.refl _ _).alloc (Nat.le_refl _) _).alloc (by simp) _
  subst hp
  go_enter Tryz.func29, Tryz.ntmps29
  go_wp2_with fail
  refine (rcut_any _ _ (by first | omega | (simp; omega))).mono ?_
  rintro e w1 ⟨rfl, hb1⟩
  rw [hR.out]
  rw [hc.out]
  replace x0 := x0.keep hb1
  replace x1 := x1.keep hb1
  have hw := below_of hw0 hb1
  clear hb1 hw0
  have q0 := x0.2.1
  have p0 := x0.2.2
  have q1 := x1.2.1
  have p1 := x1.2.2
  clear x0 x1
  go_wp2_with (first | (go_at_call 50; refine (numerals_l _ _ (by omega)).mono ?_; rintro e w2 ⟨rfl, rfl⟩) | (go_at_call 51; refine (nought_cat _ _ _ (by omega)).mono ?_; rintro e w2 ⟨rfl, rfl⟩))
  go_region
  all_goals go_wp2
  all_goals exact bodyPost_ret (v := .tuple #[.agg #[.bool true, .string ⟨a.toArray⟩, .string ⟨b.toArray⟩], .bool false]) (by simp [results, Tryz.results29, go_sem, q0]) rfl ⟨⟨_, _, _, rfl⟩, below_drewish ((((((hw.setCell (p := ⟨w.heap.size + 1, 1, none⟩) (Nat.le_succ _) _).setCell (p := ⟨w.heap.size + 1, 2, none⟩) (Nat.le_succ _) _)).setCell (p := ⟨w.heap.size, 0, none⟩) (Nat.le_refl _) _).setCell (p := ⟨w.heap.size, 1, none⟩) (Nat.le_refl _) _).setCell (p := ⟨w.heap.size, 2, none⟩) (Nat.le_refl _) _)⟩

set_option maxHeartbeats 2000000 in
theorem numOf_m6ty (s : ByteArray) (w : World) (p : Bool) (a b : List UInt8) (hs : s.size ≤ 100000) (hpos : 0 < s.size) (h45 : ((s[0].toNat : Int) == 45) = true)
    (hR : Hid ((s.extract 1 s.size).data.toList = Pn.restOf s.data.toList)) (hc : Hid (Lib.cut (Pn.restOf s.data.toList) [46] = (a, b, p)))
    (hab : a.length + b.length ≤ 100000) (hd : Pn.digitsB a = true) (hp : p = true) (hdb : Pn.digitsB b = true) (h30 : ¬ (30 : Int) < (a.length : Int) + b.length) (h0a : 0 < a.length) (h1 : (1 : Int) < a.length) (h48 : ((((⟨a.toArray⟩ : ByteArray)[0]'(by rw [Lib.size_mk]; exact h0a)).toNat : Int) == 48) = false) (hz : (Pn.zeroB a && Pn.zeroB b) = false) :
    Calls Tryz.prog 29 #[.string s] w fun e w' => e = .returned (.tuple #[.agg #[.bool true, .string ⟨a.toArray⟩, .string ⟨b.toArray⟩], .bool true]) ∧ Below w.heap.size w w' := by
  have x0 : Row ((w.alloc (.cells #[.bool false, .string ⟨#[]⟩, .string ⟨#[]⟩] 62)).alloc (.cells #[.bool true, .string ⟨#[]⟩, .string ⟨#[]⟩] 62)) w.heap.size #[.bool false, .string ⟨#[]⟩, .string ⟨#[]⟩] := (row_at w _ _).alloc _
  have x1 : Row ((w.alloc (.cells #[.bool false, .string ⟨#[]⟩, .string ⟨#[]⟩] 62)).alloc (.cells #[.bool true, .string ⟨#[]⟩, .string ⟨#[]⟩] 62)) (w.heap.size + 1) #[.bool true, .string ⟨#[]⟩, .string ⟨#[]⟩] := by simpa using row_at (w.alloc (.cells #[.bool false, .string ⟨#[]⟩, .string ⟨#[]⟩] 62)) #[.bool true, .string ⟨#[]⟩, .string ⟨#[]⟩] 62
  have hw0 : Below w.heap.size w ((w.alloc (.cells #[.bool false, .string ⟨#[]⟩, .string ⟨#[]⟩] 62)).alloc (.cells #[.bool true, .string ⟨#[]⟩, .string ⟨#[]⟩] 62)) := ((Below.refl _ _).alloc (Nat.le_refl _) _).alloc (by simp) _
  subst hp
  go_enter Tryz.func29, Tryz.ntmps29
  go_wp2_with fail
  refine (rcut_any _ _ (by first | omega | (simp; omega))).mono ?_
  rintro e w1 ⟨rfl, hb1⟩
  rw [hR.out]
  rw [hc.out]
  replace x0 := x0.keep hb1
  replace x1 := x1.keep hb1
  have hw := below_of hw0 hb1
  clear hb1 hw0
  have q0 := x0.2.1
  have p0 := x0.2.2
  have q1 := x1.2.1
  have p1 := x1.2.2
  clear x0 x1
  go_wp2_with (first | (go_at_call 50; refine (numerals_l _ _ (by omega)).mono ?_; rintro e w2 ⟨rfl, rfl⟩) | (go_at_call 51; refine (nought_cat _ _ _ (by omega)).mono ?_; rintro e w2 ⟨rfl, rfl⟩))
  go_region
  all_goals go_wp2
  all_goals exact bodyPost_ret (v := .tuple #[.agg #[.bool true, .string ⟨a.toArray⟩, .string ⟨b.toArray⟩], .bool true]) (by simp [results, Tryz.results29, go_sem, q0]) rfl ⟨rfl, below_drewish ((((((hw.setCell (p := ⟨w.heap.size + 1, 1, none⟩) (Nat.le_succ _) _).setCell (p := ⟨w.heap.size + 1, 2, none⟩) (Nat.le_succ _) _)).setCell (p := ⟨w.heap.size, 0, none⟩) (Nat.le_refl _) _).setCell (p := ⟨w.heap.size, 1, none⟩) (Nat.le_refl _) _).setCell (p := ⟨w.heap.size, 2, none⟩) (Nat.le_refl _) _)⟩

set_option maxHeartbeats 2000000 in
theorem numOf_n1 (s : ByteArray) (w : World) (p : Bool) (a b : List UInt8) (hs : s.size ≤ 100000) (hpos : 0 < s.size) (h45 : ((s[0].toNat : Int) == 45) = false)
    (hR : Hid (s.data.toList = Pn.restOf s.data.toList)) (hc : Hid (Lib.cut (Pn.restOf s.data.toList) [46] = (a, b, p)))
    (hab : a.length + b.length ≤ 100000) (hd : Pn.digitsB a = false) :
    Calls Tryz.prog 29 #[.string s] w fun e w' => (∃ (m : Bool) (x y : ByteArray), e = .returned (.tuple #[.agg #[.bool m, .string x, .string y], .bool false])) ∧ Below w.heap.size w w' := by
  have x0 : Row ((w.alloc (.cells #[.bool false, .string ⟨#[]⟩, .string ⟨#[]⟩] 62)).alloc (.cells #[.bool false, .string ⟨#[]⟩, .string ⟨#[]⟩] 62)) w.heap.size #[.bool false, .string ⟨#[]⟩, .string ⟨#[]⟩] := (row_at w _ _).alloc _
  have x1 : Row ((w.alloc (.cells #[.bool false, .string ⟨#[]⟩, .string ⟨#[]⟩] 62)).alloc (.cells #[.bool false, .string ⟨#[]⟩, .string ⟨#[]⟩] 62)) (w.heap.size + 1) #[.bool false, .string ⟨#[]⟩, .string ⟨#[]⟩] := by simpa using row_at (w.alloc (.cells #[.bool false, .string ⟨#[]⟩, .string ⟨#[]⟩] 62)) #[.bool false, .string ⟨#[]⟩, .string ⟨#[]⟩] 62
  have hw0 : Below w.heap.size w ((w.alloc (.cells #[.bool false, .string ⟨#[]⟩, .string ⟨#[]⟩] 62)).alloc (.cells #[.bool false, .string ⟨#[]⟩, .string ⟨#[]⟩] 62)) := ((Below.refl _ _).alloc (Nat.le_refl _) _).alloc (by simp) _
  go_enter Tryz.func29, Tryz.ntmps29
  go_wp2_with fail
  refine (rcut_any _ _ (by first | omega | (simp; omega))).mono ?_
  rintro e w1 ⟨rfl, hb1⟩
  rw [hR.out]
  rw [hc.out]
  replace x0 := x0.keep hb1
  replace x1 := x1.keep hb1
  have hw := below_of hw0 hb1
  clear hb1 hw0
  have q0 := x0.2.1
  have p0 := x0.2.2
  have q1 := x1.2.1
  have p1 := x1.2.2
  clear x0 x1
  go_wp2_with (first | (go_at_call 50; refine (numerals_l _ _ (by omega)).mono ?_; rintro e w2 ⟨rfl, rfl⟩) | (go_at_call 51; refine (nought_cat _ _ _ (by omega)).mono ?_; rintro e w2 ⟨rfl, rfl⟩))
  exact bodyPost_ret (v := .tuple #[.agg #[.bool false, .string ⟨a.toArray⟩, .string ⟨b.toArray⟩], .bool false]) (by simp [results, Tryz.results29, go_sem, q0]) rfl ⟨⟨_, _, _, rfl⟩, ((((((hw.setCell (p := ⟨w.heap.size + 1, 1, none⟩) (Nat.le_succ _) _).setCell (p := ⟨w.heap.size + 1, 2, none⟩) (Nat.le_succ _) _)).setCell (p := ⟨w.heap.size, 0, none⟩) (Nat.le_refl _) _).setCell (p := ⟨w.heap.size, 1, none⟩) (Nat.le_refl _) _).setCell (p := ⟨w.heap.size, 2, none⟩) (Nat.le_refl _) _)⟩

set_option maxHeartbeats 2000000 in
theorem numOf_n2 (s : ByteArray) (w : World) (p : Bool) (a b : List UInt8) (hs : s.size ≤ 100000) (hpos : 0 < s.size) (h45 : ((s[0].toNat : Int) == 45) = false)
    (hR : Hid (s.data.toList = Pn.restOf s.data.toList)) (hc : Hid (Lib.cut (Pn.restOf s.data.toList) [46] = (a, b, p)))
    (hab : a.length + b.length ≤ 100000) (hd : Pn.digitsB a = true) (hp : p = true) (hdb : Pn.digitsB b = false) :
    Calls Tryz.prog 29 #[.string s] w fun e w' => (∃ (m : Bool) (x y : ByteArray), e = .returned (.tuple #[.agg #[.bool m, .string x, .string y], .bool false])) ∧ Below w.heap.size w w' := by
  have x0 : Row ((w.alloc (.cells #[.bool false, .string ⟨#[]⟩, .string ⟨#[]⟩] 62)).alloc (.cells #[.bool false, .string ⟨#[]⟩, .string ⟨#[]⟩] 62)) w.heap.size #[.bool false, .string ⟨#[]⟩, .string ⟨#[]⟩] := (row_at w _ _).alloc _
  have x1 : Row ((w.alloc (.cells #[.bool false, .string ⟨#[]⟩, .string ⟨#[]⟩] 62)).alloc (.cells #[.bool false, .string ⟨#[]⟩, .string ⟨#[]⟩] 62)) (w.heap.size + 1) #[.bool false, .string ⟨#[]⟩, .string ⟨#[]⟩] := by simpa using row_at (w.alloc (.cells #[.bool false, .string ⟨#[]⟩, .string ⟨#[]⟩] 62)) #[.bool false, .string ⟨#[]⟩, .string ⟨#[]⟩] 62
  have hw0 : Below w.heap.size w ((w.alloc (.cells #[.bool false, .string ⟨#[]⟩, .string ⟨#[]⟩] 62)).alloc (.cells #[.bool false, .string ⟨#[]⟩, .string ⟨#[]⟩] 62)) := ((Below.refl _ _).alloc (Nat.le_refl _) _).alloc (by simp) _
  subst hp
  go_enter Tryz.func29, Tryz.ntmps29
  go_wp2_with fail
  refine (rcut_any _ _ (by first | omega | (simp; omega))).mono ?_
  rintro e w1 ⟨rfl, hb1⟩
  rw [hR.out]
  rw [hc.out]
  replace x0 := x0.keep hb1
  replace x1 := x1.keep hb1
  have hw := below_of hw0 hb1
  clear hb1 hw0
  have q0 := x0.2.1
  have p0 := x0.2.2
  have q1 := x1.2.1
  have p1 := x1.2.2
  clear x0 x1
  go_wp2_with (first | (go_at_call 50; refine (numerals_l _ _ (by omega)).mono ?_; rintro e w2 ⟨rfl, rfl⟩) | (go_at_call 51; refine (nought_cat _ _ _ (by omega)).mono ?_; rintro e w2 ⟨rfl, rfl⟩))
  exact bodyPost_ret (v := .tuple #[.agg #[.bool false, .string ⟨a.toArray⟩, .string ⟨b.toArray⟩], .bool false]) (by simp [results, Tryz.results29, go_sem, q0]) rfl ⟨⟨_, _, _, rfl⟩, ((((((hw.setCell (p := ⟨w.heap.size + 1, 1, none⟩) (Nat.le_succ _) _).setCell (p := ⟨w.heap.size + 1, 2, none⟩) (Nat.le_succ _) _)).setCell (p := ⟨w.heap.size, 0, none⟩) (Nat.le_refl _) _).setCell (p := ⟨w.heap.size, 1, none⟩) (Nat.le_refl _) _).setCell (p := ⟨w.heap.size, 2, none⟩) (Nat.le_refl _) _)⟩

set_option maxHeartbeats 2000000 in
theorem numOf_n3f (s : ByteArray) (w : World) (p : Bool) (a b : List UInt8) (hs : s.size ≤ 100000) (hpos : 0 < s.size) (h45 : ((s[0].toNat : Int) == 45) = false)
    (hR : Hid (s.data.toList = Pn.restOf s.data.toList)) (hc : Hid (Lib.cut (Pn.restOf s.data.toList) [46] = (a, b, p)))
    (hab : a.length + b.length ≤ 100000) (hd : Pn.digitsB a = true) (hp : p = false) (h30 : (30 : Int) < (a.length : Int) + b.length) :
    Calls Tryz.prog 29 #[.string s] w fun e w' => (∃ (m : Bool) (x y : ByteArray), e = .returned (.tuple #[.agg #[.bool m, .string x, .string y], .bool false])) ∧ Below w.heap.size w w' := by
  have x0 : Row ((w.alloc (.cells #[.bool false, .string ⟨#[]⟩, .string ⟨#[]⟩] 62)).alloc (.cells #[.bool false, .string ⟨#[]⟩, .string ⟨#[]⟩] 62)) w.heap.size #[.bool false, .string ⟨#[]⟩, .string ⟨#[]⟩] := (row_at w _ _).alloc _
  have x1 : Row ((w.alloc (.cells #[.bool false, .string ⟨#[]⟩, .string ⟨#[]⟩] 62)).alloc (.cells #[.bool false, .string ⟨#[]⟩, .string ⟨#[]⟩] 62)) (w.heap.size + 1) #[.bool false, .string ⟨#[]⟩, .string ⟨#[]⟩] := by simpa using row_at (w.alloc (.cells #[.bool false, .string ⟨#[]⟩, .string ⟨#[]⟩] 62)) #[.bool false, .string ⟨#[]⟩, .string ⟨#[]⟩] 62
  have hw0 : Below w.heap.size w ((w.alloc (.cells #[.bool false, .string ⟨#[]⟩, .string ⟨#[]⟩] 62)).alloc (.cells #[.bool false, .string ⟨#[]⟩, .string ⟨#[]⟩] 62)) := ((Below.refl _ _).alloc (Nat.le_refl _) _).alloc (by simp) _
  subst hp
  go_enter Tryz.func29, Tryz.ntmps29
  go_wp2_with fail
  refine (rcut_any _ _ (by first | omega | (simp; omega))).mono ?_
  rintro e w1 ⟨rfl, hb1⟩
  rw [hR.out]
  rw [hc.out]
  replace x0 := x0.keep hb1
  replace x1 := x1.keep hb1
  have hw := below_of hw0 hb1
  clear hb1 hw0
  have q0 := x0.2.1
  have p0 := x0.2.2
  have q1 := x1.2.1
  have p1 := x1.2.2
  clear x0 x1
  go_wp2_with (first | (go_at_call 50; refine (numerals_l _ _ (by omega)).mono ?_; rintro e w2 ⟨rfl, rfl⟩) | (go_at_call 51; refine (nought_cat _ _ _ (by omega)).mono ?_; rintro e w2 ⟨rfl, rfl⟩))
  exact bodyPost_ret (v := .tuple #[.agg #[.bool false, .string ⟨a.toArray⟩, .string ⟨b.toArray⟩], .bool false]) (by simp [results, Tryz.results29, go_sem, q0]) rfl ⟨⟨_, _, _, rfl⟩, ((((((hw.setCell (p := ⟨w.heap.size + 1, 1, none⟩) (Nat.le_succ _) _).setCell (p := ⟨w.heap.size + 1, 2, none⟩) (Nat.le_succ _) _)).setCell (p := ⟨w.heap.size, 0, none⟩) (Nat.le_refl _) _).setCell (p := ⟨w.heap.size, 1, none⟩) (Nat.le_refl _) _).setCell (p := ⟨w.heap.size, 2, none⟩) (Nat.le_refl _) _)⟩

set_option maxHeartbeats 2000000 in
theorem numOf_n4f (s : ByteArray) (w : World) (p : Bool) (a b : List UInt8) (hs : s.size ≤ 100000) (hpos : 0 < s.size) (h45 : ((s[0].toNat : Int) == 45) = false)
    (hR : Hid (s.data.toList = Pn.restOf s.data.toList)) (hc : Hid (Lib.cut (Pn.restOf s.data.toList) [46] = (a, b, p)))
    (hab : a.length + b.length ≤ 100000) (hd : Pn.digitsB a = true) (hp : p = false) (h30 : ¬ (30 : Int) < (a.length : Int) + b.length) (h0a : 0 < a.length) (h1 : (1 : Int) < a.length) (h48 : ((((⟨a.toArray⟩ : ByteArray)[0]'(by rw [Lib.size_mk]; exact h0a)).toNat : Int) == 48) = true) :
    Calls Tryz.prog 29 #[.string s] w fun e w' => (∃ (m : Bool) (x y : ByteArray), e = .returned (.tuple #[.agg #[.bool m, .string x, .string y], .bool false])) ∧ Below w.heap.size w w' := by
  have x0 : Row ((w.alloc (.cells #[.bool false, .string ⟨#[]⟩, .string ⟨#[]⟩] 62)).alloc (.cells #[.bool false, .string ⟨#[]⟩, .string ⟨#[]⟩] 62)) w.heap.size #[.bool false, .string ⟨#[]⟩, .string ⟨#[]⟩] := (row_at w _ _).alloc _
  have x1 : Row ((w.alloc (.cells #[.bool false, .string ⟨#[]⟩, .string ⟨#[]⟩] 62)).alloc (.cells #[.bool false, .string ⟨#[]⟩, .string ⟨#[]⟩] 62)) (w.heap.size + 1) #[.bool false, .string ⟨#[]⟩, .string ⟨#[]⟩] := by simpa using row_at (w.alloc (.cells #[.bool false, .string ⟨#[]⟩, .string ⟨#[]⟩] 62)) #[.bool false, .string ⟨#[]⟩, .string ⟨#[]⟩] 62
  have hw0 : Below w.heap.size w ((w.alloc (.cells #[.bool false, .string ⟨#[]⟩, .string ⟨#[]⟩] 62)).alloc (.cells #[.bool false, .string ⟨#[]⟩, .string ⟨#[]⟩] 62)) := ((Below.refl _ _).alloc (Nat.le_refl _) _).alloc (by simp) _
  subst hp
  go_enter Tryz.func29, Tryz.ntmps29
  go_wp2_with fail
  refine (rcut_any _ _ (by first | omega | (simp; omega))).mono ?_
  rintro e w1 ⟨rfl, hb1⟩
  rw [hR.out]
  rw [hc.out]
  replace x0 := x0.keep hb1
  replace x1 := x1.keep hb1
  have hw := below_of hw0 hb1
  clear hb1 hw0
  have q0 := x0.2.1
  have p0 := x0.2.2
  have q1 := x1.2.1
  have p1 := x1.2.2
  clear x0 x1
  go_wp2_with (first | (go_at_call 50; refine (numerals_l _ _ (by omega)).mono ?_; rintro e w2 ⟨rfl, rfl⟩) | (go_at_call 51; refine (nought_cat _ _ _ (by omega)).mono ?_; rintro e w2 ⟨rfl, rfl⟩))
  go_region
  all_goals go_wp2
  all_goals exact bodyPost_ret (v := .tuple #[.agg #[.bool false, .string ⟨a.toArray⟩, .string ⟨b.toArray⟩], .bool false]) (by simp [results, Tryz.results29, go_sem, q0]) rfl ⟨⟨_, _, _, rfl⟩, below_drewish ((((((hw.setCell (p := ⟨w.heap.size + 1, 1, none⟩) (Nat.le_succ _) _).setCell (p := ⟨w.heap.size + 1, 2, none⟩) (Nat.le_succ _) _)).setCell (p := ⟨w.heap.size, 0, none⟩) (Nat.le_refl _) _).setCell (p := ⟨w.heap.size, 1, none⟩) (Nat.le_refl _) _).setCell (p := ⟨w.heap.size, 2, none⟩) (Nat.le_refl _) _)⟩

set_option maxHeartbeats 2000000 in
theorem numOf_n5fy (s : ByteArray) (w : World) (p : Bool) (a b : List UInt8) (hs : s.size ≤ 100000) (hpos : 0 < s.size) (h45 : ((s[0].toNat : Int) == 45) = false)
    (hR : Hid (s.data.toList = Pn.restOf s.data.toList)) (hc : Hid (Lib.cut (Pn.restOf s.data.toList) [46] = (a, b, p)))
    (hab : a.length + b.length ≤ 100000) (hd : Pn.digitsB a = true) (hp : p = false) (h30 : ¬ (30 : Int) < (a.length : Int) + b.length) (h0a : 0 < a.length) (h1 : decide ((1 : Int) < a.length) = false) :
    Calls Tryz.prog 29 #[.string s] w fun e w' => e = .returned (.tuple #[.agg #[.bool false, .string ⟨a.toArray⟩, .string ⟨b.toArray⟩], .bool true]) ∧ Below w.heap.size w w' := by
  have x0 : Row ((w.alloc (.cells #[.bool false, .string ⟨#[]⟩, .string ⟨#[]⟩] 62)).alloc (.cells #[.bool false, .string ⟨#[]⟩, .string ⟨#[]⟩] 62)) w.heap.size #[.bool false, .string ⟨#[]⟩, .string ⟨#[]⟩] := (row_at w _ _).alloc _
  have x1 : Row ((w.alloc (.cells #[.bool false, .string ⟨#[]⟩, .string ⟨#[]⟩] 62)).alloc (.cells #[.bool false, .string ⟨#[]⟩, .string ⟨#[]⟩] 62)) (w.heap.size + 1) #[.bool false, .string ⟨#[]⟩, .string ⟨#[]⟩] := by simpa using row_at (w.alloc (.cells #[.bool false, .string ⟨#[]⟩, .string ⟨#[]⟩] 62)) #[.bool false, .string ⟨#[]⟩, .string ⟨#[]⟩] 62
  have hw0 : Below w.heap.size w ((w.alloc (.cells #[.bool false, .string ⟨#[]⟩, .string ⟨#[]⟩] 62)).alloc (.cells #[.bool false, .string ⟨#[]⟩, .string ⟨#[]⟩] 62)) := ((Below.refl _ _).alloc (Nat.le_refl _) _).alloc (by simp) _
  subst hp
  go_enter Tryz.func29, Tryz.ntmps29
  go_wp2_with fail
  refine (rcut_any _ _ (by first | omega | (simp; omega))).mono ?_
  rintro e w1 ⟨rfl, hb1⟩
  rw [hR.out]
  rw [hc.out]
  replace x0 := x0.keep hb1
  replace x1 := x1.keep hb1
  have hw := below_of hw0 hb1
  clear hb1 hw0
  have q0 := x0.2.1
  have p0 := x0.2.2
  have q1 := x1.2.1
  have p1 := x1.2.2
  clear x0 x1
  go_wp2_with (first | (go_at_call 50; refine (numerals_l _ _ (by omega)).mono ?_; rintro e w2 ⟨rfl, rfl⟩) | (go_at_call 51; refine (nought_cat _ _ _ (by omega)).mono ?_; rintro e w2 ⟨rfl, rfl⟩))
  go_region
  all_goals go_wp2
  all_goals exact bodyPost_ret (v := .tuple #[.agg #[.bool false, .string ⟨a.toArray⟩, .string ⟨b.toArray⟩], .bool true]) (by simp [results, Tryz.results29, go_sem, q0]) rfl ⟨rfl, below_drewish ((((((hw.setCell (p := ⟨w.heap.size + 1, 1, none⟩) (Nat.le_succ _) _).setCell (p := ⟨w.heap.size + 1, 2, none⟩) (Nat.le_succ _) _)).setCell (p := ⟨w.heap.size, 0, none⟩) (Nat.le_refl _) _).setCell (p := ⟨w.heap.size, 1, none⟩) (Nat.le_refl _) _).setCell (p := ⟨w.heap.size, 2, none⟩) (Nat.le_refl _) _)⟩

set_option maxHeartbeats 2000000 in
theorem numOf_n6fy (s : ByteArray) (w : World) (p : Bool) (a b : List UInt8) (hs : s.size ≤ 100000) (hpos : 0 < s.size) (h45 : ((s[0].toNat : Int) == 45) = false)
    (hR : Hid (s.data.toList = Pn.restOf s.data.toList)) (hc : Hid (Lib.cut (Pn.restOf s.data.toList) [46] = (a, b, p)))
    (hab : a.length + b.length ≤ 100000) (hd : Pn.digitsB a = true) (hp : p = false) (h30 : ¬ (30 : Int) < (a.length : Int) + b.length) (h0a : 0 < a.length) (h1 : (1 : Int) < a.length) (h48 : ((((⟨a.toArray⟩ : ByteArray)[0]'(by rw [Lib.size_mk]; exact h0a)).toNat : Int) == 48) = false) :
    Calls Tryz.prog 29 #[.string s] w fun e w' => e = .returned (.tuple #[.agg #[.bool false, .string ⟨a.toArray⟩, .string ⟨b.toArray⟩], .bool true]) ∧ Below w.heap.size w w' := by
  have x0 : Row ((w.alloc (.cells #[.bool false, .string ⟨#[]⟩, .string ⟨#[]⟩] 62)).alloc (.cells #[.bool false, .string ⟨#[]⟩, .string ⟨#[]⟩] 62)) w.heap.size #[.bool false, .string ⟨#[]⟩, .string ⟨#[]⟩] := (row_at w _ _).alloc _
  have x1 : Row ((w.alloc (.cells #[.bool false, .string ⟨#[]⟩, .string ⟨#[]⟩] 62)).alloc (.cells #[.bool false, .string ⟨#[]⟩, .string ⟨#[]⟩] 62)) (w.heap.size + 1) #[.bool false, .string ⟨#[]⟩, .string ⟨#[]⟩] := by simpa using row_at (w.alloc (.cells #[.bool false, .string ⟨#[]⟩, .string ⟨#[]⟩] 62)) #[.bool false, .string ⟨#[]⟩, .string ⟨#[]⟩] 62
  have hw0 : Below w.heap.size w ((w.alloc (.cells #[.bool false, .string ⟨#[]⟩, .string ⟨#[]⟩] 62)).alloc (.cells #[.bool false, .string ⟨#[]⟩, .string ⟨#[]⟩] 62)) := ((Below.refl _ _).alloc (Nat.le_refl _) _).alloc (by simp) _
  subst hp
  go_enter Tryz.func29, Tryz.ntmps29
  go_wp2_with fail
  refine (rcut_any _ _ (by first | omega | (simp; omega))).mono ?_
  rintro e w1 ⟨rfl, hb1⟩
  rw [hR.out]
  rw [hc.out]
  replace x0 := x0.keep hb1
  replace x1 := x1.keep hb1
  have hw := below_of hw0 hb1
  clear hb1 hw0
  have q0 := x0.2.1
  have p0 := x0.2.2
  have q1 := x1.2.1
  have p1 := x1.2.2
  clear x0 x1
  go_wp2_with (first | (go_at_call 50; refine (numerals_l _ _ (by omega)).mono ?_; rintro e w2 ⟨rfl, rfl⟩) | (go_at_call 51; refine (nought_cat _ _ _ (by omega)).mono ?_; rintro e w2 ⟨rfl, rfl⟩))
  go_region
  all_goals go_wp2
  all_goals exact bodyPost_ret (v := .tuple #[.agg #[.bool false, .string ⟨a.toArray⟩, .string ⟨b.toArray⟩], .bool true]) (by simp [results, Tryz.results29, go_sem, q0]) rfl ⟨rfl, below_drewish ((((((hw.setCell (p := ⟨w.heap.size + 1, 1, none⟩) (Nat.le_succ _) _).setCell (p := ⟨w.heap.size + 1, 2, none⟩) (Nat.le_succ _) _)).setCell (p := ⟨w.heap.size, 0, none⟩) (Nat.le_refl _) _).setCell (p := ⟨w.heap.size, 1, none⟩) (Nat.le_refl _) _).setCell (p := ⟨w.heap.size, 2, none⟩) (Nat.le_refl _) _)⟩

set_option maxHeartbeats 2000000 in
theorem numOf_n3t (s : ByteArray) (w : World) (p : Bool) (a b : List UInt8) (hs : s.size ≤ 100000) (hpos : 0 < s.size) (h45 : ((s[0].toNat : Int) == 45) = false)
    (hR : Hid (s.data.toList = Pn.restOf s.data.toList)) (hc : Hid (Lib.cut (Pn.restOf s.data.toList) [46] = (a, b, p)))
    (hab : a.length + b.length ≤ 100000) (hd : Pn.digitsB a = true) (hp : p = true) (hdb : Pn.digitsB b = true) (h30 : (30 : Int) < (a.length : Int) + b.length) :
    Calls Tryz.prog 29 #[.string s] w fun e w' => (∃ (m : Bool) (x y : ByteArray), e = .returned (.tuple #[.agg #[.bool m, .string x, .string y], .bool false])) ∧ Below w.heap.size w w' := by
  have x0 : Row ((w.alloc (.cells #[.bool false, .string ⟨#[]⟩, .string ⟨#[]⟩] 62)).alloc (.cells #[.bool false, .string ⟨#[]⟩, .string ⟨#[]⟩] 62)) w.heap.size #[.bool false, .string ⟨#[]⟩, .string ⟨#[]⟩] := (row_at w _ _).alloc _
  have x1 : Row ((w.alloc (.cells #[.bool false, .string ⟨#[]⟩, .string ⟨#[]⟩] 62)).alloc (.cells #[.bool false, .string ⟨#[]⟩, .string ⟨#[]⟩] 62)) (w.heap.size + 1) #[.bool false, .string ⟨#[]⟩, .string ⟨#[]⟩] := by simpa using row_at (w.alloc (.cells #[.bool false, .string ⟨#[]⟩, .string ⟨#[]⟩] 62)) #[.bool false, .string ⟨#[]⟩, .string ⟨#[]⟩] 62
  have hw0 : Below w.heap.size w ((w.alloc (.cells #[.bool false, .string ⟨#[]⟩, .string ⟨#[]⟩] 62)).alloc (.cells #[.bool false, .string ⟨#[]⟩, .string ⟨#[]⟩] 62)) := ((Below.refl _ _).alloc (Nat.le_refl _) _).alloc (by simp) _
  subst hp
  go_enter Tryz.func29, Tryz.ntmps29
  go_wp2_with fail
  refine (rcut_any _ _ (by first | omega | (simp; omega))).mono ?_
  rintro e w1 ⟨rfl, hb1⟩
  rw [hR.out]
  rw [hc.out]
  replace x0 := x0.keep hb1
  replace x1 := x1.keep hb1
  have hw := below_of hw0 hb1
  clear hb1 hw0
  have q0 := x0.2.1
  have p0 := x0.2.2
  have q1 := x1.2.1
  have p1 := x1.2.2
  clear x0 x1
  go_wp2_with (first | (go_at_call 50; refine (numerals_l _ _ (by omega)).mono ?_; rintro e w2 ⟨rfl, rfl⟩) | (go_at_call 51; refine (nought_cat _ _ _ (by omega)).mono ?_; rintro e w2 ⟨rfl, rfl⟩))
  exact bodyPost_ret (v := .tuple #[.agg #[.bool false, .string ⟨a.toArray⟩, .string ⟨b.toArray⟩], .bool false]) (by simp [results, Tryz.results29, go_sem, q0]) rfl ⟨⟨_, _, _, rfl⟩, ((((((hw.setCell (p := ⟨w.heap.size + 1, 1, none⟩) (Nat.le_succ _) _).setCell (p := ⟨w.heap.size + 1, 2, none⟩) (Nat.le_succ _) _)).setCell (p := ⟨w.heap.size, 0, none⟩) (Nat.le_refl _) _).setCell (p := ⟨w.heap.size, 1, none⟩) (Nat.le_refl _) _).setCell (p := ⟨w.heap.size, 2, none⟩) (Nat.le_refl _) _)⟩

set_option maxHeartbeats 2000000 in
theorem numOf_n4t (s : ByteArray) (w : World) (p : Bool) (a b : List UInt8) (hs : s.size ≤ 100000) (hpos : 0 < s.size) (h45 : ((s[0].toNat : Int) == 45) = false)
    (hR : Hid (s.data.toList = Pn.restOf s.data.toList)) (hc : Hid (Lib.cut (Pn.restOf s.data.toList) [46] = (a, b, p)))
    (hab : a.length + b.length ≤ 100000) (hd : Pn.digitsB a = true) (hp : p = true) (hdb : Pn.digitsB b = true) (h30 : ¬ (30 : Int) < (a.length : Int) + b.length) (h0a : 0 < a.length) (h1 : (1 : Int) < a.length) (h48 : ((((⟨a.toArray⟩ : ByteArray)[0]'(by rw [Lib.size_mk]; exact h0a)).toNat : Int) == 48) = true) :
    Calls Tryz.prog 29 #[.string s] w fun e w' => (∃ (m : Bool) (x y : ByteArray), e = .returned (.tuple #[.agg #[.bool m, .string x, .string y], .bool false])) ∧ Below w.heap.size w w' := by
  have x0 : Row ((w.alloc (.cells #[.bool false, .string ⟨#[]⟩, .string ⟨#[]⟩] 62)).alloc (.cells #[.bool false, .string ⟨#[]⟩, .string ⟨#[]⟩] 62)) w.heap.size #[.bool false, .string ⟨#[]⟩, .string ⟨#[]⟩] := (row_at w _ _).alloc _
  have x1 : Row ((w.alloc (.cells #[.bool false, .string ⟨#[]⟩, .string ⟨#[]⟩] 62)).alloc (.cells #[.bool false, .string ⟨#[]⟩, .string ⟨#[]⟩] 62)) (w.heap.size + 1) #[.bool false, .string ⟨#[]⟩, .string ⟨#[]⟩] := by simpa using row_at (w.alloc (.cells #[.bool false, .string ⟨#[]⟩, .string ⟨#[]⟩] 62)) #[.bool false, .string ⟨#[]⟩, .string ⟨#[]⟩] 62
  have hw0 : Below w.heap.size w ((w.alloc (.cells #[.bool false, .string ⟨#[]⟩, .string ⟨#[]⟩] 62)).alloc (.cells #[.bool false, .string ⟨#[]⟩, .string ⟨#[]⟩] 62)) := ((Below.refl _ _).alloc (Nat.le_refl _) _).alloc (by simp) _
  subst hp
  go_enter Tryz.func29, Tryz.ntmps29
  go_wp2_with fail
  refine (rcut_any _ _ (by first | omega | (simp; omega))).mono ?_
  rintro e w1 ⟨rfl, hb1⟩
  rw [hR.out]
  rw [hc.out]
  replace x0 := x0.keep hb1
  replace x1 := x1.keep hb1
  have hw := below_of hw0 hb1
  clear hb1 hw0
  have q0 := x0.2.1
  have p0 := x0.2.2
  have q1 := x1.2.1
  have p1 := x1.2.2
  clear x0 x1
  go_wp2_with (first | (go_at_call 50; refine (numerals_l _ _ (by omega)).mono ?_; rintro e w2 ⟨rfl, rfl⟩) | (go_at_call 51; refine (nought_cat _ _ _ (by omega)).mono ?_; rintro e w2 ⟨rfl, rfl⟩))
  go_region
  all_goals go_wp2
  all_goals exact bodyPost_ret (v := .tuple #[.agg #[.bool false, .string ⟨a.toArray⟩, .string ⟨b.toArray⟩], .bool false]) (by simp [results, Tryz.results29, go_sem, q0]) rfl ⟨⟨_, _, _, rfl⟩, below_drewish ((((((hw.setCell (p := ⟨w.heap.size + 1, 1, none⟩) (Nat.le_succ _) _).setCell (p := ⟨w.heap.size + 1, 2, none⟩) (Nat.le_succ _) _)).setCell (p := ⟨w.heap.size, 0, none⟩) (Nat.le_refl _) _).setCell (p := ⟨w.heap.size, 1, none⟩) (Nat.le_refl _) _).setCell (p := ⟨w.heap.size, 2, none⟩) (Nat.le_refl _) _)⟩

set_option maxHeartbeats 2000000 in
theorem numOf_n5ty (s : ByteArray) (w : World) (p : Bool) (a b : List UInt8) (hs : s.size ≤ 100000) (hpos : 0 < s.size) (h45 : ((s[0].toNat : Int) == 45) = false)
    (hR : Hid (s.data.toList = Pn.restOf s.data.toList)) (hc : Hid (Lib.cut (Pn.restOf s.data.toList) [46] = (a, b, p)))
    (hab : a.length + b.length ≤ 100000) (hd : Pn.digitsB a = true) (hp : p = true) (hdb : Pn.digitsB b = true) (h30 : ¬ (30 : Int) < (a.length : Int) + b.length) (h0a : 0 < a.length) (h1 : decide ((1 : Int) < a.length) = false) :
    Calls Tryz.prog 29 #[.string s] w fun e w' => e = .returned (.tuple #[.agg #[.bool false, .string ⟨a.toArray⟩, .string ⟨b.toArray⟩], .bool true]) ∧ Below w.heap.size w w' := by
  have x0 : Row ((w.alloc (.cells #[.bool false, .string ⟨#[]⟩, .string ⟨#[]⟩] 62)).alloc (.cells #[.bool false, .string ⟨#[]⟩, .string ⟨#[]⟩] 62)) w.heap.size #[.bool false, .string ⟨#[]⟩, .string ⟨#[]⟩] := (row_at w _ _).alloc _
  have x1 : Row ((w.alloc (.cells #[.bool false, .string ⟨#[]⟩, .string ⟨#[]⟩] 62)).alloc (.cells #[.bool false, .string ⟨#[]⟩, .string ⟨#[]⟩] 62)) (w.heap.size + 1) #[.bool false, .string ⟨#[]⟩, .string ⟨#[]⟩] := by simpa using row_at (w.alloc (.cells #[.bool false, .string ⟨#[]⟩, .string ⟨#[]⟩] 62)) #[.bool false, .string ⟨#[]⟩, .string ⟨#[]⟩] 62
  have hw0 : Below w.heap.size w ((w.alloc (.cells #[.bool false, .string ⟨#[]⟩, .string ⟨#[]⟩] 62)).alloc (.cells #[.bool false, .string ⟨#[]⟩, .string ⟨#[]⟩] 62)) := ((Below.refl _ _).alloc (Nat.le_refl _) _).alloc (by simp) _
  subst hp
  go_enter Tryz.func29, Tryz.ntmps29
  go_wp2_with fail
  refine (rcut_any _ _ (by first | omega | (simp; omega))).mono ?_
  rintro e w1 ⟨rfl, hb1⟩
  rw [hR.out]
  rw [hc.out]
  replace x0 := x0.keep hb1
  replace x1 := x1.keep hb1
  have hw := below_of hw0 hb1
  clear hb1 hw0
  have q0 := x0.2.1
  have p0 := x0.2.2
  have q1 := x1.2.1
  have p1 := x1.2.2
  clear x0 x1
  go_wp2_with (first | (go_at_call 50; refine (numerals_l _ _ (by omega)).mono ?_; rintro e w2 ⟨rfl, rfl⟩) | (go_at_call 51; refine (nought_cat _ _ _ (by omega)).mono ?_; rintro e w2 ⟨rfl, rfl⟩))
  go_region
  all_goals go_wp2
  all_goals exact bodyPost_ret (v := .tuple #[.agg #[.bool false, .string ⟨a.toArray⟩, .string ⟨b.toArray⟩], .bool true]) (by simp [results, Tryz.results29, go_sem, q0]) rfl ⟨rfl, below_drewish ((((((hw.setCell (p := ⟨w.heap.size + 1, 1, none⟩) (Nat.le_succ _) _).setCell (p := ⟨w.heap.size + 1, 2, none⟩) (Nat.le_succ _) _)).setCell (p := ⟨w.heap.size, 0, none⟩) (Nat.le_refl _) _).setCell (p := ⟨w.heap.size, 1, none⟩) (Nat.le_refl _) _).setCell (p := ⟨w.heap.size, 2, none⟩) (Nat.le_refl _) _)⟩

set_option maxHeartbeats 2000000 in
theorem numOf_n6ty (s : ByteArray) (w : World) (p : Bool) (a b : List UInt8) (hs : s.size ≤ 100000) (hpos : 0 < s.size) (h45 : ((s[0].toNat : Int) == 45) = false)
    (hR : Hid (s.data.toList = Pn.restOf s.data.toList)) (hc : Hid (Lib.cut (Pn.restOf s.data.toList) [46] = (a, b, p)))
    (hab : a.length + b.length ≤ 100000) (hd : Pn.digitsB a = true) (hp : p = true) (hdb : Pn.digitsB b = true) (h30 : ¬ (30 : Int) < (a.length : Int) + b.length) (h0a : 0 < a.length) (h1 : (1 : Int) < a.length) (h48 : ((((⟨a.toArray⟩ : ByteArray)[0]'(by rw [Lib.size_mk]; exact h0a)).toNat : Int) == 48) = false) :
    Calls Tryz.prog 29 #[.string s] w fun e w' => e = .returned (.tuple #[.agg #[.bool false, .string ⟨a.toArray⟩, .string ⟨b.toArray⟩], .bool true]) ∧ Below w.heap.size w w' := by
  have x0 : Row ((w.alloc (.cells #[.bool false, .string ⟨#[]⟩, .string ⟨#[]⟩] 62)).alloc (.cells #[.bool false, .string ⟨#[]⟩, .string ⟨#[]⟩] 62)) w.heap.size #[.bool false, .string ⟨#[]⟩, .string ⟨#[]⟩] := (row_at w _ _).alloc _
  have x1 : Row ((w.alloc (.cells #[.bool false, .string ⟨#[]⟩, .string ⟨#[]⟩] 62)).alloc (.cells #[.bool false, .string ⟨#[]⟩, .string ⟨#[]⟩] 62)) (w.heap.size + 1) #[.bool false, .string ⟨#[]⟩, .string ⟨#[]⟩] := by simpa using row_at (w.alloc (.cells #[.bool false, .string ⟨#[]⟩, .string ⟨#[]⟩] 62)) #[.bool false, .string ⟨#[]⟩, .string ⟨#[]⟩] 62
  have hw0 : Below w.heap.size w ((w.alloc (.cells #[.bool false, .string ⟨#[]⟩, .string ⟨#[]⟩] 62)).alloc (.cells #[.bool false, .string ⟨#[]⟩, .string ⟨#[]⟩] 62)) := ((Below.refl _ _).alloc (Nat.le_refl _) _).alloc (by simp) _
  subst hp
  go_enter Tryz.func29, Tryz.ntmps29
  go_wp2_with fail
  refine (rcut_any _ _ (by first | omega | (simp; omega))).mono ?_
  rintro e w1 ⟨rfl, hb1⟩
  rw [hR.out]
  rw [hc.out]
  replace x0 := x0.keep hb1
  replace x1 := x1.keep hb1
  have hw := below_of hw0 hb1
  clear hb1 hw0
  have q0 := x0.2.1
  have p0 := x0.2.2
  have q1 := x1.2.1
  have p1 := x1.2.2
  clear x0 x1
  go_wp2_with (first | (go_at_call 50; refine (numerals_l _ _ (by omega)).mono ?_; rintro e w2 ⟨rfl, rfl⟩) | (go_at_call 51; refine (nought_cat _ _ _ (by omega)).mono ?_; rintro e w2 ⟨rfl, rfl⟩))
  go_region
  all_goals go_wp2
  all_goals exact bodyPost_ret (v := .tuple #[.agg #[.bool false, .string ⟨a.toArray⟩, .string ⟨b.toArray⟩], .bool true]) (by simp [results, Tryz.results29, go_sem, q0]) rfl ⟨rfl, below_drewish ((((((hw.setCell (p := ⟨w.heap.size + 1, 1, none⟩) (Nat.le_succ _) _).setCell (p := ⟨w.heap.size + 1, 2, none⟩) (Nat.le_succ _) _)).setCell (p := ⟨w.heap.size, 0, none⟩) (Nat.le_refl _) _).setCell (p := ⟨w.heap.size, 1, none⟩) (Nat.le_refl _) _).setCell (p := ⟨w.heap.size, 2, none⟩) (Nat.le_refl _) _)⟩

end Go.Proofs.YtaepcfidpekflaaGreatDoor
