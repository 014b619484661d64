/-
  Several texts in one (Na, Nb, Nc, Nd). By the verifier.
-/
import Derived.Test.YtaepcfidpekflaaGreatDoorProg
import Derived.Test.YtaepcfidpekflaaGreatDoorBase
import Derived.WalkKit
import Derived.WalkSpells
import Derived.WalkLawsBesides
import Derived.BigQuiet
import Derived.Outline
import Derived.Test.YtaepcfidpekflaaGreatDoorRf
import Derived.Test.YtaepcfidpekflaaGreatDoorRi
import Derived.Test.YtaepcfidpekflaaGreatDoorWi
import Derived.Test.YtaepcfidpekflaaGreatDoorRg
import Derived.Test.YtaepcfidpekflaaGreatDoorRh
namespace Go.Proofs.YtaepcfidpekflaaGreatDoor
open Go.RowKit

set_option maxHeartbeats 400000 in
theorem rules_none (w : World) : Calls Tryz.prog 17 #[.slice none 0 0] w fun e w' => e = .returned (.slice none 0 0) ∧ w' = w := by
  go_enter Tryz.func17, Tryz.ntmps17
  go_wp2
  go_loop [3, 4] (fun t i => t = .slice none 0 0 ∧ i = .int .i64 0) (fun _ _ => 0)
  case atStart => exact ⟨rfl, rfl⟩
  case round =>
    obtain ⟨rfl, rfl⟩ := hrel
    go_wp2
    go_ret
    exact ⟨rfl, rfl⟩
set_option maxHeartbeats 400000 in
theorem sign_in (b off len cap k : Nat) (x : Int) (w : World) (h : (k : Int) < len) (hc : w.cell? ⟨b, off + k, none⟩ = some (.int .i64 x)) :
    Calls Tryz.prog 26 #[.slice (some ⟨b, off, none⟩) len cap, .int .i64 k] w fun e w' => e = .returned (.int .i32 (wrap32 x)) ∧ w' = w := by
  go_enter Tryz.func26, Tryz.ntmps26
  go_wp2
  go_ret
  exact ⟨rfl, rfl⟩
set_option maxHeartbeats 400000 in
theorem sign_out (a : Option Addr) (len cap k : Nat) (w : World) (h : ¬ (k : Int) < len) :
    Calls Tryz.prog 26 #[.slice a len cap, .int .i64 k] w fun e w' => e = .returned (.int .i32 0) ∧ w' = w := by
  go_enter Tryz.func26, Tryz.ntmps26
  go_wp2
  go_ret
  exact ⟨rfl, rfl⟩
set_option maxHeartbeats 400000 in
theorem copied_none (mi po g : Int) (f n : Nat) (d : ByteArray) (w : World) :
    Calls Tryz.prog 27 #[.agg #[.slice none 0 0, .slice none 0 0, .int .i32 mi, .int .i32 po, .int .i32 g, .int .u8 f, .int .u8 n, .string d]] w fun e w' => e = .returned (.agg #[.slice none 0 0, .slice none 0 0, .int .i32 mi, .int .i32 po, .int .i32 g, .int .u8 f, .int .u8 n, .string d]) ∧ Below w.heap.size w w' := by
  go_enter Tryz.func27, Tryz.ntmps27
  go_wp2
  exact bodyPost_ret (v := .agg #[.slice none 0 0, .slice none 0 0, .int .i32 mi, .int .i32 po, .int .i32 g, .int .u8 f, .int .u8 n, .string d]) (by simp [results, Tryz.results27, go_sem]) rfl ⟨rfl, ((Below.refl _ _).alloc (Nat.le_refl _) _).alloc (by simp) _⟩

set_option maxHeartbeats 1000000 in
theorem locale_any (v : Value) (mi po g fi ne : Int) (d : ByteArray) (w : World)
    (h0 : Hid (∀ w', Below w.heap.size w w' → Calls Tryz.prog 26 #[v, .int .i64 0] w' fun e w2 => e = .returned (.int .i32 mi) ∧ w2 = w'))
    (h1 : Hid (∀ w', Below w.heap.size w w' → Calls Tryz.prog 26 #[v, .int .i64 1] w' fun e w2 => e = .returned (.int .i32 po) ∧ w2 = w'))
    (h2 : Hid (∀ w', Below w.heap.size w w' → Calls Tryz.prog 26 #[v, .int .i64 2] w' fun e w2 => e = .returned (.int .i32 g) ∧ w2 = w')) :
    Calls Tryz.prog 10 #[.slice none 0 0, .slice none 0 0, v, .int .i64 fi, .int .i64 ne, .string d] w fun e w' => e = .returned (.agg #[.slice none 0 0, .slice none 0 0, .int .i32 mi, .int .i32 po, .int .i32 g, .int .u8 (fi % 256), .int .u8 (ne % 256), .string d]) ∧ Below w.heap.size w w' := by
  go_enter Tryz.func10, Tryz.ntmps10
  have hb := fun o => (Below.refl w.heap.size w).alloc (Nat.le_refl _) o
  have hb2 := fun o o2 => (hb o).alloc (by simp) o2
  go_wp2_with (go_at_call 17; refine (rules_none _).mono ?_; rintro e w' ⟨rfl, rfl⟩)
  refine (h0.out _ (hb2 _ _)).mono ?_
  rintro e w' ⟨rfl, rfl⟩
  go_wp2_with fail
  refine (h1.out _ (hb2 _ _)).mono ?_
  rintro e w' ⟨rfl, rfl⟩
  go_wp2_with fail
  refine (h2.out _ (hb2 _ _)).mono ?_
  rintro e w' ⟨rfl, rfl⟩
  go_wp2
  exact bodyPost_ret (v := .agg #[.slice none 0 0, .slice none 0 0, .int .i32 mi, .int .i32 po, .int .i32 g, .int .u8 (fi % 256), .int .u8 (ne % 256), .string d]) (by simp [results, Tryz.results10, go_sem]) rfl ⟨rfl, hb2 _ _⟩
end Go.Proofs.YtaepcfidpekflaaGreatDoor
namespace Go.Proofs.YtaepcfidpekflaaGreatDoor
open Go.RowKit

set_option maxHeartbeats 1000000 in
theorem number_0 (mi po g : Int) (f n : Nat) (d s : ByteArray) (w : World) (hB : Base w) (hs : s.size ≤ 100000) (hd : d.size ≤ 100000)
    (hP : Hid (∀ w, Base w → Calls Tryz.prog 13 #[.string s, .agg #[.slice none 0 0, .slice none 0 0, .int .i32 mi, .int .i32 po, .int .i32 g, .int .u8 f, .int .u8 n, .string d]] w fun e w' => e = .returned (.tuple #[.string ⟨#[]⟩, .int .i64 8]) ∧ Below w.heap.size w w')) (hk : Pn.knownB mi po g f n d.data.toList = false) :
    Calls Tryz.prog 11 #[.string s, .agg #[.slice none 0 0, .slice none 0 0, .int .i32 mi, .int .i32 po, .int .i32 g, .int .u8 f, .int .u8 n, .string d]] w fun e w' => e = .returned (.bool true) ∧ Below w.heap.size w w' := by
  have HB : Hid (Base w) := hB
  clear hB
  have r0 := row_at w #[.slice none 0 0, .slice none 0 0, .int .i32 mi, .int .i32 po, .int .i32 g, .int .u8 f, .int .u8 n, .string d] 25
  have hw := (Below.refl w.heap.size w).alloc (Nat.le_refl _) (.cells #[.slice none 0 0, .slice none 0 0, .int .i32 mi, .int .i32 po, .int .i32 g, .int .u8 f, .int .u8 n, .string d] 25)
  go_enter Tryz.func11, Tryz.ntmps11
  go_wp2_with fail
  refine (copied_none _ _ _ _ _ _ _).mono ?_
  rintro e w1 ⟨rfl, hb1⟩
  replace r0 := r0.keep hb1
  replace hw := below_of hw hb1
  clear hb1
  have e0 := r0.1
  have q0 := fun o => (r0.alloc o).2.1
  go_wp2_with fail
  refine (hP.out _ ((HB.out.below hw).alloc _)).mono ?_
  rintro e w2 ⟨rfl, hb2⟩
  clear q0 r0
  have r1 := (row_at w1 #[.slice none 0 0, .slice none 0 0, .int .i32 mi, .int .i32 po, .int .i32 g, .int .u8 f, .int .u8 n, .string d] 25).keep hb2
  replace hw := below_of (hw.alloc hw.size _) hb2
  clear hb2
  have q1 := r1.2.1
  go_wp2_with fail
  refine (known_any _ _ _ _ _ _ _ hd).mono ?_
  rintro e w3 ⟨rfl, hb3⟩
  rw [hk]
  replace hw := below_of hw hb3
  replace r1 := r1.keep hb3
  clear hb3 q1
  have q1 := r1.2.1
  go_wp2_with fail
  refine (numOf_any s _ hs).mono ?_
  rintro e w4 ⟨hN, hb4⟩
  replace hw := below_of hw hb4
  replace r1 := r1.keep hb4
  clear hb4 q1
  have e1 := r1.1
  have q1 := fun o => (r1.alloc o).2.1
  unfold numRes at hN
  split at hN
  · subst hN
    go_wp2
    all_goals go_ret
    all_goals exact ⟨rfl, hw.alloc hw.size _⟩
  · obtain ⟨m, x, y, rfl⟩ := hN
    go_wp2
    all_goals go_ret
    all_goals exact ⟨rfl, hw.alloc hw.size _⟩

set_option maxHeartbeats 1000000 in
theorem number_1 (mi po g : Int) (f n : Nat) (d s : ByteArray) (w : World) (hB : Base w) (hs : s.size ≤ 100000) (hd : d.size ≤ 100000)
    (hP : Hid (∀ w, Base w → Calls Tryz.prog 13 #[.string s, .agg #[.slice none 0 0, .slice none 0 0, .int .i32 mi, .int .i32 po, .int .i32 g, .int .u8 f, .int .u8 n, .string d]] w fun e w' => e = .returned (.tuple #[.string ⟨#[]⟩, .int .i64 10]) ∧ Below w.heap.size w w')) (hk : Pn.knownB mi po g f n d.data.toList = true) (hn : Pn.isNum s.data.toList = false) :
    Calls Tryz.prog 11 #[.string s, .agg #[.slice none 0 0, .slice none 0 0, .int .i32 mi, .int .i32 po, .int .i32 g, .int .u8 f, .int .u8 n, .string d]] w fun e w' => e = .returned (.bool true) ∧ Below w.heap.size w w' := by
  have HB : Hid (Base w) := hB
  clear hB
  have r0 := row_at w #[.slice none 0 0, .slice none 0 0, .int .i32 mi, .int .i32 po, .int .i32 g, .int .u8 f, .int .u8 n, .string d] 25
  have hw := (Below.refl w.heap.size w).alloc (Nat.le_refl _) (.cells #[.slice none 0 0, .slice none 0 0, .int .i32 mi, .int .i32 po, .int .i32 g, .int .u8 f, .int .u8 n, .string d] 25)
  go_enter Tryz.func11, Tryz.ntmps11
  go_wp2_with fail
  refine (copied_none _ _ _ _ _ _ _).mono ?_
  rintro e w1 ⟨rfl, hb1⟩
  replace r0 := r0.keep hb1
  replace hw := below_of hw hb1
  clear hb1
  have e0 := r0.1
  have q0 := fun o => (r0.alloc o).2.1
  go_wp2_with fail
  refine (hP.out _ ((HB.out.below hw).alloc _)).mono ?_
  rintro e w2 ⟨rfl, hb2⟩
  clear q0 r0
  have r1 := (row_at w1 #[.slice none 0 0, .slice none 0 0, .int .i32 mi, .int .i32 po, .int .i32 g, .int .u8 f, .int .u8 n, .string d] 25).keep hb2
  replace hw := below_of (hw.alloc hw.size _) hb2
  clear hb2
  have q1 := r1.2.1
  go_wp2_with fail
  refine (known_any _ _ _ _ _ _ _ hd).mono ?_
  rintro e w3 ⟨rfl, hb3⟩
  rw [hk]
  replace hw := below_of hw hb3
  replace r1 := r1.keep hb3
  clear hb3 q1
  have q1 := r1.2.1
  go_wp2_with fail
  refine (numOf_any s _ hs).mono ?_
  rintro e w4 ⟨hN, hb4⟩
  replace hw := below_of hw hb4
  replace r1 := r1.keep hb4
  clear hb4 q1
  have e1 := r1.1
  have q1 := fun o => (r1.alloc o).2.1
  unfold numRes at hN
  rw [if_neg (by rw [hn]; decide)] at hN
  obtain ⟨m, x, y, rfl⟩ := hN
  go_wp2
  all_goals go_ret
  all_goals exact ⟨rfl, hw.alloc hw.size _⟩

set_option maxHeartbeats 1000000 in
theorem number_2 (T : List UInt8) (mi po g : Int) (f n : Nat) (d s : ByteArray) (w : World) (hB : Base w) (hs : s.size ≤ 100000) (hd : d.size ≤ 100000)
    (hP : Hid (∀ w, Base w → Calls Tryz.prog 13 #[.string s, .agg #[.slice none 0 0, .slice none 0 0, .int .i32 mi, .int .i32 po, .int .i32 g, .int .u8 f, .int .u8 n, .string d]] w fun e w' => e = .returned (.tuple #[.string ⟨T.toArray⟩, .int .i64 0]) ∧ Below w.heap.size w w')) (hk : Pn.knownB mi po g f n d.data.toList = true) (hn : Pn.isNum s.data.toList = true)
    (hW : Hid (∀ w, Calls Tryz.prog 30 #[.agg #[.bool (Pn.minusOf s.data.toList), .string ⟨(Pn.aOf s.data.toList).toArray⟩, .string ⟨(Pn.bOf s.data.toList).toArray⟩], .agg #[.slice none 0 0, .slice none 0 0, .int .i32 mi, .int .i32 po, .int .i32 g, .int .u8 f, .int .u8 n, .string d]] w fun e w' => e = .returned (.string ⟨T.toArray⟩) ∧ Below w.heap.size w w')) :
    Calls Tryz.prog 11 #[.string s, .agg #[.slice none 0 0, .slice none 0 0, .int .i32 mi, .int .i32 po, .int .i32 g, .int .u8 f, .int .u8 n, .string d]] w fun e w' => e = .returned (.bool true) ∧ Below w.heap.size w w' := by
  have HB : Hid (Base w) := hB
  clear hB
  have r0 := row_at w #[.slice none 0 0, .slice none 0 0, .int .i32 mi, .int .i32 po, .int .i32 g, .int .u8 f, .int .u8 n, .string d] 25
  have hw := (Below.refl w.heap.size w).alloc (Nat.le_refl _) (.cells #[.slice none 0 0, .slice none 0 0, .int .i32 mi, .int .i32 po, .int .i32 g, .int .u8 f, .int .u8 n, .string d] 25)
  go_enter Tryz.func11, Tryz.ntmps11
  go_wp2_with fail
  refine (copied_none _ _ _ _ _ _ _).mono ?_
  rintro e w1 ⟨rfl, hb1⟩
  replace r0 := r0.keep hb1
  replace hw := below_of hw hb1
  clear hb1
  have e0 := r0.1
  have q0 := fun o => (r0.alloc o).2.1
  go_wp2_with fail
  refine (hP.out _ ((HB.out.below hw).alloc _)).mono ?_
  rintro e w2 ⟨rfl, hb2⟩
  clear q0 r0
  have r1 := (row_at w1 #[.slice none 0 0, .slice none 0 0, .int .i32 mi, .int .i32 po, .int .i32 g, .int .u8 f, .int .u8 n, .string d] 25).keep hb2
  replace hw := below_of (hw.alloc hw.size _) hb2
  clear hb2
  have q1 := r1.2.1
  go_wp2_with fail
  refine (known_any _ _ _ _ _ _ _ hd).mono ?_
  rintro e w3 ⟨rfl, hb3⟩
  rw [hk]
  replace hw := below_of hw hb3
  replace r1 := r1.keep hb3
  clear hb3 q1
  have q1 := r1.2.1
  go_wp2_with fail
  refine (numOf_any s _ hs).mono ?_
  rintro e w4 ⟨hN, hb4⟩
  replace hw := below_of hw hb4
  replace r1 := r1.keep hb4
  clear hb4 q1
  have e1 := r1.1
  have q1 := fun o => (r1.alloc o).2.1
  unfold numRes at hN
  rw [if_pos hn] at hN
  subst hN
  go_wp2_with fail
  refine (hW.out _).mono ?_
  rintro e w5 ⟨rfl, hb5⟩
  clear q1
  replace hw := below_of (hw.alloc hw.size _) hb5
  clear hb5
  go_wp2
  all_goals go_ret
  all_goals exact ⟨rfl, hw⟩
end Go.Proofs.YtaepcfidpekflaaGreatDoor
namespace Go.Proofs.YtaepcfidpekflaaGreatDoor.Pn
theorem wWhole_congr (g : List UInt8) (f n : Nat) (dig dig' : UInt8 → List UInt8) : ∀ (a : List UInt8) (later : Bool), (∀ c ∈ a, dig c = dig' c) → wWhole g f n dig later a = wWhole g f n dig' later a
  | [], _, _ => rfl
  | c :: r, later, h => by
    rw [wWhole, wWhole, h c (by simp), wWhole_congr g f n dig dig' r true (fun x hx => h x (by simp [hx]))]
theorem flat_congr (dig dig' : UInt8 → List UInt8) : ∀ (a : List UInt8), (∀ c ∈ a, dig c = dig' c) → a.flatMap dig = a.flatMap dig'
  | [], _ => rfl
  | c :: r, h => by rw [List.flatMap_cons, List.flatMap_cons, h c (by simp), flat_congr dig dig' r (fun x hx => h x (by simp [hx]))]
theorem wParts_congr (pre po g : List UInt8) (f n : Nat) (dig dig' : UInt8 → List UInt8) (a b : List UInt8) (ha : ∀ c ∈ a, dig c = dig' c) (hb : ∀ c ∈ b, dig c = dig' c) :
    wParts pre po g f n dig a b = wParts pre po g f n dig' a b := by
  rw [wParts, wParts, wWhole_congr g f n dig dig' a false ha, flat_congr dig dig' b hb]
theorem runesN_le : ∀ (n : Nat) (l : List UInt8), ∀ x ∈ runesN n l, -2147483648 ≤ x ∧ x ≤ 2147483647
  | 0, _, x, h => by simp [runesN] at h
  | n + 1, l, x, h => by
    rw [runesN] at h
    by_cases hl : l = []
    · rw [if_pos hl] at h; cases h
    · rw [if_neg hl] at h
      rcases List.mem_cons.1 h with rfl | h
      · have hd := decode_le ⟨l.toArray⟩ 0
        have e := Lib.decodeL_drop ⟨l.toArray⟩ 0
        simp only [List.drop_zero] at e
        rw [← e] at hd
        omega
      · exact runesN_le n _ x h
theorem ten (R : List Int) (h : R.length = 10) : ∃ d0 d1 d2 d3 d4 d5 d6 d7 d8 d9, R = [d0, d1, d2, d3, d4, d5, d6, d7, d8, d9] := by
  match R, h with
  | [d0, d1, d2, d3, d4, d5, d6, d7, d8, d9], _ => exact ⟨d0, d1, d2, d3, d4, d5, d6, d7, d8, d9, rfl⟩
theorem pts_nil : pts [] = [] := rfl
theorem dig_none : ∀ k : Fin 10, Lib.encodeRune (([48, 49, 50, 51, 52, 53, 54, 55, 56, 57] : List Int).getD k.val 0) = [UInt8.ofNat (48 + k.val)] := by decide
end Go.Proofs.YtaepcfidpekflaaGreatDoor.Pn
namespace Go.Proofs.YtaepcfidpekflaaGreatDoor
open Go.RowKit
theorem dig_of_none (c : UInt8) (h : Pn.isDig c = true) : Lib.encodeRune (Pn.digAt [48, 49, 50, 51, 52, 53, 54, 55, 56, 57] c) = dshow [] [c] := by
  have hc := (Pn.isDig_iff c).1 h
  have := Pn.dig_none ⟨c.toNat - 48, by omega⟩
  have e : (48 + (c.toNat - 48)) = c.toNat := by omega
  simp only [e] at this
  rw [Pn.digAt]
  rw [this]
  simp [dshow]
theorem dig_of_some (R : List Int) (hR : R.length = 10) (c : UInt8) (h : Pn.isDig c = true) : Lib.encodeRune (Pn.digAt R c) = dshow (R.map Lib.encodeRune) [c] := by
  have hc := (Pn.isDig_iff c).1 h
  have hl : c.toNat - 48 < R.length := by omega
  have hne : ¬ R.map Lib.encodeRune = [] := by
    intro e
    have := congrArg List.length e
    rw [List.length_map, hR] at this
    cases this
  rw [dshow, if_neg hne, Pn.digAt]
  simp [List.getD_eq_getElem?_getD, List.getElem?_eq_getElem hl]
/-- The digits of a locale that are right: both sides write them alike. -/
theorem digits_good (d : ByteArray) (hd : d.size ≤ 100000) (h : Pn.digitsOkB d.data.toList = true) :
    ∃ d0 d1 d2 d3 d4 d5 d6 d7 d8 d9 : Int, (∀ x ∈ [d0, d1, d2, d3, d4, d5, d6, d7, d8, d9], -2147483648 ≤ x ∧ x ≤ 2147483647)
      ∧ (∀ c, Pn.isDig c = true → Lib.encodeRune (Pn.digAt [d0, d1, d2, d3, d4, d5, d6, d7, d8, d9] c) = dshow (Pn.pts d.data.toList) [c])
      ∧ (Pn.pts d.data.toList = [] ∨ (Pn.pts d.data.toList).length = 10) ∧ (∀ p ∈ Pn.pts d.data.toList, p.length ≤ 4)
      ∧ Hid (∀ w, Base w → Calls Tryz.prog 73 #[.string d] w fun e w' => e = .returned (.tuple #[.agg #[.int .i32 d0, .int .i32 d1, .int .i32 d2, .int .i32 d3, .int .i32 d4, .int .i32 d5, .int .i32 d6, .int .i32 d7, .int .i32 d8, .int .i32 d9], .bool true]) ∧ Below w.heap.size w w') := by
  by_cases h0 : 0 < d.size
  · have hne : d.data.toList.isEmpty = false := by have := ne_nil d h0; rw [Lib.toList_data] at this; exact this
    rw [Pn.digitsOkB, hne, Bool.false_or, Bool.and_eq_true, beq_iff_eq, beq_iff_eq] at h
    have hv := (Pn.valid_len d.data.toList).2 h.1
    have hp := Pn.valid_runes d.data.toList hv
    have hl : (Pn.runes d.data.toList).length = 10 := by
      have := h.2
      rw [hp, List.length_map] at this
      exact this
    obtain ⟨d0, d1, d2, d3, d4, d5, d6, d7, d8, d9, hR⟩ := Pn.ten _ hl
    refine ⟨d0, d1, d2, d3, d4, d5, d6, d7, d8, d9, ?_, ?_, Or.inr h.2, ?_, ?_⟩
    · rw [← hR]; exact Pn.runesN_le _ _
    · intro c hc
      rw [hp, ← hR]
      exact dig_of_some _ hl c hc
    · rw [hp]
      intro p hm
      obtain ⟨r, _, rfl⟩ := List.mem_map.1 hm
      exact enc_len r
    · show ∀ w, _
      intro w hB
      exact digitsOf_ok d w d0 d1 d2 d3 d4 d5 d6 d7 d8 d9 hd h0 hB hv hR
  · have he : d = ⟨#[]⟩ := by
      apply ByteArray.ext
      apply Array.eq_empty_of_size_eq_zero
      have : d.data.size = d.size := rfl
      omega
    subst he
    refine ⟨48, 49, 50, 51, 52, 53, 54, 55, 56, 57, by decide, ?_, Or.inl rfl, (by intro p hp; cases hp), ?_⟩
    · intro c hc
      exact dig_of_none c hc
    · show ∀ w, _
      intro w _
      exact digitsOf_none w
theorem digits_wrong (d : ByteArray) (hd : d.size ≤ 100000) (h : Pn.digitsOkB d.data.toList = false) (w : World) (hB : Base w) :
    Calls Tryz.prog 73 #[.string d] w fun e w' => e = .returned (.tuple #[.agg #[.int .i32 0, .int .i32 0, .int .i32 0, .int .i32 0, .int .i32 0, .int .i32 0, .int .i32 0, .int .i32 0, .int .i32 0, .int .i32 0], .bool false]) ∧ Below w.heap.size w w' := by
  have h0 : 0 < d.size := by
    rcases Nat.eq_zero_or_pos d.size with h0 | h0
    · exfalso
      rw [Lib.size_eq] at h0
      have := List.length_eq_zero_iff.1 h0
      rw [this] at h
      exact absurd h (by decide)
    · exact h0
  have hne : d.data.toList.isEmpty = false := by have := ne_nil d h0; rw [Lib.toList_data] at this; exact this
  cases hv : Lib.validD d.data.toList with
  | false => exact digitsOf_bad d w hd h0 hB hv
  | true =>
    refine digitsOf_count d w hd h0 hB hv ?_
    have hlen := (Pn.valid_len d.data.toList).1 hv
    rw [Pn.digitsOkB, hne, Bool.false_or, beq_iff_eq.2 hlen, Bool.true_and, beq_eq_false_iff_ne, Pn.valid_runes _ hv, List.length_map, ← Pn.count_eq] at h
    rw [bne_iff_ne]
    omega
theorem new_refuses (mi po g : Int) (f n : Nat) (d : ByteArray) (hd : d.size ≤ 100000) (hk : Pn.knownB mi po g f n d.data.toList = false) (w : World) (hB : Base w) :
    Calls Tryz.prog 53 #[.agg #[.slice none 0 0, .slice none 0 0, .int .i32 mi, .int .i32 po, .int .i32 g, .int .u8 f, .int .u8 n, .string d]] w fun e w' => e = .returned (.tuple #[.agg #[.int .i32 0, .int .i32 0, .int .i32 0, .int .i64 0, .int .i64 0, .int .i32 0, .int .i32 0, .int .i32 0, .int .i32 0, .int .i32 0, .int .i32 0, .int .i32 0, .int .i32 0, .int .i32 0, .int .i32 0, .slice none 0 0, .slice none 0 0], .iface 30 (.int .i64 8)]) ∧ Below w.heap.size w w' := by
  cases hg : Pn.digitsOkB d.data.toList with
  | false => exact new_no1 _ _ _ _ _ _ _ _ _ _ _ _ w (show Hid _ from fun w hB => digits_wrong d hd hg w hB) hB
  | true =>
    obtain ⟨d0, d1, d2, d3, d4, d5, d6, d7, d8, d9, _, _, _, _, hdig⟩ := digits_good d hd hg
    cases hs : Pn.signsB mi po g with
    | false => exact new_no2 _ _ _ _ _ _ _ _ _ _ _ _ d0 d1 d2 d3 d4 d5 d6 d7 d8 d9 w hdig hB hs
    | true =>
      rw [Pn.known_yes mi po g f n _ hs hg] at hk
      by_cases hf : f ≤ 9
      · rw [decide_eq_true hf, Bool.true_and, decide_eq_false_iff_not] at hk
        exact new_no4 _ _ _ _ _ _ _ _ _ _ _ _ d0 d1 d2 d3 d4 d5 d6 d7 d8 d9 w hdig hB hs (by omega) (by omega)
      · exact new_no3 _ _ _ _ _ _ _ _ _ _ _ _ d0 d1 d2 d3 d4 d5 d6 d7 d8 d9 w hdig hB hs (by omega)
end Go.Proofs.YtaepcfidpekflaaGreatDoor
namespace Go.Proofs.YtaepcfidpekflaaGreatDoor
open Go.RowKit

theorem signs_valid (mi po g : Int) (h : Pn.signsB mi po g = true) : Lib.validRune mi = true ∧ Lib.validRune po = true ∧ Lib.validRune g = true := by
  simp only [Pn.signsB, Bool.and_eq_true] at h
  exact ⟨h.1.1.1.2, h.1.2, h.2⟩
theorem known_parts (mi po g : Int) (f n : Nat) (l : List UInt8) (h : Pn.knownB mi po g f n l = true) : Pn.signsB mi po g = true ∧ Pn.digitsOkB l = true ∧ f ≤ 9 ∧ n ≤ 9 := by
  simp only [Pn.knownB, Bool.and_eq_true, decide_eq_true_eq] at h
  exact ⟨h.1.1.1, h.1.1.2, h.1.2, h.2⟩
theorem written_any (mi po g : Int) (f n : Nat) (d : ByteArray) (l : List UInt8) (hd : d.size ≤ 100000) (hf : f ≤ 9) (hn : n ≤ 9) (hN : Pn.isNum l = true)
    (hp : Pn.pts d.data.toList = [] ∨ (Pn.pts d.data.toList).length = 10) (h4 : ∀ p ∈ Pn.pts d.data.toList, p.length ≤ 4) (hv : Lib.validRune mi = true ∧ Lib.validRune po = true ∧ Lib.validRune g = true) (w : World) :
    Calls Tryz.prog 30 #[.agg #[.bool (Pn.minusOf l), .string ⟨(Pn.aOf l).toArray⟩, .string ⟨(Pn.bOf l).toArray⟩], .agg #[.slice none 0 0, .slice none 0 0, .int .i32 mi, .int .i32 po, .int .i32 g, .int .u8 f, .int .u8 n, .string d]] w fun e w' => e = .returned (.string ⟨(Pn.wAll (Lib.encodeRune mi) (Lib.encodeRune po) (Lib.encodeRune g) (Pn.firstOf g f) (Pn.nextOf g f n) (fun c => dshow (Pn.pts d.data.toList) [c]) l).toArray⟩) ∧ Below w.heap.size w w' := by
  have ha := Pn.num_a l hN
  have hb := Pn.num_b l hN
  have hl := Pn.num_len l hN
  rw [← Pn.wAll_parts]
  by_cases h0 : g = 0 ∨ f = 0
  · cases hm : Pn.minusOf l with
    | true =>
      rw [if_pos rfl]
      exact written_none_true _ _ mi po g f n d w hd hf hn ha.2 hb (by omega) (by omega) hp h4 hv.1 hv.2.1 hv.2.2 h0
    | false =>
      rw [if_neg Bool.false_ne_true]
      exact written_none_false _ _ mi po g f n d w hd hf hn ha.2 hb (by omega) (by omega) hp h4 hv.1 hv.2.1 hv.2.2 h0
  · have h1 : g ≠ 0 := fun e => h0 (Or.inl e)
    have h2 : 1 ≤ f := by
      rcases Nat.eq_zero_or_pos f with e | e
      · exact absurd (Or.inr e) h0
      · exact e
    cases hm : Pn.minusOf l with
    | true =>
      rw [if_pos rfl]
      exact written_grp_true _ _ mi po g f n d w hd hf hn ha.2 hb (by omega) (by omega) hp h4 hv.1 hv.2.1 hv.2.2 h1 h2 ha.1
    | false =>
      rw [if_neg Bool.false_ne_true]
      exact written_grp_false _ _ mi po g f n d w hd hf hn ha.2 hb (by omega) (by omega) hp h4 hv.1 hv.2.1 hv.2.2 h1 h2 ha.1

theorem law_number (mi po g : Int) (f n : Nat) (d s : ByteArray) (w : World) (hB : Base w) (hs : s.size ≤ 100000) (hd : d.size ≤ 100000) :
    Calls Tryz.prog 11 #[.string s, .agg #[.slice none 0 0, .slice none 0 0, .int .i32 mi, .int .i32 po, .int .i32 g, .int .u8 f, .int .u8 n, .string d]] w fun e w' => e = .returned (.bool true) ∧ Below w.heap.size w w' := by
  cases hk : Pn.knownB mi po g f n d.data.toList with
  | false => exact number_0 mi po g f n d s w hB hs hd (show Hid _ from fun w hB => plain_loc _ _ _ _ _ _ mi po g f n d s w hB (show Hid _ from fun w hB => new_refuses mi po g f n d hd hk w hB)) hk
  | true =>
    obtain ⟨k1, k2, k3, k4⟩ := known_parts mi po g f n _ hk
    obtain ⟨d0, d1, d2, d3, d4, d5, d6, d7, d8, d9, hD, hdig, hp, h4, hof⟩ := digits_good d hd k2
    cases hn : Pn.isNum s.data.toList with
    | false => exact number_1 mi po g f n d s w hB hs hd (show Hid _ from fun w hB => plain_num _ _ _ _ _ _ mi po g f n d d0 d1 d2 d3 d4 d5 d6 d7 d8 d9 s w hof (show Hid _ from rules_nil mi po g f n d w) hB k1 k3 k4 (by omega) hn) hk hn
    | true =>
      have hT : Pn.wAll (Lib.encodeRune mi) (Lib.encodeRune po) (Lib.encodeRune g) (Pn.firstOf g f) (Pn.nextOf g f n) (fun c => dshow (Pn.pts d.data.toList) [c]) s.data.toList = Pn.wAll (Lib.encodeRune mi) (Lib.encodeRune po) (Lib.encodeRune g) (Pn.firstOf g f) (Pn.nextOf g f n) (fun c => Lib.encodeRune (Pn.digAt [d0, d1, d2, d3, d4, d5, d6, d7, d8, d9] c)) s.data.toList := by
        rw [← Pn.wAll_parts, ← Pn.wAll_parts]
        exact Pn.wParts_congr _ _ _ _ _ _ _ _ _ (fun c hc => (hdig c ((Pn.num_a _ hn).2 c hc)).symm) (fun c hc => (hdig c (Pn.num_b _ hn c hc)).symm)
      refine number_2 _ mi po g f n d s w hB hs hd (show Hid _ from fun w hB => plain_yes _ _ _ _ _ _ mi po g f n d d0 d1 d2 d3 d4 d5 d6 d7 d8 d9 s w hof (show Hid _ from rules_nil mi po g f n d w) hB k1 k3 k4 hD (by omega) hn) hk hn ?_
      rw [← hT]
      exact (show Hid _ from fun w => written_any mi po g f n d s.data.toList hd k3 k4 hn hp h4 (signs_valid mi po g k1) w)

set_option maxHeartbeats 1000000 in
theorem numbers_long1 (s d : ByteArray) (v : Value) (fi ne : Int) (w : World) (h : (65536 : Int) < s.size) :
    Calls Tryz.prog 3 #[.string s, v, .int .i64 fi, .int .i64 ne, .string d] w fun e w' => e = .returned (.bool true) ∧ Below w.heap.size w w' := by
  go_enter Tryz.func3, Tryz.ntmps3
  go_wp2
  all_goals go_ret
  all_goals exact ⟨rfl, Below.refl _ _⟩
set_option maxHeartbeats 1000000 in
theorem numbers_long2 (s d : ByteArray) (v : Value) (fi ne : Int) (w : World) (h1 : ¬ (65536 : Int) < s.size) (h : (65536 : Int) < d.size) :
    Calls Tryz.prog 3 #[.string s, v, .int .i64 fi, .int .i64 ne, .string d] w fun e w' => e = .returned (.bool true) ∧ Below w.heap.size w w' := by
  go_enter Tryz.func3, Tryz.ntmps3
  go_wp2
  all_goals go_ret
  all_goals exact ⟨rfl, Below.refl _ _⟩
set_option maxHeartbeats 1000000 in
theorem numbers_core (s d : ByteArray) (v : Value) (mi po g fi ne : Int) (w : World) (hB : Base w) (h1 : ¬ (65536 : Int) < s.size) (h2 : ¬ (65536 : Int) < d.size)
    (s0 : Hid (∀ w', Below w.heap.size w w' → Calls Tryz.prog 26 #[v, .int .i64 0] w' fun e w2 => e = .returned (.int .i32 mi) ∧ w2 = w'))
    (s1 : Hid (∀ w', Below w.heap.size w w' → Calls Tryz.prog 26 #[v, .int .i64 1] w' fun e w2 => e = .returned (.int .i32 po) ∧ w2 = w'))
    (s2 : Hid (∀ w', Below w.heap.size w w' → Calls Tryz.prog 26 #[v, .int .i64 2] w' fun e w2 => e = .returned (.int .i32 g) ∧ w2 = w')) :
    Calls Tryz.prog 3 #[.string s, v, .int .i64 fi, .int .i64 ne, .string d] w fun e w' => e = .returned (.bool true) ∧ Below w.heap.size w w' := by
  have HB : Hid (Base w) := hB
  clear hB
  have ef : fi % 256 = ((fi % 256).toNat : Int) := by omega
  have en : ne % 256 = ((ne % 256).toNat : Int) := by omega
  have HF : Hid (fi % 256 = ((fi % 256).toNat : Int)) := ef
  have HE : Hid (ne % 256 = ((ne % 256).toNat : Int)) := en
  clear ef en
  go_enter Tryz.func3, Tryz.ntmps3
  go_wp2_with fail
  refine (locale_any v mi po g fi ne d w s0 s1 s2).mono ?_
  rintro e w1 ⟨rfl, hb1⟩
  rw [HF.out, HE.out]
  generalize (fi % 256).toNat = f
  generalize (ne % 256).toNat = n
  go_wp2_with fail
  refine (law_number mi po g f n d s _ ((HB.out.below hb1).alloc _) (by omega) (by omega)).mono ?_
  rintro e w2 ⟨rfl, hb2⟩
  replace hb1 := below_of (hb1.alloc hb1.size _) hb2
  clear hb2
  go_wp2
  all_goals go_ret
  all_goals exact ⟨rfl, hb1⟩
end Go.Proofs.YtaepcfidpekflaaGreatDoor
