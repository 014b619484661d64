/-
  phrases.Number and plain.Number (P4) by their contracts. By the verifier.
-/
import Derived.Test.YtaepcfidpekflaaGreatDoorWd
import Derived.Test.YtaepcfidpekflaaGreatDoorWe
import Derived.Test.YtaepcfidpekflaaGreatDoorWf
import Derived.Test.YtaepcfidpekflaaGreatDoorAs2
namespace Go.Proofs.YtaepcfidpekflaaGreatDoor
open Go.RowKit
variable {u0 u1 : Option Addr} {v0 x0 v1 x1 : Nat}

theorem first_le (g : Int) (f : Nat) (h : f ≤ 9) : Pn.firstOf g f ≤ 9 := by unfold Pn.firstOf; split <;> omega
theorem next_le (g : Int) (f n : Nat) (h : f ≤ 9) (h2 : n ≤ 9) : Pn.nextOf g f n ≤ 9 := by
  unfold Pn.nextOf
  split
  · omega
  · split <;> omega
theorem first_next (g : Int) (f n : Nat) (h : Pn.firstOf g f ≠ 0) : Pn.nextOf g f n ≠ 0 := by
  unfold Pn.firstOf at h
  unfold Pn.nextOf
  by_cases c : g = 0 ∨ f = 0
  · rw [if_pos c] at h; exact absurd rfl h
  · rw [if_neg c]
    split <;> omega
theorem valid_bd (r : Int) (h : Lib.validRune r = true) : -2147483648 ≤ r ∧ r ≤ 2147483647 := by
  simp only [Lib.validRune, decide_eq_true_eq] at h
  omega
theorem signs_bd (mi po g : Int) (h : Pn.signsB mi po g = true) : (-2147483648 ≤ mi ∧ mi ≤ 2147483647) ∧ (-2147483648 ≤ po ∧ po ≤ 2147483647) ∧ (-2147483648 ≤ g ∧ g ≤ 2147483647) := by
  simp only [Pn.signsB, Bool.and_eq_true] at h
  exact ⟨valid_bd _ h.1.1.1.2, valid_bd _ h.1.2, valid_bd _ h.2⟩

theorem write_any (mi po g : Int) (f n : Nat) (d0 d1 d2 d3 d4 d5 d6 d7 d8 d9 : Int) (l : List UInt8) (w : World) (hf : f ≤ 9) (hn : n ≤ 9) (hfn : f ≠ 0 → n ≠ 0) (h : Pn.isNum l = true)
    (hmi : -2147483648 ≤ mi ∧ mi ≤ 2147483647) (hpo : -2147483648 ≤ po ∧ po ≤ 2147483647) (hg : -2147483648 ≤ g ∧ g ≤ 2147483647) (hD : ∀ x ∈ [d0, d1, d2, d3, d4, d5, d6, d7, d8, d9], -2147483648 ≤ x ∧ x ≤ 2147483647) :
    Calls Tryz.prog 55 #[.agg #[.int .i32 mi, .int .i32 po, .int .i32 g, .int .i64 f, .int .i64 n, .int .i32 d0, .int .i32 d1, .int .i32 d2, .int .i32 d3, .int .i32 d4, .int .i32 d5, .int .i32 d6, .int .i32 d7, .int .i32 d8, .int .i32 d9, .slice u0 v0 x0, .slice u1 v1 x1], .agg #[.bool (Pn.minusOf l), .string ⟨(Pn.aOf l).toArray⟩, .string ⟨(Pn.bOf l).toArray⟩]] w fun e w' => e = .returned (.string ⟨(Pn.wAll (Lib.encodeRune mi) (Lib.encodeRune po) (Lib.encodeRune g) f n (fun c => Lib.encodeRune (Pn.digAt [d0, d1, d2, d3, d4, d5, d6, d7, d8, d9] c)) l).toArray⟩) ∧ Below w.heap.size w w' := by
  have hl := Pn.num_len l h
  rw [← Pn.wAll_parts]
  cases hm : Pn.minusOf l with
  | true =>
    rw [if_pos rfl]
    exact write_true mi po g f n d0 d1 d2 d3 d4 d5 d6 d7 d8 d9 _ _ w hf hn hfn (Pn.num_a l h).2 (Pn.num_b l h) (by omega) (by omega) hmi hpo hg hD
  | false =>
    rw [if_neg Bool.false_ne_true]
    exact write_false mi po g f n d0 d1 d2 d3 d4 d5 d6 d7 d8 d9 _ _ w hf hn hfn (Pn.num_a l h).2 (Pn.num_b l h) (by omega) (by omega) hmi hpo hg hD

set_option maxHeartbeats 1000000 in
theorem number_yes (a0 a1 : Option Addr) (n0 c0 n1 c1 : Nat) (mi po g : Int) (f n : Nat) (d : ByteArray) (d0 d1 d2 d3 d4 d5 d6 d7 d8 d9 : Int) (s : ByteArray) (w : World) (hd : Hid (∀ w, Base w → Calls Tryz.prog 73 #[.string d] w fun e w' => e = .returned (.tuple #[.agg #[.int .i32 d0, .int .i32 d1, .int .i32 d2, .int .i32 d3, .int .i32 d4, .int .i32 d5, .int .i32 d6, .int .i32 d7, .int .i32 d8, .int .i32 d9], .bool true]) ∧ Below w.heap.size w w'))
    (hr : Hid (RulesOk w (.agg #[.slice a0 n0 c0, .slice a1 n1 c1, .int .i32 mi, .int .i32 po, .int .i32 g, .int .u8 f, .int .u8 n, .string d]))) (hB : Base w) (hs : Pn.signsB mi po g = true) (hf : f ≤ 9) (hn : n ≤ 9) (hD : ∀ x ∈ [d0, d1, d2, d3, d4, d5, d6, d7, d8, d9], -2147483648 ≤ x ∧ x ≤ 2147483647) (hsz : s.size < 4294967281) (hN : Pn.isNum s.data.toList = true) :
    Calls Tryz.prog 31 #[.string s, .agg #[.slice a0 n0 c0, .slice a1 n1 c1, .int .i32 mi, .int .i32 po, .int .i32 g, .int .u8 f, .int .u8 n, .string d]] w fun e w' => e = .returned (.tuple #[.string ⟨(Pn.wAll (Lib.encodeRune mi) (Lib.encodeRune po) (Lib.encodeRune g) (Pn.firstOf g f) (Pn.nextOf g f n) (fun c => Lib.encodeRune (Pn.digAt [d0, d1, d2, d3, d4, d5, d6, d7, d8, d9] c)) s.data.toList).toArray⟩, .nilIface]) ∧ Below w.heap.size w w' := by
  obtain ⟨b1, b2, b3⟩ := signs_bd mi po g hs
  have HD : Hid (∀ x ∈ [d0, d1, d2, d3, d4, d5, d6, d7, d8, d9], -2147483648 ≤ x ∧ x ≤ 2147483647) := hD
  have HN : Hid (Pn.isNum s.data.toList = true) := hN
  clear hD hN
  have HB : Hid (Base w) := hB
  clear hB
  have r0 := row_at w #[.slice a0 n0 c0, .slice a1 n1 c1, .int .i32 mi, .int .i32 po, .int .i32 g, .int .u8 f, .int .u8 n, .string d] 25
  have hw := (Below.refl w.heap.size w).alloc (Nat.le_refl _) (.cells #[.slice a0 n0 c0, .slice a1 n1 c1, .int .i32 mi, .int .i32 po, .int .i32 g, .int .u8 f, .int .u8 n, .string d] 25)
  go_enter Tryz.func31, Tryz.ntmps31
  go_wp2_with fail
  refine (new_yes _ _ _ _ _ _ _ _ _ _ _ _ d0 d1 d2 d3 d4 d5 d6 d7 d8 d9 _ hd (rules_after hr _) (HB.out.alloc _) hs hf hn).mono ?_
  rintro e w1 ⟨⟨u0, v0, x0, u1, v1, x1, rfl⟩, hb1⟩
  replace hw := below_of hw hb1
  clear hb1 r0
  go_wp2_with fail
  refine (parse_yes s _ hsz ((HB.out.below hw).alloc _) HN.out).mono ?_
  rintro e w2 ⟨rfl, hb2⟩
  have r1 := (row_at w1 #[.int .i32 mi, .int .i32 po, .int .i32 g, .int .i64 (Pn.firstOf g f : Nat), .int .i64 (Pn.nextOf g f n : Nat), .int .i32 d0, .int .i32 d1, .int .i32 d2, .int .i32 d3, .int .i32 d4, .int .i32 d5, .int .i32 d6, .int .i32 d7, .int .i32 d8, .int .i32 d9, .slice u0 v0 x0, .slice u1 v1 x1] 105).keep hb2
  replace hw := below_of (hw.alloc hw.size _) hb2
  clear hb2
  have q1 := fun o => (r1.alloc o).2.1
  go_wp2_with fail
  refine (write_any mi po g (Pn.firstOf g f) (Pn.nextOf g f n) d0 d1 d2 d3 d4 d5 d6 d7 d8 d9 s.data.toList _ (first_le g f hf) (next_le g f n hf hn) (first_next g f n) HN.out b1 b2 b3 HD.out).mono ?_
  rintro e w3 ⟨rfl, hb3⟩
  replace hw := below_of (hw.alloc hw.size _) hb3
  clear q1 r1 hb3
  go_wp2
  go_ret2
  exact ⟨rfl, hw⟩

set_option maxHeartbeats 1000000 in
theorem number_num (a0 a1 : Option Addr) (n0 c0 n1 c1 : Nat) (mi po g : Int) (f n : Nat) (d : ByteArray) (d0 d1 d2 d3 d4 d5 d6 d7 d8 d9 : Int) (s : ByteArray) (w : World) (hd : Hid (∀ w, Base w → Calls Tryz.prog 73 #[.string d] w fun e w' => e = .returned (.tuple #[.agg #[.int .i32 d0, .int .i32 d1, .int .i32 d2, .int .i32 d3, .int .i32 d4, .int .i32 d5, .int .i32 d6, .int .i32 d7, .int .i32 d8, .int .i32 d9], .bool true]) ∧ Below w.heap.size w w'))
    (hr : Hid (RulesOk w (.agg #[.slice a0 n0 c0, .slice a1 n1 c1, .int .i32 mi, .int .i32 po, .int .i32 g, .int .u8 f, .int .u8 n, .string d]))) (hB : Base w) (hs : Pn.signsB mi po g = true) (hf : f ≤ 9) (hn : n ≤ 9) (hsz : s.size < 4294967281) (hN : Pn.isNum s.data.toList = false) :
    Calls Tryz.prog 31 #[.string s, .agg #[.slice a0 n0 c0, .slice a1 n1 c1, .int .i32 mi, .int .i32 po, .int .i32 g, .int .u8 f, .int .u8 n, .string d]] w fun e w' => e = .returned (.tuple #[.string ⟨#[]⟩, .iface 30 (.int .i64 10)]) ∧ Below w.heap.size w w' := by
  have HN : Hid (Pn.isNum s.data.toList = false) := hN
  clear hN
  have HB : Hid (Base w) := hB
  clear hB
  have r0 := row_at w #[.slice a0 n0 c0, .slice a1 n1 c1, .int .i32 mi, .int .i32 po, .int .i32 g, .int .u8 f, .int .u8 n, .string d] 25
  have hw := (Below.refl w.heap.size w).alloc (Nat.le_refl _) (.cells #[.slice a0 n0 c0, .slice a1 n1 c1, .int .i32 mi, .int .i32 po, .int .i32 g, .int .u8 f, .int .u8 n, .string d] 25)
  go_enter Tryz.func31, Tryz.ntmps31
  go_wp2_with fail
  refine (new_yes _ _ _ _ _ _ _ _ _ _ _ _ d0 d1 d2 d3 d4 d5 d6 d7 d8 d9 _ hd (rules_after hr _) (HB.out.alloc _) hs hf hn).mono ?_
  rintro e w1 ⟨⟨u0, v0, x0, u1, v1, x1, rfl⟩, hb1⟩
  replace hw := below_of hw hb1
  clear hb1 r0
  go_wp2_with fail
  refine (parse_no s _ hsz ((HB.out.below hw).alloc _) HN.out).mono ?_
  rintro e w2 ⟨rfl, hb2⟩
  replace hw := below_of (hw.alloc hw.size _) hb2
  clear hb2
  go_wp2
  go_ret2
  exact ⟨rfl, hw.alloc hw.size _⟩

set_option maxHeartbeats 1000000 in
theorem plain_yes (a0 a1 : Option Addr) (n0 c0 n1 c1 : Nat) (mi po g : Int) (f n : Nat) (d : ByteArray) (d0 d1 d2 d3 d4 d5 d6 d7 d8 d9 : Int) (s : ByteArray) (w : World) (hd : Hid (∀ w, Base w → Calls Tryz.prog 73 #[.string d] w fun e w' => e = .returned (.tuple #[.agg #[.int .i32 d0, .int .i32 d1, .int .i32 d2, .int .i32 d3, .int .i32 d4, .int .i32 d5, .int .i32 d6, .int .i32 d7, .int .i32 d8, .int .i32 d9], .bool true]) ∧ Below w.heap.size w w'))
    (hr : Hid (RulesOk w (.agg #[.slice a0 n0 c0, .slice a1 n1 c1, .int .i32 mi, .int .i32 po, .int .i32 g, .int .u8 f, .int .u8 n, .string d]))) (hB : Base w) (hs : Pn.signsB mi po g = true) (hf : f ≤ 9) (hn : n ≤ 9) (hD : ∀ x ∈ [d0, d1, d2, d3, d4, d5, d6, d7, d8, d9], -2147483648 ≤ x ∧ x ≤ 2147483647) (hsz : s.size < 4294967281) (hN : Pn.isNum s.data.toList = true) :
    Calls Tryz.prog 13 #[.string s, .agg #[.slice a0 n0 c0, .slice a1 n1 c1, .int .i32 mi, .int .i32 po, .int .i32 g, .int .u8 f, .int .u8 n, .string d]] w fun e w' => e = .returned (.tuple #[.string ⟨(Pn.wAll (Lib.encodeRune mi) (Lib.encodeRune po) (Lib.encodeRune g) (Pn.firstOf g f) (Pn.nextOf g f n) (fun c => Lib.encodeRune (Pn.digAt [d0, d1, d2, d3, d4, d5, d6, d7, d8, d9] c)) s.data.toList).toArray⟩, .int .i64 0]) ∧ Below w.heap.size w w' := by
  have HB : Hid (Base w) := hB
  have HD : Hid (∀ x ∈ [d0, d1, d2, d3, d4, d5, d6, d7, d8, d9], -2147483648 ≤ x ∧ x ≤ 2147483647) := hD
  have HN : Hid (Pn.isNum s.data.toList = true) := hN
  clear hD hN hB
  have hw := (Below.refl w.heap.size w).alloc (Nat.le_refl _) (.cells #[.slice a0 n0 c0, .slice a1 n1 c1, .int .i32 mi, .int .i32 po, .int .i32 g, .int .u8 f, .int .u8 n, .string d] 25)
  go_enter Tryz.func13, Tryz.ntmps13
  go_wp2_with fail
  refine (number_yes _ _ _ _ _ _ _ _ _ _ _ _ d0 d1 d2 d3 d4 d5 d6 d7 d8 d9 _ _ hd (rules_after hr _) (HB.out.alloc _) hs hf hn HD.out hsz HN.out).mono ?_
  rintro e w1 ⟨rfl, hb1⟩
  replace hw := below_of hw hb1
  clear hb1
  go_wp2_with fail
  refine (tell_nil _).mono ?_
  rintro e w2 ⟨rfl, hb2⟩
  replace hw := below_of hw hb2
  clear hb2
  go_wp2
  go_ret2
  exact ⟨rfl, hw⟩

set_option maxHeartbeats 1000000 in
theorem plain_num (a0 a1 : Option Addr) (n0 c0 n1 c1 : Nat) (mi po g : Int) (f n : Nat) (d : ByteArray) (d0 d1 d2 d3 d4 d5 d6 d7 d8 d9 : Int) (s : ByteArray) (w : World) (hd : Hid (∀ w, Base w → Calls Tryz.prog 73 #[.string d] w fun e w' => e = .returned (.tuple #[.agg #[.int .i32 d0, .int .i32 d1, .int .i32 d2, .int .i32 d3, .int .i32 d4, .int .i32 d5, .int .i32 d6, .int .i32 d7, .int .i32 d8, .int .i32 d9], .bool true]) ∧ Below w.heap.size w w'))
    (hr : Hid (RulesOk w (.agg #[.slice a0 n0 c0, .slice a1 n1 c1, .int .i32 mi, .int .i32 po, .int .i32 g, .int .u8 f, .int .u8 n, .string d]))) (hB : Base w) (hs : Pn.signsB mi po g = true) (hf : f ≤ 9) (hn : n ≤ 9) (hsz : s.size < 4294967281) (hN : Pn.isNum s.data.toList = false) :
    Calls Tryz.prog 13 #[.string s, .agg #[.slice a0 n0 c0, .slice a1 n1 c1, .int .i32 mi, .int .i32 po, .int .i32 g, .int .u8 f, .int .u8 n, .string d]] w fun e w' => e = .returned (.tuple #[.string ⟨#[]⟩, .int .i64 10]) ∧ Below w.heap.size w w' := by
  have HB : Hid (Base w) := hB
  have HN : Hid (Pn.isNum s.data.toList = false) := hN
  clear hN hB
  have hw := (Below.refl w.heap.size w).alloc (Nat.le_refl _) (.cells #[.slice a0 n0 c0, .slice a1 n1 c1, .int .i32 mi, .int .i32 po, .int .i32 g, .int .u8 f, .int .u8 n, .string d] 25)
  go_enter Tryz.func13, Tryz.ntmps13
  go_wp2_with fail
  refine (number_num _ _ _ _ _ _ _ _ _ _ _ _ d0 d1 d2 d3 d4 d5 d6 d7 d8 d9 _ _ hd (rules_after hr _) (HB.out.alloc _) hs hf hn hsz HN.out).mono ?_
  rintro e w1 ⟨rfl, hb1⟩
  replace hw := below_of hw hb1
  clear hb1
  go_wp2_with fail
  refine (tell_errno 10 _ (HB.out.below hw).1).mono ?_
  rintro e w2 ⟨rfl, hb2⟩
  replace hw := below_of hw hb2
  clear hb2
  go_wp2
  go_ret2
  exact ⟨rfl, hw⟩
end Go.Proofs.YtaepcfidpekflaaGreatDoor
