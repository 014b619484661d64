/-
  The law: Numbers. By the verifier.
-/
import Derived.Test.YtbdljbnboahekaaGreatDoorNb
import Derived.Test.YtbdljbnboahekaaGreatDoorNc
import Derived.Test.YtbdljbnboahekaaGreatDoorRh
namespace Go.Proofs.YtbdljbnboahekaaGreatDoor
open Go.RowKit

theorem signs_valid (mi po g : Int) (h : Pn.signsB mi po g = true) : Lib.validRune mi = true ∧ Lib.validRune po = true ∧ Lib.validRune g = true := by
  simp only [Pn.signsB, Bool.and_eq_true] at h
  exact ⟨h.1.1.1.2, h.1.2, h.2⟩
theorem known_parts (mi po g : Int) (f n : Nat) (l : List UInt8) (h : Pn.knownB mi po g f n l = true) : Pn.signsB mi po g = true ∧ Pn.digitsOkB l = true ∧ f ≤ 9 ∧ n ≤ 9 := by
  simp only [Pn.knownB, Bool.and_eq_true, decide_eq_true_eq] at h
  exact ⟨h.1.1.1, h.1.1.2, h.1.2, h.2⟩
theorem written_any (mi po g : Int) (f n : Nat) (d : ByteArray) (l : List UInt8) (hd : d.size ≤ 100000) (hf : f ≤ 9) (hn : n ≤ 9) (hN : Pn.isNum l = true)
    (hp : Pn.pts d.data.toList = [] ∨ (Pn.pts d.data.toList).length = 10) (h4 : ∀ p ∈ Pn.pts d.data.toList, p.length ≤ 4) (hv : Lib.validRune mi = true ∧ Lib.validRune po = true ∧ Lib.validRune g = true) (w : World) :
    Calls Tryz.prog 24 #[.agg #[.bool (Pn.minusOf l), .string ⟨(Pn.aOf l).toArray⟩, .string ⟨(Pn.bOf l).toArray⟩], .agg #[.slice none 0 0, .slice none 0 0, .int .i32 mi, .int .i32 po, .int .i32 g, .int .u8 f, .int .u8 n, .string d]] w fun e w' => e = .returned (.string ⟨(Pn.wAll (Lib.encodeRune mi) (Lib.encodeRune po) (Lib.encodeRune g) (Pn.firstOf g f) (Pn.nextOf g f n) (fun c => dshow (Pn.pts d.data.toList) [c]) l).toArray⟩) ∧ Below w.heap.size w w' := by
  have ha := Pn.num_a l hN
  have hb := Pn.num_b l hN
  have hl := Pn.num_len l hN
  rw [← Pn.wAll_parts]
  by_cases h0 : g = 0 ∨ f = 0
  · cases hm : Pn.minusOf l with
    | true =>
      rw [if_pos rfl]
      exact written_none_true _ _ mi po g f n d w hd hf hn ha.2 hb (by omega) (by omega) hp h4 hv.1 hv.2.1 hv.2.2 h0
    | false =>
      rw [if_neg Bool.false_ne_true]
      exact written_none_false _ _ mi po g f n d w hd hf hn ha.2 hb (by omega) (by omega) hp h4 hv.1 hv.2.1 hv.2.2 h0
  · have h1 : g ≠ 0 := fun e => h0 (Or.inl e)
    have h2 : 1 ≤ f := by
      rcases Nat.eq_zero_or_pos f with e | e
      · exact absurd (Or.inr e) h0
      · exact e
    cases hm : Pn.minusOf l with
    | true =>
      rw [if_pos rfl]
      exact written_grp_true _ _ mi po g f n d w hd hf hn ha.2 hb (by omega) (by omega) hp h4 hv.1 hv.2.1 hv.2.2 h1 h2 ha.1
    | false =>
      rw [if_neg Bool.false_ne_true]
      exact written_grp_false _ _ mi po g f n d w hd hf hn ha.2 hb (by omega) (by omega) hp h4 hv.1 hv.2.1 hv.2.2 h1 h2 ha.1

theorem law_number (mi po g : Int) (f n : Nat) (d s : ByteArray) (w : World) (hB : Base w) (hs : s.size ≤ 100000) (hd : d.size ≤ 100000) :
    Calls Tryz.prog 8 #[.string s, .agg #[.slice none 0 0, .slice none 0 0, .int .i32 mi, .int .i32 po, .int .i32 g, .int .u8 f, .int .u8 n, .string d]] w fun e w' => e = .returned (.bool true) ∧ Below w.heap.size w w' := by
  cases hk : Pn.knownB mi po g f n d.data.toList with
  | false => exact number_0 mi po g f n d s w hB hs hd (show Hid _ from fun w hB => plain_loc _ _ _ _ _ _ mi po g f n d s w hB (show Hid _ from fun w hB => new_refuses mi po g f n d hd hk w hB)) hk
  | true =>
    obtain ⟨k1, k2, k3, k4⟩ := known_parts mi po g f n _ hk
    obtain ⟨d0, d1, d2, d3, d4, d5, d6, d7, d8, d9, hD, hdig, hp, h4, hof⟩ := digits_good d hd k2
    cases hn : Pn.isNum s.data.toList with
    | false => exact number_1 mi po g f n d s w hB hs hd (show Hid _ from fun w hB => plain_num _ _ _ _ _ _ mi po g f n d d0 d1 d2 d3 d4 d5 d6 d7 d8 d9 s w hof (show Hid _ from rules_nil mi po g f n d w) hB k1 k3 k4 (by omega) hn) hk hn
    | true =>
      have hT : Pn.wAll (Lib.encodeRune mi) (Lib.encodeRune po) (Lib.encodeRune g) (Pn.firstOf g f) (Pn.nextOf g f n) (fun c => dshow (Pn.pts d.data.toList) [c]) s.data.toList = Pn.wAll (Lib.encodeRune mi) (Lib.encodeRune po) (Lib.encodeRune g) (Pn.firstOf g f) (Pn.nextOf g f n) (fun c => Lib.encodeRune (Pn.digAt [d0, d1, d2, d3, d4, d5, d6, d7, d8, d9] c)) s.data.toList := by
        rw [← Pn.wAll_parts, ← Pn.wAll_parts]
        exact Pn.wParts_congr _ _ _ _ _ _ _ _ _ (fun c hc => (hdig c ((Pn.num_a _ hn).2 c hc)).symm) (fun c hc => (hdig c (Pn.num_b _ hn c hc)).symm)
      refine number_2 _ mi po g f n d s w hB hs hd (show Hid _ from fun w hB => plain_yes _ _ _ _ _ _ mi po g f n d d0 d1 d2 d3 d4 d5 d6 d7 d8 d9 s w hof (show Hid _ from rules_nil mi po g f n d w) hB k1 k3 k4 hD (by omega) hn) hk hn ?_
      rw [← hT]
      exact (show Hid _ from fun w => written_any mi po g f n d s.data.toList hd k3 k4 hn hp h4 (signs_valid mi po g k1) w)

set_option maxHeartbeats 1000000 in
theorem numbers_long1 (s d : ByteArray) (v : Value) (fi ne : Int) (w : World) (h : (65536 : Int) < s.size) :
    Calls Tryz.prog 3 #[.string s, v, .int .i64 fi, .int .i64 ne, .string d] w fun e w' => e = .returned (.bool true) ∧ Below w.heap.size w w' := by
  go_enter Tryz.func3, Tryz.ntmps3
  go_wp2
  all_goals go_ret
  all_goals exact ⟨rfl, Below.refl _ _⟩
set_option maxHeartbeats 1000000 in
theorem numbers_long2 (s d : ByteArray) (v : Value) (fi ne : Int) (w : World) (h1 : ¬ (65536 : Int) < s.size) (h : (65536 : Int) < d.size) :
    Calls Tryz.prog 3 #[.string s, v, .int .i64 fi, .int .i64 ne, .string d] w fun e w' => e = .returned (.bool true) ∧ Below w.heap.size w w' := by
  go_enter Tryz.func3, Tryz.ntmps3
  go_wp2
  all_goals go_ret
  all_goals exact ⟨rfl, Below.refl _ _⟩
set_option maxHeartbeats 1000000 in
theorem numbers_core (s d : ByteArray) (v : Value) (mi po g fi ne : Int) (w : World) (hB : Base w) (h1 : ¬ (65536 : Int) < s.size) (h2 : ¬ (65536 : Int) < d.size)
    (s0 : Hid (∀ w', Below w.heap.size w w' → Calls Tryz.prog 20 #[v, .int .i64 0] w' fun e w2 => e = .returned (.int .i32 mi) ∧ w2 = w'))
    (s1 : Hid (∀ w', Below w.heap.size w w' → Calls Tryz.prog 20 #[v, .int .i64 1] w' fun e w2 => e = .returned (.int .i32 po) ∧ w2 = w'))
    (s2 : Hid (∀ w', Below w.heap.size w w' → Calls Tryz.prog 20 #[v, .int .i64 2] w' fun e w2 => e = .returned (.int .i32 g) ∧ w2 = w')) :
    Calls Tryz.prog 3 #[.string s, v, .int .i64 fi, .int .i64 ne, .string d] w fun e w' => e = .returned (.bool true) ∧ Below w.heap.size w w' := by
  have HB : Hid (Base w) := hB
  clear hB
  have ef : fi % 256 = ((fi % 256).toNat : Int) := by omega
  have en : ne % 256 = ((ne % 256).toNat : Int) := by omega
  have HF : Hid (fi % 256 = ((fi % 256).toNat : Int)) := ef
  have HE : Hid (ne % 256 = ((ne % 256).toNat : Int)) := en
  clear ef en
  go_enter Tryz.func3, Tryz.ntmps3
  go_wp2_with fail
  refine (locale_any v mi po g fi ne d w s0 s1 s2).mono ?_
  rintro e w1 ⟨rfl, hb1⟩
  rw [HF.out, HE.out]
  generalize (fi % 256).toNat = f
  generalize (ne % 256).toNat = n
  go_wp2_with fail
  refine (law_number mi po g f n d s _ ((HB.out.below hb1).alloc _) (by omega) (by omega)).mono ?_
  rintro e w2 ⟨rfl, hb2⟩
  replace hb1 := below_of (hb1.alloc hb1.size _) hb2
  clear hb2
  go_wp2
  all_goals go_ret
  all_goals exact ⟨rfl, hb1⟩
end Go.Proofs.YtbdljbnboahekaaGreatDoor
