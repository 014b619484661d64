/-
  Logic, walked. By the verifier.
-/
import Derived.Test.YtaepcfidpekflaaGreatDoorLb
namespace Go.Proofs.YtaepcfidpekflaaGreatDoor
open Go.RowKit

theorem fact_is : isX [110, 32, 61, 32, 49, 32, 111, 114, 32, 110, 32, 119, 105, 116, 104, 105, 110, 32, 50, 46, 46, 51, 32, 97, 110, 100, 32, 118, 32, 61, 32, 49] [50, 46, 53] = (true, true) := by decide +kernel
theorem cat3 (a b m : Pr.T) : (⟨a.toArray⟩ : ByteArray) ++ ⟨m.toArray⟩ ++ ⟨b.toArray⟩ = ⟨(a ++ m ++ b).toArray⟩ := by
  apply ByteArray.ext
  simp [ByteArray.data_append]
/-- Two rules, few and zero, in one block. -/
theorem two_in (w : World) (a b : Pr.T) (ha : a.length < 1000000) (hb : b.length < 1000000) : RulesIn (w.alloc (.cells #[.string ⟨#[102, 101, 119]⟩, .string ⟨a.toArray⟩, .string ⟨#[122, 101, 114, 111]⟩, .string ⟨b.toArray⟩] 44)) (some ⟨w.heap.size, 0, none⟩) [(few, a), (zeroT, b)] := by
  have r0 := row_at w #[.string ⟨#[102, 101, 119]⟩, .string ⟨a.toArray⟩, .string ⟨#[122, 101, 114, 111]⟩, .string ⟨b.toArray⟩] 44
  refine ⟨by simp, fun q hq => ?_, .inr ⟨w.heap.size, 0, rfl, by simp, fun j hj => ?_⟩⟩
  · rcases List.mem_cons.1 hq with rfl | hq
    · exact ⟨by show few.length < 1000000; decide, ha⟩
    · rw [List.mem_singleton] at hq
      subst hq
      exact ⟨by show zeroT.length < 1000000; decide, hb⟩
  · match j, hj with
    | 0, _ => exact ⟨r0.2.1 0, r0.2.1 1⟩
    | 1, _ => exact ⟨r0.2.1 2, r0.2.1 3⟩

set_option maxHeartbeats 6400000 in
set_option maxRecDepth 100000 in
theorem logic_any (a b s : Pr.T) (w : World) (hB : Base w) (hl : a.length + b.length ≤ 190) (hs : s.length ≤ 60) :
    Calls Tryz.prog 6 #[.string ⟨a.toArray⟩, .string ⟨b.toArray⟩, .string ⟨s.toArray⟩] w fun e w' => e = .returned (.bool true) ∧ Below w.heap.size w w' := by
  have h1 : ¬ (190 : Int) < (a.length : Int) + b.length := by omega
  have h2 : ¬ (60 : Int) < s.length := by omega
  have hw1 : IntKind.i64.wrap ((a.length : Int) + b.length) = (a.length : Int) + b.length := by rw [IntKind.wrap_i64]; omega
  have c0 := kis_any w [110, 32, 61, 32, 49, 32, 111, 114, 32, 110, 32, 119, 105, 116, 104, 105, 110, 32, 50, 46, 46, 51, 32, 97, 110, 100, 32, 118, 32, 61, 32, 49] [50, 46, 53] (by decide) (by decide) hB
  rw [fact_is] at c0
  go_enter Tryz.func6, Tryz.ntmps6
  go_wp2_with fail
  refine c0.mono ?_
  rintro e w1 ⟨rfl, hb1⟩
  clear c0
  have c1 := kis_any w1 a s (by omega) (by omega) (hB.below hb1)
  obtain ⟨X, hX⟩ : ∃ X, Hid (isX a s = X) := ⟨_, rfl⟩
  obtain ⟨Y, hY⟩ : ∃ Y, Hid (isX b s = Y) := ⟨_, rfl⟩
  rw [hX.out] at c1
  obtain ⟨x, ok⟩ := X
  obtain ⟨y, too⟩ := Y
  go_wp2_with fail
  refine c1.mono ?_
  rintro e w2 ⟨rfl, hb2⟩
  clear c1
  replace hb2 := below_of hb1 hb2
  have c2 := kis_any w2 b s (by omega) (by omega) (hB.below hb2)
  rw [hY.out] at c2
  go_wp2_with fail
  refine c2.mono ?_
  rintro e w3 ⟨rfl, hb3⟩
  clear c2
  replace hb3 := below_of hb2 hb3
  go_wp2_with fail
  refine (holds_any w3 a [64] (by omega) (by decide)).mono ?_
  rintro e w4 ⟨⟨sm, rfl, hsm⟩, hw4⟩
  subst hw4
  clear hb1 hb2
  cases ok with
  | false =>
    go_wp2
    go_ret
    exact ⟨rfl, hb3⟩
  | true =>
  cases too with
  | false =>
    go_wp2
    go_ret
    exact ⟨rfl, hb3⟩
  | true =>
  cases sm with
  | true =>
    clear hsm
    go_wp2
    go_ret
    exact ⟨rfl, hb3⟩
  | false =>
    have h64 : 64 ∉ a := fun h => by
      have := hsm.2 ((at_infix a).2 h)
      cases this
    clear hsm
    have k5 := is_or a b s x y hX.out hY.out h64 hl
    obtain ⟨z, k6, k7⟩ := is_and a b s x y hX.out hY.out h64 hl
    have k8 := cat_two a b s x y hX.out hY.out
    have c5 := kis_any w4 (a ++ [32, 111, 114, 32] ++ b) s (by simp; omega) (by omega) (hB.below hb3)
    rw [k5, ← cat3] at c5
    have K6 : Hid (isX (a ++ [32, 97, 110, 100, 32] ++ b) s = (z, true)) := k6
    have K7 : Hid (¬ [111, 114] <:+: a → ¬ [111, 114] <:+: b → z = (x && y)) := k7
    have K8 : Hid (catOf [(few, a), (zeroT, b)] s = (if x then few else if y then zeroT else other, 0)) := k8
    clear k5 k6 k7 k8 h64 hX hY
    cases x with
    | false =>
      cases y with
      | false =>
        go_wp2_with fail
        refine c5.mono ?_
        rintro e w5 ⟨rfl, hb5⟩
        clear c5
        replace hb5 := below_of hb3 hb5
        go_wp2_with fail
        refine (holds_any w5 a [111, 114] (by omega) (by decide)).mono ?_
        rintro e w6 ⟨⟨o1, rfl, ho1⟩, hw6⟩
        subst hw6
        go_wp2_with fail
        refine (holds_any w6 b [111, 114] (by omega) (by decide)).mono ?_
        rintro e w7 ⟨⟨o2, rfl, ho2⟩, hw7⟩
        subst hw7
        have c6 := kis_any w7 (a ++ [32, 97, 110, 100, 32] ++ b) s (by simp; omega) (by omega) (hB.below hb5)
        rw [K6.out, ← cat3] at c6
        go_wp2_with fail
        refine c6.mono ?_
        rintro e w8 ⟨rfl, hb8⟩
        clear c6
        replace hb8 := below_of hb5 hb8
        have hz : Hid (o1 = false → o2 = false → z = (false && false)) := fun e1 e2 => K7.out (fun h => by have := ho1.2 h; rw [e1] at this; cases this) (fun h => by have := ho2.2 h; rw [e2] at this; cases this)
        clear ho1 ho2 hb3 hb5 K6 K7
        have hb9 := hb8.alloc hb8.size (.cells #[.string ⟨#[102, 101, 119]⟩, .string ⟨a.toArray⟩, .string ⟨#[122, 101, 114, 111]⟩, .string ⟨b.toArray⟩] 44)
        have rin := two_in w8 a b (by omega) (by omega)
        have c9 := pcategory_any _ (some ⟨w8.heap.size, 0, none⟩) 2 [(few, a), (zeroT, b)] ⟨s.toArray⟩ (by show s.toArray.size < _; simp; omega) (hB.below hb9) rin
        have K8' : Hid (catOf [(few, a), (zeroT, b)] s = (other, 0)) := K8.out
        rw [show (⟨s.toArray⟩ : ByteArray).data.toList = s from rfl, K8'.out] at c9
        have hzz : (!o1 && !o2 && (z != (false && false))) = false := by
          cases o1 <;> cases o2 <;> simp
          have := hz.out rfl rfl
          simpa using this
        cases o1 <;> cases o2
        all_goals first | (have hz2 : z = false := hz.out rfl rfl; subst hz2) | skip
        all_goals (
          go_wp2_with fail
          refine c9.mono ?_
          rintro e w10 ⟨rfl, hb10⟩
          have hb10' := below_of hb9 hb10
          have rin2 := rin.keep hb10
          have hb11 := hb10'.alloc hb10'.size (.cells #[.string ⟨#[111, 116, 104, 101, 114]⟩, .string ⟨#[102, 101, 119]⟩] 9)
          have rin3 := rin2.keep ((Below.refl w10.heap.size w10).alloc (Nat.le_refl _) (.cells #[.string ⟨#[111, 116, 104, 101, 114]⟩, .string ⟨#[102, 101, 119]⟩] 9))
          have c11 := both_names _ (some ⟨w8.heap.size, 0, none⟩) 2 w10.heap.size [(few, a), (zeroT, b)] ⟨s.toArray⟩ (by show s.toArray.size < _; simp; omega) (by rw [show (⟨s.toArray⟩ : ByteArray).data.toList = s from rfl, K8'.out]; decide) (hB.below hb11) rin3 (row_at w10 #[.string ⟨#[111, 116, 104, 101, 114]⟩, .string ⟨#[102, 101, 119]⟩] 9)
          rw [show (⟨s.toArray⟩ : ByteArray).data.toList = s from rfl, K8'.out] at c11
          go_wp2_with fail
          refine c11.mono ?_
          rintro e w12 ⟨rfl, hb12⟩
          clear c9 c11 rin rin2 rin3 hz hzz K8 K8'
          go_wp2
          go_ret
          exact ⟨rfl, below_of hb11 hb12⟩)
      | true =>
        go_wp2_with fail
        refine c5.mono ?_
        rintro e w5 ⟨rfl, hb5⟩
        clear c5
        replace hb5 := below_of hb3 hb5
        go_wp2_with fail
        refine (holds_any w5 a [111, 114] (by omega) (by decide)).mono ?_
        rintro e w6 ⟨⟨o1, rfl, ho1⟩, hw6⟩
        subst hw6
        go_wp2_with fail
        refine (holds_any w6 b [111, 114] (by omega) (by decide)).mono ?_
        rintro e w7 ⟨⟨o2, rfl, ho2⟩, hw7⟩
        subst hw7
        have c6 := kis_any w7 (a ++ [32, 97, 110, 100, 32] ++ b) s (by simp; omega) (by omega) (hB.below hb5)
        rw [K6.out, ← cat3] at c6
        go_wp2_with fail
        refine c6.mono ?_
        rintro e w8 ⟨rfl, hb8⟩
        clear c6
        replace hb8 := below_of hb5 hb8
        have hz : Hid (o1 = false → o2 = false → z = (false && true)) := fun e1 e2 => K7.out (fun h => by have := ho1.2 h; rw [e1] at this; cases this) (fun h => by have := ho2.2 h; rw [e2] at this; cases this)
        clear ho1 ho2 hb3 hb5 K6 K7
        have hb9 := hb8.alloc hb8.size (.cells #[.string ⟨#[102, 101, 119]⟩, .string ⟨a.toArray⟩, .string ⟨#[122, 101, 114, 111]⟩, .string ⟨b.toArray⟩] 44)
        have rin := two_in w8 a b (by omega) (by omega)
        have c9 := pcategory_any _ (some ⟨w8.heap.size, 0, none⟩) 2 [(few, a), (zeroT, b)] ⟨s.toArray⟩ (by show s.toArray.size < _; simp; omega) (hB.below hb9) rin
        have K8' : Hid (catOf [(few, a), (zeroT, b)] s = (zeroT, 0)) := K8.out
        rw [show (⟨s.toArray⟩ : ByteArray).data.toList = s from rfl, K8'.out] at c9
        have hzz : (!o1 && !o2 && (z != (false && true))) = false := by
          cases o1 <;> cases o2 <;> simp
          have := hz.out rfl rfl
          simpa using this
        cases o1 <;> cases o2
        all_goals first | (have hz2 : z = false := hz.out rfl rfl; subst hz2) | skip
        all_goals (
          go_wp2_with fail
          refine c9.mono ?_
          rintro e w10 ⟨rfl, hb10⟩
          have hb10' := below_of hb9 hb10
          have rin2 := rin.keep hb10
          have hb11 := hb10'.alloc hb10'.size (.cells #[.string ⟨#[111, 116, 104, 101, 114]⟩, .string ⟨#[102, 101, 119]⟩] 9)
          have rin3 := rin2.keep ((Below.refl w10.heap.size w10).alloc (Nat.le_refl _) (.cells #[.string ⟨#[111, 116, 104, 101, 114]⟩, .string ⟨#[102, 101, 119]⟩] 9))
          have c11 := both_names _ (some ⟨w8.heap.size, 0, none⟩) 2 w10.heap.size [(few, a), (zeroT, b)] ⟨s.toArray⟩ (by show s.toArray.size < _; simp; omega) (by rw [show (⟨s.toArray⟩ : ByteArray).data.toList = s from rfl, K8'.out]; decide) (hB.below hb11) rin3 (row_at w10 #[.string ⟨#[111, 116, 104, 101, 114]⟩, .string ⟨#[102, 101, 119]⟩] 9)
          rw [show (⟨s.toArray⟩ : ByteArray).data.toList = s from rfl, K8'.out] at c11
          go_wp2_with fail
          refine c11.mono ?_
          rintro e w12 ⟨rfl, hb12⟩
          clear c9 c11 rin rin2 rin3 hz hzz K8 K8'
          go_wp2
          go_ret
          exact ⟨rfl, below_of hb11 hb12⟩)
    | true =>
      cases y with
      | false =>
        go_wp2_with fail
        refine c5.mono ?_
        rintro e w5 ⟨rfl, hb5⟩
        clear c5
        replace hb5 := below_of hb3 hb5
        go_wp2_with fail
        refine (holds_any w5 a [111, 114] (by omega) (by decide)).mono ?_
        rintro e w6 ⟨⟨o1, rfl, ho1⟩, hw6⟩
        subst hw6
        go_wp2_with fail
        refine (holds_any w6 b [111, 114] (by omega) (by decide)).mono ?_
        rintro e w7 ⟨⟨o2, rfl, ho2⟩, hw7⟩
        subst hw7
        have c6 := kis_any w7 (a ++ [32, 97, 110, 100, 32] ++ b) s (by simp; omega) (by omega) (hB.below hb5)
        rw [K6.out, ← cat3] at c6
        go_wp2_with fail
        refine c6.mono ?_
        rintro e w8 ⟨rfl, hb8⟩
        clear c6
        replace hb8 := below_of hb5 hb8
        have hz : Hid (o1 = false → o2 = false → z = (true && false)) := fun e1 e2 => K7.out (fun h => by have := ho1.2 h; rw [e1] at this; cases this) (fun h => by have := ho2.2 h; rw [e2] at this; cases this)
        clear ho1 ho2 hb3 hb5 K6 K7
        have hb9 := hb8.alloc hb8.size (.cells #[.string ⟨#[102, 101, 119]⟩, .string ⟨a.toArray⟩, .string ⟨#[122, 101, 114, 111]⟩, .string ⟨b.toArray⟩] 44)
        have rin := two_in w8 a b (by omega) (by omega)
        have c9 := pcategory_any _ (some ⟨w8.heap.size, 0, none⟩) 2 [(few, a), (zeroT, b)] ⟨s.toArray⟩ (by show s.toArray.size < _; simp; omega) (hB.below hb9) rin
        have K8' : Hid (catOf [(few, a), (zeroT, b)] s = (few, 0)) := K8.out
        rw [show (⟨s.toArray⟩ : ByteArray).data.toList = s from rfl, K8'.out] at c9
        have hzz : (!o1 && !o2 && (z != (true && false))) = false := by
          cases o1 <;> cases o2 <;> simp
          have := hz.out rfl rfl
          simpa using this
        cases o1 <;> cases o2
        all_goals first | (have hz2 : z = false := hz.out rfl rfl; subst hz2) | skip
        all_goals (
          go_wp2_with fail
          refine c9.mono ?_
          rintro e w10 ⟨rfl, hb10⟩
          have hb10' := below_of hb9 hb10
          have rin2 := rin.keep hb10
          have hb11 := hb10'.alloc hb10'.size (.cells #[.string ⟨#[111, 116, 104, 101, 114]⟩, .string ⟨#[102, 101, 119]⟩] 9)
          have rin3 := rin2.keep ((Below.refl w10.heap.size w10).alloc (Nat.le_refl _) (.cells #[.string ⟨#[111, 116, 104, 101, 114]⟩, .string ⟨#[102, 101, 119]⟩] 9))
          have c11 := both_names _ (some ⟨w8.heap.size, 0, none⟩) 2 w10.heap.size [(few, a), (zeroT, b)] ⟨s.toArray⟩ (by show s.toArray.size < _; simp; omega) (by rw [show (⟨s.toArray⟩ : ByteArray).data.toList = s from rfl, K8'.out]; decide) (hB.below hb11) rin3 (row_at w10 #[.string ⟨#[111, 116, 104, 101, 114]⟩, .string ⟨#[102, 101, 119]⟩] 9)
          rw [show (⟨s.toArray⟩ : ByteArray).data.toList = s from rfl, K8'.out] at c11
          go_wp2_with fail
          refine c11.mono ?_
          rintro e w12 ⟨rfl, hb12⟩
          clear c9 c11 rin rin2 rin3 hz hzz K8 K8'
          go_wp2
          go_ret
          exact ⟨rfl, below_of hb11 hb12⟩)
      | true =>
        go_wp2_with fail
        refine c5.mono ?_
        rintro e w5 ⟨rfl, hb5⟩
        clear c5
        replace hb5 := below_of hb3 hb5
        go_wp2_with fail
        refine (holds_any w5 a [111, 114] (by omega) (by decide)).mono ?_
        rintro e w6 ⟨⟨o1, rfl, ho1⟩, hw6⟩
        subst hw6
        go_wp2_with fail
        refine (holds_any w6 b [111, 114] (by omega) (by decide)).mono ?_
        rintro e w7 ⟨⟨o2, rfl, ho2⟩, hw7⟩
        subst hw7
        have c6 := kis_any w7 (a ++ [32, 97, 110, 100, 32] ++ b) s (by simp; omega) (by omega) (hB.below hb5)
        rw [K6.out, ← cat3] at c6
        go_wp2_with fail
        refine c6.mono ?_
        rintro e w8 ⟨rfl, hb8⟩
        clear c6
        replace hb8 := below_of hb5 hb8
        have hz : Hid (o1 = false → o2 = false → z = (true && true)) := fun e1 e2 => K7.out (fun h => by have := ho1.2 h; rw [e1] at this; cases this) (fun h => by have := ho2.2 h; rw [e2] at this; cases this)
        clear ho1 ho2 hb3 hb5 K6 K7
        have hb9 := hb8.alloc hb8.size (.cells #[.string ⟨#[102, 101, 119]⟩, .string ⟨a.toArray⟩, .string ⟨#[122, 101, 114, 111]⟩, .string ⟨b.toArray⟩] 44)
        have rin := two_in w8 a b (by omega) (by omega)
        have c9 := pcategory_any _ (some ⟨w8.heap.size, 0, none⟩) 2 [(few, a), (zeroT, b)] ⟨s.toArray⟩ (by show s.toArray.size < _; simp; omega) (hB.below hb9) rin
        have K8' : Hid (catOf [(few, a), (zeroT, b)] s = (few, 0)) := K8.out
        rw [show (⟨s.toArray⟩ : ByteArray).data.toList = s from rfl, K8'.out] at c9
        have hzz : (!o1 && !o2 && (z != (true && true))) = false := by
          cases o1 <;> cases o2 <;> simp
          have := hz.out rfl rfl
          simpa using this
        cases o1 <;> cases o2
        all_goals first | (have hz2 : z = true := hz.out rfl rfl; subst hz2) | skip
        all_goals (
          go_wp2_with fail
          refine c9.mono ?_
          rintro e w10 ⟨rfl, hb10⟩
          have hb10' := below_of hb9 hb10
          have rin2 := rin.keep hb10
          have hb11 := hb10'.alloc hb10'.size (.cells #[.string ⟨#[111, 116, 104, 101, 114]⟩, .string ⟨#[102, 101, 119]⟩] 9)
          have rin3 := rin2.keep ((Below.refl w10.heap.size w10).alloc (Nat.le_refl _) (.cells #[.string ⟨#[111, 116, 104, 101, 114]⟩, .string ⟨#[102, 101, 119]⟩] 9))
          have c11 := both_names _ (some ⟨w8.heap.size, 0, none⟩) 2 w10.heap.size [(few, a), (zeroT, b)] ⟨s.toArray⟩ (by show s.toArray.size < _; simp; omega) (by rw [show (⟨s.toArray⟩ : ByteArray).data.toList = s from rfl, K8'.out]; decide) (hB.below hb11) rin3 (row_at w10 #[.string ⟨#[111, 116, 104, 101, 114]⟩, .string ⟨#[102, 101, 119]⟩] 9)
          rw [show (⟨s.toArray⟩ : ByteArray).data.toList = s from rfl, K8'.out] at c11
          go_wp2_with fail
          refine c11.mono ?_
          rintro e w12 ⟨rfl, hb12⟩
          clear c9 c11 rin rin2 rin3 hz hzz K8 K8'
          go_wp2
          go_ret
          exact ⟨rfl, below_of hb11 hb12⟩)
end Go.Proofs.YtaepcfidpekflaaGreatDoor
