/-
  The parser: item, is, list. By the verifier.
-/
import Derived.Test.YtaepcfidpekflaaGreatDoorQh
import Derived.Test.YtaepcfidpekflaaGreatDoorQi
namespace Go.Proofs.YtaepcfidpekflaaGreatDoor
open Go.RowKit

theorem fig_le {t : Pr.T} {v : Nat} (h : Pr.fig t = some v) : v ≤ 999999999 := by
  unfold Pr.fig at h
  split at h
  · rename_i c
    injection h with h
    have := val_lt t ((digitsB_iff t).1 c.1).2
    have hp : 10 ^ t.length ≤ 10 ^ 9 := Nat.pow_le_pow_right (by omega) c.2.1
    have h9 : (10 : Nat) ^ 9 = 1000000000 := by decide
    omega
  · cases h
theorem value_said (P : Nat) (w : World) (l : List Pr.T) (hX : BaseX P w) (hL : Left P w l) :
    Calls Tryz.prog 234 #[.pointer (some ⟨P, 0, none⟩)] w fun e w' => Ag P w w' ∧ match Pr.value l with
      | none => e = .returned (.tuple #[.int .u64 0, errRule])
      | some (v, r) => e = .returned (.tuple #[.int .u64 v, .nilIface]) ∧ Left P w' r ∧ v ≤ 999999999 := by
  cases hv : Pr.value l with
  | none => exact (value_no P w l hX hL hv).mono fun e w' h => ⟨h.2, h.1⟩
  | some x =>
    obtain ⟨v, r⟩ := x
    cases l with
    | nil => cases hv
    | cons t l =>
      cases hf : Pr.fig t with
      | none => simp [Pr.value, hf] at hv
      | some u =>
        simp only [Pr.value, hf, Option.some.injEq, Prod.mk.injEq] at hv
        obtain ⟨rfl, rfl⟩ := hv
        exact (value_yes P w t l u hL hf).mono fun e w' h => ⟨h.2.2, h.1, h.2.1, fig_le hf⟩
theorem item_bad (o : Pr.Opd) (wi : Bool) (l : List Pr.T) (h : Pr.value l = none) : Pr.itemP o wi l = none := by simp [Pr.itemP, Pr.valueP, h]
theorem item_one (o : Pr.Opd) (wi : Bool) (l r : List Pr.T) (v : Nat) (h : Pr.value l = some (v, r)) (hd : isHead [46, 46] r = false) : Pr.itemP o wi l = some (Pr.inS o wi v v, r) := by
  cases r with
  | nil => simp [Pr.itemP, Pr.valueP, h, Pr.itemK]
  | cons t r =>
    have : t ≠ [46, 46] := by simpa [isHead] using hd
    simp [Pr.itemP, Pr.valueP, h, Pr.itemK, this]
theorem item_two (o : Pr.Opd) (wi : Bool) (l r : List Pr.T) (v : Nat) (h : Pr.value l = some (v, r)) (hd : isHead [46, 46] r = true) : Pr.itemP o wi l = match Pr.value r.tail with
    | none => none
    | some (hi, r') => if hi < v then none else some (Pr.inS o wi v hi, r') := by
  cases r with
  | nil => cases hd
  | cons t r =>
    have : t = [46, 46] := by simpa [isHead] using hd
    subst this
    simp only [Pr.itemP, Pr.valueP, h, Pr.itemK, if_true, List.tail_cons]
    cases Pr.value r <;> rfl

set_option maxHeartbeats 800000 in
theorem item_any (P : Nat) (w : World) (l : List Pr.T) (x : Value) (o : Pr.Opd) (wi : Bool) (hX : BaseX P w) (hL : Left P w l) (hx : Opv P w x o) :
    Calls Tryz.prog 276 #[.pointer (some ⟨P, 0, none⟩), x, .bool wi] w fun e w' => Said P w (Pr.itemP o wi l) e w' := by
  have cv := value_said P w l hX hL
  obtain ⟨S, hS⟩ : ∃ S, Hid (Pr.itemP o wi l = S) := ⟨_, rfl⟩
  rw [hS.out]
  have hxv : ∃ g lb, x = .func (.func g) #[] lb := by obtain ⟨g, lb, h, _⟩ := hx; exact ⟨g, lb, h⟩
  obtain ⟨g, lb, rfl⟩ := hxv
  go_enter Tryz.func276, Tryz.ntmps276
  go_wp2_with fail
  refine cv.mono ?_
  rintro e w1 ⟨ha1, hs⟩
  clear cv
  cases hv : Pr.value l with
  | none =>
    rw [hv] at hs
    obtain rfl := hs
    have hR : Hid (S = none) := hS.out.symm.trans (item_bad o wi l hv)
    unfold errRule
    go_wp2
    go_ret2
    refine ⟨ha1, ?_⟩
    rw [hR.out]
    rfl
  | some y =>
    obtain ⟨lo, r⟩ := y
    rw [hv] at hs
    obtain ⟨rfl, hl1, hlo⟩ := hs
    have hb0 := (Below.refl w1.heap.size w1).alloc (Nat.le_refl _) (.cells #[.string ⟨#[46, 46]⟩] 9)
    have ct := take_one P w1.heap.size _ r [46, 46] (hl1.then hb0) (row_at w1 #[.string ⟨#[46, 46]⟩] 9)
    go_wp2_with fail
    refine ct.mono ?_
    rintro e w2 ⟨rfl, hl2, ha2⟩
    replace ha2 := ha1.trans ((Ag.of (P := P) hb0 (Nat.le_refl _)).trans ha2)
    clear ct hb0
    have hx2 := hx.later ha2
    cases hd : isHead [46, 46] r with
    | false =>
      rw [hd] at hl2
      have hR : Hid (S = some (Pr.inS o wi lo lo, r)) := hS.out.symm.trans (item_one o wi l r lo hv hd)
      have hnl : ¬ (lo : Int) < lo := by omega
      cases wi with
      | false =>
        have cs := span_any P w2 _ o lo lo hlo hlo hl2.lt hx2
        go_wp2_with (go_at_call 278; refine cs.mono ?_; rintro e w3 ⟨⟨v3, rfl, hc3⟩, hb3⟩)
        go_ret2
        refine ⟨ha2.then hb3, ?_⟩
        rw [hR.out]
        exact ⟨_, rfl, hc3, hl2.then hb3⟩
      | true =>
        have cs := stretch_any P w2 _ o lo lo hlo hlo hl2.lt hx2
        go_wp2_with (go_at_call 295; refine cs.mono ?_; rintro e w3 ⟨⟨v3, rfl, hc3⟩, hb3⟩)
        go_ret2
        refine ⟨ha2.then hb3, ?_⟩
        rw [hR.out]
        exact ⟨_, rfl, hc3, hl2.then hb3⟩
    | true =>
      rw [hd] at hl2
      have hl2' : Left P w2 r.tail := hl2
      have hR0 := item_two o wi l r lo hv hd
      have cv2 := value_said P w2 r.tail (hX.later ha2) hl2'
      go_wp2_with fail
      refine cv2.mono ?_
      rintro e w3 ⟨ha3, hs⟩
      clear cv2
      have hA3 := ha2.trans ha3
      cases hv2 : Pr.value r.tail with
      | none =>
        rw [hv2] at hs hR0
        obtain rfl := hs
        have hR : Hid (S = none) := hS.out.symm.trans hR0
        clear hR0
        unfold errRule
        go_wp2
        go_ret2
        refine ⟨hA3, ?_⟩
        rw [hR.out]
        rfl
      | some y =>
        obtain ⟨hi, r2⟩ := y
        rw [hv2] at hs hR0
        obtain ⟨rfl, hl3, hhi⟩ := hs
        have hx3 := hx2.later ha3
        by_cases hlt : hi < lo
        · have hlt' : (hi : Int) < lo := by omega
          have hR : Hid (S = none) := hS.out.symm.trans (hR0.trans (if_pos hlt))
          clear hR0
          go_wp2
          go_ret2
          refine ⟨hA3, ?_⟩
          rw [hR.out]
          rfl
        · have hlt' : ¬ (hi : Int) < lo := by omega
          have hR : Hid (S = some (Pr.inS o wi lo hi, r2)) := hS.out.symm.trans (hR0.trans (if_neg hlt))
          clear hR0
          cases wi with
          | false =>
            have cs := span_any P w3 _ o lo hi hlo hhi hl3.lt hx3
            go_wp2_with (go_at_call 278; refine cs.mono ?_; rintro e w4 ⟨⟨v3, rfl, hc3⟩, hb3⟩)
            go_ret2
            refine ⟨hA3.then hb3, ?_⟩
            rw [hR.out]
            exact ⟨_, rfl, hc3, hl3.then hb3⟩
          | true =>
            have cs := stretch_any P w3 _ o lo hi hlo hhi hl3.lt hx3
            go_wp2_with (go_at_call 295; refine cs.mono ?_; rintro e w4 ⟨⟨v3, rfl, hc3⟩, hb3⟩)
            go_ret2
            refine ⟨hA3.then hb3, ?_⟩
            rw [hR.out]
            exact ⟨_, rfl, hc3, hl3.then hb3⟩
end Go.Proofs.YtaepcfidpekflaaGreatDoor
