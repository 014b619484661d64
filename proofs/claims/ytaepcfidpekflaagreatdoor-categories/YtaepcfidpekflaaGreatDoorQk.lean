/-
  The parser: is, list. By the verifier.
-/
import Derived.Test.YtaepcfidpekflaaGreatDoorQj
import Derived.Test.YtaepcfidpekflaaGreatDoorPt
namespace Go.Proofs.YtaepcfidpekflaaGreatDoor
open Go.RowKit

theorem isN_head (o : Pr.Opd) (l : List Pr.T) : Pr.isN o l = Pr.isP o (isHead [110, 111, 116] l) (took (isHead [110, 111, 116] l) l) := by
  cases l with
  | nil => rfl
  | cons t l =>
    by_cases h : t = [110, 111, 116]
    · simp [Pr.isN, isHead, took, h]
    · simp [Pr.isN, isHead, took, h]
set_option maxHeartbeats 800000 in
theorem is_any (P : Nat) (w : World) (l : List Pr.T) (x : Value) (o : Pr.Opd) (hX : BaseX P w) (hL : Left P w l) (hx : Opv P w x o) :
    Calls Tryz.prog 258 #[.pointer (some ⟨P, 0, none⟩), x] w fun e w' => Said P w (Pr.isN o l) e w' := by
  rw [isN_head]
  have hxv : ∃ g lb, x = .func (.func g) #[] lb := by obtain ⟨g, lb, h, _⟩ := hx; exact ⟨g, lb, h⟩
  obtain ⟨g, lb, rfl⟩ := hxv
  have hb0 := (Below.refl w.heap.size w).alloc (Nat.le_refl _) (.cells #[.string ⟨#[110, 111, 116]⟩] 9)
  have ct := take_one P w.heap.size _ l [110, 111, 116] (hL.then hb0) (row_at w #[.string ⟨#[110, 111, 116]⟩] 9)
  obtain ⟨S, hS⟩ : ∃ S, Hid (Pr.isP o (isHead [110, 111, 116] l) (took (isHead [110, 111, 116] l) l) = S) := ⟨_, rfl⟩
  rw [hS.out]
  go_enter Tryz.func258, Tryz.ntmps258
  go_wp2_with fail
  refine ct.mono ?_
  rintro e w1 ⟨rfl, hl1, ha1⟩
  replace ha1 := (Ag.of (P := P) hb0 (Nat.le_refl _)).trans ha1
  clear ct hb0
  generalize isHead [110, 111, 116] l = n at *
  generalize took n l = l1 at *
  have cv := value_said P w1 l1 (hX.later ha1) hl1
  go_wp2_with fail
  refine cv.mono ?_
  rintro e w2 ⟨ha2, hs⟩
  clear cv
  replace ha2 := ha1.trans ha2
  cases hv : Pr.value l1 with
  | none =>
    rw [hv] at hs
    obtain rfl := hs
    have hR : Hid (S = none) := by show _ = _; rw [← hS.out]; simp [Pr.isP, Pr.valueP, hv]
    unfold errRule
    go_wp2
    go_ret2
    refine ⟨ha2, ?_⟩
    rw [hR.out]
    rfl
  | some y =>
    obtain ⟨v, r⟩ := y
    rw [hv] at hs
    obtain ⟨rfl, hl2, hlo⟩ := hs
    have hR : Hid (S = some (Pr.turnS (Pr.spanS o v v) n, r)) := by show _ = _; rw [← hS.out]; simp [Pr.isP, Pr.valueP, hv]
    have cs := span_any P w2 _ o v v hlo hlo hl2.lt (hx.later ha2)
    go_wp2_with fail
    refine cs.mono ?_
    rintro e w3 ⟨⟨v3, rfl, hc3⟩, hb3⟩
    clear cs
    have ct := turned_any P w3 v3 n _ (hl2.then hb3).lt hc3
    go_wp2_with fail
    refine ct.mono ?_
    rintro e w4 ⟨⟨v4, rfl, hc4⟩, hb4⟩
    clear ct
    go_wp2
    go_ret2
    refine ⟨(ha2.then hb3).then hb4, ?_⟩
    rw [hR.out]
    exact ⟨_, rfl, hc4, (hl2.then hb3).then hb4⟩

theorem enters_item1 : Enters 275 := enters_of Tryz.func275 (by kernel_rfl) rfl
set_option maxHeartbeats 800000 in
theorem item1_any (P A B C : Nat) (w : World) (l : List Pr.T) (x : Value) (o : Pr.Opd) (wi : Bool) (hA : Row w A #[.pointer (some ⟨P, 0, none⟩)]) (hB : Row w B #[x]) (hC : Row w C #[.bool wi]) (hX : BaseX P w) (hL : Left P w l) (hx : Opv P w x o) :
    Calls Tryz.prog 275 #[.pointer (some ⟨A, 0, none⟩), .pointer (some ⟨B, 0, none⟩), .pointer (some ⟨C, 0, none⟩)] w fun e w' => Said P w (Pr.itemP o wi l) e w' := by
  have hxv : ∃ g lb, x = .func (.func g) #[] lb := by obtain ⟨g, lb, h, _⟩ := hx; exact ⟨g, lb, h⟩
  obtain ⟨g, lb, rfl⟩ := hxv
  have q1 := hA.2.1
  have q2 := hB.2.1
  have q3 := hC.2.1
  have ci := item_any P w l _ o wi hX hL hx
  go_enter Tryz.func275, Tryz.ntmps275
  go_wp2_with fail
  refine ci.mono ?_
  rintro e w1 ⟨ha1, hs⟩
  clear ci q1 q2 q3
  cases hv : Pr.itemP o wi l with
  | none =>
    rw [hv] at hs
    obtain rfl := hs
    have hR : Hid (Pr.itemP o wi l = none) := hv
    clear hv
    unfold errRule
    go_wp2
    go_ret2
    refine ⟨ha1, ?_⟩
    rw [hR.out]
    rfl
  | some y =>
    obtain ⟨f, r⟩ := y
    rw [hv] at hs
    obtain ⟨v, rfl, hc, hl⟩ := hs
    have hR : Hid (Pr.itemP o wi l = some (f, r)) := hv
    clear hv
    go_wp2
    go_ret2
    refine ⟨ha1, ?_⟩
    rw [hR.out]
    exact ⟨_, rfl, hc, hl⟩
theorem item_len (o : Pr.Opd) (wi : Bool) (l : List Pr.T) (f : Pr.Sem) (r : List Pr.T) (h : Pr.itemP o wi l = some (f, r)) : r.length ≤ l.length := by
  obtain ⟨p, e, _⟩ := (Pr.good_item o wi).sound l f r h
  rw [e]; simp
set_option maxHeartbeats 800000 in
theorem list_any (P : Nat) (w : World) (l : List Pr.T) (x : Value) (o : Pr.Opd) (n wi : Bool) (hX : BaseX P w) (hL : Left P w l) (hx : Opv P w x o) :
    Calls Tryz.prog 257 #[.pointer (some ⟨P, 0, none⟩), x, .bool n, .bool wi] w fun e w' => Said P w (Pr.listP o n wi l) e w' := by
  obtain ⟨S, hS⟩ : ∃ S, Hid (Pr.listP o n wi l = S) := ⟨_, rfl⟩
  rw [hS.out]
  have hxv : ∃ g lb, x = .func (.func g) #[] lb := by obtain ⟨g, lb, h, _⟩ := hx; exact ⟨g, lb, h⟩
  obtain ⟨g, lb, rfl⟩ := hxv
  obtain ⟨r1, r2, r3⟩ := three_rows w (.pointer (some ⟨P, 0, none⟩)) (.func (.func g) #[] lb) (.bool wi) 267 372 4
  have hb0 := three_below w (.cells #[.pointer (some ⟨P, 0, none⟩)] 267) (.cells #[.func (.func g) #[] lb] 372) (.cells #[.bool wi] 4)
  have hP := hL.lt
  have cr := row_any P _ l (.func (.func 275) #[] #[.pointer (some ⟨w.heap.size, 0, none⟩), .pointer (some ⟨w.heap.size + 1, 0, none⟩), .pointer (some ⟨w.heap.size + 2, 0, none⟩)]) (Pr.itemP o wi) [44] 190 Pr.orS enters_either (joins_either P) (item_len o wi) (hX.later (.of hb0 (Nat.le_refl _))) (hL.then hb0)
    ⟨_, _, _, rfl, enters_item1, fun W l' hX' ha' hl' => item1_any P _ _ _ W l' _ o wi (r1.ag ha' (by omega)) (r2.ag ha' (by omega)) (r3.ag ha' (by omega)) hX' hl' (hx.later ((Ag.of hb0 (Nat.le_refl _)).trans ha'))⟩
  go_enter Tryz.func257, Tryz.ntmps257
  go_wp2_with fail
  refine cr.mono ?_
  rintro e w1 ⟨ha1, hs⟩
  replace ha1 := (Ag.of (P := P) hb0 (Nat.le_refl _)).trans ha1
  clear cr hb0 r1 r2 r3
  cases hv : Pr.rowP (Pr.itemP o wi) [44] Pr.orS l with
  | none =>
    rw [hv] at hs
    obtain rfl := hs
    have hR : Hid (S = none) := by show _ = _; rw [← hS.out]; simp [Pr.listP, hv]
    unfold errRule
    go_wp2
    go_ret2
    refine ⟨ha1, ?_⟩
    rw [hR.out]
    rfl
  | some y =>
    obtain ⟨f, r⟩ := y
    rw [hv] at hs
    obtain ⟨v, rfl, hc, hl⟩ := hs
    have hR : Hid (S = some (Pr.turnS f n, r)) := by show _ = _; rw [← hS.out]; simp [Pr.listP, hv]
    have ct := turned_any P w1 v n _ hl.lt hc
    go_wp2_with fail
    refine ct.mono ?_
    rintro e w4 ⟨⟨v4, rfl, hc4⟩, hb4⟩
    clear ct
    go_wp2
    go_ret2
    refine ⟨ha1.then hb4, ?_⟩
    rw [hR.out]
    exact ⟨_, rfl, hc4, hl.then hb4⟩
end Go.Proofs.YtaepcfidpekflaaGreatDoor
