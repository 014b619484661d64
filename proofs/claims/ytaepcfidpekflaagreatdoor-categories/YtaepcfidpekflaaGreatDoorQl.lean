/-
  The parser: how, relation, and, or, parse. By the verifier.
-/
import Derived.Test.YtaepcfidpekflaaGreatDoorQk
namespace Go.Proofs.YtaepcfidpekflaaGreatDoor
open Go.RowKit

theorem Opv.form {P : Nat} {w : World} {x : Value} {o : Pr.Opd} (h : Opv P w x o) : ∃ g lb, x = .func (.func g) #[] lb := by
  obtain ⟨g, lb, h, _⟩ := h
  exact ⟨g, lb, h⟩
set_option maxHeartbeats 1600000 in
theorem how_eq (P : Nat) (w : World) (l : List Pr.T) (x : Value) (o : Pr.Opd) (hX : BaseX P w) (hL : Left P w l) (hx : Opv P w x o) (h_eq : isHead [61] l = true) :
    Calls Tryz.prog 236 #[.pointer (some ⟨P, 0, none⟩), x] w fun e w' => Said P w (Pr.listP o false false l.tail) e w' := by
  obtain ⟨S, hS⟩ : ∃ S, Hid ((Pr.listP o false false l.tail) = S) := ⟨_, rfl⟩
  rw [hS.out]
  obtain ⟨g, lb, rfl⟩ := hx.form
  have hl0 := hL
  have ha0 := Ag.refl P w
  go_enter Tryz.func236, Tryz.ntmps236
  have hb1 := (Below.refl w.heap.size w).alloc (Nat.le_refl _) (.cells #[.string ⟨#[61]⟩] 9)
  have ct1 := take_one P w.heap.size _ l [61] (hl0.then hb1) (row_at w #[.string ⟨#[61]⟩] 9)
  rw [h_eq] at ct1
  go_wp2_with fail
  refine ct1.mono ?_
  rintro e w1 ⟨rfl, hl1, ha1⟩
  replace ha1 := ha0.trans ((Ag.of (P := P) hb1 (Nat.le_refl _)).trans ha1)
  clear ct1 hb1
  have cf := list_any P w1 l.tail _ o false false (hX.later ha1) hl1 (hx.later ha1)
  rw [hS.out] at cf
  go_wp2_with fail
  refine cf.mono ?_
  rintro e w9 ⟨ha9, hs⟩
  clear cf
  replace ha9 := ha1.trans ha9
  cases hv : S with
  | none =>
    rw [hv] at hs
    obtain rfl := hs
    have hR : Hid (S = none) := hv
    clear hv
    unfold errRule
    go_wp2
    go_ret2
    refine ⟨ha9, ?_⟩
    rw [hR.out]
    rfl
  | some y =>
    obtain ⟨f, r⟩ := y
    rw [hv] at hs
    obtain ⟨v, rfl, hc, hl⟩ := hs
    have hR : Hid (S = some (f, r)) := hv
    clear hv
    go_wp2
    go_ret2
    refine ⟨ha9, ?_⟩
    rw [hR.out]
    exact ⟨_, rfl, hc, hl⟩
set_option maxHeartbeats 1600000 in
theorem how_ne (P : Nat) (w : World) (l : List Pr.T) (x : Value) (o : Pr.Opd) (hX : BaseX P w) (hL : Left P w l) (hx : Opv P w x o) (h_eq : isHead [61] l = false) (h_ne : isHead [33, 61] l = true) :
    Calls Tryz.prog 236 #[.pointer (some ⟨P, 0, none⟩), x] w fun e w' => Said P w (Pr.listP o true false l.tail) e w' := by
  obtain ⟨S, hS⟩ : ∃ S, Hid ((Pr.listP o true false l.tail) = S) := ⟨_, rfl⟩
  rw [hS.out]
  obtain ⟨g, lb, rfl⟩ := hx.form
  have hl0 := hL
  have ha0 := Ag.refl P w
  go_enter Tryz.func236, Tryz.ntmps236
  have hb1 := (Below.refl w.heap.size w).alloc (Nat.le_refl _) (.cells #[.string ⟨#[61]⟩] 9)
  have ct1 := take_one P w.heap.size _ l [61] (hl0.then hb1) (row_at w #[.string ⟨#[61]⟩] 9)
  rw [h_eq] at ct1
  go_wp2_with fail
  refine ct1.mono ?_
  rintro e w1 ⟨rfl, hl1, ha1⟩
  replace ha1 := ha0.trans ((Ag.of (P := P) hb1 (Nat.le_refl _)).trans ha1)
  clear ct1 hb1
  have hb2 := (Below.refl w1.heap.size w1).alloc (Nat.le_refl _) (.cells #[.string ⟨#[33, 61]⟩] 9)
  have ct2 := take_one P w1.heap.size _ l [33, 61] (hl1.then hb2) (row_at w1 #[.string ⟨#[33, 61]⟩] 9)
  rw [h_ne] at ct2
  go_wp2_with fail
  refine ct2.mono ?_
  rintro e w2 ⟨rfl, hl2, ha2⟩
  replace ha2 := ha1.trans ((Ag.of (P := P) hb2 (Nat.le_refl _)).trans ha2)
  clear ct2 hb2
  have cf := list_any P w2 l.tail _ o true false (hX.later ha2) hl2 (hx.later ha2)
  rw [hS.out] at cf
  go_wp2_with fail
  refine cf.mono ?_
  rintro e w9 ⟨ha9, hs⟩
  clear cf
  replace ha9 := ha2.trans ha9
  cases hv : S with
  | none =>
    rw [hv] at hs
    obtain rfl := hs
    have hR : Hid (S = none) := hv
    clear hv
    unfold errRule
    go_wp2
    go_ret2
    refine ⟨ha9, ?_⟩
    rw [hR.out]
    rfl
  | some y =>
    obtain ⟨f, r⟩ := y
    rw [hv] at hs
    obtain ⟨v, rfl, hc, hl⟩ := hs
    have hR : Hid (S = some (f, r)) := hv
    clear hv
    go_wp2
    go_ret2
    refine ⟨ha9, ?_⟩
    rw [hR.out]
    exact ⟨_, rfl, hc, hl⟩
set_option maxHeartbeats 1600000 in
theorem how_is (P : Nat) (w : World) (l : List Pr.T) (x : Value) (o : Pr.Opd) (hX : BaseX P w) (hL : Left P w l) (hx : Opv P w x o) (h_eq : isHead [61] l = false) (h_ne : isHead [33, 61] l = false) (h_is : isHead [105, 115] l = true) :
    Calls Tryz.prog 236 #[.pointer (some ⟨P, 0, none⟩), x] w fun e w' => Said P w (Pr.isN o l.tail) e w' := by
  obtain ⟨S, hS⟩ : ∃ S, Hid ((Pr.isN o l.tail) = S) := ⟨_, rfl⟩
  rw [hS.out]
  obtain ⟨g, lb, rfl⟩ := hx.form
  have hl0 := hL
  have ha0 := Ag.refl P w
  go_enter Tryz.func236, Tryz.ntmps236
  have hb1 := (Below.refl w.heap.size w).alloc (Nat.le_refl _) (.cells #[.string ⟨#[61]⟩] 9)
  have ct1 := take_one P w.heap.size _ l [61] (hl0.then hb1) (row_at w #[.string ⟨#[61]⟩] 9)
  rw [h_eq] at ct1
  go_wp2_with fail
  refine ct1.mono ?_
  rintro e w1 ⟨rfl, hl1, ha1⟩
  replace ha1 := ha0.trans ((Ag.of (P := P) hb1 (Nat.le_refl _)).trans ha1)
  clear ct1 hb1
  have hb2 := (Below.refl w1.heap.size w1).alloc (Nat.le_refl _) (.cells #[.string ⟨#[33, 61]⟩] 9)
  have ct2 := take_one P w1.heap.size _ l [33, 61] (hl1.then hb2) (row_at w1 #[.string ⟨#[33, 61]⟩] 9)
  rw [h_ne] at ct2
  go_wp2_with fail
  refine ct2.mono ?_
  rintro e w2 ⟨rfl, hl2, ha2⟩
  replace ha2 := ha1.trans ((Ag.of (P := P) hb2 (Nat.le_refl _)).trans ha2)
  clear ct2 hb2
  have hb3 := (Below.refl w2.heap.size w2).alloc (Nat.le_refl _) (.cells #[.string ⟨#[105, 115]⟩] 9)
  have ct3 := take_one P w2.heap.size _ l [105, 115] (hl2.then hb3) (row_at w2 #[.string ⟨#[105, 115]⟩] 9)
  rw [h_is] at ct3
  go_wp2_with fail
  refine ct3.mono ?_
  rintro e w3 ⟨rfl, hl3, ha3⟩
  replace ha3 := ha2.trans ((Ag.of (P := P) hb3 (Nat.le_refl _)).trans ha3)
  clear ct3 hb3
  have cf := is_any P w3 l.tail _ o (hX.later ha3) hl3 (hx.later ha3)
  rw [hS.out] at cf
  go_wp2_with fail
  refine cf.mono ?_
  rintro e w9 ⟨ha9, hs⟩
  clear cf
  replace ha9 := ha3.trans ha9
  cases hv : S with
  | none =>
    rw [hv] at hs
    obtain rfl := hs
    have hR : Hid (S = none) := hv
    clear hv
    unfold errRule
    go_wp2
    go_ret2
    refine ⟨ha9, ?_⟩
    rw [hR.out]
    rfl
  | some y =>
    obtain ⟨f, r⟩ := y
    rw [hv] at hs
    obtain ⟨v, rfl, hc, hl⟩ := hs
    have hR : Hid (S = some (f, r)) := hv
    clear hv
    go_wp2
    go_ret2
    refine ⟨ha9, ?_⟩
    rw [hR.out]
    exact ⟨_, rfl, hc, hl⟩
set_option maxHeartbeats 1600000 in
theorem how_in (P : Nat) (w : World) (l : List Pr.T) (x : Value) (o : Pr.Opd) (hX : BaseX P w) (hL : Left P w l) (hx : Opv P w x o) (h_eq : isHead [61] l = false) (h_ne : isHead [33, 61] l = false) (h_is : isHead [105, 115] l = false) (h_in : isHead [105, 110] (took (isHead [110, 111, 116] l) l) = true) :
    Calls Tryz.prog 236 #[.pointer (some ⟨P, 0, none⟩), x] w fun e w' => Said P w (Pr.listP o (isHead [110, 111, 116] l) false (took (isHead [110, 111, 116] l) l).tail) e w' := by
  obtain ⟨S, hS⟩ : ∃ S, Hid ((Pr.listP o (isHead [110, 111, 116] l) false (took (isHead [110, 111, 116] l) l).tail) = S) := ⟨_, rfl⟩
  rw [hS.out]
  obtain ⟨g, lb, rfl⟩ := hx.form
  have hl0 := hL
  have ha0 := Ag.refl P w
  go_enter Tryz.func236, Tryz.ntmps236
  have hb1 := (Below.refl w.heap.size w).alloc (Nat.le_refl _) (.cells #[.string ⟨#[61]⟩] 9)
  have ct1 := take_one P w.heap.size _ l [61] (hl0.then hb1) (row_at w #[.string ⟨#[61]⟩] 9)
  rw [h_eq] at ct1
  go_wp2_with fail
  refine ct1.mono ?_
  rintro e w1 ⟨rfl, hl1, ha1⟩
  replace ha1 := ha0.trans ((Ag.of (P := P) hb1 (Nat.le_refl _)).trans ha1)
  clear ct1 hb1
  have hb2 := (Below.refl w1.heap.size w1).alloc (Nat.le_refl _) (.cells #[.string ⟨#[33, 61]⟩] 9)
  have ct2 := take_one P w1.heap.size _ l [33, 61] (hl1.then hb2) (row_at w1 #[.string ⟨#[33, 61]⟩] 9)
  rw [h_ne] at ct2
  go_wp2_with fail
  refine ct2.mono ?_
  rintro e w2 ⟨rfl, hl2, ha2⟩
  replace ha2 := ha1.trans ((Ag.of (P := P) hb2 (Nat.le_refl _)).trans ha2)
  clear ct2 hb2
  have hb3 := (Below.refl w2.heap.size w2).alloc (Nat.le_refl _) (.cells #[.string ⟨#[105, 115]⟩] 9)
  have ct3 := take_one P w2.heap.size _ l [105, 115] (hl2.then hb3) (row_at w2 #[.string ⟨#[105, 115]⟩] 9)
  rw [h_is] at ct3
  go_wp2_with fail
  refine ct3.mono ?_
  rintro e w3 ⟨rfl, hl3, ha3⟩
  replace ha3 := ha2.trans ((Ag.of (P := P) hb3 (Nat.le_refl _)).trans ha3)
  clear ct3 hb3
  have hb4 := (Below.refl w3.heap.size w3).alloc (Nat.le_refl _) (.cells #[.string ⟨#[110, 111, 116]⟩] 9)
  have ct4 := take_one P w3.heap.size _ l [110, 111, 116] (hl3.then hb4) (row_at w3 #[.string ⟨#[110, 111, 116]⟩] 9)
  go_wp2_with fail
  refine ct4.mono ?_
  rintro e w4 ⟨rfl, hl4, ha4⟩
  replace ha4 := ha3.trans ((Ag.of (P := P) hb4 (Nat.le_refl _)).trans ha4)
  clear ct4 hb4
  have hb5 := (Below.refl w4.heap.size w4).alloc (Nat.le_refl _) (.cells #[.string ⟨#[105, 110]⟩] 9)
  have ct5 := take_one P w4.heap.size _ (took (isHead [110, 111, 116] l) l) [105, 110] (hl4.then hb5) (row_at w4 #[.string ⟨#[105, 110]⟩] 9)
  rw [h_in] at ct5
  go_wp2_with fail
  refine ct5.mono ?_
  rintro e w5 ⟨rfl, hl5, ha5⟩
  replace ha5 := ha4.trans ((Ag.of (P := P) hb5 (Nat.le_refl _)).trans ha5)
  clear ct5 hb5
  have cf := list_any P w5 (took (isHead [110, 111, 116] l) l).tail _ o (isHead [110, 111, 116] l) false (hX.later ha5) hl5 (hx.later ha5)
  rw [hS.out] at cf
  go_wp2_with fail
  refine cf.mono ?_
  rintro e w9 ⟨ha9, hs⟩
  clear cf
  replace ha9 := ha5.trans ha9
  cases hv : S with
  | none =>
    rw [hv] at hs
    obtain rfl := hs
    have hR : Hid (S = none) := hv
    clear hv
    unfold errRule
    go_wp2
    go_ret2
    refine ⟨ha9, ?_⟩
    rw [hR.out]
    rfl
  | some y =>
    obtain ⟨f, r⟩ := y
    rw [hv] at hs
    obtain ⟨v, rfl, hc, hl⟩ := hs
    have hR : Hid (S = some (f, r)) := hv
    clear hv
    go_wp2
    go_ret2
    refine ⟨ha9, ?_⟩
    rw [hR.out]
    exact ⟨_, rfl, hc, hl⟩
set_option maxHeartbeats 1600000 in
theorem how_within (P : Nat) (w : World) (l : List Pr.T) (x : Value) (o : Pr.Opd) (hX : BaseX P w) (hL : Left P w l) (hx : Opv P w x o) (h_eq : isHead [61] l = false) (h_ne : isHead [33, 61] l = false) (h_is : isHead [105, 115] l = false) (h_in : isHead [105, 110] (took (isHead [110, 111, 116] l) l) = false) (h_within : isHead [119, 105, 116, 104, 105, 110] (took (isHead [110, 111, 116] l) l) = true) :
    Calls Tryz.prog 236 #[.pointer (some ⟨P, 0, none⟩), x] w fun e w' => Said P w (Pr.listP o (isHead [110, 111, 116] l) true (took (isHead [110, 111, 116] l) l).tail) e w' := by
  obtain ⟨S, hS⟩ : ∃ S, Hid ((Pr.listP o (isHead [110, 111, 116] l) true (took (isHead [110, 111, 116] l) l).tail) = S) := ⟨_, rfl⟩
  rw [hS.out]
  obtain ⟨g, lb, rfl⟩ := hx.form
  have hl0 := hL
  have ha0 := Ag.refl P w
  go_enter Tryz.func236, Tryz.ntmps236
  have hb1 := (Below.refl w.heap.size w).alloc (Nat.le_refl _) (.cells #[.string ⟨#[61]⟩] 9)
  have ct1 := take_one P w.heap.size _ l [61] (hl0.then hb1) (row_at w #[.string ⟨#[61]⟩] 9)
  rw [h_eq] at ct1
  go_wp2_with fail
  refine ct1.mono ?_
  rintro e w1 ⟨rfl, hl1, ha1⟩
  replace ha1 := ha0.trans ((Ag.of (P := P) hb1 (Nat.le_refl _)).trans ha1)
  clear ct1 hb1
  have hb2 := (Below.refl w1.heap.size w1).alloc (Nat.le_refl _) (.cells #[.string ⟨#[33, 61]⟩] 9)
  have ct2 := take_one P w1.heap.size _ l [33, 61] (hl1.then hb2) (row_at w1 #[.string ⟨#[33, 61]⟩] 9)
  rw [h_ne] at ct2
  go_wp2_with fail
  refine ct2.mono ?_
  rintro e w2 ⟨rfl, hl2, ha2⟩
  replace ha2 := ha1.trans ((Ag.of (P := P) hb2 (Nat.le_refl _)).trans ha2)
  clear ct2 hb2
  have hb3 := (Below.refl w2.heap.size w2).alloc (Nat.le_refl _) (.cells #[.string ⟨#[105, 115]⟩] 9)
  have ct3 := take_one P w2.heap.size _ l [105, 115] (hl2.then hb3) (row_at w2 #[.string ⟨#[105, 115]⟩] 9)
  rw [h_is] at ct3
  go_wp2_with fail
  refine ct3.mono ?_
  rintro e w3 ⟨rfl, hl3, ha3⟩
  replace ha3 := ha2.trans ((Ag.of (P := P) hb3 (Nat.le_refl _)).trans ha3)
  clear ct3 hb3
  have hb4 := (Below.refl w3.heap.size w3).alloc (Nat.le_refl _) (.cells #[.string ⟨#[110, 111, 116]⟩] 9)
  have ct4 := take_one P w3.heap.size _ l [110, 111, 116] (hl3.then hb4) (row_at w3 #[.string ⟨#[110, 111, 116]⟩] 9)
  go_wp2_with fail
  refine ct4.mono ?_
  rintro e w4 ⟨rfl, hl4, ha4⟩
  replace ha4 := ha3.trans ((Ag.of (P := P) hb4 (Nat.le_refl _)).trans ha4)
  clear ct4 hb4
  have hb5 := (Below.refl w4.heap.size w4).alloc (Nat.le_refl _) (.cells #[.string ⟨#[105, 110]⟩] 9)
  have ct5 := take_one P w4.heap.size _ (took (isHead [110, 111, 116] l) l) [105, 110] (hl4.then hb5) (row_at w4 #[.string ⟨#[105, 110]⟩] 9)
  rw [h_in] at ct5
  go_wp2_with fail
  refine ct5.mono ?_
  rintro e w5 ⟨rfl, hl5, ha5⟩
  replace ha5 := ha4.trans ((Ag.of (P := P) hb5 (Nat.le_refl _)).trans ha5)
  clear ct5 hb5
  have hb6 := (Below.refl w5.heap.size w5).alloc (Nat.le_refl _) (.cells #[.string ⟨#[119, 105, 116, 104, 105, 110]⟩] 9)
  have ct6 := take_one P w5.heap.size _ (took (isHead [110, 111, 116] l) l) [119, 105, 116, 104, 105, 110] (hl5.then hb6) (row_at w5 #[.string ⟨#[119, 105, 116, 104, 105, 110]⟩] 9)
  rw [h_within] at ct6
  go_wp2_with fail
  refine ct6.mono ?_
  rintro e w6 ⟨rfl, hl6, ha6⟩
  replace ha6 := ha5.trans ((Ag.of (P := P) hb6 (Nat.le_refl _)).trans ha6)
  clear ct6 hb6
  have cf := list_any P w6 (took (isHead [110, 111, 116] l) l).tail _ o (isHead [110, 111, 116] l) true (hX.later ha6) hl6 (hx.later ha6)
  rw [hS.out] at cf
  go_wp2_with fail
  refine cf.mono ?_
  rintro e w9 ⟨ha9, hs⟩
  clear cf
  replace ha9 := ha6.trans ha9
  cases hv : S with
  | none =>
    rw [hv] at hs
    obtain rfl := hs
    have hR : Hid (S = none) := hv
    clear hv
    unfold errRule
    go_wp2
    go_ret2
    refine ⟨ha9, ?_⟩
    rw [hR.out]
    rfl
  | some y =>
    obtain ⟨f, r⟩ := y
    rw [hv] at hs
    obtain ⟨v, rfl, hc, hl⟩ := hs
    have hR : Hid (S = some (f, r)) := hv
    clear hv
    go_wp2
    go_ret2
    refine ⟨ha9, ?_⟩
    rw [hR.out]
    exact ⟨_, rfl, hc, hl⟩
set_option maxHeartbeats 1600000 in
theorem how_none (P : Nat) (w : World) (l : List Pr.T) (x : Value) (o : Pr.Opd) (_hX : BaseX P w) (hL : Left P w l) (hx : Opv P w x o) (h_eq : isHead [61] l = false) (h_ne : isHead [33, 61] l = false) (h_is : isHead [105, 115] l = false) (h_in : isHead [105, 110] (took (isHead [110, 111, 116] l) l) = false) (h_within : isHead [119, 105, 116, 104, 105, 110] (took (isHead [110, 111, 116] l) l) = false) :
    Calls Tryz.prog 236 #[.pointer (some ⟨P, 0, none⟩), x] w fun e w' => Said P w (none) e w' := by
  obtain ⟨g, lb, rfl⟩ := hx.form
  have hl0 := hL
  have ha0 := Ag.refl P w
  go_enter Tryz.func236, Tryz.ntmps236
  have hb1 := (Below.refl w.heap.size w).alloc (Nat.le_refl _) (.cells #[.string ⟨#[61]⟩] 9)
  have ct1 := take_one P w.heap.size _ l [61] (hl0.then hb1) (row_at w #[.string ⟨#[61]⟩] 9)
  rw [h_eq] at ct1
  go_wp2_with fail
  refine ct1.mono ?_
  rintro e w1 ⟨rfl, hl1, ha1⟩
  replace ha1 := ha0.trans ((Ag.of (P := P) hb1 (Nat.le_refl _)).trans ha1)
  clear ct1 hb1
  have hb2 := (Below.refl w1.heap.size w1).alloc (Nat.le_refl _) (.cells #[.string ⟨#[33, 61]⟩] 9)
  have ct2 := take_one P w1.heap.size _ l [33, 61] (hl1.then hb2) (row_at w1 #[.string ⟨#[33, 61]⟩] 9)
  rw [h_ne] at ct2
  go_wp2_with fail
  refine ct2.mono ?_
  rintro e w2 ⟨rfl, hl2, ha2⟩
  replace ha2 := ha1.trans ((Ag.of (P := P) hb2 (Nat.le_refl _)).trans ha2)
  clear ct2 hb2
  have hb3 := (Below.refl w2.heap.size w2).alloc (Nat.le_refl _) (.cells #[.string ⟨#[105, 115]⟩] 9)
  have ct3 := take_one P w2.heap.size _ l [105, 115] (hl2.then hb3) (row_at w2 #[.string ⟨#[105, 115]⟩] 9)
  rw [h_is] at ct3
  go_wp2_with fail
  refine ct3.mono ?_
  rintro e w3 ⟨rfl, hl3, ha3⟩
  replace ha3 := ha2.trans ((Ag.of (P := P) hb3 (Nat.le_refl _)).trans ha3)
  clear ct3 hb3
  have hb4 := (Below.refl w3.heap.size w3).alloc (Nat.le_refl _) (.cells #[.string ⟨#[110, 111, 116]⟩] 9)
  have ct4 := take_one P w3.heap.size _ l [110, 111, 116] (hl3.then hb4) (row_at w3 #[.string ⟨#[110, 111, 116]⟩] 9)
  go_wp2_with fail
  refine ct4.mono ?_
  rintro e w4 ⟨rfl, hl4, ha4⟩
  replace ha4 := ha3.trans ((Ag.of (P := P) hb4 (Nat.le_refl _)).trans ha4)
  clear ct4 hb4
  have hb5 := (Below.refl w4.heap.size w4).alloc (Nat.le_refl _) (.cells #[.string ⟨#[105, 110]⟩] 9)
  have ct5 := take_one P w4.heap.size _ (took (isHead [110, 111, 116] l) l) [105, 110] (hl4.then hb5) (row_at w4 #[.string ⟨#[105, 110]⟩] 9)
  rw [h_in] at ct5
  go_wp2_with fail
  refine ct5.mono ?_
  rintro e w5 ⟨rfl, hl5, ha5⟩
  replace ha5 := ha4.trans ((Ag.of (P := P) hb5 (Nat.le_refl _)).trans ha5)
  clear ct5 hb5
  have hb6 := (Below.refl w5.heap.size w5).alloc (Nat.le_refl _) (.cells #[.string ⟨#[119, 105, 116, 104, 105, 110]⟩] 9)
  have ct6 := take_one P w5.heap.size _ (took (isHead [110, 111, 116] l) l) [119, 105, 116, 104, 105, 110] (hl5.then hb6) (row_at w5 #[.string ⟨#[119, 105, 116, 104, 105, 110]⟩] 9)
  rw [h_within] at ct6
  go_wp2_with fail
  refine ct6.mono ?_
  rintro e w6 ⟨rfl, hl6, ha6⟩
  replace ha6 := ha5.trans ((Ag.of (P := P) hb6 (Nat.le_refl _)).trans ha6)
  clear ct6 hb6
  go_wp2
  go_ret2
  exact ⟨ha6, rfl⟩

theorem how_spec (o : Pr.Opd) (l : List Pr.T) : Pr.howP o l = if isHead [61] l then Pr.listP o false false l.tail else if isHead [33, 61] l then Pr.listP o true false l.tail else if isHead [105, 115] l then Pr.isN o l.tail
    else if isHead [105, 110] (took (isHead [110, 111, 116] l) l) then Pr.listP o (isHead [110, 111, 116] l) false (took (isHead [110, 111, 116] l) l).tail
    else if isHead [119, 105, 116, 104, 105, 110] (took (isHead [110, 111, 116] l) l) then Pr.listP o (isHead [110, 111, 116] l) true (took (isHead [110, 111, 116] l) l).tail else none := by
  cases l with
  | nil => rfl
  | cons t l =>
    by_cases h1 : t = [61]
    · simp [Pr.howP, isHead, h1]
    by_cases h2 : t = [33, 61]
    · simp [Pr.howP, isHead, h2]
    by_cases h3 : t = [105, 115]
    · simp [Pr.howP, isHead, h3]
    by_cases h4 : t = [110, 111, 116]
    · cases l with
      | nil => simp [Pr.howP, isHead, h4, took, Pr.inN]
      | cons u l => simp [Pr.howP, isHead, h4, took, Pr.inN]
    · simp [Pr.howP, isHead, h1, h2, h3, h4, took, Pr.inN]
theorem how_any (P : Nat) (w : World) (l : List Pr.T) (x : Value) (o : Pr.Opd) (hX : BaseX P w) (hL : Left P w l) (hx : Opv P w x o) :
    Calls Tryz.prog 236 #[.pointer (some ⟨P, 0, none⟩), x] w fun e w' => Said P w (Pr.howP o l) e w' := by
  rw [how_spec]
  cases h1 : isHead [61] l with
  | true => exact how_eq P w l x o hX hL hx h1
  | false =>
  cases h2 : isHead [33, 61] l with
  | true => exact how_ne P w l x o hX hL hx h1 h2
  | false =>
  cases h3 : isHead [105, 115] l with
  | true => exact how_is P w l x o hX hL hx h1 h2 h3
  | false =>
  cases h4 : isHead [105, 110] (took (isHead [110, 111, 116] l) l) with
  | true => exact how_in P w l x o hX hL hx h1 h2 h3 h4
  | false =>
  cases h5 : isHead [119, 105, 116, 104, 105, 110] (took (isHead [110, 111, 116] l) l) with
  | true => exact how_within P w l x o hX hL hx h1 h2 h3 h4 h5
  | false => exact how_none P w l x o hX hL hx h1 h2 h3 h4 h5
end Go.Proofs.YtaepcfidpekflaaGreatDoor
