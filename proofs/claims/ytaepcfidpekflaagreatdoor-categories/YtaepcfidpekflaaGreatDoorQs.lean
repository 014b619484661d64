/-
  phrases.Category and plain.Category (P7) by their contracts. By the verifier.
-/
import Derived.Test.YtaepcfidpekflaaGreatDoorQr
import Derived.Test.YtaepcfidpekflaaGreatDoorWd
import Derived.Test.YtaepcfidpekflaaGreatDoorAs2
namespace Go.Proofs.YtaepcfidpekflaaGreatDoor
open Go.RowKit

/-- A number's category by rules, and the error's number. -/
def catOf (l : List (Pr.T × Pr.T)) (s : Pr.T) : Pr.T × Nat := match Pr.rulesP [] l with
  | none => ([], 9)
  | some rs => if Pn.isNum s = true then (Pr.sortP (Pn.aOf s) (Pn.bOf s) rs, 0) else ([], 10)
def errV (k : Nat) : Value := if k = 0 then .nilIface else .iface 30 (.int .i64 k)
/-- What the calls need of a list of rules. -/
structure RulesIn (w : World) (a : Option Addr) (l : List (Pr.T × Pr.T)) : Prop where
  len : l.length ≤ 100000
  small : ∀ q ∈ l, q.1.length < 1000000 ∧ q.2.length < 1000000
  at_ : RIn w a l
theorem RulesIn.keep {w w' : World} {a : Option Addr} {l : List (Pr.T × Pr.T)} (h : RulesIn w a l) (hb : Below w.heap.size w w') : RulesIn w' a l := ⟨h.len, h.small, h.at_.keep hb⟩
theorem num_digs (s : Pr.T) (h : Pn.isNum s = true) : Digs (Pn.aOf s) ∧ Digs (Pn.bOf s) := by
  have := Pn.num_len s h
  exact ⟨⟨(Pn.num_a s h).2, by omega⟩, ⟨Pn.num_b s h, by omega⟩⟩

set_option maxHeartbeats 800000 in
theorem category_any (w : World) (a : Option Addr) (c : Nat) (l : List (Pr.T × Pr.T)) (s : ByteArray) (hs : s.size < 1000000) (hB : Base w) (hR : RulesIn w a l) :
    Calls Tryz.prog 37 #[.slice a l.length c, .string s] w fun e w' => e = .returned (.tuple #[.string ⟨(catOf l s.data.toList).1.toArray⟩, errV (catOf l s.data.toList).2]) ∧ Below w.heap.size w w' := by
  obtain ⟨S, hS⟩ : ∃ S, Hid (catOf l s.data.toList = S) := ⟨_, rfl⟩
  rw [hS.out]
  have cn := new_any w a l c hR.len hR.small hB hR.at_
  have hll := hR.len
  clear hR
  go_enter Tryz.func37, Tryz.ntmps37
  go_wp2_with fail
  refine cn.mono ?_
  rintro e w1 ⟨hb1, hs1⟩
  clear cn
  cases hv : Pr.rulesP [] l with
  | none =>
    rw [hv] at hs1
    obtain rfl := hs1
    have hF : Hid (S = ([], 9)) := by show _ = _; rw [← hS.out]; simp [catOf, hv]
    clear hv
    unfold errRule
    go_wp2
    go_ret2
    exact ⟨by rw [hF.out]; rfl, hb1⟩
  | some rs =>
    rw [hv] at hs1
    obtain ⟨v, rfl, hrv⟩ := hs1
    have hrl := rulesP_len l [] rs hv
    cases hN : Pn.isNum s.data.toList with
    | false =>
      have hF : Hid (S = ([], 10)) := by show _ = _; rw [← hS.out]; simp [catOf, hv, hN]
      have cp := parse_no s w1 (by omega) (hB.below hb1) hN
      clear hv hN
      go_wp2_with fail
      refine cp.mono ?_
      rintro e w2 ⟨rfl, hb2⟩
      clear cp
      replace hb2 := below_of hb1 hb2
      go_wp2
      go_ret2
      exact ⟨by rw [hF.out]; rfl, hb2.alloc hb2.size _⟩
    | true =>
      have hF : Hid (S = (Pr.sortP (Pn.aOf s.data.toList) (Pn.bOf s.data.toList) rs, 0)) := by show _ = _; rw [← hS.out]; simp [catOf, hv, hN]
      have cp := parse_yes s w1 (by omega) (hB.below hb1) hN
      obtain ⟨da, db⟩ := num_digs _ hN
      clear hv hN
      generalize Pn.aOf s.data.toList = na at *
      generalize Pn.bOf s.data.toList = nb at *
      generalize Pn.minusOf s.data.toList = nm at *
      go_wp2_with fail
      refine cp.mono ?_
      rintro e w2 ⟨rfl, hb2⟩
      clear cp
      have hb3 := (Below.refl w2.heap.size w2).alloc (Nat.le_refl _) (.cells #[.bool nm, .string ⟨na.toArray⟩, .string ⟨nb.toArray⟩] 109)
      have cr := rcat_any (w2.alloc (.cells #[.bool nm, .string ⟨na.toArray⟩, .string ⟨nb.toArray⟩] 109)) v rs nm na nb (hB.below (below_of (below_of hb1 hb2) hb3)) da db (by omega) ((hrv.later hb2).later hb3)
      unfold numV at cr
      go_wp2_with fail
      refine cr.mono ?_
      rintro e w4 ⟨rfl, hb4⟩
      clear cr
      go_wp2
      go_ret2
      exact ⟨by rw [hF.out]; rfl, below_of (below_of (below_of hb1 hb2) hb3) hb4⟩

theorem catOf_cases (l : List (Pr.T × Pr.T)) (s : Pr.T) : (catOf l s).2 = 0 ∨ (catOf l s).2 = 9 ∨ (catOf l s).2 = 10 := by
  unfold catOf
  split
  · simp
  · split <;> simp
set_option maxHeartbeats 800000 in
theorem pcategory_any (w : World) (a : Option Addr) (c : Nat) (l : List (Pr.T × Pr.T)) (s : ByteArray) (hs : s.size < 1000000) (hB : Base w) (hR : RulesIn w a l) :
    Calls Tryz.prog 21 #[.slice a l.length c, .string s] w fun e w' => e = .returned (.tuple #[.string ⟨(catOf l s.data.toList).1.toArray⟩, .int .i64 (catOf l s.data.toList).2]) ∧ Below w.heap.size w w' := by
  have cc := category_any w a c l s hs hB hR
  have h3 := catOf_cases l s.data.toList
  generalize catOf l s.data.toList = S at *
  obtain ⟨t, k⟩ := S
  simp only at cc h3 ⊢
  clear hR
  by_cases hk : k = 0
  · subst hk
    unfold errV at cc
    rw [if_pos rfl] at cc
    go_enter Tryz.func21, Tryz.ntmps21
    go_wp2_with fail
    refine cc.mono ?_
    rintro e w1 ⟨rfl, hb1⟩
    clear cc
    go_wp2_with fail
    refine (tell_nil _).mono ?_
    rintro e w2 ⟨rfl, hb2⟩
    go_wp2
    go_ret2
    exact ⟨rfl, below_of hb1 hb2⟩
  · unfold errV at cc
    rw [if_neg hk] at cc
    go_enter Tryz.func21, Tryz.ntmps21
    go_wp2_with fail
    refine cc.mono ?_
    rintro e w1 ⟨rfl, hb1⟩
    clear cc
    go_wp2_with fail
    refine (tell_errno k _ (hB.below hb1).1).mono ?_
    rintro e w2 ⟨rfl, hb2⟩
    go_wp2
    go_ret2
    exact ⟨rfl, below_of hb1 hb2⟩
end Go.Proofs.YtaepcfidpekflaaGreatDoor
