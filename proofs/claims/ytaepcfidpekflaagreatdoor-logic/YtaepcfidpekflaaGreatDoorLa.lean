/-
  Logic: the law's own functions (is, holds), and what they come to. By the verifier.
-/
import Derived.Test.YtaepcfidpekflaaGreatDoorQu
import Derived.Test.YtaepcfidpekflaaGreatDoorPu
namespace Go.Proofs.YtaepcfidpekflaaGreatDoor
open Go.RowKit

def one : Pr.T := [111, 110, 101]
/-- Is a number of category one by this rule alone; is it a rule, and the text a number? -/
def isX (t s : Pr.T) : Bool × Bool := match Pr.whenP t with
  | none => (false, false)
  | some f => if Pn.isNum s = true then (f (Pn.aOf s) (Pn.bOf s), true) else (false, false)
theorem cat_oneL (t s : Pr.T) : ((catOf [(one, t)] s).1 == one) = (isX t s).1 ∧ (((catOf [(one, t)] s).2 : Int) == 0) = (isX t s).2 := by
  unfold catOf isX
  have hc : ¬ (one ∈ ([] : List Pr.T) ∨ Pr.catB one = false) := by decide
  rw [Pr.rulesP, if_neg hc]
  cases hw : Pr.whenP t with
  | none => exact ⟨rfl, rfl⟩
  | some f =>
    simp only [Pr.rulesP]
    by_cases hn : Pn.isNum s = true
    · simp only [hn, if_true, Pr.sortP]
      cases f (Pn.aOf s) (Pn.bOf s) <;> exact ⟨rfl, rfl⟩
    · simp only [hn]
      exact ⟨rfl, rfl⟩
theorem cat_one_len (t s : Pr.T) : (catOf [(one, t)] s).1.length ≤ 5 := by
  unfold catOf
  have hc : ¬ (one ∈ ([] : List Pr.T) ∨ Pr.catB one = false) := by decide
  rw [Pr.rulesP, if_neg hc]
  cases hw : Pr.whenP t with
  | none => simp
  | some f =>
    simp only [Pr.rulesP]
    by_cases hn : Pn.isNum s = true
    · simp only [hn, if_true, Pr.sortP]
      cases f (Pn.aOf s) (Pn.bOf s) <;> decide
    · simp [hn]
set_option maxHeartbeats 800000 in
theorem kis_any (w : World) (t s : Pr.T) (ht : t.length < 1000000) (hs : s.length < 1000000) (hB : Base w) :
    Calls Tryz.prog 19 #[.string ⟨t.toArray⟩, .string ⟨s.toArray⟩] w fun e w' => e = .returned (.tuple #[.bool (isX t s).1, .bool (isX t s).2]) ∧ Below w.heap.size w w' := by
  have hb0 := (Below.refl w.heap.size w).alloc (Nat.le_refl _) (.cells #[.string ⟨#[111, 110, 101]⟩, .string ⟨t.toArray⟩] 44)
  have r0 := row_at w #[.string ⟨#[111, 110, 101]⟩, .string ⟨t.toArray⟩] 44
  have hR : RulesIn (w.alloc (.cells #[.string ⟨#[111, 110, 101]⟩, .string ⟨t.toArray⟩] 44)) (some ⟨w.heap.size, 0, none⟩) [(one, t)] := ⟨by simp, fun q hq => by
      rw [List.mem_singleton] at hq
      subst hq
      exact ⟨by show one.length < 1000000; decide, ht⟩, .inr ⟨w.heap.size, 0, rfl, by simp, fun j hj => by
      have : j = 0 := by simpa using hj
      subst this
      exact ⟨r0.2.1 0, r0.2.1 1⟩⟩⟩
  have cc := pcategory_any _ (some ⟨w.heap.size, 0, none⟩) 1 [(one, t)] ⟨s.toArray⟩ (by show s.toArray.size < _; simpa using hs) (hB.below hb0) hR
  have k1 := (cat_oneL t s).1
  have k2 := (cat_oneL t s).2
  have k3 := cat_one_len t s
  simp only [List.length_singleton] at cc
  clear hR r0
  generalize catOf [(one, t)] s = S at *
  generalize isX t s = X at *
  obtain ⟨S1, S2⟩ := S
  obtain ⟨X1, X2⟩ := X
  simp only at cc k1 k2 k3 ⊢
  unfold one at k1
  go_enter Tryz.func19, Tryz.ntmps19
  go_wp2_with fail
  refine cc.mono ?_
  rintro e w1 ⟨rfl, hb1⟩
  clear cc
  replace hb1 := below_of hb0 hb1
  go_wp2
  go_ret2
  exact ⟨rfl, hb1⟩

theorem ex_mid (t : Pr.T) (i n : Nat) : (⟨t.toArray⟩ : ByteArray).extract i (i + n) = ⟨((t.drop i).take n).toArray⟩ := by
  rw [ByteArray.extract_mk]
  simp
theorem infix_at (s u : Pr.T) (k : Nat) (h : (s.drop k).take u.length = u) : u <:+: s := by
  rw [← h]
  exact (List.take_prefix _ _).isInfix.trans (List.drop_suffix _ _).isInfix
theorem infix_get (s u : Pr.T) (h : u <:+: s) : ∃ k, k + u.length ≤ s.length ∧ (s.drop k).take u.length = u := by
  obtain ⟨a, b, rfl⟩ := h
  refine ⟨a.length, by simp, ?_⟩
  simp
/-- What holds answers. -/
def HoldsSaid (s u : Pr.T) (e : Ending) : Prop := ∃ R, e = .returned (.bool R) ∧ (R = true ↔ u <:+: s)
set_option maxHeartbeats 800000 in
theorem holds_any (w : World) (s u : Pr.T) (hs : s.length ≤ 100000) (hu : u.length ≤ 100000) :
    Calls Tryz.prog 20 #[.string ⟨s.toArray⟩, .string ⟨u.toArray⟩] w fun e w' => HoldsSaid s u e ∧ w' = w := by
  go_enter Tryz.func20, Tryz.ntmps20
  go_wp2
  go_loop [5] (fun t => ∃ k : Nat, k ≤ s.length + 1 ∧ t = .int .i64 k ∧ Hid (∀ i, i < k → i + u.length ≤ s.length → (s.drop i).take u.length ≠ u)) (fun t => s.length + 1 - (intOf t).toNat)
  case atStart => exact ⟨0, Nat.zero_le _, rfl, fun i hi => absurd hi (Nat.not_lt_zero _)⟩
  case round =>
    obtain ⟨k, hk, rfl, HK⟩ := hrel
    have hw1 : IntKind.i64.wrap ((k : Int) + u.length) = (k : Int) + u.length := by rw [IntKind.wrap_i64]; omega
    by_cases hle : k + u.length ≤ s.length
    · have hle' : (k : Int) + u.length ≤ s.length := by omega
      have hex := ex_mid s k u.length
      by_cases hq : (s.drop k).take u.length = u
      · have hq' : (((s.drop k).take u.length) == u) = true := by rw [beq_iff_eq]; exact hq
        have HI : Hid (u <:+: s) := infix_at s u k hq
        clear hq HK
        go_wp2
        go_ret
        exact ⟨⟨true, rfl, fun _ => HI.out, fun _ => rfl⟩, rfl⟩
      · have hq' : (((s.drop k).take u.length) == u) = false := by rw [beq_eq_false_iff_ne]; exact hq
        have HK2 : Hid (∀ i, i < k + 1 → i + u.length ≤ s.length → (s.drop i).take u.length ≠ u) := fun i hi hl => by
          by_cases e : i = k
          · subst e; exact hq
          · exact HK.out i (by omega) hl
        clear hq HK
        go_wp2
        go_round
        case rel => exact ⟨k + 1, by omega, by go_num, HK2⟩
        case measure => simp [intOf]; omega
    · have hle' : ¬ (k : Int) + u.length ≤ s.length := by omega
      have HI : Hid (¬ u <:+: s) := fun h => by
        obtain ⟨i, h1, h2⟩ := infix_get s u h
        exact HK.out i (by omega) h1 h2
      clear HK
      go_wp2
      go_ret
      exact ⟨⟨false, rfl, fun h => (by cases h), fun h => absurd h HI.out⟩, rfl⟩
end Go.Proofs.YtaepcfidpekflaaGreatDoor
