/-
  parse, conditionOf, mayHaveRule. By the verifier.
-/
import Derived.Test.YtaepcfidpekflaaGreatDoorQm
import Derived.Test.YtaepcfidpekflaaGreatDoorQo
import Derived.Test.YtaepcfidpekflaaGreatDoorWc
import Derived.Test.YtaepcfidpekflaaGreatDoorQy
namespace Go.Proofs.YtaepcfidpekflaaGreatDoor
open Go.RowKit

/-- A function value that is a condition, once its parser is done: what it needs lies between the blocks P and E. -/
def CondIn (w : World) (v : Value) (f : Pr.Sem) (P E : Nat) : Prop := E ≤ w.heap.size ∧ ∃ g lb, v = .func (.func g) #[] lb ∧ Enters g ∧
  ∀ W, Base W → (∀ k, P < k → k < E → W.heap[k]? = w.heap[k]?) → ∀ m a b, Digs a → Digs b → Calls Tryz.prog g (#[numV m a b] ++ lb) W fun e w' => e = .returned (.bool (f a b)) ∧ Below W.heap.size W w'
theorem CondIn.of {P : Nat} {w : World} {v : Value} {f : Pr.Sem} (h : Cnd P w v f) : CondIn w v f P w.heap.size := by
  obtain ⟨g, lb, h1, h2, h3⟩ := h
  exact ⟨Nat.le_refl _, g, lb, h1, h2, fun W hB hW => h3 W hB fun k a b => hW k a b⟩
theorem CondIn.move {w w' : World} {v : Value} {f : Pr.Sem} {P E : Nat} (h : CondIn w v f P E) (hs : w.heap.size ≤ w'.heap.size) (hk : ∀ k, P < k → k < E → w'.heap[k]? = w.heap[k]?) : CondIn w' v f P E := by
  obtain ⟨h0, g, lb, h1, h2, h3⟩ := h
  exact ⟨Nat.le_trans h0 hs, g, lb, h1, h2, fun W hB hW => h3 W hB fun k a b => (hW k a b).trans (hk k a b)⟩
theorem CondIn.later {w w' : World} {v : Value} {f : Pr.Sem} {P E : Nat} (h : CondIn w v f P E) (hb : Below w.heap.size w w') : CondIn w' v f P E :=
  h.move hb.size fun k _ b => hb.block k (Nat.lt_of_lt_of_le b h.1)
theorem parts_txts {w : World} {B : Nat} {v : Value} {ps : List Pr.T} (h : Parts w B v ps) (P : Nat) (hP : w.heap.size ≤ P) : ∃ a c, v = .slice a ps.length c ∧ ps.length ≤ c ∧ Txts P w a ps := by
  obtain ⟨h1, h2⟩ := h
  rcases h2 with ⟨rfl, h2⟩ | ⟨g, cap, cur, rfl, hB, hg, hc, hm, hs, ht⟩
  · exact ⟨none, 0, by rw [h2], by omega, .inl (List.length_eq_zero_iff.1 h2)⟩
  · refine ⟨_, cap, rfl, hc, .inr ⟨g, 0, rfl, ?_, ?_, ?_⟩⟩
    · have : g < w.heap.size := by
        rcases Nat.lt_or_ge g w.heap.size with h' | h'
        · exact h'
        · rw [Array.getElem?_eq_none h'] at hg; cases hg
      omega
    · rcases Nat.lt_or_ge g w.heap.size with h' | h'
      · exact h'
      · rw [Array.getElem?_eq_none h'] at hg; cases hg
    · intro j hj
      have hl : cur[j]? = some (.string ⟨(ps.getD j []).toArray⟩) := by
        have h3 : (cur.toList.take (ps.length * 1))[j]? = some (strV (ps.getD j [])) := by
          rw [ht]
          simp [List.getElem?_map, List.getElem?_eq_getElem hj, List.getD_eq_getElem?_getD]
        rw [List.getElem?_take_of_lt (by omega)] at h3
        simpa [strV] using h3
      simp [World.cell?, hg, hl]
/-- What parse and conditionOf answer. -/
def CondSaid (w : World) (x : Option Pr.Sem) (e : Ending) (w' : World) : Prop := Below w.heap.size w w' ∧ match x with
  | none => e = .returned (.tuple #[.nilFunc, errRule])
  | some f => ∃ v P, e = .returned (.tuple #[v, .nilIface]) ∧ w.heap.size ≤ P ∧ CondIn w' v f P w'.heap.size
theorem baseX_new {w : World} (hB : Base w) (o : Obj) : BaseX w.heap.size (w.alloc o) := fun W hA => hB.below (((Below.refl w.heap.size w).alloc (Nat.le_refl _) o).trans (hA.below (Nat.le_refl _) (by simp)))

set_option maxHeartbeats 800000 in
theorem parse_any (w : World) (l : List Pr.T) (a : Option Addr) (c : Nat) (hB : Base w) (hc : l.length ≤ c) (hl : l.length ≤ 1000) (hs : ∀ t ∈ l, t.length ≤ 1000) (ht : Txts w.heap.size w a l) :
    Calls Tryz.prog 125 #[.slice a l.length c] w fun e w' => CondSaid w (Pr.condP l) e w' := by
  obtain ⟨S, hS⟩ : ∃ S, Hid (Pr.condP l = S) := ⟨_, rfl⟩
  rw [hS.out]
  have hb0 := (Below.refl w.heap.size w).alloc (Nat.le_refl _) (.cells #[.slice a l.length c] 269)
  have hL : Left w.heap.size (w.alloc (.cells #[.slice a l.length c] 269)) l := ⟨a, c, row_at _ _ _, hc, ⟨hl, hs⟩, ht.ag (.of hb0 (Nat.le_refl _))⟩
  have co := or_any w.heap.size _ l (baseX_new hB _) hL
  clear hL ht hs
  go_enter Tryz.func125, Tryz.ntmps125
  go_wp2_with fail
  refine co.mono ?_
  rintro e w1 ⟨ha1, hs⟩
  clear co
  have hw : Below w.heap.size w w1 := hb0.trans (ha1.below (Nat.le_refl _) (by simp))
  cases hv : Pr.orP l with
  | none =>
    rw [hv] at hs
    obtain rfl := hs
    have hR : Hid (S = none) := by show _ = _; rw [← hS.out]; simp [Pr.condP, hv]
    clear hv
    unfold errRule
    go_wp2
    go_ret2
    refine ⟨hw, ?_⟩
    rw [hR.out]
    rfl
  | some y =>
    obtain ⟨f, r⟩ := y
    rw [hv] at hs
    obtain ⟨v, rfl, hcn, hl1⟩ := hs
    obtain ⟨a1, c1, r1, d1, d2, d3⟩ := hl1
    have q1 := r1.2.1
    cases r with
    | nil =>
      have hR : Hid (S = some f) := by show _ = _; rw [← hS.out]; simp [Pr.condP, hv]
      clear hv
      obtain ⟨g, lb, rfl⟩ : ∃ g lb, v = .func (.func g) #[] lb := by obtain ⟨g, lb, h, _⟩ := hcn; exact ⟨g, lb, h⟩
      go_wp2
      go_ret2
      refine ⟨hw, ?_⟩
      rw [hR.out]
      exact ⟨_, _, rfl, Nat.le_refl _, .of hcn⟩
    | cons t r =>
      have hR : Hid (S = none) := by show _ = _; rw [← hS.out]; simp [Pr.condP, hv]
      clear hv
      simp only [List.length_cons] at q1 d1
      have hp : (0 : Int) < r.length + 1 := by omega
      go_wp2
      go_ret2
      refine ⟨hw, ?_⟩
      rw [hR.out]
      rfl

theorem cut_sample (l : List UInt8) (w : World) (hl : l.length < 4294967281) (hB : Base w) :
    Calls Tryz.prog 77 #[.string ⟨l.toArray⟩, .string ⟨#[64]⟩] w fun e w' => e = .returned (.tuple #[.string ⟨(Lib.cut l [64]).1.toArray⟩, .string ⟨(Lib.cut l [64]).2.1.toArray⟩, .bool (Lib.cut l [64]).2.2]) ∧ Below w.heap.size w w' := by
  obtain ⟨_, ⟨m, hm⟩, _⟩ := hB
  refine (Tryz.strings_Cut ⟨l.toArray⟩ ⟨#[64]⟩ m w (by rw [Lib.size_mk]; exact hl) hm).mono ?_
  rintro e w' ⟨rfl, n, rfl⟩
  exact ⟨rfl, by first | exact below_drewN (Below.refl _ _) n | exact below_drewN w n⟩
theorem cut1_le (l : List UInt8) : (Lib.cut l [64]).1.length ≤ l.length := by
  unfold Lib.cut
  split
  · simp [List.length_take]; omega
  · exact Nat.le_refl _
set_option maxHeartbeats 800000 in
theorem conditionOf_any (w : World) (l : Pr.T) (hsz : l.length < 1000000) (hB : Base w) :
    Calls Tryz.prog 92 #[.string ⟨l.toArray⟩] w fun e w' => CondSaid w (Pr.whenP l) e w' := by
  obtain ⟨S, hS⟩ : ∃ S, Hid (Pr.whenP l = S) := ⟨_, rfl⟩
  rw [hS.out]
  by_cases h2 : 200 < l.length
  · have h2' : (200 : Int) < l.length := by omega
    have hR : Hid (S = none) := by show _ = _; rw [← hS.out, Pr.whenP, if_pos h2]
    go_enter Tryz.func92, Tryz.ntmps92
    go_wp2
    go_ret2
    refine ⟨Below.refl _ _, ?_⟩
    rw [hR.out]
    rfl
  · have h2' : ¬ (200 : Int) < l.length := by omega
    have cc := cut_sample l w (by omega) hB
    have hle := cut1_le l
    have hR0 : Hid (S = match Pr.toks (Lib.cut l [64]).1 with
      | none => none
      | some ts => Pr.condP ts) := by
      show _ = _
      rw [← hS.out, Pr.whenP, if_neg h2]
      cases Pr.toks (Lib.cut l [64]).1 <;> rfl
    clear hS
    generalize (Lib.cut l [64]).1 = t at *
    generalize (Lib.cut l [64]).2.1 = t2 at *
    generalize (Lib.cut l [64]).2.2 = t3 at *
    go_enter Tryz.func92, Tryz.ntmps92
    go_wp2_with fail
    refine cc.mono ?_
    rintro e w1 ⟨rfl, hb1⟩
    clear cc
    have cs := split_any t (by omega) w1
    go_wp2_with fail
    refine cs.mono ?_
    rintro e w2 ⟨hb2, hs⟩
    clear cs
    replace hb2 := below_of hb1 hb2
    clear hb1
    cases hv : Pr.toks t with
    | none =>
      rw [hv] at hs
      obtain rfl := hs
      have hR : Hid (S = none) := by show _ = _; rw [hR0.out, hv]
      clear hv hR0
      unfold errRule
      go_wp2
      go_ret2
      refine ⟨hb2, ?_⟩
      rw [hR.out]
      rfl
    | some ts =>
      rw [hv] at hs
      obtain ⟨v, rfl, hp, hl1, hl2⟩ := hs
      have hR1 : Hid (S = Pr.condP ts) := by show _ = _; rw [hR0.out, hv]
      clear hv hR0
      obtain ⟨a, c, rfl, hc, ht⟩ := parts_txts hp w2.heap.size (Nat.le_refl _)
      have cp := parse_any w2 ts a c (hB.below hb2) hc hl1 hl2 ht
      rw [← hR1.out] at cp
      clear hp ht hl2 hR1
      go_wp2_with fail
      refine cp.mono ?_
      rintro e w9 ⟨hb9, hs⟩
      clear cp
      replace hb9 := below_of hb2 hb9
      cases hv : S with
      | none =>
        rw [hv] at hs
        obtain rfl := hs
        have hR : Hid (S = none) := hv
        clear hv
        unfold errRule
        go_wp2
        go_ret2
        refine ⟨hb9, ?_⟩
        rw [hR.out]
        rfl
      | some f =>
        rw [hv] at hs
        obtain ⟨v, P, rfl, hP, hcn⟩ := hs
        have hR : Hid (S = some f) := hv
        clear hv
        go_wp2
        go_ret2
        refine ⟨hb9, ?_⟩
        rw [hR.out]
        exact ⟨_, P, rfl, Nat.le_trans hb2.size hP, hcn⟩

end Go.Proofs.YtaepcfidpekflaaGreatDoor
