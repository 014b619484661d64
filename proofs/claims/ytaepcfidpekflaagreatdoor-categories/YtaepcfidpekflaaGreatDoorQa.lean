/-
  Rules as functions: what the calls of a parser keep, what a function value means; next, take. By the verifier.
-/
import Derived.Test.YtaepcfidpekflaaGreatDoorPr
import Derived.Test.YtaepcfidpekflaaGreatDoorBase
import Derived.Shelf.Abstract
namespace Go.Proofs.YtaepcfidpekflaaGreatDoor
open Go.RowKit

/-- All of w stands in w' but the block P. -/
structure Ag (P : Nat) (w w' : World) : Prop where
  os : w'.os = w.os
  tape : w'.tape = w.tape
  output : w'.output = w.output
  size : w.heap.size ≤ w'.heap.size
  block : ∀ k, k < w.heap.size → k ≠ P → w'.heap[k]? = w.heap[k]?
theorem Ag.refl (P : Nat) (w : World) : Ag P w w := ⟨rfl, rfl, rfl, Nat.le_refl _, fun _ _ _ => rfl⟩
theorem Ag.trans {P : Nat} {w w1 w2 : World} (h : Ag P w w1) (h2 : Ag P w1 w2) : Ag P w w2 :=
  ⟨h2.os.trans h.os, h2.tape.trans h.tape, h2.output.trans h.output, Nat.le_trans h.size h2.size, fun k hk hP => (h2.block k (Nat.lt_of_lt_of_le hk h.size) hP).trans (h.block k hk hP)⟩
theorem Ag.of {P B : Nat} {w w' : World} (h : Below B w w') (hB : w.heap.size ≤ B) : Ag P w w' := ⟨h.os, h.tape, h.output, h.size, fun k hk _ => h.block k (Nat.lt_of_lt_of_le hk hB)⟩
theorem Ag.below {P B : Nat} {w w' : World} (h : Ag P w w') (hP : B ≤ P) (hB : B ≤ w.heap.size) : Below B w w' :=
  ⟨h.os, h.tape, h.output, h.size, fun k hk => h.block k (Nat.lt_of_lt_of_le hk hB) (by omega)⟩
theorem Ag.setCell {P : Nat} {w w' : World} (h : Ag P w w') (j : Nat) (v : Value) : Ag P w (w'.setCell ⟨P, j, none⟩ v) := by
  have hb := (Below.refl P w').setCell (p := ⟨P, j, none⟩) (Nat.le_refl _) v
  refine ⟨hb.os.trans h.os, hb.tape.trans h.tape, hb.output.trans h.output, Nat.le_trans h.size hb.size, fun k hk hP => ?_⟩
  refine Eq.trans ?_ (h.block k hk hP)
  exact Below.heap_setCell _ _ _ _ hP
theorem Ag.alloc {P : Nat} {w w' : World} (h : Ag P w w') (o : Obj) : Ag P w (w'.alloc o) := h.trans (.of ((Below.refl _ _).alloc (Nat.le_refl _) _) (Nat.le_refl _))
theorem Ag.then {P : Nat} {w w1 w2 : World} (h : Ag P w w1) (h2 : Below w1.heap.size w1 w2) : Ag P w w2 := h.trans (.of h2 (Nat.le_refl _))
/-- Base stands, whatever becomes of the block P. -/
def BaseX (P : Nat) (w : World) : Prop := ∀ W, Ag P w W → Base W
theorem BaseX.now {P : Nat} {w : World} (h : BaseX P w) : Base w := h w (Ag.refl _ _)
theorem BaseX.later {P : Nat} {w w' : World} (h : BaseX P w) (ha : Ag P w w') : BaseX P w' := fun W hW => h W (ha.trans hW)
theorem Row.ag {P : Nat} {w w' : World} {b : Nat} {cs : Array Value} (h : Row w b cs) (ha : Ag P w w') (hb : b ≠ P) : Row w' b cs := by
  have e := ha.block b h.1 hb
  refine ⟨Nat.lt_of_lt_of_le h.1 ha.size, fun j => ?_, fun j => ?_⟩
  · have := h.2.1 j
    simp only [World.cell?, e] at this ⊢
    exact this
  · have := h.2.2 j
    simp only [World.frozen?, e] at this ⊢
    exact this

/-- The texts l lie at the address a, not in the block P. -/
def Txts (P : Nat) (w : World) (a : Option Addr) (l : List Pr.T) : Prop :=
  l = [] ∨ ∃ blk off, a = some ⟨blk, off, none⟩ ∧ blk ≠ P ∧ blk < w.heap.size ∧ ∀ j, j < l.length → w.cell? ⟨blk, off + j, none⟩ = some (.string ⟨(l.getD j []).toArray⟩)
theorem Txts.ag {P : Nat} {w w' : World} {a : Option Addr} {l : List Pr.T} (h : Txts P w a l) (ha : Ag P w w') : Txts P w' a l := by
  rcases h with h | ⟨blk, off, h1, h2, h3, h4⟩
  · exact .inl h
  · refine .inr ⟨blk, off, h1, h2, Nat.lt_of_lt_of_le h3 ha.size, fun j hj => ?_⟩
    have := h4 j hj
    simp only [World.cell?, ha.block blk h3 h2] at this ⊢
    exact this
/-- What a parser (the block P) has left. -/
def Left (P : Nat) (w : World) (l : List Pr.T) : Prop := ∃ a c, Row w P #[.slice a l.length c] ∧ l.length ≤ c ∧ (l.length ≤ 1000 ∧ Hid (∀ t ∈ l, t.length ≤ 1000)) ∧ Txts P w a l
theorem small_tail {t : Pr.T} {l : List Pr.T} (h : Hid (∀ u ∈ t :: l, u.length ≤ 1000)) : Hid (∀ u ∈ l, u.length ≤ 1000) := fun u hu => h.out u (by simp [hu])
theorem Left.then {P : Nat} {w w' : World} {l : List Pr.T} (h : Left P w l) (hb : Below w.heap.size w w') : Left P w' l := by
  obtain ⟨a, c, h1, h2, h3, h4⟩ := h
  exact ⟨a, c, h1.keep hb, h2, h3, h4.ag (.of hb (Nat.le_refl _))⟩

/-- What lies above the block P in w stands in W. -/
def Up (P : Nat) (w W : World) : Prop := ∀ k, P < k → k < w.heap.size → W.heap[k]? = w.heap[k]?
theorem heap_lt {w W : World} {k : Nat} (h : W.heap[k]? = w.heap[k]?) (hk : k < w.heap.size) : k < W.heap.size := by
  rcases Nat.lt_or_ge k W.heap.size with h' | h'
  · exact h'
  · rw [Array.getElem?_eq_none h', Array.getElem?_eq_getElem hk] at h; cases h
theorem Ag.up {P : Nat} {w W : World} (h : Ag P w W) : Up P w W := fun k h1 h2 => h.block k h2 (by omega)
theorem Up.then {P : Nat} {w W W' : World} (h : Up P w W) (hb : Below W.heap.size W W') : Up P w W' := fun k h1 h2 => (hb.block k (heap_lt (h k h1 h2) h2)).trans (h k h1 h2)
theorem Up.after {P : Nat} {w w1 W : World} (hb : Below w.heap.size w w1) (h : Up P w1 W) : Up P w W := fun k h1 h2 => (h k h1 (Nat.lt_of_lt_of_le h2 hb.size)).trans (hb.block k h2)
theorem Up.trans {P : Nat} {w w1 W : World} (h1 : Up P w w1) (h2 : Up P w1 W) : Up P w W := fun k a b => (h2 k a (heap_lt (h1 k a b) b)).trans (h1 k a b)
theorem Row.up {P : Nat} {w w' : World} {b : Nat} {cs : Array Value} (h : Row w b cs) (ha : Up P w w') (hb : P < b) : Row w' b cs := by
  have e := ha b hb h.1
  refine ⟨heap_lt e h.1, fun j => ?_, fun j => ?_⟩
  · have := h.2.1 j
    simp only [World.cell?, e] at this ⊢
    exact this
  · have := h.2.2 j
    simp only [World.frozen?, e] at this ⊢
    exact this
/-- A number as the program has it. -/
def numV (m : Bool) (a b : Pr.T) : Value := .agg #[.bool m, .string ⟨a.toArray⟩, .string ⟨b.toArray⟩]
/-- Digits, at most thirty. -/
def Digs (a : Pr.T) : Prop := (∀ c ∈ a, Pn.isDig c = true) ∧ a.length ≤ 30
/-- The function enters as it stands. -/
def Enters (g : Nat) : Prop := ∀ args w, (callFunc g args).run Tryz.prog w = .ok (.enter g args) w
/-- A function value that is the condition f. -/
def Cnd (P : Nat) (w : World) (v : Value) (f : Pr.Sem) : Prop := ∃ g lb, v = .func (.func g) #[] lb ∧ Enters g ∧
  ∀ W, Base W → Up P w W → ∀ m a b, Digs a → Digs b → Calls Tryz.prog g (#[numV m a b] ++ lb) W fun e w' => e = .returned (.bool (f a b)) ∧ Below W.heap.size W w'
/-- A function value that is the operand o. -/
def Opv (P : Nat) (w : World) (v : Value) (o : Pr.Opd) : Prop := ∃ g lb, v = .func (.func g) #[] lb ∧ Enters g ∧
  ∀ W, Base W → Up P w W → ∀ m a b, Digs a → Digs b → Calls Tryz.prog g (#[numV m a b] ++ lb) W fun e w' => (∃ d, e = .returned (.agg #[.string ⟨d.toArray⟩, .bool (o a b).2]) ∧ Digs d ∧ Pr.val d = (o a b).1) ∧ Below W.heap.size W w'
theorem Cnd.later {P : Nat} {w W : World} {v : Value} {f : Pr.Sem} (h : Cnd P w v f) (ha : Ag P w W) : Cnd P W v f := by
  obtain ⟨g, lb, h1, h2, h3⟩ := h
  exact ⟨g, lb, h1, h2, fun W' hB hA => h3 W' hB (ha.up.trans hA)⟩
theorem Opv.later {P : Nat} {w W : World} {v : Value} {o : Pr.Opd} (h : Opv P w v o) (ha : Ag P w W) : Opv P W v o := by
  obtain ⟨g, lb, h1, h2, h3⟩ := h
  exact ⟨g, lb, h1, h2, fun W' hB hA => h3 W' hB (ha.up.trans hA)⟩

def errRule : Value := .iface 30 (.int .i64 9)
/-- What a reader of the parser answers. -/
def Said (P : Nat) (w : World) (x : Option (Pr.Sem × List Pr.T)) (e : Ending) (w' : World) : Prop := Ag P w w' ∧ match x with
  | none => e = .returned (.tuple #[.nilFunc, errRule])
  | some (f, r) => ∃ v, e = .returned (.tuple #[v, .nilIface]) ∧ Cnd P w' v f ∧ Left P w' r
/-- A function value that reads. -/
def Rdv (P : Nat) (w : World) (v : Value) (rd : Pr.Rd) : Prop := ∃ g bd lb, v = .func (.func g) bd lb ∧ Enters g ∧
  ∀ W l, BaseX P W → Ag P w W → Left P W l → Calls Tryz.prog g (bd ++ lb) W fun e w' => Said P W (rd l) e w'

theorem left_set {P : Nat} {w : World} {x : Value} (h : Row w P #[x]) (a : Option Addr) (c : Nat) (l : List Pr.T) (hc : l.length ≤ c) (hl : l.length ≤ 1000 ∧ Hid (∀ t ∈ l, t.length ≤ 1000)) (ht : Txts P w a l) : Left P (w.setCell ⟨P, 0, none⟩ (.slice a l.length c)) l :=
  ⟨a, c, h.setC 0 _ (by simp), hc, hl, ht.ag ((Ag.refl P w).setCell 0 _)⟩
theorem txts_tail {P : Nat} {w : World} {blk off : Nat} {t : Pr.T} {l : List Pr.T} (h5 : blk ≠ P) (h6 : blk < w.heap.size) (h7 : ∀ j, j < (t :: l).length → w.cell? ⟨blk, off + j, none⟩ = some (.string ⟨((t :: l).getD j []).toArray⟩)) :
    Txts P w (some ⟨blk, off + 1, none⟩) l := .inr ⟨blk, off + 1, rfl, h5, h6, fun j hj => by
  have := h7 (j + 1) (by simpa using hj)
  rw [show off + 1 + j = off + (j + 1) by omega, this]
  simp⟩

set_option maxHeartbeats 400000 in
theorem next_any (P : Nat) (w : World) (l : List Pr.T) (h : Left P w l) :
    Calls Tryz.prog 233 #[.pointer (some ⟨P, 0, none⟩)] w fun e w' => e = .returned (.string ⟨(l.headD []).toArray⟩) ∧ Left P w' l.tail ∧ Ag P w w' := by
  obtain ⟨a, c, h1, h2, h3, h4⟩ := h
  have q1 := h1.2.1
  have q2 := h1.2.2
  cases l with
  | nil =>
    go_enter Tryz.func233, Tryz.ntmps233
    go_wp2
    go_ret
    exact ⟨rfl, ⟨a, c, h1, h2, h3, .inl rfl⟩, Ag.refl _ _⟩
  | cons t l =>
    obtain ⟨h3, hsm⟩ := h3
    rcases h4 with h4 | ⟨blk, off, rfl, h5, h6, h7⟩
    · cases h4
    have q0 := h7 0 (by simp)
    simp only [List.length_cons] at h2 h3 q1
    have q0' : w.cell? ⟨blk, off, none⟩ = some (.string ⟨t.toArray⟩) := by simpa using q0
    go_enter Tryz.func233, Tryz.ntmps233
    by_cases e : c = 1
    · obtain rfl : l = [] := List.length_eq_zero_iff.1 (by omega)
      subst e
      go_wp2
      go_ret
      exact ⟨rfl, left_set h1 _ _ [] (by simp) ⟨by simp, small_tail hsm⟩ (.inl rfl), (Ag.refl P w).setCell 0 _⟩
    · go_wp2
      go_ret
      exact ⟨rfl, left_set h1 _ _ l (by omega) ⟨by omega, small_tail hsm⟩ (txts_tail h5 h6 h7), (Ag.refl P w).setCell 0 _⟩

end Go.Proofs.YtaepcfidpekflaaGreatDoor
