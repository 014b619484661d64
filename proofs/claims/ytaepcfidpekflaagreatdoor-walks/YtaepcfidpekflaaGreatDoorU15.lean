/-
  Several texts in one (Sa, Kb, Ps, Pt). By the verifier.
-/
import Derived.Test.YtaepcfidpekflaaGreatDoorU14
import Derived.Deep.DeepCutAuto
import Derived.Deep.CutBlock
import Derived.Deep.RegionWith
import Derived.Outline
import Derived.Test.YtaepcfidpekflaaGreatDoorU04
import Derived.OneCell
namespace Go.Proofs.YtaepcfidpekflaaGreatDoor
open Go.RowKit

/-- Of a byte: 1 a small letter, 2 a digit, 3 a blank, 0 any other. -/
def kindN (c : UInt8) : Nat := if Pr.isLet c then 1 else if Pn.isDig c then 2 else if c = 32 then 3 else 0
theorem isLet_iff (c : UInt8) : Pr.isLet c = true ↔ 97 ≤ c.toNat ∧ c.toNat ≤ 122 := by simp [Pr.isLet]
set_option maxHeartbeats 400000 in
theorem kind_any (c : UInt8) (w : World) : Calls Tryz.prog 115 #[.int .u8 c.toNat] w fun e w' => e = .returned (.int .i64 (kindN c)) ∧ w' = w := by
  obtain ⟨R, hR⟩ : ∃ R, Hid (kindN c = R) := ⟨_, rfl⟩
  rw [hR.out]
  have h256 := UInt8.toNat_lt c
  by_cases h1 : Pr.isLet c = true
  · have e : Hid (R = 1) := by show _ = _; rw [← hR.out, kindN, if_pos h1]
    obtain ⟨a, b⟩ := (isLet_iff c).1 h1
    have a' : (97 : Int) ≤ c.toNat := by omega
    have b' : (c.toNat : Int) ≤ 122 := by omega
    go_enter Tryz.func115, Tryz.ntmps115
    go_wp2
    go_ret
    exact ⟨by rw [e.out]; rfl, rfl⟩
  · by_cases h2 : Pn.isDig c = true
    · have e : Hid (R = 2) := by show _ = _; rw [← hR.out, kindN, if_neg h1, if_pos h2]
      obtain ⟨a, b⟩ := (Pn.isDig_iff c).1 h2
      have a0 : ¬ (97 : Int) ≤ c.toNat := by omega
      have a' : (48 : Int) ≤ c.toNat := by omega
      have b' : (c.toNat : Int) ≤ 57 := by omega
      clear h1
      go_enter Tryz.func115, Tryz.ntmps115
      go_wp2
      go_ret
      exact ⟨by rw [e.out]; rfl, rfl⟩
    · have n1 : ¬ (97 ≤ c.toNat ∧ c.toNat ≤ 122) := fun h => h1 ((isLet_iff c).2 h)
      have n2 : ¬ (48 ≤ c.toNat ∧ c.toNat ≤ 57) := fun h => h2 ((Pn.isDig_iff c).2 h)
      by_cases h3 : c.toNat = 32
      · have e : Hid (R = 3) := by
          show _ = _
          rw [← hR.out, kindN, if_neg h1, if_neg h2, if_pos (UInt8.toNat_inj.1 h3)]
        have a0 : ¬ (97 : Int) ≤ c.toNat := by omega
        have a1 : ¬ (48 : Int) ≤ c.toNat := by omega
        have a2 : ((c.toNat : Int) == 32) = true := by rw [beq_iff_eq]; omega
        clear h1 h2 h3 n1 n2
        go_enter Tryz.func115, Tryz.ntmps115
        go_wp2
        go_ret
        exact ⟨by rw [e.out]; rfl, rfl⟩
      · have e : Hid (R = 0) := by
          show _ = _
          rw [← hR.out, kindN, if_neg h1, if_neg h2, if_neg (fun h => h3 (by rw [h]; rfl))]
        have a2 : ((c.toNat : Int) == 32) = false := by rw [beq_eq_false_iff_ne]; omega
        clear h1 h2 h3
        by_cases x1 : (97 : Int) ≤ c.toNat
        · have x2 : ¬ (c.toNat : Int) ≤ 122 := by omega
          have x3 : (48 : Int) ≤ c.toNat := by omega
          have x4 : ¬ (c.toNat : Int) ≤ 57 := by omega
          clear n1 n2
          go_enter Tryz.func115, Tryz.ntmps115
          go_wp2
          go_ret
          exact ⟨by rw [e.out]; rfl, rfl⟩
        · by_cases x3 : (48 : Int) ≤ c.toNat
          · have x4 : ¬ (c.toNat : Int) ≤ 57 := by omega
            clear n1 n2
            go_enter Tryz.func115, Tryz.ntmps115
            go_wp2
            go_ret
            exact ⟨by rw [e.out]; rfl, rfl⟩
          · clear n1 n2
            go_enter Tryz.func115, Tryz.ntmps115
            go_wp2
            go_ret
            exact ⟨by rw [e.out]; rfl, rfl⟩

theorem fig_some (t : Pr.T) : (Pr.fig t).isSome = (Pn.digitsB t && (decide (t.length ≤ 9) && (decide (t.length = 1) || t.head? != some 48))) := by
  unfold Pr.fig
  split
  · rename_i h
    obtain ⟨h1, h2, h3⟩ := h
    rw [h1, decide_eq_true h2]
    rcases h3 with h3 | h3
    · simp [h3]
    · simp [h3]
  · rename_i h
    cases h1 : Pn.digitsB t with
    | false => rfl
    | true =>
      by_cases h2 : t.length ≤ 9
      · by_cases h3 : t.length = 1
        · exact absurd ⟨h1, h2, .inl h3⟩ h
        · have h4 : t.head? = some 48 := by
            cases e : decide (t.head? = some 48) with
            | true => exact of_decide_eq_true e
            | false => exact absurd ⟨h1, h2, .inr (of_decide_eq_false e)⟩ h
          simp [h2, h3, h4]
      · simp [h2]
set_option maxHeartbeats 400000 in
theorem figure_any (t : Pr.T) (ht : t.length ≤ 1000) (w : World) : Calls Tryz.prog 117 #[.string ⟨t.toArray⟩] w fun e w' => e = .returned (.tuple #[.string ⟨t.toArray⟩, .bool (Pr.fig t).isSome]) ∧ Below w.heap.size w w' := by
  have cn := fun W => numerals_any ⟨t.toArray⟩ W (by show t.toArray.size ≤ _; simp; omega)
  simp only [] at cn
  rw [fig_some]
  cases hd : Pn.digitsB t with
  | false =>
    rw [hd] at cn
    go_enter Tryz.func117, Tryz.ntmps117
    go_wp2_with (go_at_call 50; refine (cn _).mono ?_; rintro e w1 ⟨rfl, rfl⟩)
    go_quiet (fail)
    go_wp2
    go_ret2
    exact ⟨rfl, drewB _ _⟩
  | true =>
    rw [hd] at cn
    cases t with
    | nil => cases hd
    | cons c r =>
      obtain ⟨R, hR⟩ : ∃ R, Hid ((true && (decide ((c :: r).length ≤ 9) && (decide ((c :: r).length = 1) || (c :: r).head? != some 48))) = R) := ⟨_, rfl⟩
      rw [hR.out]
      simp only [List.length_cons] at ht hR
      by_cases h9 : (r.length : Int) + 1 ≤ 9
      · by_cases h1 : r.length = 0
        · have hF : Hid (R = true) := by show _ = _; rw [← hR.out]; simp [h1]
          have h1' : ((r.length : Int) + 1 == 1) = true := by rw [beq_iff_eq]; omega
          clear h1
          go_enter Tryz.func117, Tryz.ntmps117
          go_wp2_with (go_at_call 50; refine (cn _).mono ?_; rintro e w1 ⟨rfl, rfl⟩)
          go_quiet (fail)
          go_wp2
          go_ret2
          exact ⟨by rw [hF.out]; rfl, drewB _ _⟩
        · have hF : Hid (R = !((c.toNat : Int) == 48)) := by
            show _ = _
            rw [← hR.out]
            have e9 : r.length + 1 ≤ 9 := by omega
            by_cases hc : c = 48
            · simp [h1, e9, hc]
            · have : ((c.toNat : Int) == 48) = false := by
                rw [beq_eq_false_iff_ne]
                intro e
                exact hc (UInt8.toNat_inj.1 (by show c.toNat = 48; omega))
              simp [e9, hc, this]
          have h1' : ((r.length : Int) + 1 == 1) = false := by rw [beq_eq_false_iff_ne]; omega
          have h0 : ∀ h, ((⟨(c :: r).toArray⟩ : ByteArray)[0]'h).toNat = c.toNat := fun h => rfl
          clear h1
          go_enter Tryz.func117, Tryz.ntmps117
          go_wp2_with (go_at_call 50; refine (cn _).mono ?_; rintro e w1 ⟨rfl, rfl⟩)
          go_quiet (fail)
          go_wp2
          go_ret2
          exact ⟨by rw [hF.out]; rfl, drewB _ _⟩
      · have hF : Hid (R = false) := by
          show _ = _
          rw [← hR.out]
          have : ¬ r.length + 1 ≤ 9 := by omega
          simp [this]
        have h9' : decide ((r.length : Int) + 1 ≤ 9) = false := decide_eq_false h9
        have h8 : ¬ (r.length : Int) ≤ 8 := by omega
        have h8' : decide ((r.length : Int) ≤ 8) = false := decide_eq_false h8
        go_enter Tryz.func117, Tryz.ntmps117
        go_wp2_with (go_at_call 50; refine (cn _).mono ?_; rintro e w1 ⟨rfl, rfl⟩)
        go_quiet (fail)
        go_wp2
        go_ret2
        exact ⟨by rw [hF.out]; rfl, drewB _ _⟩
end Go.Proofs.YtaepcfidpekflaaGreatDoor
namespace Go.Proofs.YtaepcfidpekflaaGreatDoor
open Go.RowKit

def mCells (m : Dk.Mark) : List Value := [.int .u8 m.kind.toNat, strV m.text, strV m.name, strV m.how, strV m.offset, .int .i64 m.at_]
def marksCells : List Dk.Mark → List Value
  | [] => []
  | m :: r => mCells m ++ marksCells r
/-- The scan's block: its text, its place, marks and open arguments in rows of the call's own, the fault; blocks that stand beside it (ms). -/
def ScanAt (ms : List (Nat × Array Value)) (w : World) (B b : Nat) (s : Pr.T) (x : Dk.Sc) : Prop := ∃ ov pv, Row w b #[.string ⟨s.toArray⟩, .int .i64 x.i, ov, pv, .int .i64 x.err, .int .i64 x.place] ∧ B ≤ b ∧
  w.ownsRow B 130 6 ov x.out.length (marksCells x.out) ∧ w.ownsRow B 4 1 pv x.opens.length (x.opens.map .bool) ∧
  (ov.ownBlock ≠ some b) ∧ (pv.ownBlock ≠ some b) ∧ (∀ g, ov.ownBlock = some g → pv.ownBlock ≠ some g) ∧
  ∀ q ∈ ms, Row w q.1 q.2 ∧ q.1 ≠ b ∧ ov.ownBlock ≠ some q.1 ∧ pv.ownBlock ≠ some q.1
theorem Row.other {w : World} {b g j : Nat} {cs : Array Value} (h : Row w b cs) (hne : b ≠ g) (u : Value) : Row (w.setCell ⟨g, j, none⟩ u) b cs := by
  have hb : (w.setCell ⟨g, j, none⟩ u).heap[b]? = w.heap[b]? := Below.heap_setCell w ⟨g, j, none⟩ u b hne
  refine ⟨by have := h.1; simpa [World.setCell] using this, fun i => (World.cell?_of_block (w := w) (a := ⟨b, i, none⟩) hb).trans (h.2.1 i), fun i => (World.frozen?_of_block (w := w) (a := ⟨b, i, none⟩) hb).trans (h.2.2 i)⟩
variable {ms : List (Nat × Array Value)}
theorem ScanAt.keep {w w1 : World} {B b : Nat} {s : Pr.T} {x : Dk.Sc} (h : ScanAt ms w B b s x) (hb : Below w.heap.size w w1) : ScanAt ms w1 B b s x := by
  obtain ⟨ov, pv, h1, h2, h3, h4, h5, h6, h7, h8⟩ := h
  have kp : ∀ {e : TypeId} {z n : Nat} {v : Value} {xs : List Value}, w.ownsRow B e z v n xs → w1.ownsRow B e z v n xs := fun {e z n v xs} h => by
    refine World.ownsRow.kept (row := none) h ⟨hb.os, hb.tape, hb.output, hb.size, fun k hk _ => hb.block k hk⟩ ?_
    cases e : v.ownBlock with
    | none => exact .inl rfl
    | some _ => exact .inr (by simp)
  exact ⟨ov, pv, h1.keep hb, h2, kp h3, kp h4, h5, h6, h7, fun q hq => ⟨(h8 q hq).1.keep hb, (h8 q hq).2⟩⟩
theorem ScanAt.setI {w : World} {B b : Nat} {s : Pr.T} {x : Dk.Sc} (h : ScanAt ms w B b s x) (n : Nat) : ScanAt ms (w.setCell ⟨b, 1, none⟩ (.int .i64 n)) B b s { x with i := n } := by
  obtain ⟨ov, pv, h1, h2, h3, h4, h5, h6, h7, h8⟩ := h
  exact ⟨ov, pv, h1.setC 1 _ (by simp), h2, ownsRow_setCell_other h3 h5 _, ownsRow_setCell_other h4 h6 _, h5, h6, h7, fun q hq => ⟨(h8 q hq).1.other (h8 q hq).2.1 _, (h8 q hq).2⟩⟩
theorem ScanAt.setF {w : World} {B b : Nat} {s : Pr.T} {x : Dk.Sc} (h : ScanAt ms w B b s x) (e p : Nat) : ScanAt ms ((w.setCell ⟨b, 4, none⟩ (.int .i64 e)).setCell ⟨b, 5, none⟩ (.int .i64 p)) B b s { x with err := e, place := p } := by
  obtain ⟨ov, pv, h1, h2, h3, h4, h5, h6, h7, h8⟩ := h
  exact ⟨ov, pv, (h1.setC 4 _ (by simp)).setC 5 _ (by simp), h2, ownsRow_setCell_other (ownsRow_setCell_other h3 h5 _) h5 _, ownsRow_setCell_other (ownsRow_setCell_other h4 h6 _) h6 _, h5, h6, h7, fun q hq => ⟨((h8 q hq).1.other (h8 q hq).2.1 _).other (h8 q hq).2.1 _, (h8 q hq).2⟩⟩
theorem ScanAt.base {w : World} {B b : Nat} {s : Pr.T} {x : Dk.Sc} (h : ScanAt ms w B b s x) : B ≤ b ∧ b < w.heap.size := by
  obtain ⟨ov, pv, h1, h2, _⟩ := h
  exact ⟨h2, h1.1⟩

set_option maxHeartbeats 800000 in
theorem kfault_any (w : World) (B b : Nat) (s : Pr.T) (x : Dk.Sc) (e p : Nat) (hx : ScanAt ms w B b s x) :
    Calls Tryz.prog 100 #[.pointer (some ⟨b, 0, none⟩), .int .i64 e, .int .i64 p] w fun en w' => en = .returned (.tuple #[]) ∧ ScanAt ms w' B b s (x.fault e p) ∧ Below B w w' := by
  have hB := hx.base
  obtain ⟨ov, pv, h1, _⟩ := id hx
  have q0 := h1.2.1
  have q1 := h1.2.2
  by_cases he : x.err = 0
  · have he' : ((x.err : Int) == 0) = true := by rw [he]; rfl
    have HF : Hid (ScanAt ms ((w.setCell ⟨b, 4, none⟩ (.int .i64 e)).setCell ⟨b, 5, none⟩ (.int .i64 p)) B b s (x.fault e p) ∧ Below B w ((w.setCell ⟨b, 4, none⟩ (.int .i64 e)).setCell ⟨b, 5, none⟩ (.int .i64 p))) := by
      refine ⟨?_, ?_⟩
      · rw [Dk.Sc.fault, if_pos he]; exact hx.setF e p
      · exact ((Below.refl B w).setCell (p := ⟨b, 4, none⟩) hB.1 _).setCell (p := ⟨b, 5, none⟩) hB.1 _
    clear hx h1 he
    go_enter Tryz.func100, Tryz.ntmps100
    go_wp2
    go_end0
    exact ⟨rfl, HF.out⟩
  · have he' : ((x.err : Int) == 0) = false := by rw [beq_eq_false_iff_ne]; omega
    have HF : Hid (ScanAt ms w B b s (x.fault e p)) := by show ScanAt ms _ _ _ _ _; rw [Dk.Sc.fault, if_neg he]; exact hx
    clear hx h1 he
    go_enter Tryz.func100, Tryz.ntmps100
    go_wp2
    go_end0
    exact ⟨rfl, HF.out, Below.refl _ _⟩
end Go.Proofs.YtaepcfidpekflaaGreatDoor
namespace Go.Proofs.YtaepcfidpekflaaGreatDoor.Pr

def partsAt (sep : T) : List T → List (List T)
  | [] => [[]]
  | t :: l => if t = sep then [] :: partsAt sep l else match partsAt sep l with
    | p :: ps => (t :: p) :: ps
    | [] => [[t]]
def whole (mem : Rd) (p : List T) : Option Sem := match mem p with
  | some (f, []) => some f
  | _ => none
def foldFrom (mb : List T → Option Sem) (jn : Sem → Sem → Sem) : Sem → List (List T) → Option Sem
  | f, [] => some f
  | f, p :: ps => match mb p with
    | none => none
    | some g => foldFrom mb jn (jn f g) ps
def foldB (mb : List T → Option Sem) (jn : Sem → Sem → Sem) : List (List T) → Option Sem
  | [] => none
  | p :: ps => match mb p with
    | none => none
    | some f => foldFrom mb jn f ps
structure Good (mem : Rd) (Stop : T → Prop) : Prop where
  sound : ∀ l f r, mem l = some (f, r) → ∃ p, l = p ++ r ∧ mem p = some (f, []) ∧ ∀ t ∈ p, ¬ Stop t
  complete : ∀ p f r, mem p = some (f, []) → (r = [] ∨ ∃ t r', r = t :: r' ∧ Stop t) → mem (p ++ r) = some (f, r)

theorem parts_end (sep : T) (p : List T) (h : ∀ t ∈ p, t ≠ sep) : partsAt sep p = [p] := by
  induction p with
  | nil => rfl
  | cons t p ih =>
    have h1 := h t (by simp)
    have h2 := ih fun u hu => h u (by simp [hu])
    simp [partsAt, h1, h2]
theorem parts_app (sep : T) (p r : List T) (h : ∀ t ∈ p, t ≠ sep) : partsAt sep (p ++ sep :: r) = p :: partsAt sep r := by
  induction p with
  | nil => simp [partsAt]
  | cons t p ih =>
    have h1 := h t (by simp)
    have h2 := ih fun u hu => h u (by simp [hu])
    simp only [List.cons_append, partsAt, h1, if_false]
    rw [h2]
theorem parts_split (sep : T) (l : List T) : ∃ p rest, (∀ t ∈ p, t ≠ sep) ∧ l = p ++ rest ∧ ((rest = [] ∧ partsAt sep l = [p]) ∨ ∃ r', rest = sep :: r' ∧ partsAt sep l = p :: partsAt sep r') := by
  induction l with
  | nil => exact ⟨[], [], by simp, rfl, .inl ⟨rfl, rfl⟩⟩
  | cons t l ih =>
    by_cases c : t = sep
    · subst c
      exact ⟨[], t :: l, by simp, rfl, .inr ⟨l, rfl, by simp [partsAt]⟩⟩
    · obtain ⟨p, rest, h1, h2, h3⟩ := ih
      have hp : ∀ u ∈ t :: p, u ≠ sep := by
        intro u hu
        rcases List.mem_cons.1 hu with rfl | hu
        · exact c
        · exact h1 u hu
      refine ⟨t :: p, rest, hp, by rw [h2]; rfl, ?_⟩
      rcases h3 with ⟨h3, h4⟩ | ⟨r', h3, h4⟩
      · left
        refine ⟨h3, ?_⟩
        rw [h2, h3, List.append_nil]
        exact parts_end sep _ hp
      · right
        refine ⟨r', h3, ?_⟩
        rw [h2, h3]
        exact parts_app sep _ r' hp

variable {mem : Rd} {Stop : T → Prop} {sep : T} {jn : Sem → Sem → Sem}

theorem whole_some {p : List T} {f : Sem} (h : whole mem p = some f) : mem p = some (f, []) := by
  unfold whole at h
  split at h
  · cases h; assumption
  · cases h
theorem whole_of {p : List T} {f : Sem} (h : mem p = some (f, [])) : whole mem p = some f := by simp [whole, h]

theorem rowGo_whole (hg : Good mem Stop) (hs : Stop sep) : ∀ (k : Nat) (f : Sem) (l : List T), l.length ≤ k →
    (match rowGo mem sep jn k f l with
      | some (g, []) => some g
      | _ => none) = match l with
      | [] => some f
      | t :: l' => if t = sep then foldFrom (whole mem) jn f (partsAt sep l') else none := by
  intro k
  induction k with
  | zero =>
    intro f l hl
    obtain rfl : l = [] := List.length_eq_zero_iff.1 (by omega)
    rfl
  | succ k ih =>
    intro f l hl
    cases l with
    | nil => rfl
    | cons t l' =>
      by_cases c : t = sep
      · subst c
        have hl' : l'.length ≤ k := by simpa using hl
        obtain ⟨p, rest, h1, h2, h3⟩ := parts_split t l'
        simp only [rowGo, if_true]
        cases hw : whole mem p with
        | some g =>
          have hm : mem l' = some (g, rest) := by
            rw [h2]
            refine hg.complete p g rest (whole_some hw) ?_
            rcases h3 with ⟨h3, _⟩ | ⟨r', h3, _⟩
            · exact .inl h3
            · exact .inr ⟨t, r', h3, hs⟩
          simp only [hm]
          rw [ih (jn f g) rest (by rw [h2] at hl'; simp at hl'; omega)]
          rcases h3 with ⟨h3, h4⟩ | ⟨r', h3, h4⟩
          · subst h3; rw [h4]; simp [foldFrom, hw]
          · subst h3; rw [h4]; simp [foldFrom, hw]
        | none =>
          have hr : foldFrom (whole mem) jn f (partsAt t l') = none := by
            rcases h3 with ⟨_, h4⟩ | ⟨r', _, h4⟩ <;> rw [h4] <;> simp [foldFrom, hw]
          rw [hr]
          cases hm : mem l' with
          | none => rfl
          | some x =>
            obtain ⟨g, r⟩ := x
            simp only []
            obtain ⟨p', e1, e2, e3⟩ := hg.sound l' g r hm
            have hp' : ∀ u ∈ p', u ≠ t := fun u hu hut => e3 u hu (by rw [hut]; exact hs)
            have hrk : r.length ≤ k := by rw [e1] at hl'; simp at hl'; omega
            rw [ih (jn f g) r hrk]
            cases r with
            | nil =>
              exfalso
              rw [List.append_nil] at e1
              subst e1
              have := parts_end t l' hp'
              rcases h3 with ⟨_, h4⟩ | ⟨r', _, h4⟩ <;> rw [h4] at this <;> simp at this
              · subst this; rw [whole_of e2] at hw; cases hw
              · obtain ⟨this, hx⟩ := this
                subst this; rw [whole_of e2] at hw; cases hw
            | cons t' r'' =>
              by_cases c : t' = t
              · exfalso
                subst c
                have := parts_app t' p' r'' hp'
                rw [← e1] at this
                have hpp : p = p' := by
                  rcases h3 with ⟨_, h4⟩ | ⟨r', _, h4⟩ <;> rw [h4] at this
                  · injection this
                  · injection this
                rw [hpp, whole_of e2] at hw
                cases hw
              · simp [c]
      · simp [rowGo, c]

theorem row_whole (hg : Good mem Stop) (hs : Stop sep) (l : List T) : whole (rowP mem sep jn) l = foldB (whole mem) jn (partsAt sep l) := by
  obtain ⟨p, rest, h1, h2, h3⟩ := parts_split sep l
  show (match rowP mem sep jn l with
    | some (f, []) => some f
    | _ => none) = _
  unfold rowP
  cases hw : whole mem p with
  | some g =>
    have hm : mem l = some (g, rest) := by
      rw [h2]
      refine hg.complete p g rest (whole_some hw) ?_
      rcases h3 with ⟨h3, _⟩ | ⟨r', h3, _⟩
      · exact .inl h3
      · exact .inr ⟨sep, r', h3, hs⟩
    simp only [hm]
    have hk := rowGo_whole (jn := jn) hg hs rest.length g rest (Nat.le_refl _)
    rw [hk]
    rcases h3 with ⟨h3, h4⟩ | ⟨r', h3, h4⟩
    · subst h3; rw [h4]; simp [foldB, hw, foldFrom]
    · subst h3; rw [h4]; simp [foldB, hw]
  | none =>
    have hr : foldB (whole mem) jn (partsAt sep l) = none := by
      rcases h3 with ⟨_, h4⟩ | ⟨r', _, h4⟩ <;> rw [h4] <;> simp [foldB, hw]
    change _ = foldB (whole mem) jn (partsAt sep l)
    rw [hr]
    cases hm : mem l with
    | none => rfl
    | some x =>
      obtain ⟨g, r⟩ := x
      simp only []
      obtain ⟨p', e1, e2, e3⟩ := hg.sound l g r hm
      have hp' : ∀ u ∈ p', u ≠ sep := fun u hu hut => e3 u hu (by rw [hut]; exact hs)
      have hk := rowGo_whole (jn := jn) hg hs r.length g r (Nat.le_refl _)
      rw [hk]
      cases r with
      | nil =>
        exfalso
        rw [List.append_nil] at e1
        subst e1
        have := parts_end sep l hp'
        rcases h3 with ⟨_, h4⟩ | ⟨r', _, h4⟩ <;> rw [h4] at this <;> simp at this
        · subst this; rw [whole_of e2] at hw; cases hw
        · obtain ⟨this, hx⟩ := this
          subst this; rw [whole_of e2] at hw; cases hw
      | cons t' r'' =>
        by_cases c : t' = sep
        · exfalso
          subst c
          have := parts_app t' p' r'' hp'
          rw [← e1] at this
          have hpp : p = p' := by
            rcases h3 with ⟨_, h4⟩ | ⟨r', _, h4⟩ <;> rw [h4] at this
            · injection this
            · injection this
          rw [hpp, whole_of e2] at hw
          cases hw
        · simp [c]

theorem rowGo_sound (hg : Good mem Stop) (hs : Stop sep) (Stop' : T → Prop) (h' : ∀ t, Stop' t → Stop t ∧ t ≠ sep) : ∀ (k : Nat) (f : Sem) (l : List T) (g : Sem) (r : List T), l.length ≤ k → rowGo mem sep jn k f l = some (g, r) →
    ∃ p, l = p ++ r ∧ (p = [] ∨ ∃ p', p = sep :: p') ∧ (∀ k', p.length ≤ k' → rowGo mem sep jn k' f p = some (g, [])) ∧ ∀ t ∈ p, ¬ Stop' t := by
  intro k
  induction k with
  | zero =>
    intro f l g r hl h
    obtain rfl : l = [] := List.length_eq_zero_iff.1 (by omega)
    simp [rowGo] at h
    obtain ⟨rfl, rfl⟩ := h
    refine ⟨[], rfl, .inl rfl, ?_, by simp⟩
    intro k' _
    cases k' <;> rfl
  | succ k ih =>
    intro f l g r hl h
    cases l with
    | nil =>
      simp [rowGo] at h
      obtain ⟨rfl, rfl⟩ := h
      refine ⟨[], rfl, .inl rfl, ?_, by simp⟩
      intro k' _
      cases k' <;> rfl
    | cons t l' =>
      by_cases c : t = sep
      · subst c
        simp only [rowGo, if_true] at h
        cases hm : mem l' with
        | none => simp [hm] at h
        | some x =>
          obtain ⟨g1, r1⟩ := x
          simp only [hm] at h
          obtain ⟨p1, e1, e2, e3⟩ := hg.sound l' g1 r1 hm
          have hk : r1.length ≤ k := by
            have : l'.length ≤ k := by simpa using hl
            rw [e1] at this; simp at this; omega
          obtain ⟨p2, q1, q2, q3, q4⟩ := ih (jn f g1) r1 g r hk h
          refine ⟨t :: (p1 ++ p2), by rw [e1, q1]; simp, .inr ⟨_, rfl⟩, ?_, ?_⟩
          · intro k' hk'
            cases k' with
            | zero => simp at hk'
            | succ k' =>
              simp only [rowGo, if_true]
              have : mem (p1 ++ p2) = some (g1, p2) := by
                refine hg.complete p1 g1 p2 e2 ?_
                rcases q2 with rfl | ⟨p', rfl⟩
                · exact .inl rfl
                · exact .inr ⟨t, p', rfl, hs⟩
              rw [this]
              exact q3 k' (by simp at hk'; omega)
          · intro u hu hS
            rcases List.mem_cons.1 hu with rfl | hu
            · exact (h' u hS).2 rfl
            · rcases List.mem_append.1 hu with hu | hu
              · exact e3 u hu (h' u hS).1
              · exact q4 u hu hS
      · simp only [rowGo, c, if_false, Option.some.injEq, Prod.mk.injEq] at h
        obtain ⟨rfl, rfl⟩ := h
        refine ⟨[], rfl, .inl rfl, ?_, by simp⟩
        intro k' _
        cases k' <;> rfl

theorem rowGo_complete (hg : Good mem Stop) (hs : Stop sep) (Stop' : T → Prop) (h' : ∀ t, Stop' t → Stop t ∧ t ≠ sep) : ∀ (k : Nat) (f : Sem) (p : List T) (g : Sem) (r : List T), p.length ≤ k → rowGo mem sep jn k f p = some (g, []) →
    (r = [] ∨ ∃ t r', r = t :: r' ∧ Stop' t) → ∀ k', (p ++ r).length ≤ k' → rowGo mem sep jn k' f (p ++ r) = some (g, r) := by
  intro k
  induction k with
  | zero =>
    intro f p g r hl h hr k' hk'
    obtain rfl : p = [] := List.length_eq_zero_iff.1 (by omega)
    simp [rowGo] at h
    subst h
    rcases hr with rfl | ⟨t, r', rfl, hS⟩
    · cases k' <;> rfl
    · cases k' with
      | zero => simp at hk'
      | succ k' => simp [rowGo, (h' t hS).2]
  | succ k ih =>
    intro f p g r hl h hr k' hk'
    cases p with
    | nil =>
      simp [rowGo] at h
      subst h
      rcases hr with rfl | ⟨t, r', rfl, hS⟩
      · cases k' <;> rfl
      · cases k' with
        | zero => simp at hk'
        | succ k' => simp [rowGo, (h' t hS).2]
    | cons t p' =>
      by_cases c : t = sep
      · subst c
        simp only [rowGo, if_true] at h
        cases hm : mem p' with
        | none => simp [hm] at h
        | some x =>
          obtain ⟨g1, r1⟩ := x
          simp only [hm] at h
          obtain ⟨p1, e1, e2, e3⟩ := hg.sound p' g1 r1 hm
          have hk : r1.length ≤ k := by
            have : p'.length ≤ k := by simpa using hl
            rw [e1] at this; simp at this; omega
          cases k' with
          | zero => simp at hk'
          | succ k' =>
            simp only [List.cons_append, rowGo, if_true]
            have hc : r1 ++ r = [] ∨ ∃ t r', r1 ++ r = t :: r' ∧ Stop t := by
              cases r1 with
              | nil =>
                rcases hr with rfl | ⟨t, r', rfl, hS⟩
                · exact .inl rfl
                · exact .inr ⟨t, r', rfl, (h' t hS).1⟩
              | cons u r1' =>
                right
                refine ⟨u, r1' ++ r, rfl, ?_⟩
                cases k with
                | zero => simp at hk
                | succ k =>
                  by_cases c : u = t
                  · rw [c]; exact hs
                  · simp [rowGo, c] at h
            have : mem (p' ++ r) = some (g1, r1 ++ r) := by
              rw [e1, List.append_assoc]
              exact hg.complete p1 g1 (r1 ++ r) e2 hc
            rw [this]
            refine ih (jn f g1) r1 g r hk h hr k' ?_
            rw [e1] at hk'
            simp at hk' ⊢
            omega
      · simp [rowGo, c] at h

theorem row_good (hg : Good mem Stop) (hs : Stop sep) (Stop' : T → Prop) (h' : ∀ t, Stop' t → Stop t ∧ t ≠ sep) : Good (rowP mem sep jn) Stop' := by
  constructor
  · intro l f r h
    unfold rowP at h
    cases hm : mem l with
    | none => simp [hm] at h
    | some x =>
      obtain ⟨g1, r1⟩ := x
      simp only [hm] at h
      obtain ⟨p1, e1, e2, e3⟩ := hg.sound l g1 r1 hm
      obtain ⟨p2, q1, q2, q3, q4⟩ := rowGo_sound hg hs Stop' h' r1.length g1 r1 f r (Nat.le_refl _) h
      refine ⟨p1 ++ p2, by rw [e1, q1]; simp, ?_, ?_⟩
      · unfold rowP
        have : mem (p1 ++ p2) = some (g1, p2) := by
          refine hg.complete p1 g1 p2 e2 ?_
          rcases q2 with rfl | ⟨p', rfl⟩
          · exact .inl rfl
          · exact .inr ⟨sep, p', rfl, hs⟩
        rw [this]
        exact q3 _ (Nat.le_refl _)
      · intro u hu hS
        rcases List.mem_append.1 hu with hu | hu
        · exact e3 u hu (h' u hS).1
        · exact q4 u hu hS
  · intro p f r h hr
    unfold rowP at h ⊢
    cases hm : mem p with
    | none => simp [hm] at h
    | some x =>
      obtain ⟨g1, r1⟩ := x
      simp only [hm] at h
      obtain ⟨p1, e1, e2, e3⟩ := hg.sound p g1 r1 hm
      have hc : r1 ++ r = [] ∨ ∃ t r', r1 ++ r = t :: r' ∧ Stop t := by
        cases r1 with
        | nil =>
          rcases hr with rfl | ⟨t, r', rfl, hS⟩
          · exact .inl rfl
          · exact .inr ⟨t, r', rfl, (h' t hS).1⟩
        | cons u r1' =>
          right
          refine ⟨u, r1' ++ r, rfl, ?_⟩
          by_cases c : u = sep
          · rw [c]; exact hs
          · simp [rowGo, c] at h
      have : mem (p ++ r) = some (g1, r1 ++ r) := by
        rw [e1, List.append_assoc]
        exact hg.complete p1 g1 (r1 ++ r) e2 hc
      rw [this]
      exact rowGo_complete hg hs Stop' h' r1.length g1 r1 f r (Nat.le_refl _) h hr _ (Nat.le_refl _)
end Go.Proofs.YtaepcfidpekflaaGreatDoor.Pr
namespace Go.Proofs.YtaepcfidpekflaaGreatDoor.Pr

def StopO (t : T) : Prop := t = [111, 114]
def StopA (t : T) : Prop := t = [97, 110, 100] ∨ t = [111, 114]
def StopI (t : T) : Prop := t = [44] ∨ StopA t

theorem good_none (S : T → Prop) : Good (fun _ => none) S := ⟨fun _ _ _ h => (by cases h), fun _ _ _ h => (by cases h)⟩
theorem good_ret (S : T → Prop) (F : Sem) : Good (fun l => some (F, l)) S := by
  constructor
  · intro l f r h
    simp only [Option.some.injEq, Prod.mk.injEq] at h
    obtain ⟨rfl, rfl⟩ := h
    exact ⟨[], rfl, rfl, by simp⟩
  · intro p f r h _
    simp only [Option.some.injEq, Prod.mk.injEq] at h
    obtain ⟨rfl, rfl⟩ := h
    rfl
theorem fig_dig {t : T} {v : Nat} (h : fig t = some v) : Pn.digitsB t = true := by
  unfold fig at h
  split at h
  · rename_i c; exact c.1
  · cases h
theorem good_value (S : T → Prop) (k : Nat → Rd) (hk : ∀ v, Good (k v) S) (hS : ∀ t, S t → Pn.digitsB t = false) : Good (valueP k) S := by
  constructor
  · intro l f r h
    cases l with
    | nil => simp [valueP, value] at h
    | cons t l =>
      cases hv : fig t with
      | none => simp [valueP, value, hv] at h
      | some v =>
        simp only [valueP, value, hv] at h
        obtain ⟨p, e1, e2, e3⟩ := (hk v).sound l f r h
        refine ⟨t :: p, by rw [e1]; rfl, by simp only [valueP, value, hv]; exact e2, ?_⟩
        intro u hu hs
        rcases List.mem_cons.1 hu with rfl | hu
        · have := hS u hs; rw [fig_dig hv] at this; cases this
        · exact e3 u hu hs
  · intro p f r h hr
    cases p with
    | nil => simp [valueP, value] at h
    | cons t l =>
      cases hv : fig t with
      | none => simp [valueP, value, hv] at h
      | some v =>
        simp only [valueP, value, hv] at h
        simp only [List.cons_append, valueP, value, hv]
        exact (hk v).complete l f r h hr
theorem sound_cons {S : T → Prop} {q m : Rd} {t : T} (hq : Good q S) (ht : ¬ S t) (hm : ∀ l, m (t :: l) = q l) {l : List T} {f : Sem} {r : List T} (h : m (t :: l) = some (f, r)) :
    ∃ p, t :: l = p ++ r ∧ m p = some (f, []) ∧ ∀ u ∈ p, ¬ S u := by
  rw [hm] at h
  obtain ⟨p, e1, e2, e3⟩ := hq.sound l f r h
  refine ⟨t :: p, by rw [e1]; rfl, by rw [hm]; exact e2, ?_⟩
  intro u hu
  rcases List.mem_cons.1 hu with rfl | hu
  · exact ht
  · exact e3 u hu
theorem complete_cons {S : T → Prop} {q m : Rd} {t : T} (hq : Good q S) (hm : ∀ l, m (t :: l) = q l) {p : List T} {f : Sem} {r : List T} (h : m (t :: p) = some (f, [])) (hr : r = [] ∨ ∃ t r', r = t :: r' ∧ S t) :
    m (t :: p ++ r) = some (f, r) := by
  rw [hm] at h
  rw [List.cons_append, hm]
  exact hq.complete p f r h hr

theorem stopI_dig (t : T) (h : StopI t) : Pn.digitsB t = false := by
  rcases h with rfl | rfl | rfl <;> decide
theorem stopA_dig (t : T) (h : StopA t) : Pn.digitsB t = false := stopI_dig t (.inr h)

theorem good_itemK (o : Opd) (wi : Bool) (lo : Nat) : Good (itemK o wi lo) StopI := by
  have hv : Good (valueP (fun hi l => if hi < lo then none else some (inS o wi lo hi, l))) StopI := by
    refine good_value _ _ (fun hi => ?_) stopI_dig
    by_cases c : hi < lo
    · simp only [c, if_true]; exact good_none _
    · simp only [c, if_false]; exact good_ret _ _
  have hd : ∀ l, itemK o wi lo ([46, 46] :: l) = valueP (fun hi l => if hi < lo then none else some (inS o wi lo hi, l)) l := fun l => by simp [itemK]
  constructor
  · intro l f r h
    cases l with
    | nil =>
      simp only [itemK, Option.some.injEq, Prod.mk.injEq] at h
      obtain ⟨rfl, rfl⟩ := h
      exact ⟨[], rfl, rfl, by simp⟩
    | cons t l =>
      by_cases c : t = [46, 46]
      · subst c
        exact sound_cons hv (by intro h; rcases h with h | h | h <;> cases h) hd h
      · simp only [itemK, c, if_false, Option.some.injEq, Prod.mk.injEq] at h
        obtain ⟨rfl, rfl⟩ := h
        exact ⟨[], rfl, rfl, by simp⟩
  · intro p f r h hr
    cases p with
    | nil =>
      simp only [itemK, Option.some.injEq, Prod.mk.injEq] at h
      obtain ⟨rfl, _⟩ := h
      rcases hr with rfl | ⟨t, r', rfl, hS⟩
      · rfl
      · have : t ≠ [46, 46] := by rintro rfl; rcases hS with h | h | h <;> cases h
        simp [itemK, this]
    | cons t l =>
      by_cases c : t = [46, 46]
      · subst c
        exact complete_cons hv hd h hr
      · simp [itemK, c] at h
theorem good_item (o : Opd) (wi : Bool) : Good (itemP o wi) StopI := good_value _ _ (good_itemK o wi) stopI_dig
theorem good_list (o : Opd) (n wi : Bool) : Good (listP o n wi) StopA := by
  have hg : Good (rowP (itemP o wi) [44] orS) StopA := row_good (good_item o wi) (.inl rfl) StopA (fun t h => ⟨.inr h, by rcases h with rfl | rfl <;> decide⟩)
  constructor
  · intro l f r h
    unfold listP at h
    cases hm : rowP (itemP o wi) [44] orS l with
    | none => simp [hm] at h
    | some x =>
      obtain ⟨g, r1⟩ := x
      simp only [hm, Option.some.injEq, Prod.mk.injEq] at h
      obtain ⟨rfl, rfl⟩ := h
      obtain ⟨p, e1, e2, e3⟩ := hg.sound l g r1 hm
      exact ⟨p, e1, by simp only [listP, e2], e3⟩
  · intro p f r h hr
    unfold listP at h ⊢
    cases hm : rowP (itemP o wi) [44] orS p with
    | none => simp [hm] at h
    | some x =>
      obtain ⟨g, r1⟩ := x
      simp only [hm, Option.some.injEq, Prod.mk.injEq] at h
      obtain ⟨rfl, rfl⟩ := h
      rw [hg.complete p g r hm hr]
theorem good_is (o : Opd) (n : Bool) : Good (isP o n) StopA := good_value _ _ (fun _ => good_ret _ _) stopA_dig
theorem good_isN (o : Opd) : Good (isN o) StopA := by
  have hd : ∀ l, isN o ([110, 111, 116] :: l) = isP o true l := fun l => by simp [isN]
  constructor
  · intro l f r h
    cases l with
    | nil => cases h
    | cons t l =>
      by_cases c : t = [110, 111, 116]
      · subst c
        exact sound_cons (good_is o true) (by intro h; rcases h with h | h <;> cases h) hd h
      · simp only [isN, c, if_false] at h
        obtain ⟨p, e1, e2, e3⟩ := (good_is o false).sound _ f r h
        refine ⟨p, e1, ?_, e3⟩
        cases p with
        | nil => simp [isP, valueP, value] at e2
        | cons u p =>
          have : u = t := by simp at e1; exact e1.1.symm
          subst this
          simp only [isN, c, if_false]; exact e2
  · intro p f r h hr
    cases p with
    | nil => cases h
    | cons t l =>
      by_cases c : t = [110, 111, 116]
      · subst c
        exact complete_cons (good_is o true) hd h hr
      · simp only [isN, c, if_false] at h
        simp only [List.cons_append, isN, c, if_false]
        exact (good_is o false).complete _ f r h hr
theorem good_inN (o : Opd) (n : Bool) : Good (inN o n) StopA := by
  have h1 : ∀ l, inN o n ([105, 110] :: l) = listP o n false l := fun l => by simp [inN]
  have h2 : ∀ l, inN o n ([119, 105, 116, 104, 105, 110] :: l) = listP o n true l := fun l => by simp [inN]
  constructor
  · intro l f r h
    cases l with
    | nil => cases h
    | cons t l =>
      by_cases c : t = [105, 110]
      · subst c
        exact sound_cons (good_list o n false) (by intro h; rcases h with h | h <;> cases h) h1 h
      · by_cases c2 : t = [119, 105, 116, 104, 105, 110]
        · subst c2
          exact sound_cons (good_list o n true) (by intro h; rcases h with h | h <;> cases h) h2 h
        · simp [inN, c, c2] at h
  · intro p f r h hr
    cases p with
    | nil => cases h
    | cons t l =>
      by_cases c : t = [105, 110]
      · subst c
        exact complete_cons (good_list o n false) h1 h hr
      · by_cases c2 : t = [119, 105, 116, 104, 105, 110]
        · subst c2
          exact complete_cons (good_list o n true) h2 h hr
        · simp [inN, c, c2] at h
theorem good_how (o : Opd) : Good (howP o) StopA := by
  have h1 : ∀ l, howP o ([61] :: l) = listP o false false l := fun l => by simp [howP]
  have h2 : ∀ l, howP o ([33, 61] :: l) = listP o true false l := fun l => by simp [howP]
  have h3 : ∀ l, howP o ([105, 115] :: l) = isN o l := fun l => by simp [howP]
  have h4 : ∀ l, howP o ([110, 111, 116] :: l) = inN o true l := fun l => by simp [howP]
  constructor
  · intro l f r h
    cases l with
    | nil => cases h
    | cons t l =>
      by_cases c1 : t = [61]
      · subst c1; exact sound_cons (good_list o _ _) (by intro h; rcases h with h | h <;> cases h) h1 h
      by_cases c2 : t = [33, 61]
      · subst c2; exact sound_cons (good_list o _ _) (by intro h; rcases h with h | h <;> cases h) h2 h
      by_cases c3 : t = [105, 115]
      · subst c3; exact sound_cons (good_isN o) (by intro h; rcases h with h | h <;> cases h) h3 h
      by_cases c4 : t = [110, 111, 116]
      · subst c4; exact sound_cons (good_inN o true) (by intro h; rcases h with h | h <;> cases h) h4 h
      simp only [howP, c1, c2, c3, c4, if_false] at h
      obtain ⟨p, e1, e2, e3⟩ := (good_inN o false).sound _ f r h
      refine ⟨p, e1, ?_, e3⟩
      cases p with
      | nil => cases e2
      | cons u p =>
        have : u = t := by simp at e1; exact e1.1.symm
        subst this
        simp only [howP, c1, c2, c3, c4, if_false]; exact e2
  · intro p f r h hr
    cases p with
    | nil => cases h
    | cons t l =>
      by_cases c1 : t = [61]
      · subst c1; exact complete_cons (good_list o _ _) h1 h hr
      by_cases c2 : t = [33, 61]
      · subst c2; exact complete_cons (good_list o _ _) h2 h hr
      by_cases c3 : t = [105, 115]
      · subst c3; exact complete_cons (good_isN o) h3 h hr
      by_cases c4 : t = [110, 111, 116]
      · subst c4; exact complete_cons (good_inN o true) h4 h hr
      simp only [howP, c1, c2, c3, c4, if_false] at h
      simp only [List.cons_append, howP, c1, c2, c3, c4, if_false]
      exact (good_inN o false).complete _ f r h hr
theorem good_mod (o : Opd) : Good (modP o) StopA := by
  have hv : Good (valueP (fun m r => if m = 0 then none else howP (modS o m) r)) StopA := by
    refine good_value _ _ (fun m => ?_) stopA_dig
    by_cases c : m = 0
    · simp only [c, if_true]; exact good_none _
    · simp only [c, if_false]; exact good_how _
  constructor
  · intro l f r h
    cases l with
    | nil => cases h
    | cons t l =>
      by_cases c : t = [109, 111, 100] ∨ t = [37]
      · exact sound_cons hv (by rintro (rfl | rfl) <;> rcases c with h | h <;> cases h) (fun l => by simp only [modP, c, if_true]) h
      · simp only [modP, c, if_false] at h
        obtain ⟨p, e1, e2, e3⟩ := (good_how o).sound _ f r h
        refine ⟨p, e1, ?_, e3⟩
        cases p with
        | nil => cases e2
        | cons u p =>
          have : u = t := by simp at e1; exact e1.1.symm
          subst this
          simp only [modP, c, if_false]; exact e2
  · intro p f r h hr
    cases p with
    | nil => cases h
    | cons t l =>
      by_cases c : t = [109, 111, 100] ∨ t = [37]
      · exact complete_cons hv (fun l => by simp only [modP, c, if_true]) h hr
      · simp only [modP, c, if_false] at h
        simp only [List.cons_append, modP, c, if_false]
        exact (good_how o).complete _ f r h hr
theorem opd_and : opd [97, 110, 100] = none := by decide
theorem opd_or : opd [111, 114] = none := by decide
theorem good_rel : Good relP StopA := by
  constructor
  · intro l f r h
    cases l with
    | nil => cases h
    | cons t l =>
      cases ho : opd t with
      | none => simp [relP, ho] at h
      | some o => exact sound_cons (good_mod o) (by rintro (rfl | rfl) <;> revert ho <;> simp [opd]) (fun l => by simp only [relP, ho]) h
  · intro p f r h hr
    cases p with
    | nil => cases h
    | cons t l =>
      cases ho : opd t with
      | none => simp [relP, ho] at h
      | some o => exact complete_cons (good_mod o) (fun l => by simp only [relP, ho]) h hr
theorem good_and : Good andP StopO := row_good good_rel (.inl rfl) StopO (fun t h => ⟨.inr h, by rw [show t = _ from h]; decide⟩)

/-- A condition, parted at 'or', then at 'and'. -/
theorem cond_parts (l : List T) : condP l = foldB (fun p => foldB (whole relP) andS (partsAt [97, 110, 100] p)) orS (partsAt [111, 114] l) := by
  have h1 : condP l = whole orP l := rfl
  rw [h1, orP, row_whole good_and (sep := [111, 114]) (jn := orS) rfl]
  have : whole andP = fun p => foldB (whole relP) andS (partsAt [97, 110, 100] p) := by
    funext p
    rw [andP, row_whole good_rel (sep := [97, 110, 100]) (jn := andS) (.inl rfl)]
  rw [this]
theorem list_parts (o : Opd) (n wi : Bool) (l : List T) : whole (listP o n wi) l = (foldB (whole (itemP o wi)) orS (partsAt [44] l)).map fun f => turnS f n := by
  rw [← row_whole (good_item o wi) (sep := [44]) (jn := orS) (.inl rfl)]
  unfold whole listP
  cases rowP (itemP o wi) [44] orS l with
  | none => rfl
  | some x =>
    obtain ⟨f, r⟩ := x
    cases r <;> rfl
end Go.Proofs.YtaepcfidpekflaaGreatDoor.Pr
