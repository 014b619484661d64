/-
  Several texts in one (Qn, Qo, Ra, Sa, Kb). By the verifier.
-/
import Derived.Test.YtaepcfidpekflaaGreatDoorZ03
import Derived.Test.YtaepcfidpekflaaGreatDoorZ04
import Derived.WalkSpells
import Derived.WalkLawsBesides
import Derived.Deep.DeepCutAuto
import Derived.Deep.CutBlock
import Derived.Deep.RegionWith
import Derived.Outline
import Derived.Laws.AppendOwn
import Derived.Laws.OwnMore
import Derived.OwnWalk
import Derived.Test.YtaepcfidpekflaaGreatDoorProg
import Derived.Test.YtaepcfidpekflaaGreatDoorZ01
import Derived.WalkKit
import Derived.BigQuiet
import Derived.OneCell
namespace Go.Proofs.YtaepcfidpekflaaGreatDoor
open Go.RowKit

theorem idx_run (p : Nat → Bool) (hp : ∀ x, p x = true → x < 128) (s : ByteArray) : ∀ (f pos : Nat), pos ≤ s.size → s.size ≤ pos + f →
    Lib.idxFuncFrom p false s f pos = if pos + ((s.data.toList.drop pos).takeWhile fun c => p c.toNat).length = s.size then -1 else ((pos + ((s.data.toList.drop pos).takeWhile fun c => p c.toNat).length : Nat) : Int) := by
  intro f
  induction f with
  | zero =>
    intro pos h1 h2
    have : pos = s.size := by omega
    subst this
    rw [List.drop_eq_nil_of_le (by rw [Lib.size_eq]; exact Nat.le_refl _)]
    simp [Lib.idxFuncFrom]
  | succ f ih =>
    intro pos h1 h2
    by_cases hlt : pos < s.size
    · have hlt' : pos < s.data.toList.length := by rw [← Lib.size_eq]; exact hlt
      rw [List.drop_eq_getElem_cons hlt']
      have hg : s.data.toList[pos] = s[pos] := rfl
      rw [hg]
      simp only [Lib.idxFuncFrom, hlt, if_true]
      by_cases hc : s[pos].toNat < 128
      · rw [decode_ascii s pos hlt hc]
        simp only []
        cases hpc : p s[pos].toNat with
        | false =>
          rw [if_pos rfl, List.takeWhile_cons_of_neg (by simp [hpc])]
          simp
          omega
        | true =>
          rw [if_neg (by simp), ih (pos + 1) (by omega) (by omega), List.takeWhile_cons_of_pos (by simp [hpc])]
          simp only [List.length_cons]
          rw [show pos + (((s.data.toList.drop (pos + 1)).takeWhile fun c => p c.toNat).length + 1) = pos + 1 + ((s.data.toList.drop (pos + 1)).takeWhile fun c => p c.toNat).length by omega]
      · have hd := (decode_high s pos hlt (by omega)).1
        have h1' : p (Utf8.decode s pos).1 = false := by
          cases e : p (Utf8.decode s pos).1 with
          | false => rfl
          | true => have := hp _ e; omega
        have h2' : p s[pos].toNat = false := by
          cases e : p s[pos].toNat with
          | false => rfl
          | true => have := hp _ e; omega
        rw [if_pos h1', List.takeWhile_cons_of_neg (by simp [h2'])]
        simp
        omega
    · have : pos = s.size := by omega
      subst this
      rw [Lib.idxFuncFrom_end _ _ _ _ _ hlt, List.drop_eq_nil_of_le (by rw [Lib.size_eq]; exact Nat.le_refl _)]
      simp
theorem trim_run (p : Nat → Bool) (hp : ∀ x, p x = true → x < 128) (s : ByteArray) : (Lib.trimLeftF p s).size = s.size - (s.data.toList.takeWhile fun c => p c.toNat).length := by
  have h := idx_run p hp s s.size 0 (Nat.zero_le _) (by omega)
  simp only [List.drop_zero, Nat.zero_add] at h
  have hle : (s.data.toList.takeWhile fun c => p c.toNat).length ≤ s.size := by
    rw [Lib.size_eq]; exact (List.takeWhile_prefix _).length_le
  unfold Lib.trimLeftF Lib.idxFunc
  rw [h]
  split
  · rename_i e
    rw [if_pos rfl, e]
    simp
    rfl
  · rw [if_neg (by omega)]
    simp

def letP (x : Nat) : Bool := decide (97 ≤ x ∧ x ≤ 122)
def digP (x : Nat) : Bool := decide (48 ≤ x ∧ x ≤ 57)
theorem enters_isLetter : Enters 184 := enters_of Tryz.func184 (by kernel_rfl) rfl
theorem enters_isDigit : Enters 186 := enters_of Tryz.func186 (by kernel_rfl) rfl
theorem ret_bb {a b : Bool} (h : a = b) : Ending.returned (.bool b) = .returned (.bool a) := by rw [h]
set_option maxHeartbeats 400000 in
theorem isLetter_any (x : Nat) (w : World) : Calls Tryz.prog 184 #[.int .i32 x] w fun e w' => e = .returned (.bool (letP x)) ∧ w' = w := by
  by_cases h1 : 97 ≤ x
  · have h1' : (97 : Int) ≤ x := by omega
    have hR : Hid (letP x = decide ((x : Int) ≤ 122)) := by
      show _ = _
      simp only [letP, decide_eq_decide]
      omega
    clear h1
    go_enter Tryz.func184, Tryz.ntmps184
    go_wp2
    go_ret
    exact ⟨ret_bb hR.out, rfl⟩
  · have h1' : ¬ (97 : Int) ≤ x := by omega
    have hR : Hid (letP x = false) := by
      show _ = _
      simp only [letP, decide_eq_false_iff_not]
      omega
    clear h1
    go_enter Tryz.func184, Tryz.ntmps184
    go_wp2
    go_ret
    exact ⟨ret_bb hR.out, rfl⟩
set_option maxHeartbeats 400000 in
theorem isDigit_any (x : Nat) (w : World) : Calls Tryz.prog 186 #[.int .i32 x] w fun e w' => e = .returned (.bool (digP x)) ∧ w' = w := by
  by_cases h1 : 48 ≤ x
  · have h1' : (48 : Int) ≤ x := by omega
    have hR : Hid (digP x = decide ((x : Int) ≤ 57)) := by
      show _ = _
      simp only [digP, decide_eq_decide]
      omega
    clear h1
    go_enter Tryz.func186, Tryz.ntmps186
    go_wp2
    go_ret
    exact ⟨ret_bb hR.out, rfl⟩
  · have h1' : ¬ (48 : Int) ≤ x := by omega
    have hR : Hid (digP x = false) := by
      show _ = _
      simp only [digP, decide_eq_false_iff_not]
      omega
    clear h1
    go_enter Tryz.func186, Tryz.ntmps186
    go_wp2
    go_ret
    exact ⟨ret_bb hR.out, rfl⟩
theorem pred_of (g : Nat) (p : Nat → Bool) (h : ∀ (x : Nat) (w : World), Calls Tryz.prog g #[.int .i32 x] w fun e w' => e = .returned (.bool (p x)) ∧ w' = w) (w : World) : PredAt Tryz.prog g #[] encR p w := fun W x _ =>
  (h x W).mono fun _ _ hh => ⟨hh.1, 0, hh.2⟩
set_option maxHeartbeats 800000 in
theorem lengthOfRun_any (g : Nat) (p : Nat → Bool) (eg : Enters g) (hp : ∀ x, p x = true → x < 128) (h : ∀ (x : Nat) (w : World), Calls Tryz.prog g #[.int .i32 x] w fun e w' => e = .returned (.bool (p x)) ∧ w' = w) (s : ByteArray) (hs : s.size ≤ 1000) (w : World) :
    Calls Tryz.prog 185 #[.string s, .func (.func g) #[] #[]] w fun e w' => e = .returned (.int .i64 (s.data.toList.takeWhile fun c => p c.toNat).length) ∧ Below w.heap.size w w' := by
  have ht := fun W => Tryz.strings_TrimLeftFunc g #[] eg p s W (pred_of g p h W)
  have hz := trim_run p hp s
  have hle : (s.data.toList.takeWhile fun c => p c.toNat).length ≤ s.size := by
    rw [Lib.size_eq]; exact (List.takeWhile_prefix _).length_le
  generalize (s.data.toList.takeWhile fun c => p c.toNat).length = n at *
  generalize Lib.trimLeftF p s = q at *
  have hw1 : IntKind.i64.wrap ((s.size : Int) - (q.size : Int)) = n := by rw [IntKind.wrap_i64, hz]; omega
  have hq : q.size ≤ 1000 := by omega
  clear hz
  go_enter Tryz.func185, Tryz.ntmps185
  go_wp2_with fail
  refine (ht _).mono ?_
  rintro e w1 ⟨rfl, hb1⟩
  clear ht
  go_wp2
  go_ret
  exact ⟨rfl, hb1⟩

theorem hasPre2 (c x y : UInt8) (r : List UInt8) : Lib.hasPrefix (c :: r) [x, y] = decide (c = x ∧ r.head? = some y) := by
  unfold Lib.hasPrefix
  cases r with
  | nil => simp [List.isPrefixOf]
  | cons d r =>
    by_cases h : x = c
    · subst h
      by_cases h2 : y = d
      · subst h2; simp [List.isPrefixOf]
      · have : ¬ d = y := fun e => h2 e.symm
        simp [List.isPrefixOf, h2, this]
    · have : ¬ c = x := fun e => h e.symm
      simp [List.isPrefixOf, h, this]
set_option maxHeartbeats 1600000 in
theorem lengthOfPart_any (c : UInt8) (r : List UInt8) (hs : r.length < 1000) (w : World) :
    Calls Tryz.prog 156 #[.string ⟨(c :: r).toArray⟩] w fun e w' => e = .returned (.int .i64 (Pr.partLen (c :: r))) ∧ Below w.heap.size w w' := by
  obtain ⟨s, hsd⟩ : ∃ s : ByteArray, Hid (s = ⟨(c :: r).toArray⟩) := ⟨_, rfl⟩
  rw [← hsd.out]
  have hz : s.size = r.length + 1 := by rw [hsd.out]; show (c :: r).toArray.size = _; simp
  have hpos : 0 < s.size := by omega
  have hl : s.data.toList = c :: r := by rw [hsd.out]
  have h0 : ∀ h, (s[0]'h).toNat = c.toNat := fun h => by
    have : s[0] = s.data.toList[0]'(by rw [hl]; simp) := rfl
    rw [this]
    simp [hl]
  have cl := fun W => lengthOfRun_any 184 letP enters_isLetter (fun x h => by simp [letP] at h; omega) isLetter_any s (by omega) W
  have cd := fun W => lengthOfRun_any 186 digP enters_isDigit (fun x h => by simp [digP] at h; omega) isDigit_any s (by omega) W
  rw [hl] at cl cd
  have p1 := fun W => Tryz.strings_HasPrefix s ⟨#[33, 61]⟩ W
  have p2 := fun W => Tryz.strings_HasPrefix s ⟨#[46, 46]⟩ W
  simp only [hl] at p1 p2
  rw [hasPre2] at p1 p2
  obtain ⟨R, hR⟩ : ∃ R, Hid (Pr.partLen (c :: r) = R) := ⟨_, rfl⟩
  rw [hR.out]
  clear hl
  have hq := UInt8.toNat_lt c
  have il := isLetter_any c.toNat
  have id := isDigit_any c.toNat
  cases h1 : letP c.toNat with
  | true =>
    rw [h1] at il
    have hRR : Hid (R = ((c :: r).takeWhile fun c => letP c.toNat).length) := by
      show _ = _
      rw [← hR.out, Pr.partLen, if_pos (show Pr.isLet c = true from h1)]
      rfl
    simp only [← hRR.out] at cl
    clear cd p1 p2 id
    go_enter Tryz.func156, Tryz.ntmps156
    go_wp2_with (first | (go_at_call 184; refine (il _).mono ?_; rintro e w1 ⟨rfl, rfl⟩) | (go_at_call 185; refine (cl _).mono ?_; rintro e w2 ⟨rfl, hb2⟩))
    go_ret
    exact ⟨rfl, hb2⟩
  | false =>
    rw [h1] at il
    have n1 : Pr.isLet c ≠ true := by rw [show Pr.isLet c = false from h1]; simp
    cases h2 : digP c.toNat with
    | true =>
      rw [h2] at id
      have hRR : Hid (R = ((c :: r).takeWhile fun c => digP c.toNat).length) := by
        show _ = _
        rw [← hR.out, Pr.partLen, if_neg n1, if_pos (show Pn.isDig c = true from h2)]
        rfl
      simp only [← hRR.out] at cd
      clear cl p1 p2
      go_enter Tryz.func156, Tryz.ntmps156
      go_wp2_with (first | (go_at_call 184; refine (il _).mono ?_; rintro e w1 ⟨rfl, rfl⟩) | (go_at_call 186; refine (id _).mono ?_; rintro e w1 ⟨rfl, rfl⟩) | (go_at_call 185; refine (cd _).mono ?_; rintro e w2 ⟨rfl, hb2⟩))
      go_ret
      exact ⟨rfl, hb2⟩
    | false =>
      rw [h2] at id
      have n2 : Pn.isDig c ≠ true := by rw [show Pn.isDig c = false from h2]; simp
      clear cl cd
      cases h3 : decide (c = 33 ∧ r.head? = some 61) with
      | true =>
        rw [h3] at p1
        have hRR : Hid (R = 2) := by
          show _ = _
          rw [← hR.out, Pr.partLen, if_neg n1, if_neg n2, if_pos (.inl (of_decide_eq_true h3))]
        clear h1 h2 h3 n1 n2
        go_enter Tryz.func156, Tryz.ntmps156
        go_wp2_with (first | (go_at_call 184; refine (il _).mono ?_; rintro e w1 ⟨rfl, rfl⟩) | (go_at_call 186; refine (id _).mono ?_; rintro e w1 ⟨rfl, rfl⟩))
        refine (p1 _).mono ?_
        rintro e w2 ⟨rfl, rfl⟩
        go_wp2
        go_ret
        exact ⟨by rw [hRR.out]; rfl, Below.refl _ _⟩
      | false =>
        rw [h3] at p1
        cases h4 : decide (c = 46 ∧ r.head? = some 46) with
        | true =>
          rw [h4] at p2
          have hRR : Hid (R = 2) := by
            show _ = _
            rw [← hR.out, Pr.partLen, if_neg n1, if_neg n2, if_pos (.inr (of_decide_eq_true h4))]
          clear h1 h2 h3 h4 n1 n2
          go_enter Tryz.func156, Tryz.ntmps156
          go_wp2_with (first | (go_at_call 184; refine (il _).mono ?_; rintro e w1 ⟨rfl, rfl⟩) | (go_at_call 186; refine (id _).mono ?_; rintro e w1 ⟨rfl, rfl⟩))
          refine (p1 _).mono ?_
          rintro e w2 ⟨rfl, rfl⟩
          go_wp2_with fail
          refine (p2 _).mono ?_
          rintro e w3 ⟨rfl, rfl⟩
          go_wp2
          go_ret
          exact ⟨by rw [hRR.out]; rfl, Below.refl _ _⟩
        | false =>
          rw [h4] at p2
          have n3 : ¬ (c = 33 ∧ r.head? = some 61 ∨ c = 46 ∧ r.head? = some 46) := fun h => h.elim (of_decide_eq_false h3) (of_decide_eq_false h4)
          have hRR : Hid (R = if c.toNat = 32 ∨ c.toNat = 61 ∨ c.toNat = 37 ∨ c.toNat = 44 then 1 else 0) := by
            show _ = _
            rw [← hR.out, Pr.partLen, if_neg n1, if_neg n2, if_neg n3]
            simp only [← UInt8.toNat_inj]
            rfl
          clear h1 h2 h3 h4 n1 n2 n3
          generalize c.toNat = q at *
          by_cases e1 : q = 32
          · subst e1
            go_enter Tryz.func156, Tryz.ntmps156
            go_wp2_with (first | (go_at_call 184; refine (il _).mono ?_; rintro e w1 ⟨rfl, rfl⟩) | (go_at_call 186; refine (id _).mono ?_; rintro e w1 ⟨rfl, rfl⟩))
            refine (p1 _).mono ?_
            rintro e w2 ⟨rfl, rfl⟩
            go_wp2_with fail
            refine (p2 _).mono ?_
            rintro e w3 ⟨rfl, rfl⟩
            go_wp2
            go_ret
            exact ⟨by rw [hRR.out]; rfl, Below.refl _ _⟩
          by_cases e2 : q = 61
          · subst e2
            go_enter Tryz.func156, Tryz.ntmps156
            go_wp2_with (first | (go_at_call 184; refine (il _).mono ?_; rintro e w1 ⟨rfl, rfl⟩) | (go_at_call 186; refine (id _).mono ?_; rintro e w1 ⟨rfl, rfl⟩))
            refine (p1 _).mono ?_
            rintro e w2 ⟨rfl, rfl⟩
            go_wp2_with fail
            refine (p2 _).mono ?_
            rintro e w3 ⟨rfl, rfl⟩
            go_wp2
            go_ret
            exact ⟨by rw [hRR.out]; rfl, Below.refl _ _⟩
          by_cases e3 : q = 37
          · subst e3
            go_enter Tryz.func156, Tryz.ntmps156
            go_wp2_with (first | (go_at_call 184; refine (il _).mono ?_; rintro e w1 ⟨rfl, rfl⟩) | (go_at_call 186; refine (id _).mono ?_; rintro e w1 ⟨rfl, rfl⟩))
            refine (p1 _).mono ?_
            rintro e w2 ⟨rfl, rfl⟩
            go_wp2_with fail
            refine (p2 _).mono ?_
            rintro e w3 ⟨rfl, rfl⟩
            go_wp2
            go_ret
            exact ⟨by rw [hRR.out]; rfl, Below.refl _ _⟩
          by_cases e4 : q = 44
          · subst e4
            go_enter Tryz.func156, Tryz.ntmps156
            go_wp2_with (first | (go_at_call 184; refine (il _).mono ?_; rintro e w1 ⟨rfl, rfl⟩) | (go_at_call 186; refine (id _).mono ?_; rintro e w1 ⟨rfl, rfl⟩))
            refine (p1 _).mono ?_
            rintro e w2 ⟨rfl, rfl⟩
            go_wp2_with fail
            refine (p2 _).mono ?_
            rintro e w3 ⟨rfl, rfl⟩
            go_wp2
            go_ret
            exact ⟨by rw [hRR.out]; rfl, Below.refl _ _⟩
          have hR0 : Hid (R = 0) := by
            show _ = _
            rw [hRR.out, if_neg (by omega)]
          have f1 : ((q : Int) == 32) = false := by rw [beq_eq_false_iff_ne]; omega
          have f2 : ((q : Int) == 61) = false := by rw [beq_eq_false_iff_ne]; omega
          have f3 : ((q : Int) == 37) = false := by rw [beq_eq_false_iff_ne]; omega
          have f4 : ((q : Int) == 44) = false := by rw [beq_eq_false_iff_ne]; omega
          clear e1 e2 e3 e4
          go_enter Tryz.func156, Tryz.ntmps156
          go_wp2_with (first | (go_at_call 184; refine (il _).mono ?_; rintro e w1 ⟨rfl, rfl⟩) | (go_at_call 186; refine (id _).mono ?_; rintro e w1 ⟨rfl, rfl⟩))
          refine (p1 _).mono ?_
          rintro e w2 ⟨rfl, rfl⟩
          go_wp2_with fail
          refine (p2 _).mono ?_
          rintro e w3 ⟨rfl, rfl⟩
          go_wp2
          go_ret
          exact ⟨by rw [hR0.out]; rfl, Below.refl _ _⟩
end Go.Proofs.YtaepcfidpekflaaGreatDoor
namespace Go.Proofs.YtaepcfidpekflaaGreatDoor
open Go.RowKit

theorem info_strQ : (Tryz.prog.info? 9).map (fun i => (i.zero, i.size, i.bytes)) = some (some (.string ⟨#[]⟩), 1, 16) := by kernel_rfl
theorem ex_take (t : Pr.T) (n : Nat) : (⟨t.toArray⟩ : ByteArray).extract 0 n = ⟨(t.take n).toArray⟩ := by
  rw [ByteArray.extract_mk]; simp
theorem ex_drop (t : Pr.T) (n : Nat) : (⟨t.toArray⟩ : ByteArray).extract n t.length = ⟨(t.drop n).toArray⟩ := by
  rw [ByteArray.extract_mk]
  simp
  rw [List.take_of_length_le (by simp)]
theorem part_le (l : Pr.T) : Pr.partLen l ≤ l.length := by
  cases l with
  | nil => simp [Pr.partLen]
  | cons c r =>
    by_cases h1 : Pr.isLet c = true
    · rw [Pr.partLen, if_pos h1]; exact (List.takeWhile_prefix _).length_le
    · by_cases h2 : Pn.isDig c = true
      · rw [Pr.partLen, if_neg h1, if_pos h2]; exact (List.takeWhile_prefix _).length_le
      · rw [Pr.partLen, if_neg h1, if_neg h2]
        split
        · rename_i h
          cases r with
          | nil => rcases h with ⟨_, h⟩ | ⟨_, h⟩ <;> cases h
          | cons d r => simp
        · split <;> simp
def strV (t : Pr.T) : Value := .string ⟨t.toArray⟩
theorem split_nil (k : Nat) : Pr.splitGo k [] = some [] := by cases k <;> rfl
theorem split_bad (k : Nat) (c : UInt8) (r : Pr.T) (h : Pr.partLen (c :: r) = 0) : Pr.splitGo (k + 1) (c :: r) = none := by simp [Pr.splitGo, h]
theorem split_step (k : Nat) (c : UInt8) (r : Pr.T) (h : Pr.partLen (c :: r) ≠ 0) (ps : List Pr.T) : (Pr.splitGo (k + 1) (c :: r)).map (ps ++ ·) =
    (Pr.splitGo k ((c :: r).drop (Pr.partLen (c :: r)))).map ((if c = 32 then ps else ps ++ [(c :: r).take (Pr.partLen (c :: r))]) ++ ·) := by
  simp only [Pr.splitGo, h, if_false]
  cases Pr.splitGo k ((c :: r).drop (Pr.partLen (c :: r))) with
  | none => rfl
  | some l =>
    by_cases hc : c = 32
    · simp [hc]
    · simp [hc]
/-- Texts in a row of the call's own. -/
def Parts (w : World) (B : Nat) (v : Value) (ps : List Pr.T) : Prop := w.ownsRow B 9 1 v ps.length (ps.map strV)

theorem Parts.keep {w w1 : World} {B : Nat} {v : Value} {ps : List Pr.T} (h : Parts w B v ps) (hb : Below w.heap.size w w1) : Parts w1 B v ps := by
  refine World.ownsRow.kept (row := none) h ⟨hb.os, hb.tape, hb.output, hb.size, fun k hk _ => hb.block k hk⟩ ?_
  cases e : v.ownBlock with
  | none => exact .inl rfl
  | some _ => exact .inr (by simp)
/-- What split answers. -/
def SplitSaid (w : World) (x : Option (List Pr.T)) (e : Ending) (w' : World) : Prop := Below w.heap.size w w' ∧ match x with
  | none => e = .returned (.tuple #[.slice none 0 0, errRule])
  | some ts => ∃ v, e = .returned (.tuple #[v, .nilIface]) ∧ Parts w' w.heap.size v ts ∧ ts.length ≤ 1000 ∧ ∀ t ∈ ts, t.length ≤ 1000
theorem parts_grow {w w1 w2 : World} {B : Nat} {v v' : Value} {ps : List Pr.T} {x : Pr.T} {o : Obj} (hown : Parts w1 B v ps) (hb : Below B w w1) (hB : B ≤ w1.heap.size) (hown' : w2.ownsRow B 9 1 v' (ps.length + 1) (ps.map strV ++ [strV x])) (hg : (w1.alloc o).grownBy w2 v.ownBlock) :
    Parts w2 B v' (ps ++ [x]) ∧ Below B w w2 := by
  refine ⟨by unfold Parts; simpa using hown', (hb.alloc hB o).grown hg (by simp; omega) fun k hk => (World.ownsRow.lt hown k hk).1⟩
theorem measure_drop (c : UInt8) (r : Pr.T) (n : Nat) (hn : n ≠ 0) (h : n ≤ r.length + 1) : (⟨((c :: r).drop n).toArray⟩ : ByteArray).size < (⟨(c :: r).toArray⟩ : ByteArray).size := by
  show ((c :: r).drop n).toArray.size < (c :: r).toArray.size
  simp
  omega

set_option maxHeartbeats 1600000 in
theorem split_any (l : Pr.T) (hl : l.length ≤ 1000) (w : World) :
    Calls Tryz.prog 124 #[.string ⟨l.toArray⟩] w fun e w' => SplitSaid w (Pr.toks l) e w' := by
  obtain ⟨i0, hi0, hz0, hz1, hz2⟩ := info_parts info_strQ
  have HI : Hid (Tryz.prog.info? 9 = some i0 ∧ i0.zero = some (.string ⟨#[]⟩) ∧ i0.size = 1 ∧ i0.bytes = 16) := ⟨hi0, hz0, hz1, hz2⟩
  clear hi0 hz0 hz1 hz2
  obtain ⟨S, hS⟩ : ∃ S, Hid (Pr.toks l = S) := ⟨_, rfl⟩
  rw [hS.out]
  go_enter Tryz.func124, Tryz.ntmps124
  go_wp2
  go_loopw [0, 4] (fun x v wr => ∃ (t : Pr.T) (ps : List Pr.T) (k : Nat), x = .string ⟨t.toArray⟩ ∧ t.length ≤ k ∧ ps.length + t.length ≤ l.length ∧ Hid (∀ t ∈ ps, t.length ≤ 1000) ∧ Parts wr w.heap.size v ps ∧ Below w.heap.size w wr ∧ Hid (S = (Pr.splitGo k t).map (ps ++ ·))) (fun x _ _ => match x with | .string s => s.size | _ => 0)
  case atStart => exact ⟨l, [], l.length, rfl, Nat.le_refl _, by simp, fun t ht => (by cases ht), World.ownsRow_nil _ _ _ _, Below.refl _ _, by show _ = _; rw [← hS.out]; simp [Pr.toks]⟩
  case round =>
    obtain ⟨t, ps, k, rfl, hk, hle, hsm, hown, hb, hR⟩ := hrel
    cases t with
    | nil =>
      have hR2 : Hid (S = some ps) := by show _ = _; rw [hR.out, split_nil]; simp
      have hpl : ps.length ≤ 1000 := by simp at hle; omega
      clear hR hle
      go_wp2
      go_ret2
      refine ⟨hb, ?_⟩
      rw [hR2.out]
      exact ⟨_, rfl, hown, hpl, hsm.out⟩
    | cons c r =>
      obtain ⟨k, rfl⟩ : ∃ k', k = k' + 1 := ⟨k - 1, by simp at hk; omega⟩
      simp only [List.length_cons] at hk hle
      have hlp := lengthOfPart_any c r (by omega) wr
      have hpl := part_le (c :: r)
      have h0 : ∀ h, ((⟨(c :: r).toArray⟩ : ByteArray)[0]'h).toNat = c.toNat := fun h => rfl
      have ht := ex_take (c :: r) (Pr.partLen (c :: r))
      have hd := ex_drop (c :: r) (Pr.partLen (c :: r))
      have hm := measure_drop c r (Pr.partLen (c :: r))
      have hs0 := split_bad k c r
      have hs1 := split_step k c r
      simp only [List.length_cons] at hpl hd
      generalize hN : Pr.partLen (c :: r) = N at *
      go_wp2_with fail
      refine hlp.mono ?_
      rintro e w1 ⟨rfl, hb1⟩
      have hown1 := hown.keep hb1
      replace hb := below_of hb hb1
      clear hlp hown hb1
      by_cases hn : N = 0
      · have hn' : ((N : Int) == 0) = true := by rw [hn]; rfl
        have hR2 : Hid (S = none) := by show _ = _; rw [hR.out, hs0 hn]; rfl
        clear hR hs0 hs1 hm
        go_wp2
        go_ret2
        refine ⟨hb, ?_⟩
        rw [hR2.out]
        rfl
      · have hn' : ((N : Int) == 0) = false := by rw [beq_eq_false_iff_ne]; omega
        have hms := hm hn hpl
        by_cases hc : c = 32
        · have hc' : ((c.toNat : Int) == 32) = true := by rw [hc]; rfl
          have hR2 : Hid (S = (Pr.splitGo k ((c :: r).drop N)).map (ps ++ ·)) := by
            show _ = _
            rw [hR.out, hs1 hn ps, if_pos hc]
          have HM : Hid ((⟨((c :: r).drop N).toArray⟩ : ByteArray).size < (⟨(c :: r).toArray⟩ : ByteArray).size) := hms
          clear hR hs0 hs1 hm hms hc ht
          go_wp2
          go_roundw
          case rel => exact ⟨(c :: r).drop N, ps, k, rfl, by simp; omega, by simp; omega, hsm, hown1, hb, hR2⟩
          case measure => exact HM.out
        · have hc' : ((c.toNat : Int) == 32) = false := by
            rw [beq_eq_false_iff_ne]
            intro e
            exact hc (UInt8.toNat_inj.1 (by show c.toNat = 32; omega))
          have hR2 : Hid (S = (Pr.splitGo k ((c :: r).drop N)).map (ps ++ [(c :: r).take N] ++ ·)) := by
            show _ = _
            rw [hR.out, hs1 hn ps, if_neg hc]
          have HM : Hid ((⟨((c :: r).drop N).toArray⟩ : ByteArray).size < (⟨(c :: r).toArray⟩ : ByteArray).size) := hms
          have hsm2 : Hid (∀ t ∈ ps ++ [(c :: r).take N], t.length ≤ 1000) := fun t ht => by
            rcases List.mem_append.1 ht with ht | ht
            · exact hsm.out t ht
            · rw [List.mem_singleton] at ht
              rw [ht]; simp; omega
          clear hR hs0 hs1 hm hms hc hsm
          go_wp2_with (first
            | (at_builtin; refine wpList_append_own _ rfl _ _ 35 rfl w.heap.size 9 i0 (.string ⟨#[]⟩) 1 16 Tryz.underlying35 HI.out.1 HI.out.2.1 HI.out.2.2.1 HI.out.2.2.2 rfl (by decide) _ _ _ rfl (World.ownsRow.alloc hown1 _) ⟨w1.heap.size, 0, none⟩ 1 1 [strV ((c :: r).take N)] rfl rfl ?c1 ?c2 ?c3 ?c4 ?c5 ?_)
            | go_in)
          case c1 =>
            intro j u hj
            match j, hj with
            | 0, hj => simp at hj; subst hj; simp [Addr.add, strV]
          case c2 => intro u hu; simp at hu; subst hu; rfl
          case c3 => unfold maxLen; omega
          case c4 => omega
          case c5 => have := hb.size; simp; omega
          · intro v' w2 hown' hgrow _
            obtain ⟨g1, g2⟩ := parts_grow hown1 hb (by have := hb.size; omega) hown' hgrow
            clear hown' hgrow hown1
            go_wp2
            go_roundw
            case rel => exact ⟨(c :: r).drop N, ps ++ [(c :: r).take N], k, rfl, by simp; omega, by simp; omega, hsm2, g1, g2, hR2⟩
            case measure => exact HM.out
end Go.Proofs.YtaepcfidpekflaaGreatDoor
namespace Go.Proofs.YtaepcfidpekflaaGreatDoor
open Go.RowKit

theorem all_take_any (p : UInt8 → Bool) (s : ByteArray) (k : Nat) (h : k < s.size) : (s.data.toList.take (k + 1)).all p = ((s.data.toList.take k).all p && p s[k]) := by
  rw [List.take_succ_eq_append_getElem (by simpa using h), List.all_append]
  simp
  rfl
theorem all_false (p : UInt8 → Bool) (s : ByteArray) (k : Nat) (h : k < s.size) (hp : p s[k] = false) : s.data.toList.all p = false := by
  rw [List.all_eq_false]
  refine ⟨s[k], ?_, by simp [hp]⟩
  have : s[k] = s.data.toList[k]'(by simpa using h) := rfl
  rw [this]
  exact List.getElem_mem _
theorem rb {a b : Bool} (h : a = b) : Ending.returned (.bool a) = .returned (.bool b) := by rw [h]

set_option maxHeartbeats 400000 in
theorem numerals_any (s : ByteArray) (w : World) (hs : s.size ≤ 1000000) :
    Calls Tryz.prog 50 #[.string s] w fun e w' => e = .returned (.bool (Pn.digitsB s.data.toList)) ∧ w' = w := by
  go_enter Tryz.func50, Tryz.ntmps50
  go_wp2
  go_loop [3] (fun t => ∃ k : Nat, k ≤ s.size ∧ t = .int .i64 k ∧ Hid ((s.data.toList.take k).all Pn.isDig = true)) (fun t => s.size - (intOf t).toNat)
  case atStart => exact ⟨0, Nat.zero_le _, rfl, by show _ = _; simp⟩
  case round =>
    obtain ⟨k, hk, rfl, HK⟩ := hrel
    by_cases hlt : k < s.size
    · by_cases hd : 48 ≤ s[k].toNat ∧ s[k].toNat ≤ 57
      · have HK2 : Hid ((s.data.toList.take (k + 1)).all Pn.isDig = true) := by
          show _ = _
          rw [all_take_any _ s k hlt, HK.out, (Pn.isDig_iff _).2 hd]; rfl
        obtain ⟨h1, h2⟩ := hd
        have h1' : ¬ (s[k].toNat : Int) < 48 := by omega
        have h2' : ¬ (57 : Int) < s[k].toNat := by omega
        go_wp2
        go_round
        case rel => exact ⟨k + 1, hlt, by go_num, HK2⟩
        case measure => simp [intOf]; omega
      · have HF : Hid (Pn.digitsB s.data.toList = false) := by
          show _ = _
          have : Pn.isDig s[k] = false := by
            cases e : Pn.isDig s[k] with
            | false => rfl
            | true => exact absurd ((Pn.isDig_iff _).1 e) hd
          rw [Pn.digitsB, all_false _ s k hlt this, Bool.and_false]
        by_cases h1 : (s[k].toNat : Int) < 48
        · clear hd
          go_wp2
          go_ret
          exact ⟨rb HF.out.symm, rfl⟩
        · have h2 : (57 : Int) < s[k].toNat := by omega
          clear hd
          go_wp2
          go_ret
          exact ⟨rb HF.out.symm, rfl⟩
    · have HF : Hid (Pn.digitsB s.data.toList = decide ((0 : Int) < s.size)) := by
        show _ = _
        have h := HK.out
        rw [List.take_of_length_le (by simp; omega)] at h
        rw [Pn.digitsB, h, Bool.and_true, Lib.size_eq]
        cases s.data.toList with
        | nil => rfl
        | cons c r => simp
      go_wp2
      all_goals go_ret
      all_goals exact ⟨rb (by rw [HF.out]; simp), rfl⟩

set_option maxHeartbeats 400000 in
theorem nought_any (s : ByteArray) (w : World) (hs : s.size ≤ 1000000) :
    Calls Tryz.prog 51 #[.string s] w fun e w' => e = .returned (.bool (Pn.zeroB s.data.toList)) ∧ w' = w := by
  go_enter Tryz.func51, Tryz.ntmps51
  go_wp2
  go_loop [3] (fun t => ∃ k : Nat, k ≤ s.size ∧ t = .int .i64 k ∧ Hid ((s.data.toList.take k).all (· == 48) = true)) (fun t => s.size - (intOf t).toNat)
  case atStart => exact ⟨0, Nat.zero_le _, rfl, by show _ = _; simp⟩
  case round =>
    obtain ⟨k, hk, rfl, HK⟩ := hrel
    by_cases hlt : k < s.size
    · by_cases hd : s[k].toNat = 48
      · have h48 : s[k] = 48 := UInt8.toNat_inj.1 hd
        have HK2 : Hid ((s.data.toList.take (k + 1)).all (· == 48) = true) := by
          show _ = _
          rw [all_take_any _ s k hlt, HK.out, h48]; rfl
        have h' : ((s[k].toNat : Int) != 48) = false := by simp; omega
        clear hd h48
        go_wp2
        go_round
        case rel => exact ⟨k + 1, hlt, by go_num, HK2⟩
        case measure => simp [intOf]; omega
      · have HF : Hid (Pn.zeroB s.data.toList = false) := by
          show _ = _
          refine all_false _ s k hlt ?_
          rw [beq_eq_false_iff_ne]
          intro e
          exact hd (by rw [e]; rfl)
        have h' : ((s[k].toNat : Int) != 48) = true := by simp; omega
        clear hd
        go_wp2
        go_ret
        exact ⟨rb HF.out.symm, rfl⟩
    · have HF : Hid (Pn.zeroB s.data.toList = true) := by
        show _ = _
        have h := HK.out
        rw [List.take_of_length_le (by simp; omega)] at h
        exact h
      go_wp2
      all_goals go_ret
      all_goals exact ⟨rb HF.out.symm, rfl⟩

theorem cut_at (l : List UInt8) (k : Nat) (hk : k < l.length) (h1 : ∀ j (hj : j < l.length), j < k → l[j] ≠ 46) (h2 : l[k] = 46) : Lib.cut l [46] = (l.take k, l.drop (k + 1), true) := by
  have hi : Lib.index l [46] = k := by
    refine Lib.index_first (by omega) ?_ ?_
    · rw [Lib.occAt, List.drop_eq_getElem_cons hk, h2]; simp [List.isPrefixOf]
    · intro j hj
      rw [Lib.occAt, List.drop_eq_getElem_cons (by omega)]
      have := h1 j (by omega) hj
      simp only [List.isPrefixOf, Bool.and_true, beq_eq_false_iff_ne]
      exact fun e => this e.symm
  unfold Lib.cut
  rw [hi, if_pos (by omega)]
  simp
theorem cut_end (l : List UInt8) (h1 : ∀ j (hj : j < l.length), l[j] ≠ 46) : Lib.cut l [46] = (l, [], false) := by
  have hi : Lib.index l [46] = -1 := by
    refine Lib.index_none ?_
    intro j hj
    rw [Lib.occAt]
    rcases Nat.lt_or_ge j l.length with h | h
    · rw [List.drop_eq_getElem_cons h]
      have := h1 j h
      simp only [List.isPrefixOf, Bool.and_true, beq_eq_false_iff_ne]
      exact fun e => this e.symm
    · rw [List.drop_eq_nil_of_le h]; rfl
  unfold Lib.cut
  rw [hi, if_neg (by omega)]
theorem ret_cut {l a b : List UInt8} {s t : ByteArray} {p q : Bool} (h : Lib.cut l [46] = (a, b, p)) (hs : s = ⟨a.toArray⟩) (ht : t = ⟨b.toArray⟩) (hq : q = p) :
    Ending.returned (.tuple #[.string s, .string t, .bool q]) = .returned (.tuple #[.string ⟨(Lib.cut l [46]).1.toArray⟩, .string ⟨(Lib.cut l [46]).2.1.toArray⟩, .bool (Lib.cut l [46]).2.2]) := by
  rw [h, hs, ht, hq]

set_option maxHeartbeats 400000 in
theorem rcut_any (s : ByteArray) (w : World) (hs : s.size ≤ 1000000) :
    Calls Tryz.prog 49 #[.string s, .int .u8 46] w fun e w' => e = .returned (.tuple #[.string ⟨(Lib.cut s.data.toList [46]).1.toArray⟩, .string ⟨(Lib.cut s.data.toList [46]).2.1.toArray⟩, .bool (Lib.cut s.data.toList [46]).2.2]) ∧ Below w.heap.size w w' := by
  go_enter Tryz.func49, Tryz.ntmps49
  go_wp2
  go_loop [7] (fun t => ∃ k : Nat, k ≤ s.size ∧ t = .int .i64 k ∧ Hid (∀ j (hj : j < s.data.toList.length), j < k → s.data.toList[j] ≠ 46)) (fun t => s.size - (intOf t).toNat)
  case atStart => exact ⟨0, Nat.zero_le _, rfl, fun j _ h => by omega⟩
  case round =>
    obtain ⟨k, hk, rfl, HK⟩ := hrel
    by_cases hlt : k < s.size
    · have hlt' : k < s.data.toList.length := by rw [← Lib.size_eq]; exact hlt
      have hgk : s.data.toList[k] = s[k] := rfl
      by_cases hc : s[k].toNat = 46
      · have hc' : ((s[k].toNat : Int) == 46) = true := by simp; omega
        have HX : Hid (Lib.cut s.data.toList [46] = (s.data.toList.take k, s.data.toList.drop (k + 1), true)) := cut_at _ k hlt' HK.out (by rw [hgk]; exact UInt8.toNat_inj.1 hc)
        clear hc hgk
        go_wp2
        go_quiet (fail)
        go_wp2
        go_ret3
        exact ⟨ret_cut HX.out (by rw [Lib.extract_upto]) (by rw [Lib.extract_from]) rfl, drewB _ _⟩
      · have hc' : ((s[k].toNat : Int) == 46) = false := by simp; omega
        have HK2 : Hid (∀ j (hj : j < s.data.toList.length), j < k + 1 → s.data.toList[j] ≠ 46) := by
          intro j hj h
          by_cases e : j = k
          · subst e; intro h46; rw [hgk] at h46; exact hc (by rw [h46]; rfl)
          · exact HK.out j hj (by omega)
        clear hc hgk
        go_wp2
        go_round
        case rel => exact ⟨k + 1, hlt, by go_num, HK2⟩
        case measure => simp [intOf]; omega
    · have HX : Hid (Lib.cut s.data.toList [46] = (s.data.toList, [], false)) := cut_end _ (fun j hj => HK.out j hj (by rw [← Lib.size_eq] at hj; omega))
      go_wp2
      go_ret3
      exact ⟨ret_cut HX.out (by rw [Lib.mk_data]) rfl rfl, Below.refl _ _⟩

set_option maxHeartbeats 400000 in
theorem point_any (r : Int) (w : World) :
    Calls Tryz.prog 47 #[.int .i32 r] w fun e w' => e = .returned (.bool (Lib.validRune r)) ∧ w' = w := by
  by_cases h0 : 0 ≤ r
  · by_cases h1 : r ≤ 1114111
    · by_cases h2 : r < 55296
      · have HV : Hid (true = Lib.validRune r) := by show _ = _; symm; simp [Lib.validRune]; omega
        go_enter Tryz.func47, Tryz.ntmps47
        go_wp2
        go_ret
        exact ⟨rb HV.out, rfl⟩
      · by_cases h3 : 57343 < r
        · have HV : Hid (true = Lib.validRune r) := by show _ = _; symm; simp [Lib.validRune]; omega
          go_enter Tryz.func47, Tryz.ntmps47
          go_wp2
          go_ret
          exact ⟨rb HV.out, rfl⟩
        · have HV : Hid (false = Lib.validRune r) := by show _ = _; symm; simp [Lib.validRune]; omega
          go_enter Tryz.func47, Tryz.ntmps47
          go_wp2
          go_ret
          exact ⟨rb HV.out, rfl⟩
    · have HV : Hid (false = Lib.validRune r) := by show _ = _; symm; simp [Lib.validRune]; omega
      go_enter Tryz.func47, Tryz.ntmps47
      go_wp2
      go_ret
      exact ⟨rb HV.out, rfl⟩
  · have HV : Hid (false = Lib.validRune r) := by show _ = _; symm; simp [Lib.validRune]; omega
    go_enter Tryz.func47, Tryz.ntmps47
    go_wp2
    go_ret
    exact ⟨rb HV.out, rfl⟩
end Go.Proofs.YtaepcfidpekflaaGreatDoor
namespace Go.Proofs.YtaepcfidpekflaaGreatDoor
open Go.RowKit

/-- Of a byte: 1 a small letter, 2 a digit, 3 a blank, 0 any other. -/
def kindN (c : UInt8) : Nat := if Pr.isLet c then 1 else if Pn.isDig c then 2 else if c = 32 then 3 else 0
theorem isLet_iff (c : UInt8) : Pr.isLet c = true ↔ 97 ≤ c.toNat ∧ c.toNat ≤ 122 := by simp [Pr.isLet]
set_option maxHeartbeats 400000 in
theorem kind_any (c : UInt8) (w : World) : Calls Tryz.prog 115 #[.int .u8 c.toNat] w fun e w' => e = .returned (.int .i64 (kindN c)) ∧ w' = w := by
  obtain ⟨R, hR⟩ : ∃ R, Hid (kindN c = R) := ⟨_, rfl⟩
  rw [hR.out]
  have h256 := UInt8.toNat_lt c
  by_cases h1 : Pr.isLet c = true
  · have e : Hid (R = 1) := by show _ = _; rw [← hR.out, kindN, if_pos h1]
    obtain ⟨a, b⟩ := (isLet_iff c).1 h1
    have a' : (97 : Int) ≤ c.toNat := by omega
    have b' : (c.toNat : Int) ≤ 122 := by omega
    go_enter Tryz.func115, Tryz.ntmps115
    go_wp2
    go_ret
    exact ⟨by rw [e.out]; rfl, rfl⟩
  · by_cases h2 : Pn.isDig c = true
    · have e : Hid (R = 2) := by show _ = _; rw [← hR.out, kindN, if_neg h1, if_pos h2]
      obtain ⟨a, b⟩ := (Pn.isDig_iff c).1 h2
      have a0 : ¬ (97 : Int) ≤ c.toNat := by omega
      have a' : (48 : Int) ≤ c.toNat := by omega
      have b' : (c.toNat : Int) ≤ 57 := by omega
      clear h1
      go_enter Tryz.func115, Tryz.ntmps115
      go_wp2
      go_ret
      exact ⟨by rw [e.out]; rfl, rfl⟩
    · have n1 : ¬ (97 ≤ c.toNat ∧ c.toNat ≤ 122) := fun h => h1 ((isLet_iff c).2 h)
      have n2 : ¬ (48 ≤ c.toNat ∧ c.toNat ≤ 57) := fun h => h2 ((Pn.isDig_iff c).2 h)
      by_cases h3 : c.toNat = 32
      · have e : Hid (R = 3) := by
          show _ = _
          rw [← hR.out, kindN, if_neg h1, if_neg h2, if_pos (UInt8.toNat_inj.1 h3)]
        have a0 : ¬ (97 : Int) ≤ c.toNat := by omega
        have a1 : ¬ (48 : Int) ≤ c.toNat := by omega
        have a2 : ((c.toNat : Int) == 32) = true := by rw [beq_iff_eq]; omega
        clear h1 h2 h3 n1 n2
        go_enter Tryz.func115, Tryz.ntmps115
        go_wp2
        go_ret
        exact ⟨by rw [e.out]; rfl, rfl⟩
      · have e : Hid (R = 0) := by
          show _ = _
          rw [← hR.out, kindN, if_neg h1, if_neg h2, if_neg (fun h => h3 (by rw [h]; rfl))]
        have a2 : ((c.toNat : Int) == 32) = false := by rw [beq_eq_false_iff_ne]; omega
        clear h1 h2 h3
        by_cases x1 : (97 : Int) ≤ c.toNat
        · have x2 : ¬ (c.toNat : Int) ≤ 122 := by omega
          have x3 : (48 : Int) ≤ c.toNat := by omega
          have x4 : ¬ (c.toNat : Int) ≤ 57 := by omega
          clear n1 n2
          go_enter Tryz.func115, Tryz.ntmps115
          go_wp2
          go_ret
          exact ⟨by rw [e.out]; rfl, rfl⟩
        · by_cases x3 : (48 : Int) ≤ c.toNat
          · have x4 : ¬ (c.toNat : Int) ≤ 57 := by omega
            clear n1 n2
            go_enter Tryz.func115, Tryz.ntmps115
            go_wp2
            go_ret
            exact ⟨by rw [e.out]; rfl, rfl⟩
          · clear n1 n2
            go_enter Tryz.func115, Tryz.ntmps115
            go_wp2
            go_ret
            exact ⟨by rw [e.out]; rfl, rfl⟩

theorem fig_some (t : Pr.T) : (Pr.fig t).isSome = (Pn.digitsB t && (decide (t.length ≤ 9) && (decide (t.length = 1) || t.head? != some 48))) := by
  unfold Pr.fig
  split
  · rename_i h
    obtain ⟨h1, h2, h3⟩ := h
    rw [h1, decide_eq_true h2]
    rcases h3 with h3 | h3
    · simp [h3]
    · simp [h3]
  · rename_i h
    cases h1 : Pn.digitsB t with
    | false => rfl
    | true =>
      by_cases h2 : t.length ≤ 9
      · by_cases h3 : t.length = 1
        · exact absurd ⟨h1, h2, .inl h3⟩ h
        · have h4 : t.head? = some 48 := by
            cases e : decide (t.head? = some 48) with
            | true => exact of_decide_eq_true e
            | false => exact absurd ⟨h1, h2, .inr (of_decide_eq_false e)⟩ h
          simp [h2, h3, h4]
      · simp [h2]
set_option maxHeartbeats 400000 in
theorem figure_any (t : Pr.T) (ht : t.length ≤ 1000) (w : World) : Calls Tryz.prog 117 #[.string ⟨t.toArray⟩] w fun e w' => e = .returned (.tuple #[.string ⟨t.toArray⟩, .bool (Pr.fig t).isSome]) ∧ Below w.heap.size w w' := by
  have cn := fun W => numerals_any ⟨t.toArray⟩ W (by show t.toArray.size ≤ _; simp; omega)
  simp only [] at cn
  rw [fig_some]
  cases hd : Pn.digitsB t with
  | false =>
    rw [hd] at cn
    go_enter Tryz.func117, Tryz.ntmps117
    go_wp2_with (go_at_call 50; refine (cn _).mono ?_; rintro e w1 ⟨rfl, rfl⟩)
    go_quiet (fail)
    go_wp2
    go_ret2
    exact ⟨rfl, drewB _ _⟩
  | true =>
    rw [hd] at cn
    cases t with
    | nil => cases hd
    | cons c r =>
      obtain ⟨R, hR⟩ : ∃ R, Hid ((true && (decide ((c :: r).length ≤ 9) && (decide ((c :: r).length = 1) || (c :: r).head? != some 48))) = R) := ⟨_, rfl⟩
      rw [hR.out]
      simp only [List.length_cons] at ht hR
      by_cases h9 : (r.length : Int) + 1 ≤ 9
      · by_cases h1 : r.length = 0
        · have hF : Hid (R = true) := by show _ = _; rw [← hR.out]; simp [h1]
          have h1' : ((r.length : Int) + 1 == 1) = true := by rw [beq_iff_eq]; omega
          clear h1
          go_enter Tryz.func117, Tryz.ntmps117
          go_wp2_with (go_at_call 50; refine (cn _).mono ?_; rintro e w1 ⟨rfl, rfl⟩)
          go_quiet (fail)
          go_wp2
          go_ret2
          exact ⟨by rw [hF.out]; rfl, drewB _ _⟩
        · have hF : Hid (R = !((c.toNat : Int) == 48)) := by
            show _ = _
            rw [← hR.out]
            have e9 : r.length + 1 ≤ 9 := by omega
            by_cases hc : c = 48
            · simp [h1, e9, hc]
            · have : ((c.toNat : Int) == 48) = false := by
                rw [beq_eq_false_iff_ne]
                intro e
                exact hc (UInt8.toNat_inj.1 (by show c.toNat = 48; omega))
              simp [e9, hc, this]
          have h1' : ((r.length : Int) + 1 == 1) = false := by rw [beq_eq_false_iff_ne]; omega
          have h0 : ∀ h, ((⟨(c :: r).toArray⟩ : ByteArray)[0]'h).toNat = c.toNat := fun h => rfl
          clear h1
          go_enter Tryz.func117, Tryz.ntmps117
          go_wp2_with (go_at_call 50; refine (cn _).mono ?_; rintro e w1 ⟨rfl, rfl⟩)
          go_quiet (fail)
          go_wp2
          go_ret2
          exact ⟨by rw [hF.out]; rfl, drewB _ _⟩
      · have hF : Hid (R = false) := by
          show _ = _
          rw [← hR.out]
          have : ¬ r.length + 1 ≤ 9 := by omega
          simp [this]
        have h9' : decide ((r.length : Int) + 1 ≤ 9) = false := decide_eq_false h9
        have h8 : ¬ (r.length : Int) ≤ 8 := by omega
        have h8' : decide ((r.length : Int) ≤ 8) = false := decide_eq_false h8
        go_enter Tryz.func117, Tryz.ntmps117
        go_wp2_with (go_at_call 50; refine (cn _).mono ?_; rintro e w1 ⟨rfl, rfl⟩)
        go_quiet (fail)
        go_wp2
        go_ret2
        exact ⟨by rw [hF.out]; rfl, drewB _ _⟩
end Go.Proofs.YtaepcfidpekflaaGreatDoor
namespace Go.Proofs.YtaepcfidpekflaaGreatDoor
open Go.RowKit

def mCells (m : Dk.Mark) : List Value := [.int .u8 m.kind.toNat, strV m.text, strV m.name, strV m.how, strV m.offset, .int .i64 m.at_]
def marksCells : List Dk.Mark → List Value
  | [] => []
  | m :: r => mCells m ++ marksCells r
/-- The scan's block: its text, its place, marks and open arguments in rows of the call's own, the fault; blocks that stand beside it (ms). -/
def ScanAt (ms : List (Nat × Array Value)) (w : World) (B b : Nat) (s : Pr.T) (x : Dk.Sc) : Prop := ∃ ov pv, Row w b #[.string ⟨s.toArray⟩, .int .i64 x.i, ov, pv, .int .i64 x.err, .int .i64 x.place] ∧ B ≤ b ∧
  w.ownsRow B 130 6 ov x.out.length (marksCells x.out) ∧ w.ownsRow B 4 1 pv x.opens.length (x.opens.map .bool) ∧
  (ov.ownBlock ≠ some b) ∧ (pv.ownBlock ≠ some b) ∧ (∀ g, ov.ownBlock = some g → pv.ownBlock ≠ some g) ∧
  ∀ q ∈ ms, Row w q.1 q.2 ∧ q.1 ≠ b ∧ ov.ownBlock ≠ some q.1 ∧ pv.ownBlock ≠ some q.1
theorem Row.other {w : World} {b g j : Nat} {cs : Array Value} (h : Row w b cs) (hne : b ≠ g) (u : Value) : Row (w.setCell ⟨g, j, none⟩ u) b cs := by
  have hb : (w.setCell ⟨g, j, none⟩ u).heap[b]? = w.heap[b]? := Below.heap_setCell w ⟨g, j, none⟩ u b hne
  refine ⟨by have := h.1; simpa [World.setCell] using this, fun i => (World.cell?_of_block (w := w) (a := ⟨b, i, none⟩) hb).trans (h.2.1 i), fun i => (World.frozen?_of_block (w := w) (a := ⟨b, i, none⟩) hb).trans (h.2.2 i)⟩
variable {ms : List (Nat × Array Value)}
theorem ScanAt.keep {w w1 : World} {B b : Nat} {s : Pr.T} {x : Dk.Sc} (h : ScanAt ms w B b s x) (hb : Below w.heap.size w w1) : ScanAt ms w1 B b s x := by
  obtain ⟨ov, pv, h1, h2, h3, h4, h5, h6, h7, h8⟩ := h
  have kp : ∀ {e : TypeId} {z n : Nat} {v : Value} {xs : List Value}, w.ownsRow B e z v n xs → w1.ownsRow B e z v n xs := fun {e z n v xs} h => by
    refine World.ownsRow.kept (row := none) h ⟨hb.os, hb.tape, hb.output, hb.size, fun k hk _ => hb.block k hk⟩ ?_
    cases e : v.ownBlock with
    | none => exact .inl rfl
    | some _ => exact .inr (by simp)
  exact ⟨ov, pv, h1.keep hb, h2, kp h3, kp h4, h5, h6, h7, fun q hq => ⟨(h8 q hq).1.keep hb, (h8 q hq).2⟩⟩
theorem ScanAt.setI {w : World} {B b : Nat} {s : Pr.T} {x : Dk.Sc} (h : ScanAt ms w B b s x) (n : Nat) : ScanAt ms (w.setCell ⟨b, 1, none⟩ (.int .i64 n)) B b s { x with i := n } := by
  obtain ⟨ov, pv, h1, h2, h3, h4, h5, h6, h7, h8⟩ := h
  exact ⟨ov, pv, h1.setC 1 _ (by simp), h2, ownsRow_setCell_other h3 h5 _, ownsRow_setCell_other h4 h6 _, h5, h6, h7, fun q hq => ⟨(h8 q hq).1.other (h8 q hq).2.1 _, (h8 q hq).2⟩⟩
theorem ScanAt.setF {w : World} {B b : Nat} {s : Pr.T} {x : Dk.Sc} (h : ScanAt ms w B b s x) (e p : Nat) : ScanAt ms ((w.setCell ⟨b, 4, none⟩ (.int .i64 e)).setCell ⟨b, 5, none⟩ (.int .i64 p)) B b s { x with err := e, place := p } := by
  obtain ⟨ov, pv, h1, h2, h3, h4, h5, h6, h7, h8⟩ := h
  exact ⟨ov, pv, (h1.setC 4 _ (by simp)).setC 5 _ (by simp), h2, ownsRow_setCell_other (ownsRow_setCell_other h3 h5 _) h5 _, ownsRow_setCell_other (ownsRow_setCell_other h4 h6 _) h6 _, h5, h6, h7, fun q hq => ⟨((h8 q hq).1.other (h8 q hq).2.1 _).other (h8 q hq).2.1 _, (h8 q hq).2⟩⟩
theorem ScanAt.base {w : World} {B b : Nat} {s : Pr.T} {x : Dk.Sc} (h : ScanAt ms w B b s x) : B ≤ b ∧ b < w.heap.size := by
  obtain ⟨ov, pv, h1, h2, _⟩ := h
  exact ⟨h2, h1.1⟩

set_option maxHeartbeats 800000 in
theorem kfault_any (w : World) (B b : Nat) (s : Pr.T) (x : Dk.Sc) (e p : Nat) (hx : ScanAt ms w B b s x) :
    Calls Tryz.prog 100 #[.pointer (some ⟨b, 0, none⟩), .int .i64 e, .int .i64 p] w fun en w' => en = .returned (.tuple #[]) ∧ ScanAt ms w' B b s (x.fault e p) ∧ Below B w w' := by
  have hB := hx.base
  obtain ⟨ov, pv, h1, _⟩ := id hx
  have q0 := h1.2.1
  have q1 := h1.2.2
  by_cases he : x.err = 0
  · have he' : ((x.err : Int) == 0) = true := by rw [he]; rfl
    have HF : Hid (ScanAt ms ((w.setCell ⟨b, 4, none⟩ (.int .i64 e)).setCell ⟨b, 5, none⟩ (.int .i64 p)) B b s (x.fault e p) ∧ Below B w ((w.setCell ⟨b, 4, none⟩ (.int .i64 e)).setCell ⟨b, 5, none⟩ (.int .i64 p))) := by
      refine ⟨?_, ?_⟩
      · rw [Dk.Sc.fault, if_pos he]; exact hx.setF e p
      · exact ((Below.refl B w).setCell (p := ⟨b, 4, none⟩) hB.1 _).setCell (p := ⟨b, 5, none⟩) hB.1 _
    clear hx h1 he
    go_enter Tryz.func100, Tryz.ntmps100
    go_wp2
    go_end0
    exact ⟨rfl, HF.out⟩
  · have he' : ((x.err : Int) == 0) = false := by rw [beq_eq_false_iff_ne]; omega
    have HF : Hid (ScanAt ms w B b s (x.fault e p)) := by show ScanAt ms _ _ _ _ _; rw [Dk.Sc.fault, if_neg he]; exact hx
    clear hx h1 he
    go_enter Tryz.func100, Tryz.ntmps100
    go_wp2
    go_end0
    exact ⟨rfl, HF.out, Below.refl _ _⟩
end Go.Proofs.YtaepcfidpekflaaGreatDoor
