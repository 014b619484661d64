/-
  Several texts in one (Qn, Qo, Ra, Qe). By the verifier.
-/
import Derived.Test.YtaepcfidpekflaaGreatDoorU09
import Derived.Test.YtaepcfidpekflaaGreatDoorU11
import Derived.WalkSpells
import Derived.WalkLawsBesides
import Derived.Deep.DeepCutAuto
import Derived.Deep.CutBlock
import Derived.Deep.RegionWith
import Derived.Outline
import Derived.Laws.AppendOwn
import Derived.Laws.OwnMore
import Derived.OwnWalk
import Derived.Test.YtaepcfidpekflaaGreatDoorProg
import Derived.Test.YtaepcfidpekflaaGreatDoorU04
import Derived.Test.YtaepcfidpekflaaGreatDoorU01
import Derived.WalkKit
import Derived.BigQuiet
import Derived.Lib.AppendIntMem
import Derived.Lib.OthersKept
namespace Go.Proofs.YtaepcfidpekflaaGreatDoor
open Go.RowKit

theorem idx_run (p : Nat → Bool) (hp : ∀ x, p x = true → x < 128) (s : ByteArray) : ∀ (f pos : Nat), pos ≤ s.size → s.size ≤ pos + f →
    Lib.idxFuncFrom p false s f pos = if pos + ((s.data.toList.drop pos).takeWhile fun c => p c.toNat).length = s.size then -1 else ((pos + ((s.data.toList.drop pos).takeWhile fun c => p c.toNat).length : Nat) : Int) := by
  intro f
  induction f with
  | zero =>
    intro pos h1 h2
    have : pos = s.size := by omega
    subst this
    rw [List.drop_eq_nil_of_le (by rw [Lib.size_eq]; exact Nat.le_refl _)]
    simp [Lib.idxFuncFrom]
  | succ f ih =>
    intro pos h1 h2
    by_cases hlt : pos < s.size
    · have hlt' : pos < s.data.toList.length := by rw [← Lib.size_eq]; exact hlt
      rw [List.drop_eq_getElem_cons hlt']
      have hg : s.data.toList[pos] = s[pos] := rfl
      rw [hg]
      simp only [Lib.idxFuncFrom, hlt, if_true]
      by_cases hc : s[pos].toNat < 128
      · rw [decode_ascii s pos hlt hc]
        simp only []
        cases hpc : p s[pos].toNat with
        | false =>
          rw [if_pos rfl, List.takeWhile_cons_of_neg (by simp [hpc])]
          simp
          omega
        | true =>
          rw [if_neg (by simp), ih (pos + 1) (by omega) (by omega), List.takeWhile_cons_of_pos (by simp [hpc])]
          simp only [List.length_cons]
          rw [show pos + (((s.data.toList.drop (pos + 1)).takeWhile fun c => p c.toNat).length + 1) = pos + 1 + ((s.data.toList.drop (pos + 1)).takeWhile fun c => p c.toNat).length by omega]
      · have hd := (decode_high s pos hlt (by omega)).1
        have h1' : p (Utf8.decode s pos).1 = false := by
          cases e : p (Utf8.decode s pos).1 with
          | false => rfl
          | true => have := hp _ e; omega
        have h2' : p s[pos].toNat = false := by
          cases e : p s[pos].toNat with
          | false => rfl
          | true => have := hp _ e; omega
        rw [if_pos h1', List.takeWhile_cons_of_neg (by simp [h2'])]
        simp
        omega
    · have : pos = s.size := by omega
      subst this
      rw [Lib.idxFuncFrom_end _ _ _ _ _ hlt, List.drop_eq_nil_of_le (by rw [Lib.size_eq]; exact Nat.le_refl _)]
      simp
theorem trim_run (p : Nat → Bool) (hp : ∀ x, p x = true → x < 128) (s : ByteArray) : (Lib.trimLeftF p s).size = s.size - (s.data.toList.takeWhile fun c => p c.toNat).length := by
  have h := idx_run p hp s s.size 0 (Nat.zero_le _) (by omega)
  simp only [List.drop_zero, Nat.zero_add] at h
  have hle : (s.data.toList.takeWhile fun c => p c.toNat).length ≤ s.size := by
    rw [Lib.size_eq]; exact (List.takeWhile_prefix _).length_le
  unfold Lib.trimLeftF Lib.idxFunc
  rw [h]
  split
  · rename_i e
    rw [if_pos rfl, e]
    simp
    rfl
  · rw [if_neg (by omega)]
    simp

def letP (x : Nat) : Bool := decide (97 ≤ x ∧ x ≤ 122)
def digP (x : Nat) : Bool := decide (48 ≤ x ∧ x ≤ 57)
theorem enters_isLetter : Enters 184 := enters_of Tryz.func184 (by kernel_rfl) rfl
theorem enters_isDigit : Enters 186 := enters_of Tryz.func186 (by kernel_rfl) rfl
theorem ret_bb {a b : Bool} (h : a = b) : Ending.returned (.bool b) = .returned (.bool a) := by rw [h]
set_option maxHeartbeats 400000 in
theorem isLetter_any (x : Nat) (w : World) : Calls Tryz.prog 184 #[.int .i32 x] w fun e w' => e = .returned (.bool (letP x)) ∧ w' = w := by
  by_cases h1 : 97 ≤ x
  · have h1' : (97 : Int) ≤ x := by omega
    have hR : Hid (letP x = decide ((x : Int) ≤ 122)) := by
      show _ = _
      simp only [letP, decide_eq_decide]
      omega
    clear h1
    go_enter Tryz.func184, Tryz.ntmps184
    go_wp2
    go_ret
    exact ⟨ret_bb hR.out, rfl⟩
  · have h1' : ¬ (97 : Int) ≤ x := by omega
    have hR : Hid (letP x = false) := by
      show _ = _
      simp only [letP, decide_eq_false_iff_not]
      omega
    clear h1
    go_enter Tryz.func184, Tryz.ntmps184
    go_wp2
    go_ret
    exact ⟨ret_bb hR.out, rfl⟩
set_option maxHeartbeats 400000 in
theorem isDigit_any (x : Nat) (w : World) : Calls Tryz.prog 186 #[.int .i32 x] w fun e w' => e = .returned (.bool (digP x)) ∧ w' = w := by
  by_cases h1 : 48 ≤ x
  · have h1' : (48 : Int) ≤ x := by omega
    have hR : Hid (digP x = decide ((x : Int) ≤ 57)) := by
      show _ = _
      simp only [digP, decide_eq_decide]
      omega
    clear h1
    go_enter Tryz.func186, Tryz.ntmps186
    go_wp2
    go_ret
    exact ⟨ret_bb hR.out, rfl⟩
  · have h1' : ¬ (48 : Int) ≤ x := by omega
    have hR : Hid (digP x = false) := by
      show _ = _
      simp only [digP, decide_eq_false_iff_not]
      omega
    clear h1
    go_enter Tryz.func186, Tryz.ntmps186
    go_wp2
    go_ret
    exact ⟨ret_bb hR.out, rfl⟩
theorem pred_of (g : Nat) (p : Nat → Bool) (h : ∀ (x : Nat) (w : World), Calls Tryz.prog g #[.int .i32 x] w fun e w' => e = .returned (.bool (p x)) ∧ w' = w) (w : World) : PredAt Tryz.prog g #[] encR p w := fun W x _ =>
  (h x W).mono fun _ _ hh => ⟨hh.1, 0, hh.2⟩
set_option maxHeartbeats 800000 in
theorem lengthOfRun_any (g : Nat) (p : Nat → Bool) (eg : Enters g) (hp : ∀ x, p x = true → x < 128) (h : ∀ (x : Nat) (w : World), Calls Tryz.prog g #[.int .i32 x] w fun e w' => e = .returned (.bool (p x)) ∧ w' = w) (s : ByteArray) (hs : s.size ≤ 1000) (w : World) :
    Calls Tryz.prog 185 #[.string s, .func (.func g) #[] #[]] w fun e w' => e = .returned (.int .i64 (s.data.toList.takeWhile fun c => p c.toNat).length) ∧ Below w.heap.size w w' := by
  have ht := fun W => Tryz.strings_TrimLeftFunc g #[] eg p s W (pred_of g p h W)
  have hz := trim_run p hp s
  have hle : (s.data.toList.takeWhile fun c => p c.toNat).length ≤ s.size := by
    rw [Lib.size_eq]; exact (List.takeWhile_prefix _).length_le
  generalize (s.data.toList.takeWhile fun c => p c.toNat).length = n at *
  generalize Lib.trimLeftF p s = q at *
  have hw1 : IntKind.i64.wrap ((s.size : Int) - (q.size : Int)) = n := by rw [IntKind.wrap_i64, hz]; omega
  have hq : q.size ≤ 1000 := by omega
  clear hz
  go_enter Tryz.func185, Tryz.ntmps185
  go_wp2_with fail
  refine (ht _).mono ?_
  rintro e w1 ⟨rfl, hb1⟩
  clear ht
  go_wp2
  go_ret
  exact ⟨rfl, hb1⟩

theorem hasPre2 (c x y : UInt8) (r : List UInt8) : Lib.hasPrefix (c :: r) [x, y] = decide (c = x ∧ r.head? = some y) := by
  unfold Lib.hasPrefix
  cases r with
  | nil => simp [List.isPrefixOf]
  | cons d r =>
    by_cases h : x = c
    · subst h
      by_cases h2 : y = d
      · subst h2; simp [List.isPrefixOf]
      · have : ¬ d = y := fun e => h2 e.symm
        simp [List.isPrefixOf, h2, this]
    · have : ¬ c = x := fun e => h e.symm
      simp [List.isPrefixOf, h, this]
set_option maxHeartbeats 1600000 in
theorem lengthOfPart_any (c : UInt8) (r : List UInt8) (hs : r.length < 1000) (w : World) :
    Calls Tryz.prog 156 #[.string ⟨(c :: r).toArray⟩] w fun e w' => e = .returned (.int .i64 (Pr.partLen (c :: r))) ∧ Below w.heap.size w w' := by
  obtain ⟨s, hsd⟩ : ∃ s : ByteArray, Hid (s = ⟨(c :: r).toArray⟩) := ⟨_, rfl⟩
  rw [← hsd.out]
  have hz : s.size = r.length + 1 := by rw [hsd.out]; show (c :: r).toArray.size = _; simp
  have hpos : 0 < s.size := by omega
  have hl : s.data.toList = c :: r := by rw [hsd.out]
  have h0 : ∀ h, (s[0]'h).toNat = c.toNat := fun h => by
    have : s[0] = s.data.toList[0]'(by rw [hl]; simp) := rfl
    rw [this]
    simp [hl]
  have cl := fun W => lengthOfRun_any 184 letP enters_isLetter (fun x h => by simp [letP] at h; omega) isLetter_any s (by omega) W
  have cd := fun W => lengthOfRun_any 186 digP enters_isDigit (fun x h => by simp [digP] at h; omega) isDigit_any s (by omega) W
  rw [hl] at cl cd
  have p1 := fun W => Tryz.strings_HasPrefix s ⟨#[33, 61]⟩ W
  have p2 := fun W => Tryz.strings_HasPrefix s ⟨#[46, 46]⟩ W
  simp only [hl] at p1 p2
  rw [hasPre2] at p1 p2
  obtain ⟨R, hR⟩ : ∃ R, Hid (Pr.partLen (c :: r) = R) := ⟨_, rfl⟩
  rw [hR.out]
  clear hl
  have hq := UInt8.toNat_lt c
  have il := isLetter_any c.toNat
  have id := isDigit_any c.toNat
  cases h1 : letP c.toNat with
  | true =>
    rw [h1] at il
    have hRR : Hid (R = ((c :: r).takeWhile fun c => letP c.toNat).length) := by
      show _ = _
      rw [← hR.out, Pr.partLen, if_pos (show Pr.isLet c = true from h1)]
      rfl
    simp only [← hRR.out] at cl
    clear cd p1 p2 id
    go_enter Tryz.func156, Tryz.ntmps156
    go_wp2_with (first | (go_at_call 184; refine (il _).mono ?_; rintro e w1 ⟨rfl, rfl⟩) | (go_at_call 185; refine (cl _).mono ?_; rintro e w2 ⟨rfl, hb2⟩))
    go_ret
    exact ⟨rfl, hb2⟩
  | false =>
    rw [h1] at il
    have n1 : Pr.isLet c ≠ true := by rw [show Pr.isLet c = false from h1]; simp
    cases h2 : digP c.toNat with
    | true =>
      rw [h2] at id
      have hRR : Hid (R = ((c :: r).takeWhile fun c => digP c.toNat).length) := by
        show _ = _
        rw [← hR.out, Pr.partLen, if_neg n1, if_pos (show Pn.isDig c = true from h2)]
        rfl
      simp only [← hRR.out] at cd
      clear cl p1 p2
      go_enter Tryz.func156, Tryz.ntmps156
      go_wp2_with (first | (go_at_call 184; refine (il _).mono ?_; rintro e w1 ⟨rfl, rfl⟩) | (go_at_call 186; refine (id _).mono ?_; rintro e w1 ⟨rfl, rfl⟩) | (go_at_call 185; refine (cd _).mono ?_; rintro e w2 ⟨rfl, hb2⟩))
      go_ret
      exact ⟨rfl, hb2⟩
    | false =>
      rw [h2] at id
      have n2 : Pn.isDig c ≠ true := by rw [show Pn.isDig c = false from h2]; simp
      clear cl cd
      cases h3 : decide (c = 33 ∧ r.head? = some 61) with
      | true =>
        rw [h3] at p1
        have hRR : Hid (R = 2) := by
          show _ = _
          rw [← hR.out, Pr.partLen, if_neg n1, if_neg n2, if_pos (.inl (of_decide_eq_true h3))]
        clear h1 h2 h3 n1 n2
        go_enter Tryz.func156, Tryz.ntmps156
        go_wp2_with (first | (go_at_call 184; refine (il _).mono ?_; rintro e w1 ⟨rfl, rfl⟩) | (go_at_call 186; refine (id _).mono ?_; rintro e w1 ⟨rfl, rfl⟩))
        refine (p1 _).mono ?_
        rintro e w2 ⟨rfl, rfl⟩
        go_wp2
        go_ret
        exact ⟨by rw [hRR.out]; rfl, Below.refl _ _⟩
      | false =>
        rw [h3] at p1
        cases h4 : decide (c = 46 ∧ r.head? = some 46) with
        | true =>
          rw [h4] at p2
          have hRR : Hid (R = 2) := by
            show _ = _
            rw [← hR.out, Pr.partLen, if_neg n1, if_neg n2, if_pos (.inr (of_decide_eq_true h4))]
          clear h1 h2 h3 h4 n1 n2
          go_enter Tryz.func156, Tryz.ntmps156
          go_wp2_with (first | (go_at_call 184; refine (il _).mono ?_; rintro e w1 ⟨rfl, rfl⟩) | (go_at_call 186; refine (id _).mono ?_; rintro e w1 ⟨rfl, rfl⟩))
          refine (p1 _).mono ?_
          rintro e w2 ⟨rfl, rfl⟩
          go_wp2_with fail
          refine (p2 _).mono ?_
          rintro e w3 ⟨rfl, rfl⟩
          go_wp2
          go_ret
          exact ⟨by rw [hRR.out]; rfl, Below.refl _ _⟩
        | false =>
          rw [h4] at p2
          have n3 : ¬ (c = 33 ∧ r.head? = some 61 ∨ c = 46 ∧ r.head? = some 46) := fun h => h.elim (of_decide_eq_false h3) (of_decide_eq_false h4)
          have hRR : Hid (R = if c.toNat = 32 ∨ c.toNat = 61 ∨ c.toNat = 37 ∨ c.toNat = 44 then 1 else 0) := by
            show _ = _
            rw [← hR.out, Pr.partLen, if_neg n1, if_neg n2, if_neg n3]
            simp only [← UInt8.toNat_inj]
            rfl
          clear h1 h2 h3 h4 n1 n2 n3
          generalize c.toNat = q at *
          by_cases e1 : q = 32
          · subst e1
            go_enter Tryz.func156, Tryz.ntmps156
            go_wp2_with (first | (go_at_call 184; refine (il _).mono ?_; rintro e w1 ⟨rfl, rfl⟩) | (go_at_call 186; refine (id _).mono ?_; rintro e w1 ⟨rfl, rfl⟩))
            refine (p1 _).mono ?_
            rintro e w2 ⟨rfl, rfl⟩
            go_wp2_with fail
            refine (p2 _).mono ?_
            rintro e w3 ⟨rfl, rfl⟩
            go_wp2
            go_ret
            exact ⟨by rw [hRR.out]; rfl, Below.refl _ _⟩
          by_cases e2 : q = 61
          · subst e2
            go_enter Tryz.func156, Tryz.ntmps156
            go_wp2_with (first | (go_at_call 184; refine (il _).mono ?_; rintro e w1 ⟨rfl, rfl⟩) | (go_at_call 186; refine (id _).mono ?_; rintro e w1 ⟨rfl, rfl⟩))
            refine (p1 _).mono ?_
            rintro e w2 ⟨rfl, rfl⟩
            go_wp2_with fail
            refine (p2 _).mono ?_
            rintro e w3 ⟨rfl, rfl⟩
            go_wp2
            go_ret
            exact ⟨by rw [hRR.out]; rfl, Below.refl _ _⟩
          by_cases e3 : q = 37
          · subst e3
            go_enter Tryz.func156, Tryz.ntmps156
            go_wp2_with (first | (go_at_call 184; refine (il _).mono ?_; rintro e w1 ⟨rfl, rfl⟩) | (go_at_call 186; refine (id _).mono ?_; rintro e w1 ⟨rfl, rfl⟩))
            refine (p1 _).mono ?_
            rintro e w2 ⟨rfl, rfl⟩
            go_wp2_with fail
            refine (p2 _).mono ?_
            rintro e w3 ⟨rfl, rfl⟩
            go_wp2
            go_ret
            exact ⟨by rw [hRR.out]; rfl, Below.refl _ _⟩
          by_cases e4 : q = 44
          · subst e4
            go_enter Tryz.func156, Tryz.ntmps156
            go_wp2_with (first | (go_at_call 184; refine (il _).mono ?_; rintro e w1 ⟨rfl, rfl⟩) | (go_at_call 186; refine (id _).mono ?_; rintro e w1 ⟨rfl, rfl⟩))
            refine (p1 _).mono ?_
            rintro e w2 ⟨rfl, rfl⟩
            go_wp2_with fail
            refine (p2 _).mono ?_
            rintro e w3 ⟨rfl, rfl⟩
            go_wp2
            go_ret
            exact ⟨by rw [hRR.out]; rfl, Below.refl _ _⟩
          have hR0 : Hid (R = 0) := by
            show _ = _
            rw [hRR.out, if_neg (by omega)]
          have f1 : ((q : Int) == 32) = false := by rw [beq_eq_false_iff_ne]; omega
          have f2 : ((q : Int) == 61) = false := by rw [beq_eq_false_iff_ne]; omega
          have f3 : ((q : Int) == 37) = false := by rw [beq_eq_false_iff_ne]; omega
          have f4 : ((q : Int) == 44) = false := by rw [beq_eq_false_iff_ne]; omega
          clear e1 e2 e3 e4
          go_enter Tryz.func156, Tryz.ntmps156
          go_wp2_with (first | (go_at_call 184; refine (il _).mono ?_; rintro e w1 ⟨rfl, rfl⟩) | (go_at_call 186; refine (id _).mono ?_; rintro e w1 ⟨rfl, rfl⟩))
          refine (p1 _).mono ?_
          rintro e w2 ⟨rfl, rfl⟩
          go_wp2_with fail
          refine (p2 _).mono ?_
          rintro e w3 ⟨rfl, rfl⟩
          go_wp2
          go_ret
          exact ⟨by rw [hR0.out]; rfl, Below.refl _ _⟩
end Go.Proofs.YtaepcfidpekflaaGreatDoor
namespace Go.Proofs.YtaepcfidpekflaaGreatDoor
open Go.RowKit

theorem info_strQ : (Tryz.prog.info? 9).map (fun i => (i.zero, i.size, i.bytes)) = some (some (.string ⟨#[]⟩), 1, 16) := by kernel_rfl
theorem ex_take (t : Pr.T) (n : Nat) : (⟨t.toArray⟩ : ByteArray).extract 0 n = ⟨(t.take n).toArray⟩ := by
  rw [ByteArray.extract_mk]; simp
theorem ex_drop (t : Pr.T) (n : Nat) : (⟨t.toArray⟩ : ByteArray).extract n t.length = ⟨(t.drop n).toArray⟩ := by
  rw [ByteArray.extract_mk]
  simp
  rw [List.take_of_length_le (by simp)]
theorem part_le (l : Pr.T) : Pr.partLen l ≤ l.length := by
  cases l with
  | nil => simp [Pr.partLen]
  | cons c r =>
    by_cases h1 : Pr.isLet c = true
    · rw [Pr.partLen, if_pos h1]; exact (List.takeWhile_prefix _).length_le
    · by_cases h2 : Pn.isDig c = true
      · rw [Pr.partLen, if_neg h1, if_pos h2]; exact (List.takeWhile_prefix _).length_le
      · rw [Pr.partLen, if_neg h1, if_neg h2]
        split
        · rename_i h
          cases r with
          | nil => rcases h with ⟨_, h⟩ | ⟨_, h⟩ <;> cases h
          | cons d r => simp
        · split <;> simp
def strV (t : Pr.T) : Value := .string ⟨t.toArray⟩
theorem split_nil (k : Nat) : Pr.splitGo k [] = some [] := by cases k <;> rfl
theorem split_bad (k : Nat) (c : UInt8) (r : Pr.T) (h : Pr.partLen (c :: r) = 0) : Pr.splitGo (k + 1) (c :: r) = none := by simp [Pr.splitGo, h]
theorem split_step (k : Nat) (c : UInt8) (r : Pr.T) (h : Pr.partLen (c :: r) ≠ 0) (ps : List Pr.T) : (Pr.splitGo (k + 1) (c :: r)).map (ps ++ ·) =
    (Pr.splitGo k ((c :: r).drop (Pr.partLen (c :: r)))).map ((if c = 32 then ps else ps ++ [(c :: r).take (Pr.partLen (c :: r))]) ++ ·) := by
  simp only [Pr.splitGo, h, if_false]
  cases Pr.splitGo k ((c :: r).drop (Pr.partLen (c :: r))) with
  | none => rfl
  | some l =>
    by_cases hc : c = 32
    · simp [hc]
    · simp [hc]
/-- Texts in a row of the call's own. -/
def Parts (w : World) (B : Nat) (v : Value) (ps : List Pr.T) : Prop := w.ownsRow B 9 1 v ps.length (ps.map strV)

theorem Parts.keep {w w1 : World} {B : Nat} {v : Value} {ps : List Pr.T} (h : Parts w B v ps) (hb : Below w.heap.size w w1) : Parts w1 B v ps := by
  refine World.ownsRow.kept (row := none) h ⟨hb.os, hb.tape, hb.output, hb.size, fun k hk _ => hb.block k hk⟩ ?_
  cases e : v.ownBlock with
  | none => exact .inl rfl
  | some _ => exact .inr (by simp)
/-- What split answers. -/
def SplitSaid (w : World) (x : Option (List Pr.T)) (e : Ending) (w' : World) : Prop := Below w.heap.size w w' ∧ match x with
  | none => e = .returned (.tuple #[.slice none 0 0, errRule])
  | some ts => ∃ v, e = .returned (.tuple #[v, .nilIface]) ∧ Parts w' w.heap.size v ts ∧ ts.length ≤ 1000 ∧ ∀ t ∈ ts, t.length ≤ 1000
theorem parts_grow {w w1 w2 : World} {B : Nat} {v v' : Value} {ps : List Pr.T} {x : Pr.T} {o : Obj} (hown : Parts w1 B v ps) (hb : Below B w w1) (hB : B ≤ w1.heap.size) (hown' : w2.ownsRow B 9 1 v' (ps.length + 1) (ps.map strV ++ [strV x])) (hg : (w1.alloc o).grownBy w2 v.ownBlock) :
    Parts w2 B v' (ps ++ [x]) ∧ Below B w w2 := by
  refine ⟨by unfold Parts; simpa using hown', (hb.alloc hB o).grown hg (by simp; omega) fun k hk => (World.ownsRow.lt hown k hk).1⟩
theorem measure_drop (c : UInt8) (r : Pr.T) (n : Nat) (hn : n ≠ 0) (h : n ≤ r.length + 1) : (⟨((c :: r).drop n).toArray⟩ : ByteArray).size < (⟨(c :: r).toArray⟩ : ByteArray).size := by
  show ((c :: r).drop n).toArray.size < (c :: r).toArray.size
  simp
  omega

set_option maxHeartbeats 1600000 in
theorem split_any (l : Pr.T) (hl : l.length ≤ 1000) (w : World) :
    Calls Tryz.prog 124 #[.string ⟨l.toArray⟩] w fun e w' => SplitSaid w (Pr.toks l) e w' := by
  obtain ⟨i0, hi0, hz0, hz1, hz2⟩ := info_parts info_strQ
  have HI : Hid (Tryz.prog.info? 9 = some i0 ∧ i0.zero = some (.string ⟨#[]⟩) ∧ i0.size = 1 ∧ i0.bytes = 16) := ⟨hi0, hz0, hz1, hz2⟩
  clear hi0 hz0 hz1 hz2
  obtain ⟨S, hS⟩ : ∃ S, Hid (Pr.toks l = S) := ⟨_, rfl⟩
  rw [hS.out]
  go_enter Tryz.func124, Tryz.ntmps124
  go_wp2
  go_loopw [0, 4] (fun x v wr => ∃ (t : Pr.T) (ps : List Pr.T) (k : Nat), x = .string ⟨t.toArray⟩ ∧ t.length ≤ k ∧ ps.length + t.length ≤ l.length ∧ Hid (∀ t ∈ ps, t.length ≤ 1000) ∧ Parts wr w.heap.size v ps ∧ Below w.heap.size w wr ∧ Hid (S = (Pr.splitGo k t).map (ps ++ ·))) (fun x _ _ => match x with | .string s => s.size | _ => 0)
  case atStart => exact ⟨l, [], l.length, rfl, Nat.le_refl _, by simp, fun t ht => (by cases ht), World.ownsRow_nil _ _ _ _, Below.refl _ _, by show _ = _; rw [← hS.out]; simp [Pr.toks]⟩
  case round =>
    obtain ⟨t, ps, k, rfl, hk, hle, hsm, hown, hb, hR⟩ := hrel
    cases t with
    | nil =>
      have hR2 : Hid (S = some ps) := by show _ = _; rw [hR.out, split_nil]; simp
      have hpl : ps.length ≤ 1000 := by simp at hle; omega
      clear hR hle
      go_wp2
      go_ret2
      refine ⟨hb, ?_⟩
      rw [hR2.out]
      exact ⟨_, rfl, hown, hpl, hsm.out⟩
    | cons c r =>
      obtain ⟨k, rfl⟩ : ∃ k', k = k' + 1 := ⟨k - 1, by simp at hk; omega⟩
      simp only [List.length_cons] at hk hle
      have hlp := lengthOfPart_any c r (by omega) wr
      have hpl := part_le (c :: r)
      have h0 : ∀ h, ((⟨(c :: r).toArray⟩ : ByteArray)[0]'h).toNat = c.toNat := fun h => rfl
      have ht := ex_take (c :: r) (Pr.partLen (c :: r))
      have hd := ex_drop (c :: r) (Pr.partLen (c :: r))
      have hm := measure_drop c r (Pr.partLen (c :: r))
      have hs0 := split_bad k c r
      have hs1 := split_step k c r
      simp only [List.length_cons] at hpl hd
      generalize hN : Pr.partLen (c :: r) = N at *
      go_wp2_with fail
      refine hlp.mono ?_
      rintro e w1 ⟨rfl, hb1⟩
      have hown1 := hown.keep hb1
      replace hb := below_of hb hb1
      clear hlp hown hb1
      by_cases hn : N = 0
      · have hn' : ((N : Int) == 0) = true := by rw [hn]; rfl
        have hR2 : Hid (S = none) := by show _ = _; rw [hR.out, hs0 hn]; rfl
        clear hR hs0 hs1 hm
        go_wp2
        go_ret2
        refine ⟨hb, ?_⟩
        rw [hR2.out]
        rfl
      · have hn' : ((N : Int) == 0) = false := by rw [beq_eq_false_iff_ne]; omega
        have hms := hm hn hpl
        by_cases hc : c = 32
        · have hc' : ((c.toNat : Int) == 32) = true := by rw [hc]; rfl
          have hR2 : Hid (S = (Pr.splitGo k ((c :: r).drop N)).map (ps ++ ·)) := by
            show _ = _
            rw [hR.out, hs1 hn ps, if_pos hc]
          have HM : Hid ((⟨((c :: r).drop N).toArray⟩ : ByteArray).size < (⟨(c :: r).toArray⟩ : ByteArray).size) := hms
          clear hR hs0 hs1 hm hms hc ht
          go_wp2
          go_roundw
          case rel => exact ⟨(c :: r).drop N, ps, k, rfl, by simp; omega, by simp; omega, hsm, hown1, hb, hR2⟩
          case measure => exact HM.out
        · have hc' : ((c.toNat : Int) == 32) = false := by
            rw [beq_eq_false_iff_ne]
            intro e
            exact hc (UInt8.toNat_inj.1 (by show c.toNat = 32; omega))
          have hR2 : Hid (S = (Pr.splitGo k ((c :: r).drop N)).map (ps ++ [(c :: r).take N] ++ ·)) := by
            show _ = _
            rw [hR.out, hs1 hn ps, if_neg hc]
          have HM : Hid ((⟨((c :: r).drop N).toArray⟩ : ByteArray).size < (⟨(c :: r).toArray⟩ : ByteArray).size) := hms
          have hsm2 : Hid (∀ t ∈ ps ++ [(c :: r).take N], t.length ≤ 1000) := fun t ht => by
            rcases List.mem_append.1 ht with ht | ht
            · exact hsm.out t ht
            · rw [List.mem_singleton] at ht
              rw [ht]; simp; omega
          clear hR hs0 hs1 hm hms hc hsm
          go_wp2_with (first
            | (at_builtin; refine wpList_append_own _ rfl _ _ 35 rfl w.heap.size 9 i0 (.string ⟨#[]⟩) 1 16 Tryz.underlying35 HI.out.1 HI.out.2.1 HI.out.2.2.1 HI.out.2.2.2 rfl (by decide) _ _ _ rfl (World.ownsRow.alloc hown1 _) ⟨w1.heap.size, 0, none⟩ 1 1 [strV ((c :: r).take N)] rfl rfl ?c1 ?c2 ?c3 ?c4 ?c5 ?_)
            | go_in)
          case c1 =>
            intro j u hj
            match j, hj with
            | 0, hj => simp at hj; subst hj; simp [Addr.add, strV]
          case c2 => intro u hu; simp at hu; subst hu; rfl
          case c3 => unfold maxLen; omega
          case c4 => omega
          case c5 => have := hb.size; simp; omega
          · intro v' w2 hown' hgrow _
            obtain ⟨g1, g2⟩ := parts_grow hown1 hb (by have := hb.size; omega) hown' hgrow
            clear hown' hgrow hown1
            go_wp2
            go_roundw
            case rel => exact ⟨(c :: r).drop N, ps ++ [(c :: r).take N], k, rfl, by simp; omega, by simp; omega, hsm2, g1, g2, hR2⟩
            case measure => exact HM.out
end Go.Proofs.YtaepcfidpekflaaGreatDoor
namespace Go.Proofs.YtaepcfidpekflaaGreatDoor
open Go.RowKit

theorem all_take_any (p : UInt8 → Bool) (s : ByteArray) (k : Nat) (h : k < s.size) : (s.data.toList.take (k + 1)).all p = ((s.data.toList.take k).all p && p s[k]) := by
  rw [List.take_succ_eq_append_getElem (by simpa using h), List.all_append]
  simp
  rfl
theorem all_false (p : UInt8 → Bool) (s : ByteArray) (k : Nat) (h : k < s.size) (hp : p s[k] = false) : s.data.toList.all p = false := by
  rw [List.all_eq_false]
  refine ⟨s[k], ?_, by simp [hp]⟩
  have : s[k] = s.data.toList[k]'(by simpa using h) := rfl
  rw [this]
  exact List.getElem_mem _
theorem rb {a b : Bool} (h : a = b) : Ending.returned (.bool a) = .returned (.bool b) := by rw [h]

set_option maxHeartbeats 400000 in
theorem numerals_any (s : ByteArray) (w : World) (hs : s.size ≤ 1000000) :
    Calls Tryz.prog 50 #[.string s] w fun e w' => e = .returned (.bool (Pn.digitsB s.data.toList)) ∧ w' = w := by
  go_enter Tryz.func50, Tryz.ntmps50
  go_wp2
  go_loop [3] (fun t => ∃ k : Nat, k ≤ s.size ∧ t = .int .i64 k ∧ Hid ((s.data.toList.take k).all Pn.isDig = true)) (fun t => s.size - (intOf t).toNat)
  case atStart => exact ⟨0, Nat.zero_le _, rfl, by show _ = _; simp⟩
  case round =>
    obtain ⟨k, hk, rfl, HK⟩ := hrel
    by_cases hlt : k < s.size
    · by_cases hd : 48 ≤ s[k].toNat ∧ s[k].toNat ≤ 57
      · have HK2 : Hid ((s.data.toList.take (k + 1)).all Pn.isDig = true) := by
          show _ = _
          rw [all_take_any _ s k hlt, HK.out, (Pn.isDig_iff _).2 hd]; rfl
        obtain ⟨h1, h2⟩ := hd
        have h1' : ¬ (s[k].toNat : Int) < 48 := by omega
        have h2' : ¬ (57 : Int) < s[k].toNat := by omega
        go_wp2
        go_round
        case rel => exact ⟨k + 1, hlt, by go_num, HK2⟩
        case measure => simp [intOf]; omega
      · have HF : Hid (Pn.digitsB s.data.toList = false) := by
          show _ = _
          have : Pn.isDig s[k] = false := by
            cases e : Pn.isDig s[k] with
            | false => rfl
            | true => exact absurd ((Pn.isDig_iff _).1 e) hd
          rw [Pn.digitsB, all_false _ s k hlt this, Bool.and_false]
        by_cases h1 : (s[k].toNat : Int) < 48
        · clear hd
          go_wp2
          go_ret
          exact ⟨rb HF.out.symm, rfl⟩
        · have h2 : (57 : Int) < s[k].toNat := by omega
          clear hd
          go_wp2
          go_ret
          exact ⟨rb HF.out.symm, rfl⟩
    · have HF : Hid (Pn.digitsB s.data.toList = decide ((0 : Int) < s.size)) := by
        show _ = _
        have h := HK.out
        rw [List.take_of_length_le (by simp; omega)] at h
        rw [Pn.digitsB, h, Bool.and_true, Lib.size_eq]
        cases s.data.toList with
        | nil => rfl
        | cons c r => simp
      go_wp2
      all_goals go_ret
      all_goals exact ⟨rb (by rw [HF.out]; simp), rfl⟩

set_option maxHeartbeats 400000 in
theorem nought_any (s : ByteArray) (w : World) (hs : s.size ≤ 1000000) :
    Calls Tryz.prog 51 #[.string s] w fun e w' => e = .returned (.bool (Pn.zeroB s.data.toList)) ∧ w' = w := by
  go_enter Tryz.func51, Tryz.ntmps51
  go_wp2
  go_loop [3] (fun t => ∃ k : Nat, k ≤ s.size ∧ t = .int .i64 k ∧ Hid ((s.data.toList.take k).all (· == 48) = true)) (fun t => s.size - (intOf t).toNat)
  case atStart => exact ⟨0, Nat.zero_le _, rfl, by show _ = _; simp⟩
  case round =>
    obtain ⟨k, hk, rfl, HK⟩ := hrel
    by_cases hlt : k < s.size
    · by_cases hd : s[k].toNat = 48
      · have h48 : s[k] = 48 := UInt8.toNat_inj.1 hd
        have HK2 : Hid ((s.data.toList.take (k + 1)).all (· == 48) = true) := by
          show _ = _
          rw [all_take_any _ s k hlt, HK.out, h48]; rfl
        have h' : ((s[k].toNat : Int) != 48) = false := by simp; omega
        clear hd h48
        go_wp2
        go_round
        case rel => exact ⟨k + 1, hlt, by go_num, HK2⟩
        case measure => simp [intOf]; omega
      · have HF : Hid (Pn.zeroB s.data.toList = false) := by
          show _ = _
          refine all_false _ s k hlt ?_
          rw [beq_eq_false_iff_ne]
          intro e
          exact hd (by rw [e]; rfl)
        have h' : ((s[k].toNat : Int) != 48) = true := by simp; omega
        clear hd
        go_wp2
        go_ret
        exact ⟨rb HF.out.symm, rfl⟩
    · have HF : Hid (Pn.zeroB s.data.toList = true) := by
        show _ = _
        have h := HK.out
        rw [List.take_of_length_le (by simp; omega)] at h
        exact h
      go_wp2
      all_goals go_ret
      all_goals exact ⟨rb HF.out.symm, rfl⟩

theorem cut_at (l : List UInt8) (k : Nat) (hk : k < l.length) (h1 : ∀ j (hj : j < l.length), j < k → l[j] ≠ 46) (h2 : l[k] = 46) : Lib.cut l [46] = (l.take k, l.drop (k + 1), true) := by
  have hi : Lib.index l [46] = k := by
    refine Lib.index_first (by omega) ?_ ?_
    · rw [Lib.occAt, List.drop_eq_getElem_cons hk, h2]; simp [List.isPrefixOf]
    · intro j hj
      rw [Lib.occAt, List.drop_eq_getElem_cons (by omega)]
      have := h1 j (by omega) hj
      simp only [List.isPrefixOf, Bool.and_true, beq_eq_false_iff_ne]
      exact fun e => this e.symm
  unfold Lib.cut
  rw [hi, if_pos (by omega)]
  simp
theorem cut_end (l : List UInt8) (h1 : ∀ j (hj : j < l.length), l[j] ≠ 46) : Lib.cut l [46] = (l, [], false) := by
  have hi : Lib.index l [46] = -1 := by
    refine Lib.index_none ?_
    intro j hj
    rw [Lib.occAt]
    rcases Nat.lt_or_ge j l.length with h | h
    · rw [List.drop_eq_getElem_cons h]
      have := h1 j h
      simp only [List.isPrefixOf, Bool.and_true, beq_eq_false_iff_ne]
      exact fun e => this e.symm
    · rw [List.drop_eq_nil_of_le h]; rfl
  unfold Lib.cut
  rw [hi, if_neg (by omega)]
theorem ret_cut {l a b : List UInt8} {s t : ByteArray} {p q : Bool} (h : Lib.cut l [46] = (a, b, p)) (hs : s = ⟨a.toArray⟩) (ht : t = ⟨b.toArray⟩) (hq : q = p) :
    Ending.returned (.tuple #[.string s, .string t, .bool q]) = .returned (.tuple #[.string ⟨(Lib.cut l [46]).1.toArray⟩, .string ⟨(Lib.cut l [46]).2.1.toArray⟩, .bool (Lib.cut l [46]).2.2]) := by
  rw [h, hs, ht, hq]

set_option maxHeartbeats 400000 in
theorem rcut_any (s : ByteArray) (w : World) (hs : s.size ≤ 1000000) :
    Calls Tryz.prog 49 #[.string s, .int .u8 46] w fun e w' => e = .returned (.tuple #[.string ⟨(Lib.cut s.data.toList [46]).1.toArray⟩, .string ⟨(Lib.cut s.data.toList [46]).2.1.toArray⟩, .bool (Lib.cut s.data.toList [46]).2.2]) ∧ Below w.heap.size w w' := by
  go_enter Tryz.func49, Tryz.ntmps49
  go_wp2
  go_loop [7] (fun t => ∃ k : Nat, k ≤ s.size ∧ t = .int .i64 k ∧ Hid (∀ j (hj : j < s.data.toList.length), j < k → s.data.toList[j] ≠ 46)) (fun t => s.size - (intOf t).toNat)
  case atStart => exact ⟨0, Nat.zero_le _, rfl, fun j _ h => by omega⟩
  case round =>
    obtain ⟨k, hk, rfl, HK⟩ := hrel
    by_cases hlt : k < s.size
    · have hlt' : k < s.data.toList.length := by rw [← Lib.size_eq]; exact hlt
      have hgk : s.data.toList[k] = s[k] := rfl
      by_cases hc : s[k].toNat = 46
      · have hc' : ((s[k].toNat : Int) == 46) = true := by simp; omega
        have HX : Hid (Lib.cut s.data.toList [46] = (s.data.toList.take k, s.data.toList.drop (k + 1), true)) := cut_at _ k hlt' HK.out (by rw [hgk]; exact UInt8.toNat_inj.1 hc)
        clear hc hgk
        go_wp2
        go_quiet (fail)
        go_wp2
        go_ret3
        exact ⟨ret_cut HX.out (by rw [Lib.extract_upto]) (by rw [Lib.extract_from]) rfl, drewB _ _⟩
      · have hc' : ((s[k].toNat : Int) == 46) = false := by simp; omega
        have HK2 : Hid (∀ j (hj : j < s.data.toList.length), j < k + 1 → s.data.toList[j] ≠ 46) := by
          intro j hj h
          by_cases e : j = k
          · subst e; intro h46; rw [hgk] at h46; exact hc (by rw [h46]; rfl)
          · exact HK.out j hj (by omega)
        clear hc hgk
        go_wp2
        go_round
        case rel => exact ⟨k + 1, hlt, by go_num, HK2⟩
        case measure => simp [intOf]; omega
    · have HX : Hid (Lib.cut s.data.toList [46] = (s.data.toList, [], false)) := cut_end _ (fun j hj => HK.out j hj (by rw [← Lib.size_eq] at hj; omega))
      go_wp2
      go_ret3
      exact ⟨ret_cut HX.out (by rw [Lib.mk_data]) rfl rfl, Below.refl _ _⟩

set_option maxHeartbeats 400000 in
theorem point_any (r : Int) (w : World) :
    Calls Tryz.prog 47 #[.int .i32 r] w fun e w' => e = .returned (.bool (Lib.validRune r)) ∧ w' = w := by
  by_cases h0 : 0 ≤ r
  · by_cases h1 : r ≤ 1114111
    · by_cases h2 : r < 55296
      · have HV : Hid (true = Lib.validRune r) := by show _ = _; symm; simp [Lib.validRune]; omega
        go_enter Tryz.func47, Tryz.ntmps47
        go_wp2
        go_ret
        exact ⟨rb HV.out, rfl⟩
      · by_cases h3 : 57343 < r
        · have HV : Hid (true = Lib.validRune r) := by show _ = _; symm; simp [Lib.validRune]; omega
          go_enter Tryz.func47, Tryz.ntmps47
          go_wp2
          go_ret
          exact ⟨rb HV.out, rfl⟩
        · have HV : Hid (false = Lib.validRune r) := by show _ = _; symm; simp [Lib.validRune]; omega
          go_enter Tryz.func47, Tryz.ntmps47
          go_wp2
          go_ret
          exact ⟨rb HV.out, rfl⟩
    · have HV : Hid (false = Lib.validRune r) := by show _ = _; symm; simp [Lib.validRune]; omega
      go_enter Tryz.func47, Tryz.ntmps47
      go_wp2
      go_ret
      exact ⟨rb HV.out, rfl⟩
  · have HV : Hid (false = Lib.validRune r) := by show _ = _; symm; simp [Lib.validRune]; omega
    go_enter Tryz.func47, Tryz.ntmps47
    go_wp2
    go_ret
    exact ⟨rb HV.out, rfl⟩
end Go.Proofs.YtaepcfidpekflaaGreatDoor
namespace Go.Proofs.YtaepcfidpekflaaGreatDoor
open Go.RowKit Go.Sort

theorem val_snoc (l : Pr.T) (c : UInt8) : Pr.val (l ++ [c]) = 10 * Pr.val l + (c.toNat - 48) := by simp [Pr.val]
theorem dec_val (u : Nat) : Pr.val (Lib.decDigits u) = u ∧ ∀ c ∈ Lib.decDigits u, Pn.isDig c = true := by
  induction u using Nat.strongRecOn with
  | _ u ih =>
    rw [Lib.decDigits]
    by_cases h : u < 10
    · rw [dif_pos h]
      have : (UInt8.ofNat (48 + u)).toNat = 48 + u := by rw [UInt8.toNat_ofNat']; omega
      refine ⟨by show 10 * 0 + ((UInt8.ofNat (48 + u)).toNat - 48) = u; rw [this]; omega, fun c hc => ?_⟩
      rw [List.mem_singleton] at hc
      subst hc
      rw [Pn.isDig_iff, this]; omega
    · rw [dif_neg h]
      obtain ⟨i1, i2⟩ := ih (u / 10) (by omega)
      have : (UInt8.ofNat (48 + u % 10)).toNat = 48 + u % 10 := by rw [UInt8.toNat_ofNat']; omega
      refine ⟨by rw [val_snoc, i1, this]; omega, fun c hc => ?_⟩
      rcases List.mem_append.1 hc with hc | hc
      · exact i2 c hc
      · rw [List.mem_singleton] at hc
        subst hc
        rw [Pn.isDig_iff, this]; omega
theorem nd_le (u : Nat) (h : u < 18446744073709551616) : Lib.nDigits u ≤ 20 := by
  rcases Nat.eq_zero_or_pos u with rfl | h1
  · rw [Lib.nDigits_small (by omega)]; omega
  · have := Lib.numDigits_eq u h1 h; split at this <;> omega
theorem dec_digs (u : Nat) (h : u < 18446744073709551616) : Digs (Lib.decDigits u) := ⟨(dec_val u).2, by rw [Lib.decDigits_length]; have := nd_le u h; omega⟩

set_option maxHeartbeats 6400000 in
set_option maxRecDepth 100000 in
theorem iformat_any (u : Nat) (hu : u ≤ 1000000000) (w : World) (htab : Lib.TabIs Tryz.prog w "internal/strconv.uint64pow10" .u64 Lib.pow10Tab) :
    Calls Tryz.prog 245 #[.int .u64 u, .int .i64 10] w fun e w' => e = .returned (.string ⟨(Lib.decDigits u).toArray⟩) ∧ Below w.heap.size w w' := by
  by_cases hs : u < 100
  · have hs' : (u : Int) < 100 := by omega
    have hwr : IntKind.i64.wrap (u : Int) = u := by rw [IntKind.wrap_i64]; omega
    go_enter Tryz.func245, Tryz.ntmps245
    go_wp2_with (go_at_call 267; refine (Tryz.internal_strconv_small u hs _).mono ?_; rintro e w' ⟨rfl, rfl⟩)
    go_ret
    exact ⟨rfl, Below.refl _ _⟩
  · have hs' : ¬ (u : Int) < 100 := by omega
    have hu1 : 1 ≤ u := by omega
    have hu64 : u < 18446744073709551616 := by omega
    have hnd20 := nd_le u hu64
    have hal : Program.arrayLen Tryz.prog 394 = 24 := by simp [Program.arrayLen, Tryz.underlying394]
    have hsl : ∀ W, (Instr.sliceAt 394 (.pointer (some ⟨w.heap.size, 0, none⟩)) none (some (.int .i64 (Lib.nDigits u : Int))) none).run Tryz.prog W = .ok (.slice (some ⟨w.heap.size, 0, none⟩) (Lib.nDigits u) 24) W := fun W => by
      rw [run_sliceAt_array_h W 394 ⟨w.heap.size, 0, none⟩ (by simp [Program.arrayLen, Program.elem, Tryz.underlying394]) .i64 (Lib.nDigits u : Int) (by omega) (by rw [hal]; omega)]
      go_simp
    have hH0 := Lib.holds_zero0 w 394 (Lib.nDigits u) (by omega)
    have hfmt := Tryz.internal_strconv_formatBase10 w.heap.size 0 24 u (Array.replicate (Lib.nDigits u) 0) (w.alloc (.cells Lib.zeros24 394)) hH0 (by rw [Array.size_replicate]; exact Lib.lt_pow_nDigits u) hu64 (by rw [Array.size_replicate]; omega)
    rw [Array.size_replicate] at hfmt
    have HH0 := Lib.hid hH0
    clear hH0 hal
    go_enter Tryz.func245, Tryz.ntmps245
    go_wp2_with (go_at_call 268; refine (Tryz.internal_strconv_numDigits u hu1 hu64 _ (Lib.tabIs_alloc htab _)).mono ?_; rintro e w' ⟨rfl, rfl⟩)
    go_at_call 269
    refine hfmt.mono ?_
    rintro e w' ⟨rfl, k, v', dk, rfl, hF⟩
    have hcv : (convert 146 9 (.slice (some ⟨w.heap.size, 0, none⟩) (Lib.nDigits u) 24)).run Tryz.prog ((putRow (fun (b : UInt8) => Value.int .u8 (b.toNat : Int)) (w.alloc (.cells Lib.zeros24 394)) w.heap.size 0 dk).drewN k) = .ok (.string ⟨(Lib.decDigits u).toArray⟩) ((putRow (fun (b : UInt8) => Value.int .u8 (b.toNat : Int)) (w.alloc (.cells Lib.zeros24 394)) w.heap.size 0 dk).drewN k) := by
      have h := run_convert_bytes_back (P := Tryz.prog) ((putRow (fun (b : UInt8) => Value.int .u8 (b.toNat : Int)) (w.alloc (.cells Lib.zeros24 394)) w.heap.size 0 dk).drewN k) 146 9 5 ⟨w.heap.size, 0, none⟩ 24 (Lib.decDigits u) Tryz.underlying146 Tryz.underlying5 Tryz.underlying9 (fun j hj => by
        rw [Lib.row_is_numeral hF j hj, Lib.add_plain, World.cell?_drewN]
        exact cell?_putRow (fun (b : UInt8) => Value.int .u8 (b.toNat : Int)) _ w.heap.size 0 _ dk HH0.out (by rw [hF.size, Array.size_replicate]) j (by rw [hF.size]; rw [Lib.decDigits_length] at hj; exact hj))
      rw [Lib.decDigits_length] at h
      exact h
    go_wp2
    go_ret
    obtain ⟨os, eo⟩ := Lib.fin_at w (.cells Lib.zeros24 394) dk k 0
    rw [eo]
    exact ⟨rfl, Lib.below_grow _ w (Nat.le_refl _) k os⟩
set_option maxHeartbeats 400000 in
theorem format_any (u : Nat) (hu : u ≤ 1000000000) (w : World) (hB : Base w) :
    Calls Tryz.prog 227 #[.int .u64 u, .int .i64 10] w fun e w' => e = .returned (.string ⟨(Lib.decDigits u).toArray⟩) ∧ Below w.heap.size w w' := by
  go_enter Tryz.func227, Tryz.ntmps227
  go_wp2_with (go_at_call 245; refine (iformat_any u hu _ hB.2.2.2.1).mono ?_; rintro e w' ⟨rfl, hb⟩)
  go_ret
  exact ⟨rfl, hb⟩

/-- The loop over the digits, up to some of them. -/
theorem val_take (s : ByteArray) (k : Nat) (h : k < s.size) : Pr.val (s.data.toList.take (k + 1)) = 10 * Pr.val (s.data.toList.take k) + (s[k].toNat - 48) := by
  rw [List.take_succ_eq_append_getElem (by simpa using h), val_snoc]
  rfl
theorem dec_one' (s : ByteArray) (pos : Nat) (h : pos < s.size) (hd : Pn.isDig s[pos] = true) : Utf8.decode s pos = (s[pos].toNat, 1) := by
  have := (Pn.isDig_iff _).1 hd
  exact decode_ascii s pos h (by omega)

set_option maxHeartbeats 800000 in
theorem rest_any (d : Pr.T) (m : Nat) (hd : Digs d) (hm : 1 ≤ m) (hm2 : m ≤ 1000000000) (w : World) :
    Calls Tryz.prog 256 #[.string ⟨d.toArray⟩, .int .u64 m] w fun e w' => e = .returned (.int .u64 (Pr.val d % m : Nat)) ∧ Below w.heap.size w w' := by
  obtain ⟨s, hs⟩ : ∃ s : ByteArray, s = ⟨d.toArray⟩ := ⟨_, rfl⟩
  have hsd : s.data.toList = d := by rw [hs]
  rw [← hs]
  have HD : Hid (∀ c ∈ s.data.toList, Pn.isDig c = true) := by rw [hsd]; exact hd.1
  have HV : Hid (Pr.val s.data.toList = Pr.val d) := by show _ = _; rw [hsd]
  generalize Pr.val d = V at *
  clear hsd hs hd
  have hm' : ¬ (m : Int) = 0 := by omega
  go_enter Tryz.func256, Tryz.ntmps256
  go_wp2
  go_loopw [5] (fun t wr => ∃ pos : Nat, pos ≤ s.size ∧ wr.heap[w.heap.size]? = some (.stringIter s pos) ∧ Below w.heap.size w wr ∧ ∃ x : Nat, t = .int .u64 x ∧ Hid (x = Pr.val (s.data.toList.take pos) % m) ∧ x < 1000000000) (fun _ wr => s.size - wr.iterPos w.heap.size)
  case atStart =>
    refine ⟨0, Nat.zero_le _, World.iter_heap w s 0, (Below.refl _ w).alloc (Nat.le_refl _) _, 0, rfl, ?_, by omega⟩
    show _ = _
    simp [Pr.val]
  case round =>
    obtain ⟨pos, hpos, hit, hbw, x, rfl, HX, hx⟩ := hrel
    by_cases hp : pos < s.size
    · have hnx : ∀ ty, (Instr.next (.pointer (some ⟨w.heap.size, 0, none⟩)) true ty).run Tryz.prog wr = _ := fun ty => Lib.run_next_any_at wr w.heap.size s pos ty hit hp
      have hg : Pn.isDig s[pos] = true := HD.out _ (by
        have : s[pos] = s.data.toList[pos]'(by simpa using hp) := rfl
        rw [this]; exact List.getElem_mem _)
      rw [dec_one' s pos hp hg] at hnx
      have hit2 := Lib.iterAt_heap wr w.heap.size s pos (pos + 1) hit
      have hbw2 := Lib.below_iterAt hbw (k := w.heap.size) (by omega) s (pos + 1)
      have hv := val_take s pos hp
      obtain ⟨h1, h2⟩ := (Pn.isDig_iff _).1 hg
      generalize hq : s[pos].toNat = q at *
      clear hg hq
      have hw1 : IntKind.i32.wrap ((q : Int) - 48) = (q : Int) - 48 := by rw [IntKind.wrap_i32]; omega
      have hw2 : IntKind.u64.wrap ((q : Int) - 48) = (q : Int) - 48 := by rw [IntKind.wrap_u64]; omega
      have hw3 : IntKind.u64.wrap ((x : Int) * 10) = (x : Int) * 10 := by rw [IntKind.wrap_u64]; omega
      have hw4 : IntKind.u64.wrap ((x : Int) * 10 + ((q : Int) - 48)) = (x : Int) * 10 + ((q : Int) - 48) := by rw [IntKind.wrap_u64]; omega
      have HX2 : Hid (((10 * x + (q - 48)) % m) = Pr.val (s.data.toList.take (pos + 1)) % m) := by
        show _ = _
        rw [hv, HX.out, Nat.add_mod, Nat.mul_mod, Nat.mod_mod, ← Nat.mul_mod, ← Nat.add_mod]
      have hmt : ((x : Int) * 10 + ((q : Int) - 48)).tmod m = (((10 * x + (q - 48)) % m : Nat) : Int) := by
        rw [show (x : Int) * 10 + ((q : Int) - 48) = ((10 * x + (q - 48) : Nat) : Int) by omega]
        rfl
      clear hv HX
      have hlt : (10 * x + (q - 48)) % m < 1000000000 := Nat.lt_of_lt_of_le (Nat.mod_lt _ (by omega)) hm2
      go_wp2
      go_roundw
      case rel => exact ⟨pos + 1, hp, hit2, hbw2, (10 * x + (q - 48)) % m, by simp, HX2, hlt⟩
      case measure =>
        simp only [World.iterPos, hit2, hit]
        omega
    · have hnx : ∀ ty, (Instr.next (.pointer (some ⟨w.heap.size, 0, none⟩)) true ty).run Tryz.prog wr = _ := fun ty => Lib.run_next_end_at wr w.heap.size s pos ty hit hp
      have HE : Hid (x = V % m) := by
        show _ = _
        rw [HX.out, List.take_of_length_le (by simp; omega), HV.out]
      clear HX
      go_wp2
      go_ret
      exact ⟨by rw [HE.out]; rfl, hbw⟩

theorem val_zero (d : Pr.T) : Pr.val (Lib.trimLeftB d 48) = Pr.val d := by
  unfold Lib.trimLeftB
  induction d with
  | nil => rfl
  | cons c r ih =>
    by_cases h : c = 48
    · subst h
      rw [List.dropWhile_cons_of_pos (by rfl), ih]
      rfl
    · rw [List.dropWhile_cons_of_neg (by simpa using h)]
theorem trim_digs (d : Pr.T) (h : Digs d) : Digs (Lib.trimLeftB d 48) := by
  have hs := (List.dropWhile_suffix (· == (48 : UInt8)) (l := d))
  exact ⟨fun c hc => h.1 c (hs.subset hc), Nat.le_trans hs.length_le h.2⟩
theorem val_lt (d : Pr.T) (h : ∀ c ∈ d, Pn.isDig c = true) : Pr.val d < 10 ^ d.length := by
  unfold Pr.val
  suffices H : ∀ (l : Pr.T) (acc k : Nat), (∀ c ∈ l, Pn.isDig c = true) → acc < 10 ^ k → l.foldl (fun v c => 10 * v + (c.toNat - 48)) acc < 10 ^ (k + l.length) by
    have := H d 0 0 h (by decide)
    simpa using this
  intro l
  induction l with
  | nil => intro acc k _ ha; simpa using ha
  | cons c r ih =>
    intro acc k hd ha
    have hc := (Pn.isDig_iff c).1 (hd c (by simp))
    rw [List.foldl_cons, List.length_cons, show k + (r.length + 1) = (k + 1) + r.length by omega]
    refine ih _ (k + 1) (fun x hx => hd x (by simp [hx])) ?_
    rw [Nat.pow_succ]; omega
theorem val_head (c : UInt8) (r : Pr.T) (h : ∀ x ∈ c :: r, Pn.isDig x = true) (hc : c ≠ 48) : 10 ^ r.length ≤ Pr.val (c :: r) := by
  unfold Pr.val
  suffices H : ∀ (l : Pr.T) (acc k : Nat), 10 ^ k ≤ acc → 10 ^ (k + l.length) ≤ l.foldl (fun v c => 10 * v + (c.toNat - 48)) acc by
    have h1 := (Pn.isDig_iff c).1 (h c (by simp))
    have h2 : c.toNat ≠ 48 := fun e => hc (UInt8.toNat_inj.1 e)
    have := H r (10 * 0 + (c.toNat - 48)) 0 (by simp; omega)
    simpa using this
  intro l
  induction l with
  | nil => intro acc k ha; simpa using ha
  | cons c r ih =>
    intro acc k ha
    rw [List.foldl_cons, List.length_cons, show k + (r.length + 1) = (k + 1) + r.length by omega]
    refine ih _ (k + 1) ?_
    rw [Nat.pow_succ]; omega
/-- What is ahead of an amount's point, cut at a thousand millions. -/
def cutW (v : Nat) : Nat := if v < 1000000000 then v else 1000000000
theorem whole_long (d : Pr.T) (h : ∀ c ∈ d, Pn.isDig c = true) (hl : 9 < (Lib.trimLeftB d 48).length) : cutW (Pr.val d) = 1000000000 := by
  have hs := (List.dropWhile_suffix (· == (48 : UInt8)) (l := d))
  have hd : ∀ c ∈ Lib.trimLeftB d 48, Pn.isDig c = true := fun c hc => h c (hs.subset hc)
  rw [← val_zero]
  cases e : Lib.trimLeftB d 48 with
  | nil => rw [e] at hl; simp at hl
  | cons c r =>
    have hc : c ≠ 48 := by
      intro h48
      have := List.head?_dropWhile_not (· == (48 : UInt8)) d
      unfold Lib.trimLeftB at e
      rw [e] at this
      simp [h48] at this
    rw [e] at hl hd
    have := val_head c r hd hc
    have hp : 10 ^ 9 ≤ 10 ^ r.length := Nat.pow_le_pow_right (by omega) (by simp at hl; omega)
    have : (10 : Nat) ^ 9 = 1000000000 := by decide
    unfold cutW
    rw [if_neg (by omega)]
theorem whole_short (d : Pr.T) (h : ∀ c ∈ d, Pn.isDig c = true) (hl : (Lib.trimLeftB d 48).length ≤ 9) : cutW (Pr.val d) = Pr.val (Lib.trimLeftB d 48) % 1000000000 := by
  have hs := (List.dropWhile_suffix (· == (48 : UInt8)) (l := d))
  have hd : ∀ c ∈ Lib.trimLeftB d 48, Pn.isDig c = true := fun c hc => h c (hs.subset hc)
  have h1 := val_lt _ hd
  have hp : 10 ^ (Lib.trimLeftB d 48).length ≤ 10 ^ 9 := Nat.pow_le_pow_right (by omega) hl
  have h9 : (10 : Nat) ^ 9 = 1000000000 := by decide
  rw [val_zero] at h1 ⊢
  unfold cutW
  rw [if_pos (by omega), Nat.mod_eq_of_lt (by omega)]

set_option maxHeartbeats 400000 in
theorem whole_any (d : Pr.T) (b : Bool) (hd : Digs d) (w : World) :
    Calls Tryz.prog 298 #[.agg #[.string ⟨d.toArray⟩, .bool b]] w fun e w' => e = .returned (.int .u64 (cutW (Pr.val d) : Nat)) ∧ Below w.heap.size w w' := by
  have ht := fun W => Tryz.strings_TrimLeft_one ⟨d.toArray⟩ 48 (by decide) W
  simp only [] at ht
  have hw := (Below.refl w.heap.size w).alloc (Nat.le_refl _) (.cells #[.string ⟨d.toArray⟩, .bool b] 384)
  have htd := trim_digs d hd
  have h30 := hd.2
  have c1 := whole_long d hd.1
  have c2 := whole_short d hd.1
  generalize Lib.trimLeftB d 48 = q at *
  generalize cutW (Pr.val d) = C at *
  have hq := htd.2
  go_enter Tryz.func298, Tryz.ntmps298
  go_wp2_with fail
  refine (ht _).mono ?_
  rintro e w1 ⟨rfl, rfl⟩
  by_cases h9 : 9 < q.length
  · have h9' : (9 : Int) < q.length := by omega
    have C1 : Hid (C = 1000000000) := c1 h9
    clear c1 c2 ht
    go_wp2
    go_ret
    exact ⟨by rw [C1.out]; rfl, hw⟩
  · have h9' : ¬ (9 : Int) < q.length := by omega
    have C2 : Hid (C = Pr.val q % 1000000000) := c2 (by omega)
    clear c1 c2 ht
    go_wp2_with (go_at_call 256; refine (rest_any q 1000000000 htd (by omega) (by omega) _).mono ?_; rintro e w2 ⟨rfl, hb2⟩)
    go_ret
    exact ⟨by rw [C2.out]; rfl, below_of hw hb2⟩

theorem short_digs (d : Pr.T) (h : Digs d) : Digs (Pr.shortR d) := by
  have hs := (List.dropWhile_suffix (· == (48 : UInt8)) (l := d.reverse))
  refine ⟨fun c hc => h.1 c (by have := hs.subset (List.mem_reverse.1 hc); simpa using this), ?_⟩
  have := hs.length_le
  simp only [List.length_reverse] at this
  unfold Pr.shortR
  rw [List.length_reverse]
  exact Nat.le_trans this h.2
set_option maxHeartbeats 400000 in
theorem withoutEnd_any (d : Pr.T) (hd : Digs d) (w : World) :
    Calls Tryz.prog 247 #[.string ⟨d.toArray⟩] w fun e w' => e = .returned (.string ⟨(Pr.shortR d).toArray⟩) ∧ w' = w := by
  have h30 := hd.2
  have ht := fun W => Tryz.strings_TrimRight_one ⟨d.toArray⟩ 48 (by decide) W (by show d.toArray.size ≤ _; simp; omega)
  simp only [] at ht
  go_enter Tryz.func247, Tryz.ntmps247
  go_wp2_with (go_at_call 271; refine (ht _).mono ?_; rintro e w1 ⟨rfl, rfl⟩)
  go_ret
  exact ⟨rfl, rfl⟩
set_option maxHeartbeats 400000 in
theorem lengthOf_any (d : Pr.T) (hd : Digs d) (w : World) :
    Calls Tryz.prog 250 #[.string ⟨d.toArray⟩] w fun e w' => e = .returned (.string ⟨(Lib.decDigits d.length).toArray⟩) ∧ w' = w := by
  have h30 := hd.2
  have ht := fun W => Tryz.strconv_Itoa_small d.length (by omega) W
  go_enter Tryz.func250, Tryz.ntmps250
  go_wp2_with (go_at_call 272; refine (ht _).mono ?_; rintro e w1 ⟨rfl, rfl⟩)
  go_ret
  exact ⟨rfl, rfl⟩
end Go.Proofs.YtaepcfidpekflaaGreatDoor
