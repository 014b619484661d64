/-
  split: how long a part is. By the verifier.
-/
import Derived.Test.YtaepcfidpekflaaGreatDoorQa
import Derived.Test.YtaepcfidpekflaaGreatDoorSw
import Derived.WalkSpells
import Derived.WalkLawsBesides
import Derived.Deep.DeepCutAuto
import Derived.Deep.CutBlock
import Derived.Deep.RegionWith
import Derived.Outline
namespace Go.Proofs.YtaepcfidpekflaaGreatDoor
open Go.RowKit

theorem idx_run (p : Nat → Bool) (hp : ∀ x, p x = true → x < 128) (s : ByteArray) : ∀ (f pos : Nat), pos ≤ s.size → s.size ≤ pos + f →
    Lib.idxFuncFrom p false s f pos = if pos + ((s.data.toList.drop pos).takeWhile fun c => p c.toNat).length = s.size then -1 else ((pos + ((s.data.toList.drop pos).takeWhile fun c => p c.toNat).length : Nat) : Int) := by
  intro f
  induction f with
  | zero =>
    intro pos h1 h2
    have : pos = s.size := by omega
    subst this
    rw [List.drop_eq_nil_of_le (by rw [Lib.size_eq]; exact Nat.le_refl _)]
    simp [Lib.idxFuncFrom]
  | succ f ih =>
    intro pos h1 h2
    by_cases hlt : pos < s.size
    · have hlt' : pos < s.data.toList.length := by rw [← Lib.size_eq]; exact hlt
      rw [List.drop_eq_getElem_cons hlt']
      have hg : s.data.toList[pos] = s[pos] := rfl
      rw [hg]
      simp only [Lib.idxFuncFrom, hlt, if_true]
      by_cases hc : s[pos].toNat < 128
      · rw [decode_ascii s pos hlt hc]
        simp only []
        cases hpc : p s[pos].toNat with
        | false =>
          rw [if_pos rfl, List.takeWhile_cons_of_neg (by simp [hpc])]
          simp
          omega
        | true =>
          rw [if_neg (by simp), ih (pos + 1) (by omega) (by omega), List.takeWhile_cons_of_pos (by simp [hpc])]
          simp only [List.length_cons]
          rw [show pos + (((s.data.toList.drop (pos + 1)).takeWhile fun c => p c.toNat).length + 1) = pos + 1 + ((s.data.toList.drop (pos + 1)).takeWhile fun c => p c.toNat).length by omega]
      · have hd := (decode_high s pos hlt (by omega)).1
        have h1' : p (Utf8.decode s pos).1 = false := by
          cases e : p (Utf8.decode s pos).1 with
          | false => rfl
          | true => have := hp _ e; omega
        have h2' : p s[pos].toNat = false := by
          cases e : p s[pos].toNat with
          | false => rfl
          | true => have := hp _ e; omega
        rw [if_pos h1', List.takeWhile_cons_of_neg (by simp [h2'])]
        simp
        omega
    · have : pos = s.size := by omega
      subst this
      rw [Lib.idxFuncFrom_end _ _ _ _ _ hlt, List.drop_eq_nil_of_le (by rw [Lib.size_eq]; exact Nat.le_refl _)]
      simp
theorem trim_run (p : Nat → Bool) (hp : ∀ x, p x = true → x < 128) (s : ByteArray) : (Lib.trimLeftF p s).size = s.size - (s.data.toList.takeWhile fun c => p c.toNat).length := by
  have h := idx_run p hp s s.size 0 (Nat.zero_le _) (by omega)
  simp only [List.drop_zero, Nat.zero_add] at h
  have hle : (s.data.toList.takeWhile fun c => p c.toNat).length ≤ s.size := by
    rw [Lib.size_eq]; exact (List.takeWhile_prefix _).length_le
  unfold Lib.trimLeftF Lib.idxFunc
  rw [h]
  split
  · rename_i e
    rw [if_pos rfl, e]
    simp
    rfl
  · rw [if_neg (by omega)]
    simp

def letP (x : Nat) : Bool := decide (97 ≤ x ∧ x ≤ 122)
def digP (x : Nat) : Bool := decide (48 ≤ x ∧ x ≤ 57)
theorem enters_isLetter : Enters 184 := enters_of Tryz.func184 (by kernel_rfl) rfl
theorem enters_isDigit : Enters 186 := enters_of Tryz.func186 (by kernel_rfl) rfl
theorem ret_bb {a b : Bool} (h : a = b) : Ending.returned (.bool b) = .returned (.bool a) := by rw [h]
set_option maxHeartbeats 400000 in
theorem isLetter_any (x : Nat) (w : World) : Calls Tryz.prog 184 #[.int .i32 x] w fun e w' => e = .returned (.bool (letP x)) ∧ w' = w := by
  by_cases h1 : 97 ≤ x
  · have h1' : (97 : Int) ≤ x := by omega
    have hR : Hid (letP x = decide ((x : Int) ≤ 122)) := by
      show _ = _
      simp only [letP, decide_eq_decide]
      omega
    clear h1
    go_enter Tryz.func184, Tryz.ntmps184
    go_wp2
    go_ret
    exact ⟨ret_bb hR.out, rfl⟩
  · have h1' : ¬ (97 : Int) ≤ x := by omega
    have hR : Hid (letP x = false) := by
      show _ = _
      simp only [letP, decide_eq_false_iff_not]
      omega
    clear h1
    go_enter Tryz.func184, Tryz.ntmps184
    go_wp2
    go_ret
    exact ⟨ret_bb hR.out, rfl⟩
set_option maxHeartbeats 400000 in
theorem isDigit_any (x : Nat) (w : World) : Calls Tryz.prog 186 #[.int .i32 x] w fun e w' => e = .returned (.bool (digP x)) ∧ w' = w := by
  by_cases h1 : 48 ≤ x
  · have h1' : (48 : Int) ≤ x := by omega
    have hR : Hid (digP x = decide ((x : Int) ≤ 57)) := by
      show _ = _
      simp only [digP, decide_eq_decide]
      omega
    clear h1
    go_enter Tryz.func186, Tryz.ntmps186
    go_wp2
    go_ret
    exact ⟨ret_bb hR.out, rfl⟩
  · have h1' : ¬ (48 : Int) ≤ x := by omega
    have hR : Hid (digP x = false) := by
      show _ = _
      simp only [digP, decide_eq_false_iff_not]
      omega
    clear h1
    go_enter Tryz.func186, Tryz.ntmps186
    go_wp2
    go_ret
    exact ⟨ret_bb hR.out, rfl⟩
theorem pred_of (g : Nat) (p : Nat → Bool) (h : ∀ (x : Nat) (w : World), Calls Tryz.prog g #[.int .i32 x] w fun e w' => e = .returned (.bool (p x)) ∧ w' = w) (w : World) : PredAt Tryz.prog g #[] encR p w := fun W x _ =>
  (h x W).mono fun _ _ hh => ⟨hh.1, 0, hh.2⟩
set_option maxHeartbeats 800000 in
theorem lengthOfRun_any (g : Nat) (p : Nat → Bool) (eg : Enters g) (hp : ∀ x, p x = true → x < 128) (h : ∀ (x : Nat) (w : World), Calls Tryz.prog g #[.int .i32 x] w fun e w' => e = .returned (.bool (p x)) ∧ w' = w) (s : ByteArray) (hs : s.size ≤ 1000) (w : World) :
    Calls Tryz.prog 185 #[.string s, .func (.func g) #[] #[]] w fun e w' => e = .returned (.int .i64 (s.data.toList.takeWhile fun c => p c.toNat).length) ∧ Below w.heap.size w w' := by
  have ht := fun W => Tryz.strings_TrimLeftFunc g #[] eg p s W (pred_of g p h W)
  have hz := trim_run p hp s
  have hle : (s.data.toList.takeWhile fun c => p c.toNat).length ≤ s.size := by
    rw [Lib.size_eq]; exact (List.takeWhile_prefix _).length_le
  generalize (s.data.toList.takeWhile fun c => p c.toNat).length = n at *
  generalize Lib.trimLeftF p s = q at *
  have hw1 : IntKind.i64.wrap ((s.size : Int) - (q.size : Int)) = n := by rw [IntKind.wrap_i64, hz]; omega
  have hq : q.size ≤ 1000 := by omega
  clear hz
  go_enter Tryz.func185, Tryz.ntmps185
  go_wp2_with fail
  refine (ht _).mono ?_
  rintro e w1 ⟨rfl, hb1⟩
  clear ht
  go_wp2
  go_ret
  exact ⟨rfl, hb1⟩

theorem hasPre2 (c x y : UInt8) (r : List UInt8) : Lib.hasPrefix (c :: r) [x, y] = decide (c = x ∧ r.head? = some y) := by
  unfold Lib.hasPrefix
  cases r with
  | nil => simp [List.isPrefixOf]
  | cons d r =>
    by_cases h : x = c
    · subst h
      by_cases h2 : y = d
      · subst h2; simp [List.isPrefixOf]
      · have : ¬ d = y := fun e => h2 e.symm
        simp [List.isPrefixOf, h2, this]
    · have : ¬ c = x := fun e => h e.symm
      simp [List.isPrefixOf, h, this]
set_option maxHeartbeats 1600000 in
theorem lengthOfPart_any (c : UInt8) (r : List UInt8) (hs : r.length < 1000) (w : World) :
    Calls Tryz.prog 156 #[.string ⟨(c :: r).toArray⟩] w fun e w' => e = .returned (.int .i64 (Pr.partLen (c :: r))) ∧ Below w.heap.size w w' := by
  obtain ⟨s, hsd⟩ : ∃ s : ByteArray, Hid (s = ⟨(c :: r).toArray⟩) := ⟨_, rfl⟩
  rw [← hsd.out]
  have hz : s.size = r.length + 1 := by rw [hsd.out]; show (c :: r).toArray.size = _; simp
  have hpos : 0 < s.size := by omega
  have hl : s.data.toList = c :: r := by rw [hsd.out]
  have h0 : ∀ h, (s[0]'h).toNat = c.toNat := fun h => by
    have : s[0] = s.data.toList[0]'(by rw [hl]; simp) := rfl
    rw [this]
    simp [hl]
  have cl := fun W => lengthOfRun_any 184 letP enters_isLetter (fun x h => by simp [letP] at h; omega) isLetter_any s (by omega) W
  have cd := fun W => lengthOfRun_any 186 digP enters_isDigit (fun x h => by simp [digP] at h; omega) isDigit_any s (by omega) W
  rw [hl] at cl cd
  have p1 := fun W => Tryz.strings_HasPrefix s ⟨#[33, 61]⟩ W
  have p2 := fun W => Tryz.strings_HasPrefix s ⟨#[46, 46]⟩ W
  simp only [hl] at p1 p2
  rw [hasPre2] at p1 p2
  obtain ⟨R, hR⟩ : ∃ R, Hid (Pr.partLen (c :: r) = R) := ⟨_, rfl⟩
  rw [hR.out]
  clear hl
  have hq := UInt8.toNat_lt c
  have il := isLetter_any c.toNat
  have id := isDigit_any c.toNat
  cases h1 : letP c.toNat with
  | true =>
    rw [h1] at il
    have hRR : Hid (R = ((c :: r).takeWhile fun c => letP c.toNat).length) := by
      show _ = _
      rw [← hR.out, Pr.partLen, if_pos (show Pr.isLet c = true from h1)]
      rfl
    simp only [← hRR.out] at cl
    clear cd p1 p2 id
    go_enter Tryz.func156, Tryz.ntmps156
    go_wp2_with (first | (go_at_call 184; refine (il _).mono ?_; rintro e w1 ⟨rfl, rfl⟩) | (go_at_call 185; refine (cl _).mono ?_; rintro e w2 ⟨rfl, hb2⟩))
    go_ret
    exact ⟨rfl, hb2⟩
  | false =>
    rw [h1] at il
    have n1 : Pr.isLet c ≠ true := by rw [show Pr.isLet c = false from h1]; simp
    cases h2 : digP c.toNat with
    | true =>
      rw [h2] at id
      have hRR : Hid (R = ((c :: r).takeWhile fun c => digP c.toNat).length) := by
        show _ = _
        rw [← hR.out, Pr.partLen, if_neg n1, if_pos (show Pn.isDig c = true from h2)]
        rfl
      simp only [← hRR.out] at cd
      clear cl p1 p2
      go_enter Tryz.func156, Tryz.ntmps156
      go_wp2_with (first | (go_at_call 184; refine (il _).mono ?_; rintro e w1 ⟨rfl, rfl⟩) | (go_at_call 186; refine (id _).mono ?_; rintro e w1 ⟨rfl, rfl⟩) | (go_at_call 185; refine (cd _).mono ?_; rintro e w2 ⟨rfl, hb2⟩))
      go_ret
      exact ⟨rfl, hb2⟩
    | false =>
      rw [h2] at id
      have n2 : Pn.isDig c ≠ true := by rw [show Pn.isDig c = false from h2]; simp
      clear cl cd
      cases h3 : decide (c = 33 ∧ r.head? = some 61) with
      | true =>
        rw [h3] at p1
        have hRR : Hid (R = 2) := by
          show _ = _
          rw [← hR.out, Pr.partLen, if_neg n1, if_neg n2, if_pos (.inl (of_decide_eq_true h3))]
        clear h1 h2 h3 n1 n2
        go_enter Tryz.func156, Tryz.ntmps156
        go_wp2_with (first | (go_at_call 184; refine (il _).mono ?_; rintro e w1 ⟨rfl, rfl⟩) | (go_at_call 186; refine (id _).mono ?_; rintro e w1 ⟨rfl, rfl⟩))
        refine (p1 _).mono ?_
        rintro e w2 ⟨rfl, rfl⟩
        go_wp2
        go_ret
        exact ⟨by rw [hRR.out]; rfl, Below.refl _ _⟩
      | false =>
        rw [h3] at p1
        cases h4 : decide (c = 46 ∧ r.head? = some 46) with
        | true =>
          rw [h4] at p2
          have hRR : Hid (R = 2) := by
            show _ = _
            rw [← hR.out, Pr.partLen, if_neg n1, if_neg n2, if_pos (.inr (of_decide_eq_true h4))]
          clear h1 h2 h3 h4 n1 n2
          go_enter Tryz.func156, Tryz.ntmps156
          go_wp2_with (first | (go_at_call 184; refine (il _).mono ?_; rintro e w1 ⟨rfl, rfl⟩) | (go_at_call 186; refine (id _).mono ?_; rintro e w1 ⟨rfl, rfl⟩))
          refine (p1 _).mono ?_
          rintro e w2 ⟨rfl, rfl⟩
          go_wp2_with fail
          refine (p2 _).mono ?_
          rintro e w3 ⟨rfl, rfl⟩
          go_wp2
          go_ret
          exact ⟨by rw [hRR.out]; rfl, Below.refl _ _⟩
        | false =>
          rw [h4] at p2
          have n3 : ¬ (c = 33 ∧ r.head? = some 61 ∨ c = 46 ∧ r.head? = some 46) := fun h => h.elim (of_decide_eq_false h3) (of_decide_eq_false h4)
          have hRR : Hid (R = if c.toNat = 32 ∨ c.toNat = 61 ∨ c.toNat = 37 ∨ c.toNat = 44 then 1 else 0) := by
            show _ = _
            rw [← hR.out, Pr.partLen, if_neg n1, if_neg n2, if_neg n3]
            simp only [← UInt8.toNat_inj]
            rfl
          clear h1 h2 h3 h4 n1 n2 n3
          generalize c.toNat = q at *
          by_cases e1 : q = 32
          · subst e1
            go_enter Tryz.func156, Tryz.ntmps156
            go_wp2_with (first | (go_at_call 184; refine (il _).mono ?_; rintro e w1 ⟨rfl, rfl⟩) | (go_at_call 186; refine (id _).mono ?_; rintro e w1 ⟨rfl, rfl⟩))
            refine (p1 _).mono ?_
            rintro e w2 ⟨rfl, rfl⟩
            go_wp2_with fail
            refine (p2 _).mono ?_
            rintro e w3 ⟨rfl, rfl⟩
            go_wp2
            go_ret
            exact ⟨by rw [hRR.out]; rfl, Below.refl _ _⟩
          by_cases e2 : q = 61
          · subst e2
            go_enter Tryz.func156, Tryz.ntmps156
            go_wp2_with (first | (go_at_call 184; refine (il _).mono ?_; rintro e w1 ⟨rfl, rfl⟩) | (go_at_call 186; refine (id _).mono ?_; rintro e w1 ⟨rfl, rfl⟩))
            refine (p1 _).mono ?_
            rintro e w2 ⟨rfl, rfl⟩
            go_wp2_with fail
            refine (p2 _).mono ?_
            rintro e w3 ⟨rfl, rfl⟩
            go_wp2
            go_ret
            exact ⟨by rw [hRR.out]; rfl, Below.refl _ _⟩
          by_cases e3 : q = 37
          · subst e3
            go_enter Tryz.func156, Tryz.ntmps156
            go_wp2_with (first | (go_at_call 184; refine (il _).mono ?_; rintro e w1 ⟨rfl, rfl⟩) | (go_at_call 186; refine (id _).mono ?_; rintro e w1 ⟨rfl, rfl⟩))
            refine (p1 _).mono ?_
            rintro e w2 ⟨rfl, rfl⟩
            go_wp2_with fail
            refine (p2 _).mono ?_
            rintro e w3 ⟨rfl, rfl⟩
            go_wp2
            go_ret
            exact ⟨by rw [hRR.out]; rfl, Below.refl _ _⟩
          by_cases e4 : q = 44
          · subst e4
            go_enter Tryz.func156, Tryz.ntmps156
            go_wp2_with (first | (go_at_call 184; refine (il _).mono ?_; rintro e w1 ⟨rfl, rfl⟩) | (go_at_call 186; refine (id _).mono ?_; rintro e w1 ⟨rfl, rfl⟩))
            refine (p1 _).mono ?_
            rintro e w2 ⟨rfl, rfl⟩
            go_wp2_with fail
            refine (p2 _).mono ?_
            rintro e w3 ⟨rfl, rfl⟩
            go_wp2
            go_ret
            exact ⟨by rw [hRR.out]; rfl, Below.refl _ _⟩
          have hR0 : Hid (R = 0) := by
            show _ = _
            rw [hRR.out, if_neg (by omega)]
          have f1 : ((q : Int) == 32) = false := by rw [beq_eq_false_iff_ne]; omega
          have f2 : ((q : Int) == 61) = false := by rw [beq_eq_false_iff_ne]; omega
          have f3 : ((q : Int) == 37) = false := by rw [beq_eq_false_iff_ne]; omega
          have f4 : ((q : Int) == 44) = false := by rw [beq_eq_false_iff_ne]; omega
          clear e1 e2 e3 e4
          go_enter Tryz.func156, Tryz.ntmps156
          go_wp2_with (first | (go_at_call 184; refine (il _).mono ?_; rintro e w1 ⟨rfl, rfl⟩) | (go_at_call 186; refine (id _).mono ?_; rintro e w1 ⟨rfl, rfl⟩))
          refine (p1 _).mono ?_
          rintro e w2 ⟨rfl, rfl⟩
          go_wp2_with fail
          refine (p2 _).mono ?_
          rintro e w3 ⟨rfl, rfl⟩
          go_wp2
          go_ret
          exact ⟨by rw [hR0.out]; rfl, Below.refl _ _⟩
end Go.Proofs.YtaepcfidpekflaaGreatDoor
