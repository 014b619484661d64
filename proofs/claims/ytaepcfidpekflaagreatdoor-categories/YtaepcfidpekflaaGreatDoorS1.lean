/-
  Several texts in one (Sa, Sb, Sc, Sd, Se). By the verifier.
-/
import Derived.Test.YtaepcfidpekflaaGreatDoorRa
import Derived.Test.YtaepcfidpekflaaGreatDoorQe
import Derived.Deep.DeepCutAuto
import Derived.Deep.CutBlock
import Derived.Deep.RegionWith
import Derived.Outline
import Derived.Test.YtaepcfidpekflaaGreatDoorQo
import Derived.Test.YtaepcfidpekflaaGreatDoorQc
namespace Go.Proofs.YtaepcfidpekflaaGreatDoor
open Go.RowKit

/-- Of a byte: 1 a small letter, 2 a digit, 3 a blank, 0 any other. -/
def kindN (c : UInt8) : Nat := if Pr.isLet c then 1 else if Pn.isDig c then 2 else if c = 32 then 3 else 0
theorem isLet_iff (c : UInt8) : Pr.isLet c = true ↔ 97 ≤ c.toNat ∧ c.toNat ≤ 122 := by simp [Pr.isLet]
set_option maxHeartbeats 400000 in
theorem kind_any (c : UInt8) (w : World) : Calls Tryz.prog 115 #[.int .u8 c.toNat] w fun e w' => e = .returned (.int .i64 (kindN c)) ∧ w' = w := by
  obtain ⟨R, hR⟩ : ∃ R, Hid (kindN c = R) := ⟨_, rfl⟩
  rw [hR.out]
  have h256 := UInt8.toNat_lt c
  by_cases h1 : Pr.isLet c = true
  · have e : Hid (R = 1) := by show _ = _; rw [← hR.out, kindN, if_pos h1]
    obtain ⟨a, b⟩ := (isLet_iff c).1 h1
    have a' : (97 : Int) ≤ c.toNat := by omega
    have b' : (c.toNat : Int) ≤ 122 := by omega
    go_enter Tryz.func115, Tryz.ntmps115
    go_wp2
    go_ret
    exact ⟨by rw [e.out]; rfl, rfl⟩
  · by_cases h2 : Pn.isDig c = true
    · have e : Hid (R = 2) := by show _ = _; rw [← hR.out, kindN, if_neg h1, if_pos h2]
      obtain ⟨a, b⟩ := (Pn.isDig_iff c).1 h2
      have a0 : ¬ (97 : Int) ≤ c.toNat := by omega
      have a' : (48 : Int) ≤ c.toNat := by omega
      have b' : (c.toNat : Int) ≤ 57 := by omega
      clear h1
      go_enter Tryz.func115, Tryz.ntmps115
      go_wp2
      go_ret
      exact ⟨by rw [e.out]; rfl, rfl⟩
    · have n1 : ¬ (97 ≤ c.toNat ∧ c.toNat ≤ 122) := fun h => h1 ((isLet_iff c).2 h)
      have n2 : ¬ (48 ≤ c.toNat ∧ c.toNat ≤ 57) := fun h => h2 ((Pn.isDig_iff c).2 h)
      by_cases h3 : c.toNat = 32
      · have e : Hid (R = 3) := by
          show _ = _
          rw [← hR.out, kindN, if_neg h1, if_neg h2, if_pos (UInt8.toNat_inj.1 h3)]
        have a0 : ¬ (97 : Int) ≤ c.toNat := by omega
        have a1 : ¬ (48 : Int) ≤ c.toNat := by omega
        have a2 : ((c.toNat : Int) == 32) = true := by rw [beq_iff_eq]; omega
        clear h1 h2 h3 n1 n2
        go_enter Tryz.func115, Tryz.ntmps115
        go_wp2
        go_ret
        exact ⟨by rw [e.out]; rfl, rfl⟩
      · have e : Hid (R = 0) := by
          show _ = _
          rw [← hR.out, kindN, if_neg h1, if_neg h2, if_neg (fun h => h3 (by rw [h]; rfl))]
        have a2 : ((c.toNat : Int) == 32) = false := by rw [beq_eq_false_iff_ne]; omega
        clear h1 h2 h3
        by_cases x1 : (97 : Int) ≤ c.toNat
        · have x2 : ¬ (c.toNat : Int) ≤ 122 := by omega
          have x3 : (48 : Int) ≤ c.toNat := by omega
          have x4 : ¬ (c.toNat : Int) ≤ 57 := by omega
          clear n1 n2
          go_enter Tryz.func115, Tryz.ntmps115
          go_wp2
          go_ret
          exact ⟨by rw [e.out]; rfl, rfl⟩
        · by_cases x3 : (48 : Int) ≤ c.toNat
          · have x4 : ¬ (c.toNat : Int) ≤ 57 := by omega
            clear n1 n2
            go_enter Tryz.func115, Tryz.ntmps115
            go_wp2
            go_ret
            exact ⟨by rw [e.out]; rfl, rfl⟩
          · clear n1 n2
            go_enter Tryz.func115, Tryz.ntmps115
            go_wp2
            go_ret
            exact ⟨by rw [e.out]; rfl, rfl⟩

theorem fig_some (t : Pr.T) : (Pr.fig t).isSome = (Pn.digitsB t && (decide (t.length ≤ 9) && (decide (t.length = 1) || t.head? != some 48))) := by
  unfold Pr.fig
  split
  · rename_i h
    obtain ⟨h1, h2, h3⟩ := h
    rw [h1, decide_eq_true h2]
    rcases h3 with h3 | h3
    · simp [h3]
    · simp [h3]
  · rename_i h
    cases h1 : Pn.digitsB t with
    | false => rfl
    | true =>
      by_cases h2 : t.length ≤ 9
      · by_cases h3 : t.length = 1
        · exact absurd ⟨h1, h2, .inl h3⟩ h
        · have h4 : t.head? = some 48 := by
            cases e : decide (t.head? = some 48) with
            | true => exact of_decide_eq_true e
            | false => exact absurd ⟨h1, h2, .inr (of_decide_eq_false e)⟩ h
          simp [h2, h3, h4]
      · simp [h2]
set_option maxHeartbeats 400000 in
theorem figure_any (t : Pr.T) (ht : t.length ≤ 1000) (w : World) : Calls Tryz.prog 117 #[.string ⟨t.toArray⟩] w fun e w' => e = .returned (.tuple #[.string ⟨t.toArray⟩, .bool (Pr.fig t).isSome]) ∧ Below w.heap.size w w' := by
  have cn := fun W => numerals_any ⟨t.toArray⟩ W (by show t.toArray.size ≤ _; simp; omega)
  simp only [] at cn
  rw [fig_some]
  cases hd : Pn.digitsB t with
  | false =>
    rw [hd] at cn
    go_enter Tryz.func117, Tryz.ntmps117
    go_wp2_with (go_at_call 50; refine (cn _).mono ?_; rintro e w1 ⟨rfl, rfl⟩)
    go_quiet (fail)
    go_wp2
    go_ret2
    exact ⟨rfl, drewB _ _⟩
  | true =>
    rw [hd] at cn
    cases t with
    | nil => cases hd
    | cons c r =>
      obtain ⟨R, hR⟩ : ∃ R, Hid ((true && (decide ((c :: r).length ≤ 9) && (decide ((c :: r).length = 1) || (c :: r).head? != some 48))) = R) := ⟨_, rfl⟩
      rw [hR.out]
      simp only [List.length_cons] at ht hR
      by_cases h9 : (r.length : Int) + 1 ≤ 9
      · by_cases h1 : r.length = 0
        · have hF : Hid (R = true) := by show _ = _; rw [← hR.out]; simp [h1]
          have h1' : ((r.length : Int) + 1 == 1) = true := by rw [beq_iff_eq]; omega
          clear h1
          go_enter Tryz.func117, Tryz.ntmps117
          go_wp2_with (go_at_call 50; refine (cn _).mono ?_; rintro e w1 ⟨rfl, rfl⟩)
          go_quiet (fail)
          go_wp2
          go_ret2
          exact ⟨by rw [hF.out]; rfl, drewB _ _⟩
        · have hF : Hid (R = !((c.toNat : Int) == 48)) := by
            show _ = _
            rw [← hR.out]
            have e9 : r.length + 1 ≤ 9 := by omega
            by_cases hc : c = 48
            · simp [h1, e9, hc]
            · have : ((c.toNat : Int) == 48) = false := by
                rw [beq_eq_false_iff_ne]
                intro e
                exact hc (UInt8.toNat_inj.1 (by show c.toNat = 48; omega))
              simp [e9, hc, this]
          have h1' : ((r.length : Int) + 1 == 1) = false := by rw [beq_eq_false_iff_ne]; omega
          have h0 : ∀ h, ((⟨(c :: r).toArray⟩ : ByteArray)[0]'h).toNat = c.toNat := fun h => rfl
          clear h1
          go_enter Tryz.func117, Tryz.ntmps117
          go_wp2_with (go_at_call 50; refine (cn _).mono ?_; rintro e w1 ⟨rfl, rfl⟩)
          go_quiet (fail)
          go_wp2
          go_ret2
          exact ⟨by rw [hF.out]; rfl, drewB _ _⟩
      · have hF : Hid (R = false) := by
          show _ = _
          rw [← hR.out]
          have : ¬ r.length + 1 ≤ 9 := by omega
          simp [this]
        have h9' : decide ((r.length : Int) + 1 ≤ 9) = false := decide_eq_false h9
        have h8 : ¬ (r.length : Int) ≤ 8 := by omega
        have h8' : decide ((r.length : Int) ≤ 8) = false := decide_eq_false h8
        go_enter Tryz.func117, Tryz.ntmps117
        go_wp2_with (go_at_call 50; refine (cn _).mono ?_; rintro e w1 ⟨rfl, rfl⟩)
        go_quiet (fail)
        go_wp2
        go_ret2
        exact ⟨by rw [hF.out]; rfl, drewB _ _⟩
end Go.Proofs.YtaepcfidpekflaaGreatDoor
namespace Go.Proofs.YtaepcfidpekflaaGreatDoor
open Go.RowKit

set_option maxHeartbeats 400000 in
theorem small_any (t : Pr.T) (hd : ∀ c ∈ t, Pn.isDig c = true) (hl : t.length ≤ 9) (w : World) : Calls Tryz.prog 118 #[.string ⟨t.toArray⟩] w fun e w' => e = .returned (.int .i64 (Pr.val t)) ∧ w' = w := by
  obtain ⟨s, hs⟩ : ∃ s : ByteArray, s = ⟨t.toArray⟩ := ⟨_, rfl⟩
  have hsd : s.data.toList = t := by rw [hs]
  rw [← hs]
  have HD : Hid (∀ c ∈ s.data.toList, Pn.isDig c = true) := by rw [hsd]; exact hd
  have HV : Hid (Pr.val s.data.toList = Pr.val t) := by show _ = _; rw [hsd]
  have hsz : s.size ≤ 9 := by rw [Lib.size_eq, hsd]; exact hl
  generalize Pr.val t = V at *
  clear hsd hs hd hl
  go_enter Tryz.func118, Tryz.ntmps118
  go_wp2
  go_loop [3, 4] (fun v i => ∃ k : Nat, k ≤ s.size ∧ i = .int .i64 k ∧ ∃ x : Nat, v = .int .i64 x ∧ Hid (x = Pr.val (s.data.toList.take k)) ∧ x < 1000000000) (fun _ i => s.size - (intOf i).toNat)
  case atStart => exact ⟨0, Nat.zero_le _, rfl, 0, rfl, by show _ = _; simp [Pr.val], by omega⟩
  case round =>
    obtain ⟨k, hk, rfl, x, rfl, HX, hx⟩ := hrel
    by_cases hp : k < s.size
    · have hg : Pn.isDig s[k] = true := HD.out _ (by
        have : s[k] = s.data.toList[k]'(by simpa using hp) := rfl
        rw [this]; exact List.getElem_mem _)
      have hv := val_take s k hp
      have hlt := val_lt (s.data.toList.take (k + 1)) (fun c hc => HD.out c (List.mem_of_mem_take hc))
      have hl9 : (s.data.toList.take (k + 1)).length ≤ 9 := by rw [List.length_take, ← Lib.size_eq]; omega
      have hp9 : 10 ^ (s.data.toList.take (k + 1)).length ≤ 10 ^ 9 := Nat.pow_le_pow_right (by omega) hl9
      have h9 : (10 : Nat) ^ 9 = 1000000000 := by decide
      obtain ⟨h1, h2⟩ := (Pn.isDig_iff _).1 hg
      have hp' : (k : Int) < s.size := by omega
      have HX2 : Hid (10 * x + (s[k].toNat - 48) = Pr.val (s.data.toList.take (k + 1))) := by show _ = _; rw [hv, HX.out]
      have hx2 : 10 * x + (s[k].toNat - 48) < 1000000000 := by rw [HX2.out]; omega
      generalize hq : s[k].toNat = q at *
      have hw1 : IntKind.u8.wrap ((q : Int) - 48) = (q : Int) - 48 := by rw [IntKind.wrap_u8]; omega
      have hw2 : IntKind.i64.wrap (10 * (x : Int)) = 10 * (x : Int) := by rw [IntKind.wrap_i64]; omega
      have hw3 : IntKind.i64.wrap (10 * (x : Int) + ((q : Int) - 48)) = 10 * (x : Int) + ((q : Int) - 48) := by rw [IntKind.wrap_i64]; omega
      clear hv hlt hl9 hp9 h9 hg HX
      go_wp2
      go_round
      case rel => exact ⟨k + 1, hp, by go_num, 10 * x + (q - 48), by congr 1; omega, HX2, hx2⟩
      case measure => simp [intOf]; omega
    · have hp' : ¬ (k : Int) < s.size := by omega
      have HE : Hid (x = V) := by
        show _ = _
        rw [HX.out, List.take_of_length_le (by rw [← Lib.size_eq]; omega), HV.out]
      clear HX
      go_wp2
      go_ret
      exact ⟨by rw [HE.out]; rfl, rfl⟩
theorem digit_at (k : Nat) (h : k < 10) : (⟨#[48, 49, 50, 51, 52, 53, 54, 55, 56, 57]⟩ : ByteArray).extract k (k + 1) = ⟨#[UInt8.ofNat (48 + k)]⟩ := by
  match k, h with
  | 0, _ => decide
  | 1, _ => decide
  | 2, _ => decide
  | 3, _ => decide
  | 4, _ => decide
  | 5, _ => decide
  | 6, _ => decide
  | 7, _ => decide
  | 8, _ => decide
  | 9, _ => decide
set_option maxHeartbeats 400000 in
theorem decimal_any : ∀ (v : Nat) (w : World), v ≤ 1000000000 → Calls Tryz.prog 120 #[.int .i64 v] w fun e w' => e = .returned (.string ⟨(Lib.decDigits v).toArray⟩) ∧ Below w.heap.size w w' := by
  intro v
  induction v using Nat.strongRecOn with
  | _ v ih =>
    intro w hv
    have hm : ((v : Int).tmod 10) = ((v % 10 : Nat) : Int) := rfl
    have hx := digit_at (v % 10) (by omega)
    by_cases h : v < 10
    · have h' : (v : Int) < 10 := by omega
      have hR : Hid (Lib.decDigits v = [UInt8.ofNat (48 + v)]) := by show _ = _; rw [Lib.decDigits, dif_pos h]
      rw [Nat.mod_eq_of_lt h] at hm hx
      clear ih
      go_enter Tryz.func120, Tryz.ntmps120
      go_wp2
      go_ret
      exact ⟨by rw [hR.out]; simp [UInt8.ofNat_add], Below.refl _ _⟩
    · have h' : ¬ (v : Int) < 10 := by omega
      have hR : Hid (Lib.decDigits v = Lib.decDigits (v / 10) ++ [UInt8.ofNat (48 + v % 10)]) := by show _ = _; rw [Lib.decDigits, dif_neg h]
      have hdv : (v : Int).tdiv 10 = ((v / 10 : Nat) : Int) := rfl
      have c1 : ∀ W, Calls Tryz.prog 120 #[.int .i64 ((v : Int) / 10)] W fun e w' => e = .returned (.string ⟨(Lib.decDigits (v / 10)).toArray⟩) ∧ Below W.heap.size W w' := fun W => by
        have := ih (v / 10) (by omega) W (by omega)
        rw [show ((v / 10 : Nat) : Int) = (v : Int) / 10 from rfl] at this
        exact this
      clear ih
      go_enter Tryz.func120, Tryz.ntmps120
      go_wp2_with fail
      refine (c1 _).mono ?_
      rintro e w1 ⟨rfl, hb1⟩
      have hcat : (⟨(Lib.decDigits (v / 10)).toArray⟩ : ByteArray) ++ ⟨#[48 + UInt8.ofNat (v % 10)]⟩ = ⟨(Lib.decDigits v).toArray⟩ := by
        rw [hR.out]
        apply ByteArray.ext
        simp [ByteArray.data_append, UInt8.ofNat_add]
      have hn := (dec_digs (v / 10) (by omega)).2
      clear c1 hR
      go_wp2
      go_ret
      exact ⟨rfl, hb1⟩

/-- Digits without noughts ahead; of none: 0. -/
def plainD (t : Pr.T) : Pr.T := if t.dropWhile (· == 48) = [] then [48] else t.dropWhile (· == 48)
theorem plainD_step (r : Pr.T) : plainD (48 :: r) = plainD r := by
  unfold plainD
  rw [List.dropWhile_cons_of_pos (by rfl)]
theorem plainD_one (c : UInt8) : plainD [c] = [c] := by
  unfold plainD
  by_cases h : c = 48
  · subst h; rfl
  · rw [List.dropWhile_cons_of_neg (by simpa using h)]
    simp
theorem plainD_stop (c : UInt8) (r : Pr.T) (h : c ≠ 48) : plainD (c :: r) = c :: r := by
  unfold plainD
  rw [List.dropWhile_cons_of_neg (by simpa using h)]
  simp
set_option maxHeartbeats 400000 in
theorem plain_any (t : Pr.T) (ht : t.length ≤ 1000) (w : World) : Calls Tryz.prog 152 #[.string ⟨t.toArray⟩] w fun e w' => e = .returned (.string ⟨(plainD t).toArray⟩) ∧ w' = w := by
  obtain ⟨R, hR⟩ : ∃ R, Hid (plainD t = R) := ⟨_, rfl⟩
  rw [hR.out]
  go_enter Tryz.func152, Tryz.ntmps152
  go_wp2
  go_loop [0] (fun x => ∃ u : Pr.T, x = .string ⟨u.toArray⟩ ∧ u.length ≤ 1000 ∧ Hid (plainD u = R)) (fun x => match x with | .string s => s.size | _ => 0)
  case atStart => exact ⟨t, rfl, ht, hR⟩
  case round =>
    obtain ⟨u, rfl, hu, HU⟩ := hrel
    cases u with
    | nil =>
      have hF : Hid (R = [48]) := HU.out.symm
      go_wp2
      go_ret
      exact ⟨by rw [hF.out]; rfl, rfl⟩
    | cons c r =>
      simp only [List.length_cons] at hu
      have h0 : ∀ h, ((⟨(c :: r).toArray⟩ : ByteArray)[0]'h).toNat = c.toNat := fun h => rfl
      have hd := ex_drop (c :: r) 1
      simp only [List.length_cons, List.drop_succ_cons, List.drop_zero] at hd
      by_cases h1 : r.length = 0
      · have h1' : ¬ (1 : Int) < r.length + 1 := by omega
        have hr : r = [] := List.length_eq_zero_iff.1 h1
        subst hr
        have hF : Hid (R = [c]) := HU.out.symm.trans (plainD_one c)
        clear h1 HU
        go_wp2
        go_ret
        exact ⟨by rw [hF.out]; rfl, rfl⟩
      · have h1' : (1 : Int) < r.length + 1 := by omega
        by_cases hc : c = 48
        · have hc' : ((c.toNat : Int) == 48) = true := by rw [hc]; rfl
          have hF : Hid (plainD r = R) := by
            show _ = _
            rw [← HU.out, hc, plainD_step r]
          clear h1 HU hc
          go_wp2
          go_round
          case rel => exact ⟨r, rfl, by omega, hF⟩
          case measure =>
            show r.toArray.size < (c :: r).toArray.size
            simp
        · have hc' : ((c.toNat : Int) == 48) = false := by
            rw [beq_eq_false_iff_ne]
            intro e
            exact hc (UInt8.toNat_inj.1 (by show c.toNat = 48; omega))
          have hF : Hid (R = c :: r) := HU.out.symm.trans (plainD_stop c r hc)
          clear h1 HU hc
          go_wp2
          go_ret
          exact ⟨by rw [hF.out]; rfl, rfl⟩
end Go.Proofs.YtaepcfidpekflaaGreatDoor
namespace Go.Proofs.YtaepcfidpekflaaGreatDoor
open Go.RowKit

set_option maxHeartbeats 800000 in
theorem left_any (t : Pr.T) (m : Nat) (hd : Digs t) (hm : 1 ≤ m) (hm2 : m ≤ 1000000000) (w : World) : Calls Tryz.prog 119 #[.string ⟨t.toArray⟩, .int .i64 m] w fun e w' => e = .returned (.int .i64 (Pr.val t % m : Nat)) ∧ w' = w := by
  obtain ⟨s, hs⟩ : ∃ s : ByteArray, s = ⟨t.toArray⟩ := ⟨_, rfl⟩
  have hsd : s.data.toList = t := by rw [hs]
  rw [← hs]
  have HD : Hid (∀ c ∈ s.data.toList, Pn.isDig c = true) := by rw [hsd]; exact hd.1
  have HV : Hid (Pr.val s.data.toList = Pr.val t) := by show _ = _; rw [hsd]
  have hsz : s.size ≤ 30 := by rw [Lib.size_eq, hsd]; exact hd.2
  generalize Pr.val t = V at *
  clear hsd hs hd
  go_enter Tryz.func119, Tryz.ntmps119
  go_wp2
  go_loop [5, 6] (fun v i => ∃ k : Nat, k ≤ s.size ∧ i = .int .i64 k ∧ ∃ x : Nat, v = .int .i64 x ∧ Hid (x = Pr.val (s.data.toList.take k) % m) ∧ x < m) (fun _ i => s.size - (intOf i).toNat)
  case atStart => exact ⟨0, Nat.zero_le _, rfl, 0, rfl, by show _ = _; simp [Pr.val], by omega⟩
  case round =>
    obtain ⟨k, hk, rfl, x, rfl, HX, hx⟩ := hrel
    by_cases hp : k < s.size
    · have hg : Pn.isDig s[k] = true := HD.out _ (by
        have : s[k] = s.data.toList[k]'(by simpa using hp) := rfl
        rw [this]; exact List.getElem_mem _)
      have hv := val_take s k hp
      obtain ⟨h1, h2⟩ := (Pn.isDig_iff _).1 hg
      have hp' : (k : Int) < s.size := by omega
      have HX2 : Hid ((10 * x + (s[k].toNat - 48)) % m = Pr.val (s.data.toList.take (k + 1)) % m) := by
        show _ = _
        rw [hv, HX.out, Nat.add_mod, Nat.mul_mod, Nat.mod_mod, ← Nat.mul_mod, ← Nat.add_mod]
      generalize hq : s[k].toNat = q at *
      have hw1 : IntKind.u8.wrap ((q : Int) - 48) = (q : Int) - 48 := by rw [IntKind.wrap_u8]; omega
      have hw2 : IntKind.i64.wrap ((x : Int) * 10) = (x : Int) * 10 := by rw [IntKind.wrap_i64]; omega
      have hw3 : IntKind.i64.wrap ((x : Int) * 10 + ((q : Int) - 48)) = (x : Int) * 10 + ((q : Int) - 48) := by rw [IntKind.wrap_i64]; omega
      have hN : (x : Int) * 10 + ((q : Int) - 48) = ((10 * x + (q - 48) : Nat) : Int) := by omega
      have hbig : 10 * x + (q - 48) ≤ 20000000000 := by omega
      clear hv hg HX
      generalize hT : Pr.val (s.data.toList.take (k + 1)) % m = TT at *
      go_wp2_with fail
      go_loop [5] (fun v => ∃ y : Nat, v = .int .i64 y ∧ Hid (y % m = TT) ∧ y ≤ 20000000000) (fun v => (intOf v).toNat)
      case atStart => exact ⟨10 * x + (q - 48), by congr 1, HX2, hbig⟩
      case round =>
        obtain ⟨y, rfl, HY, hy⟩ := hrel
        by_cases hmy : m ≤ y
        · have hmy' : (m : Int) ≤ y := by omega
          go_wp2_with fail
          go_loop [7] (fun z => ∃ p : Nat, z = .int .i64 p ∧ p ≤ y ∧ 1 ≤ p ∧ Hid (p % m = 0)) (fun z => y - (intOf z).toNat)
          case atStart => exact ⟨m, rfl, hmy, hm, by show _ = _; simp⟩
          case round =>
            obtain ⟨p, rfl, hpy, hp1, HP⟩ := hrel
            have hw4 : IntKind.i64.wrap ((p : Int) * 2) = (p : Int) * 2 := by rw [IntKind.wrap_i64]; omega
            have hw5 : IntKind.i64.wrap ((y : Int) - p) = (y : Int) - p := by rw [IntKind.wrap_i64]; omega
            by_cases h2p : p * 2 ≤ y
            · have h2p' : (p : Int) * 2 ≤ y := by omega
              have HP2 : Hid (p * 2 % m = 0) := by show _ = _; rw [Nat.mul_mod, HP.out]; simp
              go_wp2
              go_round
              case rel => exact ⟨p * 2, by congr 1, h2p, by omega, HP2⟩
              case measure => simp [intOf]; omega
            · have h2p' : ¬ (p : Int) * 2 ≤ y := by omega
              have HY2 : Hid ((y - p) % m = TT) := by
                show _ = _
                rw [← HY.out]
                have hd : m ∣ p := Nat.dvd_of_mod_eq_zero HP.out
                obtain ⟨j, rfl⟩ := hd
                exact Nat.sub_mul_mod hpy
              go_wp2
              go_round
              case rel => exact ⟨y - p, by congr 1; omega, HY2, by omega⟩
              case measure => simp [intOf]; omega
        · have hmy' : ¬ (m : Int) ≤ y := by omega
          have HE : Hid (y = TT) := by show _ = _; rw [← HY.out, Nat.mod_eq_of_lt (by omega)]
          have hT' : Hid (Pr.val (s.data.toList.take (k + 1)) % m = TT) := hT
          clear hT HY
          go_wp2
          go_round
          case rel => exact ⟨k + 1, hp, by go_num, y, rfl, by show _ = _; rw [hT'.out, HE.out], by omega⟩
          case measure => simp [intOf]; omega
    · have hp' : ¬ (k : Int) < s.size := by omega
      have HE : Hid (x = V % m) := by
        show _ = _
        rw [HX.out, List.take_of_length_le (by rw [← Lib.size_eq]; omega), HV.out]
      clear HX
      go_wp2
      go_ret
      exact ⟨by rw [HE.out]; rfl, rfl⟩
/-- Digits with no nought ahead of others. -/
def Canon (a : Pr.T) : Prop := a ≠ [] ∧ (∀ c ∈ a, Pn.isDig c = true) ∧ (a.length = 1 ∨ a.head? ≠ some 48)
theorem less_gt : ∀ (a b : Pr.T) (x y : Nat), a.length = b.length → (∀ c ∈ a, Pn.isDig c = true) → (∀ c ∈ b, Pn.isDig c = true) →
    x < y → a.foldl (fun v c => 10 * v + (c.toNat - 48)) x < b.foldl (fun v c => 10 * v + (c.toNat - 48)) y := by
  intro a
  induction a with
  | nil =>
    intro b x y hl _ _ h
    have : b = [] := List.length_eq_zero_iff.1 hl.symm
    subst this
    exact h
  | cons c r ih =>
    intro b x y hl ha hb h
    cases b with
    | nil => simp at hl
    | cons d s =>
      have h1 := (Pn.isDig_iff c).1 (ha c (by simp))
      have h2 := (Pn.isDig_iff d).1 (hb d (by simp))
      simp only [List.foldl_cons]
      exact ih s _ _ (by simpa using hl) (fun z hz => ha z (by simp [hz])) (fun z hz => hb z (by simp [hz])) (by omega)
theorem less_len : ∀ (a b : Pr.T) (x y : Nat), a.length = b.length → (∀ c ∈ a, Pn.isDig c = true) → (∀ c ∈ b, Pn.isDig c = true) →
    (x < y → a.foldl (fun v c => 10 * v + (c.toNat - 48)) x < b.foldl (fun v c => 10 * v + (c.toNat - 48)) y) ∧ (x = y → (Op.bytesLess a b = true ↔ a.foldl (fun v c => 10 * v + (c.toNat - 48)) x < b.foldl (fun v c => 10 * v + (c.toNat - 48)) y) ∧ (a = b ↔ a.foldl (fun v c => 10 * v + (c.toNat - 48)) x = b.foldl (fun v c => 10 * v + (c.toNat - 48)) y)) := by
  intro a
  induction a with
  | nil =>
    intro b x y hl _ _
    have : b = [] := List.length_eq_zero_iff.1 hl.symm
    subst this
    refine ⟨fun h => h, fun h => ?_⟩
    subst h
    simp [Op.bytesLess]
  | cons c r ih =>
    intro b x y hl ha hb
    cases b with
    | nil => simp at hl
    | cons d s =>
      have h1 := (Pn.isDig_iff c).1 (ha c (by simp))
      have h2 := (Pn.isDig_iff d).1 (hb d (by simp))
      have hr := ih s (10 * x + (c.toNat - 48)) (10 * y + (d.toNat - 48)) (by simpa using hl) (fun z hz => ha z (by simp [hz])) (fun z hz => hb z (by simp [hz]))
      simp only [List.foldl_cons]
      refine ⟨fun h => hr.1 (by omega), fun h => ?_⟩
      subst h
      by_cases hcd : c = d
      · subst hcd
        have := hr.2 rfl
        simp only [Op.bytesLess]
        refine ⟨?_, ?_⟩
        · rw [← this.1]; simp
        · rw [← this.2]; simp
      · have hne : c.toNat ≠ d.toNat := fun e => hcd (UInt8.toNat_inj.1 e)
        rcases Nat.lt_or_ge c.toNat d.toNat with hlt | hge
        · have h3 := hr.1 (by omega)
          have hlt' : c < d := UInt8.lt_iff_toNat_lt.2 hlt
          refine ⟨?_, ?_⟩
          · simp [Op.bytesLess, hlt', h3]
          · simp [hcd]; omega
        · have h4 := (less_gt s r (10 * x + (d.toNat - 48)) (10 * x + (c.toNat - 48)) (by simpa using hl.symm) (fun z hz => hb z (by simp [hz])) (fun z hz => ha z (by simp [hz]))) (by omega)
          have hlt' : ¬ c < d := fun h => by have := UInt8.lt_iff_toNat_lt.1 h; omega
          refine ⟨?_, ?_⟩
          · simp [Op.bytesLess, hlt', hcd]; omega
          · simp [hcd]; omega
end Go.Proofs.YtaepcfidpekflaaGreatDoor
namespace Go.Proofs.YtaepcfidpekflaaGreatDoor
open Go.RowKit

theorem canon_len {a b : Pr.T} (ha : Canon a) (hb : Canon b) (h : a.length < b.length) : Pr.val a < Pr.val b := by
  have h1 := val_lt a ha.2.1
  cases b with
  | nil => simp at h
  | cons c r =>
    have hc : c ≠ 48 := by
      rcases hb.2.2 with h2 | h2
      · simp only [List.length_cons] at h2 h
        have : a.length ≠ 0 := fun e => ha.1 (List.length_eq_zero_iff.1 e)
        omega
      · simpa using h2
    have h2 := val_head c r hb.2.1 hc
    simp only [List.length_cons] at h
    have hp : 10 ^ a.length ≤ 10 ^ r.length := Nat.pow_le_pow_right (by omega) (by omega)
    omega
def cmpV (x y : Nat) : Int := if x < y then -1 else if x = y then 0 else 1
theorem canon_less {a b : Pr.T} (ha : Canon a) (hb : Canon b) (h : a.length = b.length) : (Op.bytesLess a b = true ↔ Pr.val a < Pr.val b) ∧ (a = b ↔ Pr.val a = Pr.val b) := (less_len a b 0 0 h ha.2.1 hb.2.1).2 rfl
set_option maxHeartbeats 400000 in
theorem compared_any (a b : Pr.T) (ha : Canon a) (hb : Canon b) (w : World) : Calls Tryz.prog 153 #[.string ⟨a.toArray⟩, .string ⟨b.toArray⟩] w fun e w' => e = .returned (.int .i64 (cmpV (Pr.val a) (Pr.val b))) ∧ w' = w := by
  obtain ⟨R, hR⟩ : ∃ R, Hid (cmpV (Pr.val a) (Pr.val b) = R) := ⟨_, rfl⟩
  rw [hR.out]
  by_cases h1 : a.length < b.length
  · have hF : Hid (R = -1) := by show _ = _; rw [← hR.out, cmpV, if_pos (canon_len ha hb h1)]
    have h1' : (a.length : Int) < b.length := by omega
    clear h1
    go_enter Tryz.func153, Tryz.ntmps153
    go_wp2
    go_ret
    exact ⟨by rw [hF.out]; rfl, rfl⟩
  · have h1' : ¬ (a.length : Int) < b.length := by omega
    by_cases h2 : a.length = b.length
    · have h2' : ((a.length : Int) == b.length) = true := by rw [beq_iff_eq]; omega
      obtain ⟨k1, k2⟩ := canon_less ha hb h2
      cases h3 : Op.bytesLess a b with
      | true =>
        have hF : Hid (R = -1) := by show _ = _; rw [← hR.out, cmpV, if_pos (k1.1 h3)]
        clear h1 h2 k1 k2
        go_enter Tryz.func153, Tryz.ntmps153
        go_wp2
        go_ret
        exact ⟨by rw [hF.out]; rfl, rfl⟩
      | false =>
        have n1 : ¬ Pr.val a < Pr.val b := fun h => by rw [k1.2 h] at h3; cases h3
        by_cases h4 : a = b
        · have hF : Hid (R = 0) := by show _ = _; rw [← hR.out, cmpV, if_neg n1, if_pos (k2.1 h4)]
          have h4' : (a == b) = true := by rw [beq_iff_eq]; exact h4
          clear h1 h2 k1 k2 h4 n1
          go_enter Tryz.func153, Tryz.ntmps153
          go_wp2
          go_ret
          exact ⟨by rw [hF.out]; rfl, rfl⟩
        · have hF : Hid (R = 1) := by show _ = _; rw [← hR.out, cmpV, if_neg n1, if_neg (fun h => h4 (k2.2 h))]
          have h4' : (a == b) = false := by rw [beq_eq_false_iff_ne]; exact h4
          clear h1 h2 k1 k2 h4 n1
          go_enter Tryz.func153, Tryz.ntmps153
          go_wp2
          go_ret
          exact ⟨by rw [hF.out]; rfl, rfl⟩
    · have h2' : ((a.length : Int) == b.length) = false := by rw [beq_eq_false_iff_ne]; omega
      have hgt := canon_len hb ha (by omega)
      have hF : Hid (R = 1) := by show _ = _; rw [← hR.out, cmpV, if_neg (by omega), if_neg (by omega)]
      have h4' : (a == b) = false := by
        rw [beq_eq_false_iff_ne]
        intro e
        exact h2 (by rw [e])
      clear h1 h2 hgt
      go_enter Tryz.func153, Tryz.ntmps153
      go_wp2
      go_ret
      exact ⟨by rw [hF.out]; rfl, rfl⟩

theorem canon_dec (u : Nat) (hu : u < 18446744073709551616) : Canon (Lib.decDigits u) := by
  refine ⟨?_, (dec_val u).2, ?_⟩
  · rw [Lib.decDigits]; split <;> simp
  · induction u using Nat.strongRecOn with
    | _ u ih =>
      by_cases h : u < 10
      · left; rw [Lib.decDigits, dif_pos h]; rfl
      · right
        rw [Lib.decDigits, dif_neg h]
        rcases ih (u / 10) (by omega) (by omega) with h1 | h1
        · cases e : Lib.decDigits (u / 10) with
          | nil => rw [e] at h1; simp at h1
          | cons c r =>
            rw [e] at h1
            have hr : r = [] := by simpa using h1
            subst hr
            have hv := (dec_val (u / 10)).1
            rw [e] at hv
            have hc : 10 * 0 + (c.toNat - 48) = u / 10 := hv
            simp
            intro e48
            rw [e48] at hc
            have : (48 : UInt8).toNat = 48 := rfl
            omega
        · cases e : Lib.decDigits (u / 10) with
          | nil =>
            exfalso
            have := e
            rw [Lib.decDigits] at this
            split at this <;> simp at this
          | cons c r => rw [e] at h1; simpa using h1
theorem canon_plain (t : Pr.T) (h : ∀ c ∈ t, Pn.isDig c = true) : Canon (plainD t) ∧ Pr.val (plainD t) = Pr.val t := by
  have hs := (List.dropWhile_suffix (· == (48 : UInt8)) (l := t))
  have hz := val_zero t
  unfold Lib.trimLeftB at hz
  unfold plainD
  split
  · rename_i e
    rw [e] at hz
    exact ⟨⟨by simp, by decide, .inl rfl⟩, by rw [← hz]; rfl⟩
  · rename_i e
    refine ⟨⟨e, fun c hc => h c (hs.subset hc), .inr fun e48 => ?_⟩, hz⟩
    have := List.head?_dropWhile_not (· == (48 : UInt8)) t
    rw [e48] at this
    simp at this
theorem canon_fig {t : Pr.T} {v : Nat} (h : Pr.fig t = some v) : Canon t ∧ Pr.val t = v := by
  unfold Pr.fig at h
  split at h
  · rename_i c
    injection h with h
    have hd := (digitsB_iff t).1 c.1
    exact ⟨⟨hd.1, hd.2, c.2.2⟩, h⟩
  · cases h
end Go.Proofs.YtaepcfidpekflaaGreatDoor
namespace Go.Proofs.YtaepcfidpekflaaGreatDoor
open Go.RowKit

theorem short_snoc (l : Pr.T) : Pr.shortR (l ++ [48]) = Pr.shortR l := by
  unfold Pr.shortR
  rw [List.reverse_append]
  simp
theorem short_stop (l : Pr.T) (c : UInt8) (h : c ≠ 48) : Pr.shortR (l ++ [c]) = l ++ [c] := by
  unfold Pr.shortR
  rw [List.reverse_append]
  simp [h]
theorem last_at (l : Pr.T) (c : UInt8) (h : l.length < (⟨(l ++ [c]).toArray⟩ : ByteArray).size) : (⟨(l ++ [c]).toArray⟩ : ByteArray)[l.length] = c := by
  show (l ++ [c]).toArray[l.length] = c
  simp
/-- What operand answers of a number's digits. -/
def opA (t : Pr.T) (a b : Pr.T) : Pr.T :=
  if t = [110] then a else if t = [105] then a else if t = [118] then Lib.decDigits b.length else if t = [119] then Lib.decDigits (Pr.shortR b).length else if t = [102] then plainD b else if t = [116] then plainD (Pr.shortR b) else []
def opF (t : Pr.T) (b : Pr.T) : Pr.T := if t = [110] then b else []
def opOk (t : Pr.T) : Bool := (Pr.opd t).isSome
set_option maxHeartbeats 1600000 in
theorem operand_any (m : Bool) (a b t : Pr.T) (_ha : Digs a) (hb : Digs b) (w : World) :
    Calls Tryz.prog 116 #[.agg #[.bool m, .string ⟨a.toArray⟩, .string ⟨b.toArray⟩], .string ⟨t.toArray⟩] w fun e w' => e = .returned (.tuple #[.string ⟨(opA t a b).toArray⟩, .string ⟨(opF t b).toArray⟩, .bool (opOk t)]) ∧ Below w.heap.size w w' := by
  have hw := (Below.refl w.heap.size w).alloc (Nat.le_refl _) (.cells #[.bool m, .string ⟨a.toArray⟩, .string ⟨b.toArray⟩] 62)
  have h30 := hb.2
  obtain ⟨A, hA⟩ : ∃ A, Hid (opA t a b = A) := ⟨_, rfl⟩
  obtain ⟨F, hF⟩ : ∃ F, Hid (opF t b = F) := ⟨_, rfl⟩
  obtain ⟨O, hO⟩ : ∃ O, Hid (opOk t = O) := ⟨_, rfl⟩
  rw [hA.out, hF.out, hO.out]
  have q0 := (row_at w #[.bool m, .string ⟨a.toArray⟩, .string ⟨b.toArray⟩] 62).2.1
  go_enter Tryz.func116, Tryz.ntmps116
  go_upto_block 0 with fail
  go_cut [7] (fun x wc => x = .string ⟨(Pr.shortR b).toArray⟩ ∧ wc = w.alloc (.cells #[.bool m, .string ⟨a.toArray⟩, .string ⟨b.toArray⟩] 62))
  case first =>
    go_wp2
    go_loop [7] (fun x => ∃ u : Pr.T, x = .string ⟨u.toArray⟩ ∧ u.length ≤ 30 ∧ Hid (Pr.shortR u = Pr.shortR b)) (fun x => match x with | .string s => s.size | _ => 0)
    case atStart => exact ⟨b, rfl, h30, rfl⟩
    case round =>
      obtain ⟨u, rfl, hu, HU⟩ := hrel
      rcases List.eq_nil_or_concat u with rfl | ⟨l, c, rfl⟩
      · have hE : Hid (Pr.shortR b = []) := HU.out.symm
        clear HU
        go_wp2
        go_meet
        case rel => exact ⟨by rw [hE.out], rfl⟩
      · simp only [List.concat_eq_append, List.length_append, List.length_singleton] at hu HU ⊢
        have hlast := last_at l c
        have hex := ex_take (l ++ [c]) l.length
        rw [List.take_left] at hex
        have hw1 : IntKind.i64.wrap ((l.length : Int) + 1 - 1) = l.length := by rw [IntKind.wrap_i64]; omega
        by_cases hc : c = 48
        · have hc' : ((c.toNat : Int) == 48) = true := by rw [hc]; rfl
          have HU2 : Hid (Pr.shortR l = Pr.shortR b) := by show _ = _; rw [← HU.out, hc, short_snoc]
          clear HU hc
          go_wp2
          go_round
          case rel => exact ⟨l, rfl, by omega, HU2⟩
          case measure =>
            show l.toArray.size < (l ++ [c]).toArray.size
            simp
        · have hc' : ((c.toNat : Int) == 48) = false := by
            rw [beq_eq_false_iff_ne]
            intro e
            exact hc (UInt8.toNat_inj.1 (by show c.toNat = 48; omega))
          have hE : Hid (Pr.shortR b = l ++ [c]) := by show _ = _; rw [← HU.out, short_stop l c hc]
          clear HU hc
          go_wp2
          go_meet
          case rel => exact ⟨by rw [hE.out], rfl⟩
  case rest =>
    obtain ⟨rfl, rfl⟩ := hcut
    have h2 := (short_digs b hb).2
    by_cases h110 : t = [110]
    · have eA : Hid (A = a) := by show _ = _; rw [← hA.out]; simp [opA, h110]
      have eF : Hid (F = b) := by show _ = _; rw [← hF.out]; simp [opF, h110]
      have eO : Hid (O = true) := by show _ = _; rw [← hO.out]; simp [opOk, Pr.opd, h110]
      have y : (t == [110]) = true := by rw [h110]; rfl
      clear hA hF hO h110
      go_wp2
      go_quiet (fail)
      go_wp2
      go_ret3
      exact ⟨by rw [eA.out, eF.out, eO.out]; rfl, below_of hw (drewB _ _)⟩
    by_cases h105 : t = [105]
    · have eA : Hid (A = a) := by show _ = _; rw [← hA.out]; simp [opA, h105]
      have eF : Hid (F = []) := by show _ = _; rw [← hF.out]; simp [opF, h105]
      have eO : Hid (O = true) := by show _ = _; rw [← hO.out]; simp [opOk, Pr.opd, h105]
      have y : (t == [105]) = true := by rw [h105]; rfl
      have n110 : (t == [110]) = false := by rw [beq_eq_false_iff_ne]; exact h110
      clear hA hF hO h110 h105
      go_wp2
      go_ret3
      exact ⟨by rw [eA.out, eF.out, eO.out]; rfl, hw⟩
    by_cases h118 : t = [118]
    · have eA : Hid (A = Lib.decDigits b.length) := by show _ = _; rw [← hA.out]; simp [opA, h118]
      have eF : Hid (F = []) := by show _ = _; rw [← hF.out]; simp [opF, h118]
      have eO : Hid (O = true) := by show _ = _; rw [← hO.out]; simp [opOk, Pr.opd, h118]
      have y : (t == [118]) = true := by rw [h118]; rfl
      have n110 : (t == [110]) = false := by rw [beq_eq_false_iff_ne]; exact h110
      have n105 : (t == [105]) = false := by rw [beq_eq_false_iff_ne]; exact h105
      clear hA hF hO h110 h105 h118
      go_wp2_with (go_at_call 120; refine (decimal_any b.length _ (by omega)).mono ?_; rintro e w1 ⟨rfl, hb1⟩)
      go_ret3
      exact ⟨by rw [eA.out, eF.out, eO.out]; rfl, below_of hw hb1⟩
    by_cases h119 : t = [119]
    · have eA : Hid (A = Lib.decDigits (Pr.shortR b).length) := by show _ = _; rw [← hA.out]; simp [opA, h119]
      have eF : Hid (F = []) := by show _ = _; rw [← hF.out]; simp [opF, h119]
      have eO : Hid (O = true) := by show _ = _; rw [← hO.out]; simp [opOk, Pr.opd, h119]
      have y : (t == [119]) = true := by rw [h119]; rfl
      have n110 : (t == [110]) = false := by rw [beq_eq_false_iff_ne]; exact h110
      have n105 : (t == [105]) = false := by rw [beq_eq_false_iff_ne]; exact h105
      have n118 : (t == [118]) = false := by rw [beq_eq_false_iff_ne]; exact h118
      clear hA hF hO h110 h105 h118 h119
      go_wp2_with (go_at_call 120; refine (decimal_any (Pr.shortR b).length _ (by omega)).mono ?_; rintro e w1 ⟨rfl, hb1⟩)
      go_ret3
      exact ⟨by rw [eA.out, eF.out, eO.out]; rfl, below_of hw hb1⟩
    by_cases h102 : t = [102]
    · have eA : Hid (A = plainD b) := by show _ = _; rw [← hA.out]; simp [opA, h102]
      have eF : Hid (F = []) := by show _ = _; rw [← hF.out]; simp [opF, h102]
      have eO : Hid (O = true) := by show _ = _; rw [← hO.out]; simp [opOk, Pr.opd, h102]
      have y : (t == [102]) = true := by rw [h102]; rfl
      have n110 : (t == [110]) = false := by rw [beq_eq_false_iff_ne]; exact h110
      have n105 : (t == [105]) = false := by rw [beq_eq_false_iff_ne]; exact h105
      have n118 : (t == [118]) = false := by rw [beq_eq_false_iff_ne]; exact h118
      have n119 : (t == [119]) = false := by rw [beq_eq_false_iff_ne]; exact h119
      clear hA hF hO h110 h105 h118 h119 h102
      go_wp2_with (go_at_call 152; refine (plain_any b (by omega) _).mono ?_; rintro e w1 ⟨rfl, rfl⟩)
      go_ret3
      exact ⟨by rw [eA.out, eF.out, eO.out]; rfl, hw⟩
    by_cases h116 : t = [116]
    · have eA : Hid (A = plainD (Pr.shortR b)) := by show _ = _; rw [← hA.out]; simp [opA, h116]
      have eF : Hid (F = []) := by show _ = _; rw [← hF.out]; simp [opF, h116]
      have eO : Hid (O = true) := by show _ = _; rw [← hO.out]; simp [opOk, Pr.opd, h116]
      have y : (t == [116]) = true := by rw [h116]; rfl
      have n110 : (t == [110]) = false := by rw [beq_eq_false_iff_ne]; exact h110
      have n105 : (t == [105]) = false := by rw [beq_eq_false_iff_ne]; exact h105
      have n118 : (t == [118]) = false := by rw [beq_eq_false_iff_ne]; exact h118
      have n119 : (t == [119]) = false := by rw [beq_eq_false_iff_ne]; exact h119
      have n102 : (t == [102]) = false := by rw [beq_eq_false_iff_ne]; exact h102
      clear hA hF hO h110 h105 h118 h119 h102 h116
      go_wp2_with (go_at_call 152; refine (plain_any (Pr.shortR b) (by omega) _).mono ?_; rintro e w1 ⟨rfl, rfl⟩)
      go_ret3
      exact ⟨by rw [eA.out, eF.out, eO.out]; rfl, hw⟩
    have eA : Hid (A = []) := by show _ = _; rw [← hA.out]; simp only [opA, h110, h105, h118, h119, h102, h116, if_false]
    have eF : Hid (F = []) := by show _ = _; rw [← hF.out]; simp only [opF, h110, if_false]
    have eO : Hid (O = false) := by show _ = _; rw [← hO.out]; simp only [opOk, Pr.opd, h110, h105, h118, h119, h102, h116, if_false]; rfl
    have n110 : (t == [110]) = false := by rw [beq_eq_false_iff_ne]; exact h110
    have n105 : (t == [105]) = false := by rw [beq_eq_false_iff_ne]; exact h105
    have n118 : (t == [118]) = false := by rw [beq_eq_false_iff_ne]; exact h118
    have n119 : (t == [119]) = false := by rw [beq_eq_false_iff_ne]; exact h119
    have n102 : (t == [102]) = false := by rw [beq_eq_false_iff_ne]; exact h102
    have n116 : (t == [116]) = false := by rw [beq_eq_false_iff_ne]; exact h116
    clear hA hF hO h110 h105 h118 h119 h102 h116
    go_wp2
    go_ret3
    exact ⟨by rw [eA.out, eF.out, eO.out]; rfl, hw⟩
end Go.Proofs.YtaepcfidpekflaaGreatDoor
