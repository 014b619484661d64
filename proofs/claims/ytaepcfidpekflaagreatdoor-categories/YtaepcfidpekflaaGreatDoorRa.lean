/-
  The document's answer: numerals, nought, cut, point, NumOf (P2) by their contracts. By the verifier.
-/
import Derived.Test.YtaepcfidpekflaaGreatDoorProg
import Derived.Test.YtaepcfidpekflaaGreatDoorPn
import Derived.Test.YtaepcfidpekflaaGreatDoorBase
import Derived.WalkKit
import Derived.WalkSpells
import Derived.WalkLawsBesides
import Derived.BigQuiet
namespace Go.Proofs.YtaepcfidpekflaaGreatDoor
open Go.RowKit

theorem all_take_any (p : UInt8 → Bool) (s : ByteArray) (k : Nat) (h : k < s.size) : (s.data.toList.take (k + 1)).all p = ((s.data.toList.take k).all p && p s[k]) := by
  rw [List.take_succ_eq_append_getElem (by simpa using h), List.all_append]
  simp
  rfl
theorem all_false (p : UInt8 → Bool) (s : ByteArray) (k : Nat) (h : k < s.size) (hp : p s[k] = false) : s.data.toList.all p = false := by
  rw [List.all_eq_false]
  refine ⟨s[k], ?_, by simp [hp]⟩
  have : s[k] = s.data.toList[k]'(by simpa using h) := rfl
  rw [this]
  exact List.getElem_mem _
theorem rb {a b : Bool} (h : a = b) : Ending.returned (.bool a) = .returned (.bool b) := by rw [h]

set_option maxHeartbeats 400000 in
theorem numerals_any (s : ByteArray) (w : World) (hs : s.size ≤ 1000000) :
    Calls Tryz.prog 50 #[.string s] w fun e w' => e = .returned (.bool (Pn.digitsB s.data.toList)) ∧ w' = w := by
  go_enter Tryz.func50, Tryz.ntmps50
  go_wp2
  go_loop [3] (fun t => ∃ k : Nat, k ≤ s.size ∧ t = .int .i64 k ∧ Hid ((s.data.toList.take k).all Pn.isDig = true)) (fun t => s.size - (intOf t).toNat)
  case atStart => exact ⟨0, Nat.zero_le _, rfl, by show _ = _; simp⟩
  case round =>
    obtain ⟨k, hk, rfl, HK⟩ := hrel
    by_cases hlt : k < s.size
    · by_cases hd : 48 ≤ s[k].toNat ∧ s[k].toNat ≤ 57
      · have HK2 : Hid ((s.data.toList.take (k + 1)).all Pn.isDig = true) := by
          show _ = _
          rw [all_take_any _ s k hlt, HK.out, (Pn.isDig_iff _).2 hd]; rfl
        obtain ⟨h1, h2⟩ := hd
        have h1' : ¬ (s[k].toNat : Int) < 48 := by omega
        have h2' : ¬ (57 : Int) < s[k].toNat := by omega
        go_wp2
        go_round
        case rel => exact ⟨k + 1, hlt, by go_num, HK2⟩
        case measure => simp [intOf]; omega
      · have HF : Hid (Pn.digitsB s.data.toList = false) := by
          show _ = _
          have : Pn.isDig s[k] = false := by
            cases e : Pn.isDig s[k] with
            | false => rfl
            | true => exact absurd ((Pn.isDig_iff _).1 e) hd
          rw [Pn.digitsB, all_false _ s k hlt this, Bool.and_false]
        by_cases h1 : (s[k].toNat : Int) < 48
        · clear hd
          go_wp2
          go_ret
          exact ⟨rb HF.out.symm, rfl⟩
        · have h2 : (57 : Int) < s[k].toNat := by omega
          clear hd
          go_wp2
          go_ret
          exact ⟨rb HF.out.symm, rfl⟩
    · have HF : Hid (Pn.digitsB s.data.toList = decide ((0 : Int) < s.size)) := by
        show _ = _
        have h := HK.out
        rw [List.take_of_length_le (by simp; omega)] at h
        rw [Pn.digitsB, h, Bool.and_true, Lib.size_eq]
        cases s.data.toList with
        | nil => rfl
        | cons c r => simp
      go_wp2
      all_goals go_ret
      all_goals exact ⟨rb (by rw [HF.out]; simp), rfl⟩

set_option maxHeartbeats 400000 in
theorem nought_any (s : ByteArray) (w : World) (hs : s.size ≤ 1000000) :
    Calls Tryz.prog 51 #[.string s] w fun e w' => e = .returned (.bool (Pn.zeroB s.data.toList)) ∧ w' = w := by
  go_enter Tryz.func51, Tryz.ntmps51
  go_wp2
  go_loop [3] (fun t => ∃ k : Nat, k ≤ s.size ∧ t = .int .i64 k ∧ Hid ((s.data.toList.take k).all (· == 48) = true)) (fun t => s.size - (intOf t).toNat)
  case atStart => exact ⟨0, Nat.zero_le _, rfl, by show _ = _; simp⟩
  case round =>
    obtain ⟨k, hk, rfl, HK⟩ := hrel
    by_cases hlt : k < s.size
    · by_cases hd : s[k].toNat = 48
      · have h48 : s[k] = 48 := UInt8.toNat_inj.1 hd
        have HK2 : Hid ((s.data.toList.take (k + 1)).all (· == 48) = true) := by
          show _ = _
          rw [all_take_any _ s k hlt, HK.out, h48]; rfl
        have h' : ((s[k].toNat : Int) != 48) = false := by simp; omega
        clear hd h48
        go_wp2
        go_round
        case rel => exact ⟨k + 1, hlt, by go_num, HK2⟩
        case measure => simp [intOf]; omega
      · have HF : Hid (Pn.zeroB s.data.toList = false) := by
          show _ = _
          refine all_false _ s k hlt ?_
          rw [beq_eq_false_iff_ne]
          intro e
          exact hd (by rw [e]; rfl)
        have h' : ((s[k].toNat : Int) != 48) = true := by simp; omega
        clear hd
        go_wp2
        go_ret
        exact ⟨rb HF.out.symm, rfl⟩
    · have HF : Hid (Pn.zeroB s.data.toList = true) := by
        show _ = _
        have h := HK.out
        rw [List.take_of_length_le (by simp; omega)] at h
        exact h
      go_wp2
      all_goals go_ret
      all_goals exact ⟨rb HF.out.symm, rfl⟩

theorem cut_at (l : List UInt8) (k : Nat) (hk : k < l.length) (h1 : ∀ j (hj : j < l.length), j < k → l[j] ≠ 46) (h2 : l[k] = 46) : Lib.cut l [46] = (l.take k, l.drop (k + 1), true) := by
  have hi : Lib.index l [46] = k := by
    refine Lib.index_first (by omega) ?_ ?_
    · rw [Lib.occAt, List.drop_eq_getElem_cons hk, h2]; simp [List.isPrefixOf]
    · intro j hj
      rw [Lib.occAt, List.drop_eq_getElem_cons (by omega)]
      have := h1 j (by omega) hj
      simp only [List.isPrefixOf, Bool.and_true, beq_eq_false_iff_ne]
      exact fun e => this e.symm
  unfold Lib.cut
  rw [hi, if_pos (by omega)]
  simp
theorem cut_end (l : List UInt8) (h1 : ∀ j (hj : j < l.length), l[j] ≠ 46) : Lib.cut l [46] = (l, [], false) := by
  have hi : Lib.index l [46] = -1 := by
    refine Lib.index_none ?_
    intro j hj
    rw [Lib.occAt]
    rcases Nat.lt_or_ge j l.length with h | h
    · rw [List.drop_eq_getElem_cons h]
      have := h1 j h
      simp only [List.isPrefixOf, Bool.and_true, beq_eq_false_iff_ne]
      exact fun e => this e.symm
    · rw [List.drop_eq_nil_of_le h]; rfl
  unfold Lib.cut
  rw [hi, if_neg (by omega)]
theorem ret_cut {l a b : List UInt8} {s t : ByteArray} {p q : Bool} (h : Lib.cut l [46] = (a, b, p)) (hs : s = ⟨a.toArray⟩) (ht : t = ⟨b.toArray⟩) (hq : q = p) :
    Ending.returned (.tuple #[.string s, .string t, .bool q]) = .returned (.tuple #[.string ⟨(Lib.cut l [46]).1.toArray⟩, .string ⟨(Lib.cut l [46]).2.1.toArray⟩, .bool (Lib.cut l [46]).2.2]) := by
  rw [h, hs, ht, hq]

set_option maxHeartbeats 400000 in
theorem rcut_any (s : ByteArray) (w : World) (hs : s.size ≤ 1000000) :
    Calls Tryz.prog 49 #[.string s, .int .u8 46] w fun e w' => e = .returned (.tuple #[.string ⟨(Lib.cut s.data.toList [46]).1.toArray⟩, .string ⟨(Lib.cut s.data.toList [46]).2.1.toArray⟩, .bool (Lib.cut s.data.toList [46]).2.2]) ∧ Below w.heap.size w w' := by
  go_enter Tryz.func49, Tryz.ntmps49
  go_wp2
  go_loop [7] (fun t => ∃ k : Nat, k ≤ s.size ∧ t = .int .i64 k ∧ Hid (∀ j (hj : j < s.data.toList.length), j < k → s.data.toList[j] ≠ 46)) (fun t => s.size - (intOf t).toNat)
  case atStart => exact ⟨0, Nat.zero_le _, rfl, fun j _ h => by omega⟩
  case round =>
    obtain ⟨k, hk, rfl, HK⟩ := hrel
    by_cases hlt : k < s.size
    · have hlt' : k < s.data.toList.length := by rw [← Lib.size_eq]; exact hlt
      have hgk : s.data.toList[k] = s[k] := rfl
      by_cases hc : s[k].toNat = 46
      · have hc' : ((s[k].toNat : Int) == 46) = true := by simp; omega
        have HX : Hid (Lib.cut s.data.toList [46] = (s.data.toList.take k, s.data.toList.drop (k + 1), true)) := cut_at _ k hlt' HK.out (by rw [hgk]; exact UInt8.toNat_inj.1 hc)
        clear hc hgk
        go_wp2
        go_quiet (fail)
        go_wp2
        go_ret3
        exact ⟨ret_cut HX.out (by rw [Lib.extract_upto]) (by rw [Lib.extract_from]) rfl, below_drewN (Below.refl _ _) _⟩
      · have hc' : ((s[k].toNat : Int) == 46) = false := by simp; omega
        have HK2 : Hid (∀ j (hj : j < s.data.toList.length), j < k + 1 → s.data.toList[j] ≠ 46) := by
          intro j hj h
          by_cases e : j = k
          · subst e; intro h46; rw [hgk] at h46; exact hc (by rw [h46]; rfl)
          · exact HK.out j hj (by omega)
        clear hc hgk
        go_wp2
        go_round
        case rel => exact ⟨k + 1, hlt, by go_num, HK2⟩
        case measure => simp [intOf]; omega
    · have HX : Hid (Lib.cut s.data.toList [46] = (s.data.toList, [], false)) := cut_end _ (fun j hj => HK.out j hj (by rw [← Lib.size_eq] at hj; omega))
      go_wp2
      go_ret3
      exact ⟨ret_cut HX.out (by rw [Lib.mk_data]) rfl rfl, Below.refl _ _⟩

set_option maxHeartbeats 400000 in
theorem point_any (r : Int) (w : World) :
    Calls Tryz.prog 47 #[.int .i32 r] w fun e w' => e = .returned (.bool (Lib.validRune r)) ∧ w' = w := by
  by_cases h0 : 0 ≤ r
  · by_cases h1 : r ≤ 1114111
    · by_cases h2 : r < 55296
      · have HV : Hid (true = Lib.validRune r) := by show _ = _; symm; simp [Lib.validRune]; omega
        go_enter Tryz.func47, Tryz.ntmps47
        go_wp2
        go_ret
        exact ⟨rb HV.out, rfl⟩
      · by_cases h3 : 57343 < r
        · have HV : Hid (true = Lib.validRune r) := by show _ = _; symm; simp [Lib.validRune]; omega
          go_enter Tryz.func47, Tryz.ntmps47
          go_wp2
          go_ret
          exact ⟨rb HV.out, rfl⟩
        · have HV : Hid (false = Lib.validRune r) := by show _ = _; symm; simp [Lib.validRune]; omega
          go_enter Tryz.func47, Tryz.ntmps47
          go_wp2
          go_ret
          exact ⟨rb HV.out, rfl⟩
    · have HV : Hid (false = Lib.validRune r) := by show _ = _; symm; simp [Lib.validRune]; omega
      go_enter Tryz.func47, Tryz.ntmps47
      go_wp2
      go_ret
      exact ⟨rb HV.out, rfl⟩
  · have HV : Hid (false = Lib.validRune r) := by show _ = _; symm; simp [Lib.validRune]; omega
    go_enter Tryz.func47, Tryz.ntmps47
    go_wp2
    go_ret
    exact ⟨rb HV.out, rfl⟩
end Go.Proofs.YtaepcfidpekflaaGreatDoor
