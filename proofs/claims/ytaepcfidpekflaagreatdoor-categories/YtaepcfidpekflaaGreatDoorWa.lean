/-
  The small functions' contracts: pick, isDigits, isWhole, endsGroup, groupsOf, digitsOf of no digits. By the verifier.
-/
import Derived.Test.YtaepcfidpekflaaGreatDoorProg
import Derived.Test.YtaepcfidpekflaaGreatDoorPn
import Derived.WalkKit
import Derived.WalkSpells
import Derived.WalkLawsBesides
import Derived.Lib.OthersKept
namespace Go.Proofs.YtaepcfidpekflaaGreatDoor
open Go.RowKit

/-! ### isDigits -/
theorem dec_dig (s : ByteArray) (pos : Nat) (h : pos < s.size) : (48 ≤ (Utf8.decode s pos).1 ∧ (Utf8.decode s pos).1 ≤ 57) ↔ Pn.isDig s[pos] = true := by
  by_cases ha : (s[pos]'h).toNat < 128
  · rw [decode_ascii s pos h ha, Pn.isDig_iff]
  · have := (decode_high s pos h (by omega)).1
    rw [Pn.isDig_iff]
    omega
theorem dec_one (s : ByteArray) (pos : Nat) (h : pos < s.size) (hd : Pn.isDig s[pos] = true) : Utf8.decode s pos = (s[pos].toNat, 1) := by
  have := (Pn.isDig_iff _).1 hd
  exact decode_ascii s pos h (by omega)
theorem all_take_succ (s : ByteArray) (k : Nat) (h : k < s.size) : (s.data.toList.take (k + 1)).all Pn.isDig = ((s.data.toList.take k).all Pn.isDig && Pn.isDig s[k]) := by
  rw [List.take_succ_eq_append_getElem (by simpa using h), List.all_append]
  simp
  rfl
theorem all_get (s : ByteArray) (k : Nat) (h : k < s.size) (hd : Pn.isDig s[k] = false) : Pn.digitsB s.data.toList = false := by
  unfold Pn.digitsB
  rw [Bool.and_eq_false_iff]
  right
  rw [List.all_eq_false]
  refine ⟨s[k], ?_, by simp [hd]⟩
  have : s[k] = s.data.toList[k]'(by simpa using h) := rfl
  rw [this]
  exact List.getElem_mem _
theorem ret_bool {a b : Bool} (h : a = b) : Ending.returned (.bool a) = .returned (.bool b) := by rw [h]

set_option maxHeartbeats 400000 in
theorem isDigits_any (s : ByteArray) (w : World) :
    Calls Tryz.prog 79 #[.string s] w fun e w' => e = .returned (.bool (Pn.digitsB s.data.toList)) ∧ Below w.heap.size w w' := by
  go_enter Tryz.func79, Tryz.ntmps79
  go_wp2
  go_loopw [] (fun wr => ∃ pos : Nat, pos ≤ s.size ∧ wr.heap[w.heap.size]? = some (.stringIter s pos) ∧ Below w.heap.size w wr ∧ (s.data.toList.take pos).all Pn.isDig = true) (fun wr => s.size - wr.iterPos w.heap.size)
  case atStart =>
    refine ⟨0, Nat.zero_le _, World.iter_heap w s 0, ?_, by simp⟩
    exact (Below.refl _ w).alloc (Nat.le_refl _) _
  case round =>
    obtain ⟨pos, hpos, hit, hbw, hall⟩ := hrel
    by_cases hp : pos < s.size
    · have hnx : ∀ ty, (Instr.next (.pointer (some ⟨w.heap.size, 0, none⟩)) true ty).run Tryz.prog wr = _ := fun ty => Lib.run_next_any_at wr w.heap.size s pos ty hit hp
      have hd1 := decode_le s pos
      have hdd := dec_dig s pos hp
      by_cases hg : Pn.isDig s[pos] = true
      · have hd := dec_one s pos hp hg
        have h1 := hdd.2 hg
        rw [hd] at hnx h1
        have hit2 := Lib.iterAt_heap wr w.heap.size s pos (pos + 1) hit
        have hbw2 := Lib.below_iterAt hbw (k := w.heap.size) (by omega) s (pos + 1)
        have hal2 := all_take_succ s pos hp
        rw [hall, hg] at hal2
        have HA : Hid ((s.data.toList.take (pos + 1)).all Pn.isDig = true) := hal2
        clear hal2 hdd hd1 hg hd hall
        go_wp2
        go_roundw
        case rel => exact ⟨pos + 1, hp, hit2, hbw2, HA.out⟩
        case measure =>
          simp only [World.iterPos, hit2, hit]
          omega
      · have hg' : Pn.isDig s[pos] = false := by simpa using hg
        have hf := all_get s pos hp hg'
        have hn : ¬ (48 ≤ (Utf8.decode s pos).1 ∧ (Utf8.decode s pos).1 ≤ 57) := fun h => hg (hdd.1 h)
        have HF : Hid (Pn.digitsB s.data.toList = false) := hf
        have hbw2 := Lib.below_iterAt hbw (k := w.heap.size) (by omega) s (pos + (Utf8.decode s pos).2)
        clear hdd hg hg' hf hall
        by_cases h48 : (Utf8.decode s pos).1 < 48
        · go_wp2
          all_goals go_ret
          all_goals exact ⟨ret_bool HF.out.symm, hbw2⟩
        · go_wp2
          all_goals go_ret
          all_goals exact ⟨ret_bool HF.out.symm, hbw2⟩
    · have hnx : ∀ ty, (Instr.next (.pointer (some ⟨w.heap.size, 0, none⟩)) true ty).run Tryz.prog wr = _ := fun ty => Lib.run_next_end_at wr w.heap.size s pos ty hit hp
      have hfin : Pn.digitsB s.data.toList = !s.data.toList.isEmpty := by
        unfold Pn.digitsB
        rw [List.take_of_length_le (by simp; omega)] at hall
        rw [hall, Bool.and_true]
      have HF : Hid (Pn.digitsB s.data.toList = !s.data.toList.isEmpty) := hfin
      clear hfin hall
      go_wp2
      go_ret
      exact ⟨ret_bool (by rw [HF.out, Lib.toList_data]), hbw⟩

/-! ### isWhole -/
theorem whole_false (l : List UInt8) (h : Pn.digitsB l = false) : Pn.wholeB l = false := by simp [Pn.wholeB, h]
theorem whole_true (l : List UInt8) (h : Pn.digitsB l = true) : Pn.wholeB l = (l == [48] || l.head? != some 48) := by simp [Pn.wholeB, h]
theorem digits_pos (s : ByteArray) (h : Pn.digitsB s.data.toList = true) : 0 < s.size := by
  rw [Lib.size_eq]
  unfold Pn.digitsB at h
  cases hl : s.data.toList with
  | nil => rw [hl] at h; simp at h
  | cons c r => simp
theorem head_get (s : ByteArray) (h : 0 < s.size) : s.data.toList.head? = some s[0] := by
  rw [List.head?_eq_getElem?, List.getElem?_eq_getElem (by rw [← Lib.size_eq]; exact h)]
  rfl

set_option maxHeartbeats 400000 in
theorem isWhole_any (s : ByteArray) (w : World) :
    Calls Tryz.prog 78 #[.string s] w fun e w' => e = .returned (.bool (Pn.wholeB s.data.toList)) ∧ Below w.heap.size w w' := by
  by_cases hd : Pn.digitsB s.data.toList = true
  · have hp := digits_pos s hd
    have hh := head_get s hp
    have hw := whole_true _ hd
    rw [hh, ← Lib.toList_data] at hw
    rw [Lib.toList_data] at hw
    have HW : Hid (Pn.wholeB s.data.toList = (s.data.toList == [48] || some s[0] != some 48)) := hw
    clear hw hh
    by_cases h48 : (s.toList == [48]) = true
    · go_enter Tryz.func78, Tryz.ntmps78
      go_wp2_with (go_at_call 79; refine (isDigits_any s _).mono ?_; rintro e w1 ⟨rfl, hb⟩)
      go_ret
      exact ⟨ret_bool (by rw [HW.out, ← Lib.toList_data, h48]; rfl), hb⟩
    · have h48' : (s.toList == [48]) = false := by simpa using h48
      clear h48
      by_cases h0 : s[0].toNat = 48
      · have h0' : ((s[0].toNat : Int) != 48) = false := by simp; omega
        have h1 : s[0] = 48 := UInt8.toNat_inj.1 h0
        have HW2 : Hid (Pn.wholeB s.data.toList = false) := by
          show Pn.wholeB s.data.toList = false
          rw [HW.out, ← Lib.toList_data, h48', h1]; rfl
        clear HW h0 h1
        go_enter Tryz.func78, Tryz.ntmps78
        go_wp2_with (go_at_call 79; refine (isDigits_any s _).mono ?_; rintro e w1 ⟨rfl, hb⟩)
        go_ret
        exact ⟨ret_bool HW2.out.symm, hb⟩
      · have h0' : ((s[0].toNat : Int) != 48) = true := by simp; omega
        have h1 : (some s[0] != some (48 : UInt8)) = true := by
          rw [bne_iff_ne]; intro e; exact h0 (by rw [Option.some.inj e]; rfl)
        have HW2 : Hid (Pn.wholeB s.data.toList = true) := by
          show Pn.wholeB s.data.toList = true
          rw [HW.out, h1, Bool.or_true]
        clear HW h0 h1
        go_enter Tryz.func78, Tryz.ntmps78
        go_wp2_with (go_at_call 79; refine (isDigits_any s _).mono ?_; rintro e w1 ⟨rfl, hb⟩)
        go_ret
        exact ⟨ret_bool HW2.out.symm, hb⟩
  · have hd' : Pn.digitsB s.data.toList = false := by simpa using hd
    have HW : Hid (Pn.wholeB s.data.toList = false) := whole_false _ hd'
    clear hd
    go_enter Tryz.func78, Tryz.ntmps78
    go_wp2_with (go_at_call 79; refine (isDigits_any s _).mono ?_; rintro e w1 ⟨rfl, hb⟩)
    go_ret
    exact ⟨ret_bool HW.out.symm, hb⟩
end Go.Proofs.YtaepcfidpekflaaGreatDoor
