/-
  Parse (P2) by its contract. By the verifier.
-/
import Derived.Test.YtaepcfidpekflaaGreatDoorWc
namespace Go.Proofs.YtaepcfidpekflaaGreatDoor
open Go.RowKit

set_option maxHeartbeats 1000000 in
theorem parse_core (s : ByteArray) (w : World) (m p : Bool) (r a b : List UInt8) (hm : Hid (Pn.minusOf s.data.toList = m)) (hr : Hid (Pn.restOf s.data.toList = r)) (hc : Hid (Lib.cut r [46] = (a, b, p)))
    (hs : s.size < 4294967281) (hB : Base w) (ho : Pn.okB m a b p = true) :
    Calls Tryz.prog 54 #[.string s] w fun e w' => e = .returned (.tuple #[.agg #[.bool m, .string ⟨a.toArray⟩, .string ⟨b.toArray⟩], .nilIface]) ∧ Below w.heap.size w w' := by
  have hlr : r.length ≤ s.size := by rw [← hr.out, Lib.size_eq]; exact Lib.trimPrefix_le _ _
  have hab := cut_len r a b p hc.out
  have HB : Hid (Base w) := hB
  have kc0 : ∀ w', Kept w (.cells #[.bool false, .string ⟨#[]⟩, .string ⟨#[]⟩] 109) w' → w'.cell? ⟨w.heap.size, 0, none⟩ = some (.bool false) := fun w' h => (h.cell 0).trans (by simp)
  have kc1 : ∀ w', Kept w (.cells #[.bool false, .string ⟨#[]⟩, .string ⟨#[]⟩] 109) w' → w'.cell? ⟨w.heap.size, 1, none⟩ = some (.string ⟨#[]⟩) := fun w' h => (h.cell 1).trans (by simp)
  have kc2 : ∀ w', Kept w (.cells #[.bool false, .string ⟨#[]⟩, .string ⟨#[]⟩] 109) w' → w'.cell? ⟨w.heap.size, 2, none⟩ = some (.string ⟨#[]⟩) := fun w' h => (h.cell 2).trans (by simp)
  have kf : ∀ w' j, Kept w (.cells #[.bool false, .string ⟨#[]⟩, .string ⟨#[]⟩] 109) w' → w'.frozen? ⟨w.heap.size, j, none⟩ = false := fun w' j h => (h.frozen j).trans (by simp)
  clear hB
  simp only [Pn.okB, Bool.and_eq_true, decide_eq_true_eq] at ho
  obtain ⟨⟨⟨h30, hw⟩, hp⟩, hz⟩ := ho
  have h30' : ¬ (30 : Int) < (a.length : Int) + b.length := by omega
  cases m with
  | false =>
    clear hz
    cases p with
    | false =>
      clear hp
      go_enter Tryz.func54, Tryz.ntmps54
      go_wp2_with fail
      refine (cutPrefix_l s _).mono ?_
      rintro e w1 ⟨rfl, rfl⟩
      rw [hm.out, hr.out]
      go_wp2_with fail
      refine (cut_l r _ (by omega) (HB.out.alloc _)).mono ?_
      rintro e w2 ⟨rfl, hb2⟩
      rw [hc.out]
      have hb : Kept w (.cells #[.bool false, .string ⟨#[]⟩, .string ⟨#[]⟩] 109) w2 := hb2
      clear hb2
      go_wp2_with (first | (go_at_call 78; refine (isWhole_l _ _).mono ?_; rintro e w3 ⟨rfl, h3⟩; replace hb := hb.step h3; clear h3) | (go_at_call 79; refine (isDigits_l _ _).mono ?_; rintro e w4 ⟨rfl, h4⟩; replace hb := hb.step h4; clear h4) | (go_at_call 80; refine (isZero_l _ _ (by omega)).mono ?_; rintro e w5 ⟨rfl, h5⟩; replace hb := hb.step h5; clear h5))
      exact bodyPost_ret (v := .tuple #[.agg #[.bool false, .string ⟨a.toArray⟩, .string ⟨b.toArray⟩], .nilIface]) (by simp [results, Tryz.results54, go_sem, kc0 _ hb, kc1 _ hb, kc2 _ hb]) rfl ⟨rfl, ((hb.below.setCell (p := ⟨w.heap.size, 0, none⟩) (Nat.le_refl _) _).setCell (p := ⟨w.heap.size, 1, none⟩) (Nat.le_refl _) _).setCell (p := ⟨w.heap.size, 2, none⟩) (Nat.le_refl _) _⟩
    | true =>
      have hd : Pn.digitsB b = true := by simpa using hp
      clear hp
      go_enter Tryz.func54, Tryz.ntmps54
      go_wp2_with fail
      refine (cutPrefix_l s _).mono ?_
      rintro e w1 ⟨rfl, rfl⟩
      rw [hm.out, hr.out]
      go_wp2_with fail
      refine (cut_l r _ (by omega) (HB.out.alloc _)).mono ?_
      rintro e w2 ⟨rfl, hb2⟩
      rw [hc.out]
      have hb : Kept w (.cells #[.bool false, .string ⟨#[]⟩, .string ⟨#[]⟩] 109) w2 := hb2
      clear hb2
      go_wp2_with (first | (go_at_call 78; refine (isWhole_l _ _).mono ?_; rintro e w3 ⟨rfl, h3⟩; replace hb := hb.step h3; clear h3) | (go_at_call 79; refine (isDigits_l _ _).mono ?_; rintro e w4 ⟨rfl, h4⟩; replace hb := hb.step h4; clear h4) | (go_at_call 80; refine (isZero_l _ _ (by omega)).mono ?_; rintro e w5 ⟨rfl, h5⟩; replace hb := hb.step h5; clear h5))
      exact bodyPost_ret (v := .tuple #[.agg #[.bool false, .string ⟨a.toArray⟩, .string ⟨b.toArray⟩], .nilIface]) (by simp [results, Tryz.results54, go_sem, kc0 _ hb, kc1 _ hb, kc2 _ hb]) rfl ⟨rfl, ((hb.below.setCell (p := ⟨w.heap.size, 0, none⟩) (Nat.le_refl _) _).setCell (p := ⟨w.heap.size, 1, none⟩) (Nat.le_refl _) _).setCell (p := ⟨w.heap.size, 2, none⟩) (Nat.le_refl _) _⟩
  | true =>
    cases hza : Pn.zeroB a with
    | false =>
      clear hz
      cases p with
      | false =>
        clear hp
        go_enter Tryz.func54, Tryz.ntmps54
        go_wp2_with fail
        refine (cutPrefix_l s _).mono ?_
        rintro e w1 ⟨rfl, rfl⟩
        rw [hm.out, hr.out]
        go_wp2_with fail
        refine (cut_l r _ (by omega) (HB.out.alloc _)).mono ?_
        rintro e w2 ⟨rfl, hb2⟩
        rw [hc.out]
        have hb : Kept w (.cells #[.bool false, .string ⟨#[]⟩, .string ⟨#[]⟩] 109) w2 := hb2
        clear hb2
        go_wp2_with (first | (go_at_call 78; refine (isWhole_l _ _).mono ?_; rintro e w3 ⟨rfl, h3⟩; replace hb := hb.step h3; clear h3) | (go_at_call 79; refine (isDigits_l _ _).mono ?_; rintro e w4 ⟨rfl, h4⟩; replace hb := hb.step h4; clear h4) | (go_at_call 80; refine (isZero_l _ _ (by omega)).mono ?_; rintro e w5 ⟨rfl, h5⟩; replace hb := hb.step h5; clear h5))
        exact bodyPost_ret (v := .tuple #[.agg #[.bool true, .string ⟨a.toArray⟩, .string ⟨b.toArray⟩], .nilIface]) (by simp [results, Tryz.results54, go_sem, kc0 _ hb, kc1 _ hb, kc2 _ hb]) rfl ⟨rfl, ((hb.below.setCell (p := ⟨w.heap.size, 0, none⟩) (Nat.le_refl _) _).setCell (p := ⟨w.heap.size, 1, none⟩) (Nat.le_refl _) _).setCell (p := ⟨w.heap.size, 2, none⟩) (Nat.le_refl _) _⟩
      | true =>
        have hd : Pn.digitsB b = true := by simpa using hp
        clear hp
        go_enter Tryz.func54, Tryz.ntmps54
        go_wp2_with fail
        refine (cutPrefix_l s _).mono ?_
        rintro e w1 ⟨rfl, rfl⟩
        rw [hm.out, hr.out]
        go_wp2_with fail
        refine (cut_l r _ (by omega) (HB.out.alloc _)).mono ?_
        rintro e w2 ⟨rfl, hb2⟩
        rw [hc.out]
        have hb : Kept w (.cells #[.bool false, .string ⟨#[]⟩, .string ⟨#[]⟩] 109) w2 := hb2
        clear hb2
        go_wp2_with (first | (go_at_call 78; refine (isWhole_l _ _).mono ?_; rintro e w3 ⟨rfl, h3⟩; replace hb := hb.step h3; clear h3) | (go_at_call 79; refine (isDigits_l _ _).mono ?_; rintro e w4 ⟨rfl, h4⟩; replace hb := hb.step h4; clear h4) | (go_at_call 80; refine (isZero_l _ _ (by omega)).mono ?_; rintro e w5 ⟨rfl, h5⟩; replace hb := hb.step h5; clear h5))
        exact bodyPost_ret (v := .tuple #[.agg #[.bool true, .string ⟨a.toArray⟩, .string ⟨b.toArray⟩], .nilIface]) (by simp [results, Tryz.results54, go_sem, kc0 _ hb, kc1 _ hb, kc2 _ hb]) rfl ⟨rfl, ((hb.below.setCell (p := ⟨w.heap.size, 0, none⟩) (Nat.le_refl _) _).setCell (p := ⟨w.heap.size, 1, none⟩) (Nat.le_refl _) _).setCell (p := ⟨w.heap.size, 2, none⟩) (Nat.le_refl _) _⟩
    | true =>
      have hzb : Pn.zeroB b = false := by simpa [hza] using hz
      clear hz
      cases p with
      | false =>
        clear hp
        go_enter Tryz.func54, Tryz.ntmps54
        go_wp2_with fail
        refine (cutPrefix_l s _).mono ?_
        rintro e w1 ⟨rfl, rfl⟩
        rw [hm.out, hr.out]
        go_wp2_with fail
        refine (cut_l r _ (by omega) (HB.out.alloc _)).mono ?_
        rintro e w2 ⟨rfl, hb2⟩
        rw [hc.out]
        have hb : Kept w (.cells #[.bool false, .string ⟨#[]⟩, .string ⟨#[]⟩] 109) w2 := hb2
        clear hb2
        go_wp2_with (first | (go_at_call 78; refine (isWhole_l _ _).mono ?_; rintro e w3 ⟨rfl, h3⟩; replace hb := hb.step h3; clear h3) | (go_at_call 79; refine (isDigits_l _ _).mono ?_; rintro e w4 ⟨rfl, h4⟩; replace hb := hb.step h4; clear h4) | (go_at_call 80; refine (isZero_l _ _ (by omega)).mono ?_; rintro e w5 ⟨rfl, h5⟩; replace hb := hb.step h5; clear h5))
        exact bodyPost_ret (v := .tuple #[.agg #[.bool true, .string ⟨a.toArray⟩, .string ⟨b.toArray⟩], .nilIface]) (by simp [results, Tryz.results54, go_sem, kc0 _ hb, kc1 _ hb, kc2 _ hb]) rfl ⟨rfl, ((hb.below.setCell (p := ⟨w.heap.size, 0, none⟩) (Nat.le_refl _) _).setCell (p := ⟨w.heap.size, 1, none⟩) (Nat.le_refl _) _).setCell (p := ⟨w.heap.size, 2, none⟩) (Nat.le_refl _) _⟩
      | true =>
        have hd : Pn.digitsB b = true := by simpa using hp
        clear hp
        go_enter Tryz.func54, Tryz.ntmps54
        go_wp2_with fail
        refine (cutPrefix_l s _).mono ?_
        rintro e w1 ⟨rfl, rfl⟩
        rw [hm.out, hr.out]
        go_wp2_with fail
        refine (cut_l r _ (by omega) (HB.out.alloc _)).mono ?_
        rintro e w2 ⟨rfl, hb2⟩
        rw [hc.out]
        have hb : Kept w (.cells #[.bool false, .string ⟨#[]⟩, .string ⟨#[]⟩] 109) w2 := hb2
        clear hb2
        go_wp2_with (first | (go_at_call 78; refine (isWhole_l _ _).mono ?_; rintro e w3 ⟨rfl, h3⟩; replace hb := hb.step h3; clear h3) | (go_at_call 79; refine (isDigits_l _ _).mono ?_; rintro e w4 ⟨rfl, h4⟩; replace hb := hb.step h4; clear h4) | (go_at_call 80; refine (isZero_l _ _ (by omega)).mono ?_; rintro e w5 ⟨rfl, h5⟩; replace hb := hb.step h5; clear h5))
        exact bodyPost_ret (v := .tuple #[.agg #[.bool true, .string ⟨a.toArray⟩, .string ⟨b.toArray⟩], .nilIface]) (by simp [results, Tryz.results54, go_sem, kc0 _ hb, kc1 _ hb, kc2 _ hb]) rfl ⟨rfl, ((hb.below.setCell (p := ⟨w.heap.size, 0, none⟩) (Nat.le_refl _) _).setCell (p := ⟨w.heap.size, 1, none⟩) (Nat.le_refl _) _).setCell (p := ⟨w.heap.size, 2, none⟩) (Nat.le_refl _) _⟩

set_option maxHeartbeats 1000000 in
theorem parse_no1 (s : ByteArray) (w : World) (m p : Bool) (r a b : List UInt8) (hm : Hid (Pn.minusOf s.data.toList = m)) (hr : Hid (Pn.restOf s.data.toList = r)) (hc : Hid (Lib.cut r [46] = (a, b, p)))
    (hs : s.size < 4294967281) (hB : Base w) (h30 : (30 : Int) < (a.length : Int) + b.length) :
    Calls Tryz.prog 54 #[.string s] w fun e w' => e = .returned (.tuple #[.agg #[.bool false, .string ⟨#[]⟩, .string ⟨#[]⟩], .iface 30 (.int .i64 10)]) ∧ Below w.heap.size w w' := by
  have hlr : r.length ≤ s.size := by rw [← hr.out, Lib.size_eq]; exact Lib.trimPrefix_le _ _
  have hab := cut_len r a b p hc.out
  have HB : Hid (Base w) := hB
  have kc0 : ∀ w', Kept w (.cells #[.bool false, .string ⟨#[]⟩, .string ⟨#[]⟩] 109) w' → w'.cell? ⟨w.heap.size, 0, none⟩ = some (.bool false) := fun w' h => (h.cell 0).trans (by simp)
  have kc1 : ∀ w', Kept w (.cells #[.bool false, .string ⟨#[]⟩, .string ⟨#[]⟩] 109) w' → w'.cell? ⟨w.heap.size, 1, none⟩ = some (.string ⟨#[]⟩) := fun w' h => (h.cell 1).trans (by simp)
  have kc2 : ∀ w', Kept w (.cells #[.bool false, .string ⟨#[]⟩, .string ⟨#[]⟩] 109) w' → w'.cell? ⟨w.heap.size, 2, none⟩ = some (.string ⟨#[]⟩) := fun w' h => (h.cell 2).trans (by simp)
  have kf : ∀ w' j, Kept w (.cells #[.bool false, .string ⟨#[]⟩, .string ⟨#[]⟩] 109) w' → w'.frozen? ⟨w.heap.size, j, none⟩ = false := fun w' j h => (h.frozen j).trans (by simp)
  clear hB
  go_enter Tryz.func54, Tryz.ntmps54
  go_wp2_with fail
  refine (cutPrefix_l s _).mono ?_
  rintro e w1 ⟨rfl, rfl⟩
  rw [hm.out, hr.out]
  go_wp2_with fail
  refine (cut_l r _ (by omega) (HB.out.alloc _)).mono ?_
  rintro e w2 ⟨rfl, hb2⟩
  rw [hc.out]
  have hb : Kept w (.cells #[.bool false, .string ⟨#[]⟩, .string ⟨#[]⟩] 109) w2 := hb2
  clear hb2
  go_wp2_with (first | (go_at_call 78; refine (isWhole_l _ _).mono ?_; rintro e w3 ⟨rfl, h3⟩; replace hb := hb.step h3; clear h3) | (go_at_call 79; refine (isDigits_l _ _).mono ?_; rintro e w4 ⟨rfl, h4⟩; replace hb := hb.step h4; clear h4) | (go_at_call 80; refine (isZero_l _ _ (by omega)).mono ?_; rintro e w5 ⟨rfl, h5⟩; replace hb := hb.step h5; clear h5))
  exact bodyPost_ret (v := .tuple #[.agg #[.bool false, .string ⟨#[]⟩, .string ⟨#[]⟩], .iface 30 (.int .i64 10)]) (by simp [results, Tryz.results54, go_sem, kc0 _ hb, kc1 _ hb, kc2 _ hb]) rfl ⟨rfl, ((hb.below.setCell (p := ⟨w.heap.size, 0, none⟩) (Nat.le_refl _) _).setCell (p := ⟨w.heap.size, 1, none⟩) (Nat.le_refl _) _).setCell (p := ⟨w.heap.size, 2, none⟩) (Nat.le_refl _) _⟩

set_option maxHeartbeats 1000000 in
theorem parse_no2 (s : ByteArray) (w : World) (m p : Bool) (r a b : List UInt8) (hm : Hid (Pn.minusOf s.data.toList = m)) (hr : Hid (Pn.restOf s.data.toList = r)) (hc : Hid (Lib.cut r [46] = (a, b, p)))
    (hs : s.size < 4294967281) (hB : Base w) (h30 : ¬ (30 : Int) < (a.length : Int) + b.length) (hw : Pn.wholeB a = false) :
    Calls Tryz.prog 54 #[.string s] w fun e w' => e = .returned (.tuple #[.agg #[.bool false, .string ⟨#[]⟩, .string ⟨#[]⟩], .iface 30 (.int .i64 10)]) ∧ Below w.heap.size w w' := by
  have hlr : r.length ≤ s.size := by rw [← hr.out, Lib.size_eq]; exact Lib.trimPrefix_le _ _
  have hab := cut_len r a b p hc.out
  have HB : Hid (Base w) := hB
  have kc0 : ∀ w', Kept w (.cells #[.bool false, .string ⟨#[]⟩, .string ⟨#[]⟩] 109) w' → w'.cell? ⟨w.heap.size, 0, none⟩ = some (.bool false) := fun w' h => (h.cell 0).trans (by simp)
  have kc1 : ∀ w', Kept w (.cells #[.bool false, .string ⟨#[]⟩, .string ⟨#[]⟩] 109) w' → w'.cell? ⟨w.heap.size, 1, none⟩ = some (.string ⟨#[]⟩) := fun w' h => (h.cell 1).trans (by simp)
  have kc2 : ∀ w', Kept w (.cells #[.bool false, .string ⟨#[]⟩, .string ⟨#[]⟩] 109) w' → w'.cell? ⟨w.heap.size, 2, none⟩ = some (.string ⟨#[]⟩) := fun w' h => (h.cell 2).trans (by simp)
  have kf : ∀ w' j, Kept w (.cells #[.bool false, .string ⟨#[]⟩, .string ⟨#[]⟩] 109) w' → w'.frozen? ⟨w.heap.size, j, none⟩ = false := fun w' j h => (h.frozen j).trans (by simp)
  clear hB
  go_enter Tryz.func54, Tryz.ntmps54
  go_wp2_with fail
  refine (cutPrefix_l s _).mono ?_
  rintro e w1 ⟨rfl, rfl⟩
  rw [hm.out, hr.out]
  go_wp2_with fail
  refine (cut_l r _ (by omega) (HB.out.alloc _)).mono ?_
  rintro e w2 ⟨rfl, hb2⟩
  rw [hc.out]
  have hb : Kept w (.cells #[.bool false, .string ⟨#[]⟩, .string ⟨#[]⟩] 109) w2 := hb2
  clear hb2
  go_wp2_with (first | (go_at_call 78; refine (isWhole_l _ _).mono ?_; rintro e w3 ⟨rfl, h3⟩; replace hb := hb.step h3; clear h3) | (go_at_call 79; refine (isDigits_l _ _).mono ?_; rintro e w4 ⟨rfl, h4⟩; replace hb := hb.step h4; clear h4) | (go_at_call 80; refine (isZero_l _ _ (by omega)).mono ?_; rintro e w5 ⟨rfl, h5⟩; replace hb := hb.step h5; clear h5))
  exact bodyPost_ret (v := .tuple #[.agg #[.bool false, .string ⟨#[]⟩, .string ⟨#[]⟩], .iface 30 (.int .i64 10)]) (by simp [results, Tryz.results54, go_sem, kc0 _ hb, kc1 _ hb, kc2 _ hb]) rfl ⟨rfl, ((hb.below.setCell (p := ⟨w.heap.size, 0, none⟩) (Nat.le_refl _) _).setCell (p := ⟨w.heap.size, 1, none⟩) (Nat.le_refl _) _).setCell (p := ⟨w.heap.size, 2, none⟩) (Nat.le_refl _) _⟩

set_option maxHeartbeats 1000000 in
theorem parse_no3 (s : ByteArray) (w : World) (m p : Bool) (r a b : List UInt8) (hm : Hid (Pn.minusOf s.data.toList = m)) (hr : Hid (Pn.restOf s.data.toList = r)) (hc : Hid (Lib.cut r [46] = (a, b, p)))
    (hs : s.size < 4294967281) (hB : Base w) (h30 : ¬ (30 : Int) < (a.length : Int) + b.length) (hw : Pn.wholeB a = true) (hpt : p = true) (hd : Pn.digitsB b = false) :
    Calls Tryz.prog 54 #[.string s] w fun e w' => e = .returned (.tuple #[.agg #[.bool false, .string ⟨#[]⟩, .string ⟨#[]⟩], .iface 30 (.int .i64 10)]) ∧ Below w.heap.size w w' := by
  have hlr : r.length ≤ s.size := by rw [← hr.out, Lib.size_eq]; exact Lib.trimPrefix_le _ _
  have hab := cut_len r a b p hc.out
  have HB : Hid (Base w) := hB
  have kc0 : ∀ w', Kept w (.cells #[.bool false, .string ⟨#[]⟩, .string ⟨#[]⟩] 109) w' → w'.cell? ⟨w.heap.size, 0, none⟩ = some (.bool false) := fun w' h => (h.cell 0).trans (by simp)
  have kc1 : ∀ w', Kept w (.cells #[.bool false, .string ⟨#[]⟩, .string ⟨#[]⟩] 109) w' → w'.cell? ⟨w.heap.size, 1, none⟩ = some (.string ⟨#[]⟩) := fun w' h => (h.cell 1).trans (by simp)
  have kc2 : ∀ w', Kept w (.cells #[.bool false, .string ⟨#[]⟩, .string ⟨#[]⟩] 109) w' → w'.cell? ⟨w.heap.size, 2, none⟩ = some (.string ⟨#[]⟩) := fun w' h => (h.cell 2).trans (by simp)
  have kf : ∀ w' j, Kept w (.cells #[.bool false, .string ⟨#[]⟩, .string ⟨#[]⟩] 109) w' → w'.frozen? ⟨w.heap.size, j, none⟩ = false := fun w' j h => (h.frozen j).trans (by simp)
  clear hB
  subst hpt
  go_enter Tryz.func54, Tryz.ntmps54
  go_wp2_with fail
  refine (cutPrefix_l s _).mono ?_
  rintro e w1 ⟨rfl, rfl⟩
  rw [hm.out, hr.out]
  go_wp2_with fail
  refine (cut_l r _ (by omega) (HB.out.alloc _)).mono ?_
  rintro e w2 ⟨rfl, hb2⟩
  rw [hc.out]
  have hb : Kept w (.cells #[.bool false, .string ⟨#[]⟩, .string ⟨#[]⟩] 109) w2 := hb2
  clear hb2
  go_wp2_with (first | (go_at_call 78; refine (isWhole_l _ _).mono ?_; rintro e w3 ⟨rfl, h3⟩; replace hb := hb.step h3; clear h3) | (go_at_call 79; refine (isDigits_l _ _).mono ?_; rintro e w4 ⟨rfl, h4⟩; replace hb := hb.step h4; clear h4) | (go_at_call 80; refine (isZero_l _ _ (by omega)).mono ?_; rintro e w5 ⟨rfl, h5⟩; replace hb := hb.step h5; clear h5))
  exact bodyPost_ret (v := .tuple #[.agg #[.bool false, .string ⟨#[]⟩, .string ⟨#[]⟩], .iface 30 (.int .i64 10)]) (by simp [results, Tryz.results54, go_sem, kc0 _ hb, kc1 _ hb, kc2 _ hb]) rfl ⟨rfl, ((hb.below.setCell (p := ⟨w.heap.size, 0, none⟩) (Nat.le_refl _) _).setCell (p := ⟨w.heap.size, 1, none⟩) (Nat.le_refl _) _).setCell (p := ⟨w.heap.size, 2, none⟩) (Nat.le_refl _) _⟩

set_option maxHeartbeats 1000000 in
theorem parse_no4 (s : ByteArray) (w : World) (m p : Bool) (r a b : List UInt8) (hm : Hid (Pn.minusOf s.data.toList = m)) (hr : Hid (Pn.restOf s.data.toList = r)) (hc : Hid (Lib.cut r [46] = (a, b, p)))
    (hs : s.size < 4294967281) (hB : Base w) (h30 : ¬ (30 : Int) < (a.length : Int) + b.length) (hw : Pn.wholeB a = true) (hp : p = true → Pn.digitsB b = true) (hmt : m = true) (hza : Pn.zeroB a = true) (hzb : Pn.zeroB b = true) :
    Calls Tryz.prog 54 #[.string s] w fun e w' => e = .returned (.tuple #[.agg #[.bool false, .string ⟨#[]⟩, .string ⟨#[]⟩], .iface 30 (.int .i64 10)]) ∧ Below w.heap.size w w' := by
  have hlr : r.length ≤ s.size := by rw [← hr.out, Lib.size_eq]; exact Lib.trimPrefix_le _ _
  have hab := cut_len r a b p hc.out
  have HB : Hid (Base w) := hB
  have kc0 : ∀ w', Kept w (.cells #[.bool false, .string ⟨#[]⟩, .string ⟨#[]⟩] 109) w' → w'.cell? ⟨w.heap.size, 0, none⟩ = some (.bool false) := fun w' h => (h.cell 0).trans (by simp)
  have kc1 : ∀ w', Kept w (.cells #[.bool false, .string ⟨#[]⟩, .string ⟨#[]⟩] 109) w' → w'.cell? ⟨w.heap.size, 1, none⟩ = some (.string ⟨#[]⟩) := fun w' h => (h.cell 1).trans (by simp)
  have kc2 : ∀ w', Kept w (.cells #[.bool false, .string ⟨#[]⟩, .string ⟨#[]⟩] 109) w' → w'.cell? ⟨w.heap.size, 2, none⟩ = some (.string ⟨#[]⟩) := fun w' h => (h.cell 2).trans (by simp)
  have kf : ∀ w' j, Kept w (.cells #[.bool false, .string ⟨#[]⟩, .string ⟨#[]⟩] 109) w' → w'.frozen? ⟨w.heap.size, j, none⟩ = false := fun w' j h => (h.frozen j).trans (by simp)
  clear hB
  subst hmt
  cases p with
  | false =>
    clear hp
    go_enter Tryz.func54, Tryz.ntmps54
    go_wp2_with fail
    refine (cutPrefix_l s _).mono ?_
    rintro e w1 ⟨rfl, rfl⟩
    rw [hm.out, hr.out]
    go_wp2_with fail
    refine (cut_l r _ (by omega) (HB.out.alloc _)).mono ?_
    rintro e w2 ⟨rfl, hb2⟩
    rw [hc.out]
    have hb : Kept w (.cells #[.bool false, .string ⟨#[]⟩, .string ⟨#[]⟩] 109) w2 := hb2
    clear hb2
    go_wp2_with (first | (go_at_call 78; refine (isWhole_l _ _).mono ?_; rintro e w3 ⟨rfl, h3⟩; replace hb := hb.step h3; clear h3) | (go_at_call 79; refine (isDigits_l _ _).mono ?_; rintro e w4 ⟨rfl, h4⟩; replace hb := hb.step h4; clear h4) | (go_at_call 80; refine (isZero_l _ _ (by omega)).mono ?_; rintro e w5 ⟨rfl, h5⟩; replace hb := hb.step h5; clear h5))
    exact bodyPost_ret (v := .tuple #[.agg #[.bool false, .string ⟨#[]⟩, .string ⟨#[]⟩], .iface 30 (.int .i64 10)]) (by simp [results, Tryz.results54, go_sem, kc0 _ hb, kc1 _ hb, kc2 _ hb]) rfl ⟨rfl, ((hb.below.setCell (p := ⟨w.heap.size, 0, none⟩) (Nat.le_refl _) _).setCell (p := ⟨w.heap.size, 1, none⟩) (Nat.le_refl _) _).setCell (p := ⟨w.heap.size, 2, none⟩) (Nat.le_refl _) _⟩
  | true =>
    have hd := hp rfl
    clear hp
    go_enter Tryz.func54, Tryz.ntmps54
    go_wp2_with fail
    refine (cutPrefix_l s _).mono ?_
    rintro e w1 ⟨rfl, rfl⟩
    rw [hm.out, hr.out]
    go_wp2_with fail
    refine (cut_l r _ (by omega) (HB.out.alloc _)).mono ?_
    rintro e w2 ⟨rfl, hb2⟩
    rw [hc.out]
    have hb : Kept w (.cells #[.bool false, .string ⟨#[]⟩, .string ⟨#[]⟩] 109) w2 := hb2
    clear hb2
    go_wp2_with (first | (go_at_call 78; refine (isWhole_l _ _).mono ?_; rintro e w3 ⟨rfl, h3⟩; replace hb := hb.step h3; clear h3) | (go_at_call 79; refine (isDigits_l _ _).mono ?_; rintro e w4 ⟨rfl, h4⟩; replace hb := hb.step h4; clear h4) | (go_at_call 80; refine (isZero_l _ _ (by omega)).mono ?_; rintro e w5 ⟨rfl, h5⟩; replace hb := hb.step h5; clear h5))
    exact bodyPost_ret (v := .tuple #[.agg #[.bool false, .string ⟨#[]⟩, .string ⟨#[]⟩], .iface 30 (.int .i64 10)]) (by simp [results, Tryz.results54, go_sem, kc0 _ hb, kc1 _ hb, kc2 _ hb]) rfl ⟨rfl, ((hb.below.setCell (p := ⟨w.heap.size, 0, none⟩) (Nat.le_refl _) _).setCell (p := ⟨w.heap.size, 1, none⟩) (Nat.le_refl _) _).setCell (p := ⟨w.heap.size, 2, none⟩) (Nat.le_refl _) _⟩

theorem parse_yes (s : ByteArray) (w : World) (hs : s.size < 4294967281) (hB : Base w) (h : Pn.isNum s.data.toList = true) :
    Calls Tryz.prog 54 #[.string s] w fun e w' => e = .returned (.tuple #[.agg #[.bool (Pn.minusOf s.data.toList), .string ⟨(Pn.aOf s.data.toList).toArray⟩, .string ⟨(Pn.bOf s.data.toList).toArray⟩], .nilIface]) ∧ Below w.heap.size w w' :=
  parse_core s w _ _ _ _ _ rfl rfl rfl hs hB h
theorem parse_no (s : ByteArray) (w : World) (hs : s.size < 4294967281) (hB : Base w) (h : Pn.isNum s.data.toList = false) :
    Calls Tryz.prog 54 #[.string s] w fun e w' => e = .returned (.tuple #[.agg #[.bool false, .string ⟨#[]⟩, .string ⟨#[]⟩], .iface 30 (.int .i64 10)]) ∧ Below w.heap.size w w' := by
  by_cases h30 : (30 : Int) < ((Pn.aOf s.data.toList).length : Int) + (Pn.bOf s.data.toList).length
  · exact parse_no1 s w _ _ _ _ _ rfl rfl rfl hs hB h30
  cases hw : Pn.wholeB (Pn.aOf s.data.toList) with
  | false => exact parse_no2 s w _ _ _ _ _ rfl rfl rfl hs hB h30 hw
  | true =>
    by_cases hpd : Pn.pOf s.data.toList = true ∧ Pn.digitsB (Pn.bOf s.data.toList) = false
    · exact parse_no3 s w _ _ _ _ _ rfl rfl rfl hs hB h30 hw hpd.1 hpd.2
    have h30' : (Pn.aOf s.data.toList).length + (Pn.bOf s.data.toList).length ≤ 30 := by omega
    have hp : Pn.pOf s.data.toList = true → Pn.digitsB (Pn.bOf s.data.toList) = true := by
      intro hpt
      cases hd : Pn.digitsB (Pn.bOf s.data.toList) with
      | false => exact absurd ⟨hpt, hd⟩ hpd
      | true => rfl
    have hp' : (!Pn.pOf s.data.toList || Pn.digitsB (Pn.bOf s.data.toList)) = true := by
      cases hq : Pn.pOf s.data.toList with
      | false => rfl
      | true => rw [hp hq]; rfl
    simp only [Pn.isNum, Pn.okB, decide_eq_true h30', hw, hp', Bool.true_and, Bool.not_eq_false', Bool.and_eq_true] at h
    exact parse_no4 s w _ _ _ _ _ rfl rfl rfl hs hB h30 hw hp h.1.1 h.1.2 h.2
end Go.Proofs.YtaepcfidpekflaaGreatDoor
