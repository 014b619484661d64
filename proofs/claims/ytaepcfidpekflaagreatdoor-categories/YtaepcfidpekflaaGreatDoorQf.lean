/-
  Operands. By the verifier.
-/
import Derived.Test.YtaepcfidpekflaaGreatDoorQe
import Derived.Deep.DeepCutAuto
import Derived.Deep.CutBlock
import Derived.Deep.RegionWith
import Derived.Outline
namespace Go.Proofs.YtaepcfidpekflaaGreatDoor
open Go.RowKit

theorem val_dec (d : Pr.T) : Pr.val (Lib.decDigits d.length) = d.length := (dec_val _).1
theorem op_below (W : World) (o p : Obj) : Below W.heap.size W ((W.alloc o).alloc p) := ((Below.refl W.heap.size W).alloc (Nat.le_refl _) o).alloc (by simp) p
set_option maxHeartbeats 400000 in
theorem op1_any (m : Bool) (a b : Pr.T) (_ha : Digs a) (hb : Digs b) (W : World) :
    Calls Tryz.prog 246 #[numV m a b] W fun e w' => e = .returned (.agg #[.string ⟨a.toArray⟩, .bool (!(Pr.shortR b).isEmpty)]) ∧ Below W.heap.size W w' := by
  have hs := (short_digs b hb).2
  go_enter Tryz.func246, Tryz.ntmps246
  simp only [numV]
  go_wp2_with fail
  go_region_with (go_at_call 247; refine (withoutEnd_any b hb _).mono ?_; rintro e w1 ⟨rfl, rfl⟩)
  all_goals (go_wp2; exact bodyPost_ret (v := .agg #[.string ⟨a.toArray⟩, .bool (!(Pr.shortR b).isEmpty)]) (by simp [results, Tryz.results246, go_sem]) rfl ⟨rfl, (op_below _ _ _).drew⟩)
set_option maxHeartbeats 400000 in
theorem op2_any (m : Bool) (a b : Pr.T) (_ha : Digs a) (hb : Digs b) (W : World) :
    Calls Tryz.prog 248 #[numV m a b] W fun e w' => e = .returned (.agg #[.string ⟨(a).toArray⟩, .bool false]) ∧ Below W.heap.size W w' := by
  have h2 := short_digs b hb
  go_enter Tryz.func248, Tryz.ntmps248
  simp only [numV]
  go_wp2
  exact bodyPost_ret (v := .agg #[.string ⟨(a).toArray⟩, .bool false]) (by simp [results, Tryz.results248, go_sem]) rfl ⟨rfl, op_below _ _ _⟩
set_option maxHeartbeats 400000 in
theorem op3_any (m : Bool) (a b : Pr.T) (_ha : Digs a) (hb : Digs b) (W : World) :
    Calls Tryz.prog 249 #[numV m a b] W fun e w' => e = .returned (.agg #[.string ⟨(Lib.decDigits b.length).toArray⟩, .bool false]) ∧ Below W.heap.size W w' := by
  have h2 := short_digs b hb
  go_enter Tryz.func249, Tryz.ntmps249
  simp only [numV]
  go_wp2_with (first | (go_at_call 250; refine (lengthOf_any _ hb _).mono ?_; rintro e w1 ⟨rfl, rfl⟩))
  exact bodyPost_ret (v := .agg #[.string ⟨(Lib.decDigits b.length).toArray⟩, .bool false]) (by simp [results, Tryz.results249, go_sem]) rfl ⟨rfl, op_below _ _ _⟩
set_option maxHeartbeats 400000 in
theorem op4_any (m : Bool) (a b : Pr.T) (_ha : Digs a) (hb : Digs b) (W : World) :
    Calls Tryz.prog 251 #[numV m a b] W fun e w' => e = .returned (.agg #[.string ⟨(Lib.decDigits (Pr.shortR b).length).toArray⟩, .bool false]) ∧ Below W.heap.size W w' := by
  have h2 := short_digs b hb
  go_enter Tryz.func251, Tryz.ntmps251
  simp only [numV]
  go_wp2_with (first | (go_at_call 247; refine (withoutEnd_any b hb _).mono ?_; rintro e w1 ⟨rfl, rfl⟩) | (go_at_call 250; refine (lengthOf_any _ h2 _).mono ?_; rintro e w1 ⟨rfl, rfl⟩))
  exact bodyPost_ret (v := .agg #[.string ⟨(Lib.decDigits (Pr.shortR b).length).toArray⟩, .bool false]) (by simp [results, Tryz.results251, go_sem]) rfl ⟨rfl, op_below _ _ _⟩
set_option maxHeartbeats 400000 in
theorem op5_any (m : Bool) (a b : Pr.T) (_ha : Digs a) (hb : Digs b) (W : World) :
    Calls Tryz.prog 252 #[numV m a b] W fun e w' => e = .returned (.agg #[.string ⟨(b).toArray⟩, .bool false]) ∧ Below W.heap.size W w' := by
  have h2 := short_digs b hb
  go_enter Tryz.func252, Tryz.ntmps252
  simp only [numV]
  go_wp2
  exact bodyPost_ret (v := .agg #[.string ⟨(b).toArray⟩, .bool false]) (by simp [results, Tryz.results252, go_sem]) rfl ⟨rfl, op_below _ _ _⟩
set_option maxHeartbeats 400000 in
theorem op6_any (m : Bool) (a b : Pr.T) (_ha : Digs a) (hb : Digs b) (W : World) :
    Calls Tryz.prog 253 #[numV m a b] W fun e w' => e = .returned (.agg #[.string ⟨(Pr.shortR b).toArray⟩, .bool false]) ∧ Below W.heap.size W w' := by
  have h2 := short_digs b hb
  go_enter Tryz.func253, Tryz.ntmps253
  simp only [numV]
  go_wp2_with (first | (go_at_call 247; refine (withoutEnd_any b hb _).mono ?_; rintro e w1 ⟨rfl, rfl⟩))
  exact bodyPost_ret (v := .agg #[.string ⟨(Pr.shortR b).toArray⟩, .bool false]) (by simp [results, Tryz.results253, go_sem]) rfl ⟨rfl, op_below _ _ _⟩
theorem enters_op1 : Enters 246 := enters_of Tryz.func246 (by kernel_rfl) rfl
theorem enters_op2 : Enters 248 := enters_of Tryz.func248 (by kernel_rfl) rfl
theorem enters_op3 : Enters 249 := enters_of Tryz.func249 (by kernel_rfl) rfl
theorem enters_op4 : Enters 251 := enters_of Tryz.func251 (by kernel_rfl) rfl
theorem enters_op5 : Enters 252 := enters_of Tryz.func252 (by kernel_rfl) rfl
theorem enters_op6 : Enters 253 := enters_of Tryz.func253 (by kernel_rfl) rfl

/-- What operandOf answers. -/
def opf (t : Pr.T) : Value := if t = [110] then .func (.func 246) #[] #[] else if t = [105] then .func (.func 248) #[] #[] else if t = [118] then .func (.func 249) #[] #[] else if t = [119] then .func (.func 251) #[] #[] else if t = [102] then .func (.func 252) #[] #[] else if t = [116] then .func (.func 253) #[] #[] else .nilFunc
set_option maxHeartbeats 400000 in
theorem operandOf_any (t : Pr.T) (w : World) : Calls Tryz.prog 232 #[.string ⟨t.toArray⟩] w fun e w' => e = .returned (opf t) ∧ w' = w := by
  by_cases h1 : t = [110]
  · have HO : Hid (opf t = .func (.func 246) #[] #[]) := by show _ = _; subst h1; simp [opf]
    have y : (t == [110]) = true := by rw [h1]; rfl
    clear h1
    go_enter Tryz.func232, Tryz.ntmps232
    go_wp2
    go_ret
    exact ⟨by rw [HO.out]; rfl, rfl⟩
  by_cases h2 : t = [105]
  · have HO : Hid (opf t = .func (.func 248) #[] #[]) := by show _ = _; subst h2; simp [opf]
    have y : (t == [105]) = true := by rw [h2]; rfl
    have n1 : (t == [110]) = false := by rw [beq_eq_false_iff_ne]; exact h1
    clear h1 h2
    go_enter Tryz.func232, Tryz.ntmps232
    go_wp2
    go_ret
    exact ⟨by rw [HO.out]; rfl, rfl⟩
  by_cases h3 : t = [118]
  · have HO : Hid (opf t = .func (.func 249) #[] #[]) := by show _ = _; subst h3; simp [opf]
    have y : (t == [118]) = true := by rw [h3]; rfl
    have n1 : (t == [110]) = false := by rw [beq_eq_false_iff_ne]; exact h1
    have n2 : (t == [105]) = false := by rw [beq_eq_false_iff_ne]; exact h2
    clear h1 h2 h3
    go_enter Tryz.func232, Tryz.ntmps232
    go_wp2
    go_ret
    exact ⟨by rw [HO.out]; rfl, rfl⟩
  by_cases h4 : t = [119]
  · have HO : Hid (opf t = .func (.func 251) #[] #[]) := by show _ = _; subst h4; simp [opf]
    have y : (t == [119]) = true := by rw [h4]; rfl
    have n1 : (t == [110]) = false := by rw [beq_eq_false_iff_ne]; exact h1
    have n2 : (t == [105]) = false := by rw [beq_eq_false_iff_ne]; exact h2
    have n3 : (t == [118]) = false := by rw [beq_eq_false_iff_ne]; exact h3
    clear h1 h2 h3 h4
    go_enter Tryz.func232, Tryz.ntmps232
    go_wp2
    go_ret
    exact ⟨by rw [HO.out]; rfl, rfl⟩
  by_cases h5 : t = [102]
  · have HO : Hid (opf t = .func (.func 252) #[] #[]) := by show _ = _; subst h5; simp [opf]
    have y : (t == [102]) = true := by rw [h5]; rfl
    have n1 : (t == [110]) = false := by rw [beq_eq_false_iff_ne]; exact h1
    have n2 : (t == [105]) = false := by rw [beq_eq_false_iff_ne]; exact h2
    have n3 : (t == [118]) = false := by rw [beq_eq_false_iff_ne]; exact h3
    have n4 : (t == [119]) = false := by rw [beq_eq_false_iff_ne]; exact h4
    clear h1 h2 h3 h4 h5
    go_enter Tryz.func232, Tryz.ntmps232
    go_wp2
    go_ret
    exact ⟨by rw [HO.out]; rfl, rfl⟩
  by_cases h6 : t = [116]
  · have HO : Hid (opf t = .func (.func 253) #[] #[]) := by show _ = _; subst h6; simp [opf]
    have y : (t == [116]) = true := by rw [h6]; rfl
    have n1 : (t == [110]) = false := by rw [beq_eq_false_iff_ne]; exact h1
    have n2 : (t == [105]) = false := by rw [beq_eq_false_iff_ne]; exact h2
    have n3 : (t == [118]) = false := by rw [beq_eq_false_iff_ne]; exact h3
    have n4 : (t == [119]) = false := by rw [beq_eq_false_iff_ne]; exact h4
    have n5 : (t == [102]) = false := by rw [beq_eq_false_iff_ne]; exact h5
    clear h1 h2 h3 h4 h5 h6
    go_enter Tryz.func232, Tryz.ntmps232
    go_wp2
    go_ret
    exact ⟨by rw [HO.out]; rfl, rfl⟩
  have n1 : (t == [110]) = false := by rw [beq_eq_false_iff_ne]; exact h1
  have n2 : (t == [105]) = false := by rw [beq_eq_false_iff_ne]; exact h2
  have n3 : (t == [118]) = false := by rw [beq_eq_false_iff_ne]; exact h3
  have n4 : (t == [119]) = false := by rw [beq_eq_false_iff_ne]; exact h4
  have n5 : (t == [102]) = false := by rw [beq_eq_false_iff_ne]; exact h5
  have n6 : (t == [116]) = false := by rw [beq_eq_false_iff_ne]; exact h6
  have HO : Hid (opf t = .nilFunc) := by show _ = _; simp only [opf, h1, h2, h3, h4, h5, h6, if_false]
  clear h1 h2 h3 h4 h5 h6
  go_enter Tryz.func232, Tryz.ntmps232
  go_wp2
  go_ret
  exact ⟨by rw [HO.out]; rfl, rfl⟩

theorem opf_none (t : Pr.T) (h : Pr.opd t = none) : opf t = .nilFunc := by
  unfold Pr.opd at h
  unfold opf
  repeat' split at h
  all_goals first | (cases h; done) | simp_all
theorem opf_some (t : Pr.T) (o : Pr.Opd) (h : Pr.opd t = some o) (P : Nat) (w : World) : Opv P w (opf t) o := by
  unfold Pr.opd at h
  split at h
  · rename_i e; subst e; cases h
    refine ⟨_, _, rfl, enters_op1, fun W _ _ m a b da db => (op1_any m a b da db W).mono fun e w' hh => ⟨⟨a, hh.1, da, rfl⟩, hh.2⟩⟩
  split at h
  · rename_i e; subst e; cases h
    refine ⟨_, _, rfl, enters_op2, fun W _ _ m a b da db => (op2_any m a b da db W).mono fun e w' hh => ⟨⟨a, hh.1, da, rfl⟩, hh.2⟩⟩
  split at h
  · rename_i e; subst e; cases h
    refine ⟨_, _, rfl, enters_op3, fun W _ _ m a b da db => (op3_any m a b da db W).mono fun e w' hh => ⟨⟨_, hh.1, dec_digs _ (by have := db.2; omega), val_dec _⟩, hh.2⟩⟩
  split at h
  · rename_i e; subst e; cases h
    refine ⟨_, _, rfl, enters_op4, fun W _ _ m a b da db => (op4_any m a b da db W).mono fun e w' hh => ⟨⟨_, hh.1, dec_digs _ (by have := (short_digs b db).2; omega), val_dec _⟩, hh.2⟩⟩
  split at h
  · rename_i e; subst e; cases h
    refine ⟨_, _, rfl, enters_op5, fun W _ _ m a b da db => (op5_any m a b da db W).mono fun e w' hh => ⟨⟨b, hh.1, db, rfl⟩, hh.2⟩⟩
  split at h
  · rename_i e; subst e; cases h
    refine ⟨_, _, rfl, enters_op6, fun W _ _ m a b da db => (op6_any m a b da db W).mono fun e w' hh => ⟨⟨_, hh.1, short_digs b db, rfl⟩, hh.2⟩⟩
  cases h
end Go.Proofs.YtaepcfidpekflaaGreatDoor
