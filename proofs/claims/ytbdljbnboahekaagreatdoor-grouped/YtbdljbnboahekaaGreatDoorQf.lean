/-
  Operands. By the verifier.
-/
import Derived.Test.YtbdljbnboahekaaGreatDoorQe
import Derived.Deep.DeepCutAuto
import Derived.Deep.CutBlock
import Derived.Deep.RegionWith
import Derived.Outline
namespace Go.Proofs.YtbdljbnboahekaaGreatDoor
open Go.RowKit

theorem val_dec (d : Pr.T) : Pr.val (Lib.decDigits d.length) = d.length := (dec_val _).1
theorem op_below (W : World) (o p : Obj) : Below W.heap.size W ((W.alloc o).alloc p) := ((Below.refl W.heap.size W).alloc (Nat.le_refl _) o).alloc (by simp) p
set_option maxHeartbeats 400000 in
theorem op1_any (m : Bool) (a b : Pr.T) (_ha : Digs a) (hb : Digs b) (W : World) :
    Calls Tryz.prog 144 #[numV m a b] W fun e w' => e = .returned (.agg #[.string ⟨a.toArray⟩, .bool (!(Pr.shortR b).isEmpty)]) ∧ Below W.heap.size W w' := by
  have hs := (short_digs b hb).2
  go_enter Tryz.func144, Tryz.ntmps144
  simp only [numV]
  go_wp2_with fail
  go_region_with (go_at_call 145; refine (withoutEnd_any b hb _).mono ?_; rintro e w1 ⟨rfl, rfl⟩)
  all_goals (go_wp2; exact bodyPost_ret (v := .agg #[.string ⟨a.toArray⟩, .bool (!(Pr.shortR b).isEmpty)]) (by simp [results, Tryz.results144, go_sem]) rfl ⟨rfl, (op_below _ _ _).drew⟩)
set_option maxHeartbeats 400000 in
theorem op2_any (m : Bool) (a b : Pr.T) (_ha : Digs a) (hb : Digs b) (W : World) :
    Calls Tryz.prog 146 #[numV m a b] W fun e w' => e = .returned (.agg #[.string ⟨(a).toArray⟩, .bool false]) ∧ Below W.heap.size W w' := by
  have h2 := short_digs b hb
  go_enter Tryz.func146, Tryz.ntmps146
  simp only [numV]
  go_wp2
  exact bodyPost_ret (v := .agg #[.string ⟨(a).toArray⟩, .bool false]) (by simp [results, Tryz.results146, go_sem]) rfl ⟨rfl, op_below _ _ _⟩
set_option maxHeartbeats 400000 in
theorem op3_any (m : Bool) (a b : Pr.T) (_ha : Digs a) (hb : Digs b) (W : World) :
    Calls Tryz.prog 147 #[numV m a b] W fun e w' => e = .returned (.agg #[.string ⟨(Lib.decDigits b.length).toArray⟩, .bool false]) ∧ Below W.heap.size W w' := by
  have h2 := short_digs b hb
  go_enter Tryz.func147, Tryz.ntmps147
  simp only [numV]
  go_wp2_with (first | (go_at_call 148; refine (lengthOf_any _ hb _).mono ?_; rintro e w1 ⟨rfl, rfl⟩))
  exact bodyPost_ret (v := .agg #[.string ⟨(Lib.decDigits b.length).toArray⟩, .bool false]) (by simp [results, Tryz.results147, go_sem]) rfl ⟨rfl, op_below _ _ _⟩
set_option maxHeartbeats 400000 in
theorem op4_any (m : Bool) (a b : Pr.T) (_ha : Digs a) (hb : Digs b) (W : World) :
    Calls Tryz.prog 149 #[numV m a b] W fun e w' => e = .returned (.agg #[.string ⟨(Lib.decDigits (Pr.shortR b).length).toArray⟩, .bool false]) ∧ Below W.heap.size W w' := by
  have h2 := short_digs b hb
  go_enter Tryz.func149, Tryz.ntmps149
  simp only [numV]
  go_wp2_with (first | (go_at_call 145; refine (withoutEnd_any b hb _).mono ?_; rintro e w1 ⟨rfl, rfl⟩) | (go_at_call 148; refine (lengthOf_any _ h2 _).mono ?_; rintro e w1 ⟨rfl, rfl⟩))
  exact bodyPost_ret (v := .agg #[.string ⟨(Lib.decDigits (Pr.shortR b).length).toArray⟩, .bool false]) (by simp [results, Tryz.results149, go_sem]) rfl ⟨rfl, op_below _ _ _⟩
set_option maxHeartbeats 400000 in
theorem op5_any (m : Bool) (a b : Pr.T) (_ha : Digs a) (hb : Digs b) (W : World) :
    Calls Tryz.prog 150 #[numV m a b] W fun e w' => e = .returned (.agg #[.string ⟨(b).toArray⟩, .bool false]) ∧ Below W.heap.size W w' := by
  have h2 := short_digs b hb
  go_enter Tryz.func150, Tryz.ntmps150
  simp only [numV]
  go_wp2
  exact bodyPost_ret (v := .agg #[.string ⟨(b).toArray⟩, .bool false]) (by simp [results, Tryz.results150, go_sem]) rfl ⟨rfl, op_below _ _ _⟩
set_option maxHeartbeats 400000 in
theorem op6_any (m : Bool) (a b : Pr.T) (_ha : Digs a) (hb : Digs b) (W : World) :
    Calls Tryz.prog 151 #[numV m a b] W fun e w' => e = .returned (.agg #[.string ⟨(Pr.shortR b).toArray⟩, .bool false]) ∧ Below W.heap.size W w' := by
  have h2 := short_digs b hb
  go_enter Tryz.func151, Tryz.ntmps151
  simp only [numV]
  go_wp2_with (first | (go_at_call 145; refine (withoutEnd_any b hb _).mono ?_; rintro e w1 ⟨rfl, rfl⟩))
  exact bodyPost_ret (v := .agg #[.string ⟨(Pr.shortR b).toArray⟩, .bool false]) (by simp [results, Tryz.results151, go_sem]) rfl ⟨rfl, op_below _ _ _⟩
theorem enters_op1 : Enters 144 := enters_of Tryz.func144 (by kernel_rfl) rfl
theorem enters_op2 : Enters 146 := enters_of Tryz.func146 (by kernel_rfl) rfl
theorem enters_op3 : Enters 147 := enters_of Tryz.func147 (by kernel_rfl) rfl
theorem enters_op4 : Enters 149 := enters_of Tryz.func149 (by kernel_rfl) rfl
theorem enters_op5 : Enters 150 := enters_of Tryz.func150 (by kernel_rfl) rfl
theorem enters_op6 : Enters 151 := enters_of Tryz.func151 (by kernel_rfl) rfl

/-- What operandOf answers. -/
def opf (t : Pr.T) : Value := if t = [110] then .func (.func 144) #[] #[] else if t = [105] then .func (.func 146) #[] #[] else if t = [118] then .func (.func 147) #[] #[] else if t = [119] then .func (.func 149) #[] #[] else if t = [102] then .func (.func 150) #[] #[] else if t = [116] then .func (.func 151) #[] #[] else .nilFunc
set_option maxHeartbeats 400000 in
theorem operandOf_any (t : Pr.T) (w : World) : Calls Tryz.prog 137 #[.string ⟨t.toArray⟩] w fun e w' => e = .returned (opf t) ∧ w' = w := by
  by_cases h1 : t = [110]
  · have HO : Hid (opf t = .func (.func 144) #[] #[]) := by show _ = _; subst h1; simp [opf]
    have y : (t == [110]) = true := by rw [h1]; rfl
    clear h1
    go_enter Tryz.func137, Tryz.ntmps137
    go_wp2
    go_ret
    exact ⟨by rw [HO.out]; rfl, rfl⟩
  by_cases h2 : t = [105]
  · have HO : Hid (opf t = .func (.func 146) #[] #[]) := by show _ = _; subst h2; simp [opf]
    have y : (t == [105]) = true := by rw [h2]; rfl
    have n1 : (t == [110]) = false := by rw [beq_eq_false_iff_ne]; exact h1
    clear h1 h2
    go_enter Tryz.func137, Tryz.ntmps137
    go_wp2
    go_ret
    exact ⟨by rw [HO.out]; rfl, rfl⟩
  by_cases h3 : t = [118]
  · have HO : Hid (opf t = .func (.func 147) #[] #[]) := by show _ = _; subst h3; simp [opf]
    have y : (t == [118]) = true := by rw [h3]; rfl
    have n1 : (t == [110]) = false := by rw [beq_eq_false_iff_ne]; exact h1
    have n2 : (t == [105]) = false := by rw [beq_eq_false_iff_ne]; exact h2
    clear h1 h2 h3
    go_enter Tryz.func137, Tryz.ntmps137
    go_wp2
    go_ret
    exact ⟨by rw [HO.out]; rfl, rfl⟩
  by_cases h4 : t = [119]
  · have HO : Hid (opf t = .func (.func 149) #[] #[]) := by show _ = _; subst h4; simp [opf]
    have y : (t == [119]) = true := by rw [h4]; rfl
    have n1 : (t == [110]) = false := by rw [beq_eq_false_iff_ne]; exact h1
    have n2 : (t == [105]) = false := by rw [beq_eq_false_iff_ne]; exact h2
    have n3 : (t == [118]) = false := by rw [beq_eq_false_iff_ne]; exact h3
    clear h1 h2 h3 h4
    go_enter Tryz.func137, Tryz.ntmps137
    go_wp2
    go_ret
    exact ⟨by rw [HO.out]; rfl, rfl⟩
  by_cases h5 : t = [102]
  · have HO : Hid (opf t = .func (.func 150) #[] #[]) := by show _ = _; subst h5; simp [opf]
    have y : (t == [102]) = true := by rw [h5]; rfl
    have n1 : (t == [110]) = false := by rw [beq_eq_false_iff_ne]; exact h1
    have n2 : (t == [105]) = false := by rw [beq_eq_false_iff_ne]; exact h2
    have n3 : (t == [118]) = false := by rw [beq_eq_false_iff_ne]; exact h3
    have n4 : (t == [119]) = false := by rw [beq_eq_false_iff_ne]; exact h4
    clear h1 h2 h3 h4 h5
    go_enter Tryz.func137, Tryz.ntmps137
    go_wp2
    go_ret
    exact ⟨by rw [HO.out]; rfl, rfl⟩
  by_cases h6 : t = [116]
  · have HO : Hid (opf t = .func (.func 151) #[] #[]) := by show _ = _; subst h6; simp [opf]
    have y : (t == [116]) = true := by rw [h6]; rfl
    have n1 : (t == [110]) = false := by rw [beq_eq_false_iff_ne]; exact h1
    have n2 : (t == [105]) = false := by rw [beq_eq_false_iff_ne]; exact h2
    have n3 : (t == [118]) = false := by rw [beq_eq_false_iff_ne]; exact h3
    have n4 : (t == [119]) = false := by rw [beq_eq_false_iff_ne]; exact h4
    have n5 : (t == [102]) = false := by rw [beq_eq_false_iff_ne]; exact h5
    clear h1 h2 h3 h4 h5 h6
    go_enter Tryz.func137, Tryz.ntmps137
    go_wp2
    go_ret
    exact ⟨by rw [HO.out]; rfl, rfl⟩
  have n1 : (t == [110]) = false := by rw [beq_eq_false_iff_ne]; exact h1
  have n2 : (t == [105]) = false := by rw [beq_eq_false_iff_ne]; exact h2
  have n3 : (t == [118]) = false := by rw [beq_eq_false_iff_ne]; exact h3
  have n4 : (t == [119]) = false := by rw [beq_eq_false_iff_ne]; exact h4
  have n5 : (t == [102]) = false := by rw [beq_eq_false_iff_ne]; exact h5
  have n6 : (t == [116]) = false := by rw [beq_eq_false_iff_ne]; exact h6
  have HO : Hid (opf t = .nilFunc) := by show _ = _; simp only [opf, h1, h2, h3, h4, h5, h6, if_false]
  clear h1 h2 h3 h4 h5 h6
  go_enter Tryz.func137, Tryz.ntmps137
  go_wp2
  go_ret
  exact ⟨by rw [HO.out]; rfl, rfl⟩

theorem opf_none (t : Pr.T) (h : Pr.opd t = none) : opf t = .nilFunc := by
  unfold Pr.opd at h
  unfold opf
  repeat' split at h
  all_goals first | (cases h; done) | simp_all
theorem opf_some (t : Pr.T) (o : Pr.Opd) (h : Pr.opd t = some o) (P : Nat) (w : World) : Opv P w (opf t) o := by
  unfold Pr.opd at h
  split at h
  · rename_i e; subst e; cases h
    refine ⟨_, _, rfl, enters_op1, fun W _ _ m a b da db => (op1_any m a b da db W).mono fun e w' hh => ⟨⟨a, hh.1, da, rfl⟩, hh.2⟩⟩
  split at h
  · rename_i e; subst e; cases h
    refine ⟨_, _, rfl, enters_op2, fun W _ _ m a b da db => (op2_any m a b da db W).mono fun e w' hh => ⟨⟨a, hh.1, da, rfl⟩, hh.2⟩⟩
  split at h
  · rename_i e; subst e; cases h
    refine ⟨_, _, rfl, enters_op3, fun W _ _ m a b da db => (op3_any m a b da db W).mono fun e w' hh => ⟨⟨_, hh.1, dec_digs _ (by have := db.2; omega), val_dec _⟩, hh.2⟩⟩
  split at h
  · rename_i e; subst e; cases h
    refine ⟨_, _, rfl, enters_op4, fun W _ _ m a b da db => (op4_any m a b da db W).mono fun e w' hh => ⟨⟨_, hh.1, dec_digs _ (by have := (short_digs b db).2; omega), val_dec _⟩, hh.2⟩⟩
  split at h
  · rename_i e; subst e; cases h
    refine ⟨_, _, rfl, enters_op5, fun W _ _ m a b da db => (op5_any m a b da db W).mono fun e w' hh => ⟨⟨b, hh.1, db, rfl⟩, hh.2⟩⟩
  split at h
  · rename_i e; subst e; cases h
    refine ⟨_, _, rfl, enters_op6, fun W _ _ m a b da db => (op6_any m a b da db W).mono fun e w' hh => ⟨⟨_, hh.1, short_digs b db, rfl⟩, hh.2⟩⟩
  cases h
end Go.Proofs.YtbdljbnboahekaaGreatDoor
