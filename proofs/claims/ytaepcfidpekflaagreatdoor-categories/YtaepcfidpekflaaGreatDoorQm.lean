/-
  The parser: relation, and, or, parse. By the verifier.
-/
import Derived.Test.YtaepcfidpekflaaGreatDoorQl
namespace Go.Proofs.YtaepcfidpekflaaGreatDoor
open Go.RowKit

theorem equalIn_nilFunc (P : Program) (w : World) (d : Nat) (t : TypeId) {ps rs : Array TypeId} {vd : Bool} (h : P.underlying t = some (.func ps rs vd)) : (Op.equalIn (d + 1) t .nilFunc .nilFunc).run P w = .ok true w := by
  simp [Op.equalIn, run_underlying h]
theorem equalIn_func (P : Program) (w : World) (d : Nat) (t : TypeId) {ps rs : Array TypeId} {vd : Bool} (h : P.underlying t = some (.func ps rs vd)) (f : Fn) (a b : Array Value) : (Op.equalIn (d + 1) t (.func f a b) .nilFunc).run P w = .ok false w := by
  simp [Op.equalIn, run_underlying h]
theorem eql_nilFunc (w : World) : (binOp .eql 372 .nilFunc .nilFunc).run Tryz.prog w = .ok (.bool true) w := by
  have : (Op.equal 372 .nilFunc .nilFunc).run Tryz.prog w = .ok true w := equalIn_nilFunc Tryz.prog w 9999 _ Tryz.underlying372
  simp only [binOp]
  simp [this]
theorem eql_func (w : World) (f : Fn) (a b : Array Value) : (binOp .eql 372 (.func f a b) .nilFunc).run Tryz.prog w = .ok (.bool false) w := by
  have : (Op.equal 372 (.func f a b) .nilFunc).run Tryz.prog w = .ok false w := equalIn_func Tryz.prog w 9999 _ Tryz.underlying372 f a b
  simp only [binOp]
  simp [this]

theorem rel_bad (l : List Pr.T) (h : Pr.opd (l.headD []) = none) : Pr.relP l = none := by
  cases l with
  | nil => rfl
  | cons t l => simp only [List.headD_cons] at h; simp [Pr.relP, h]
theorem rel_how (l : List Pr.T) (o : Pr.Opd) (h : Pr.opd (l.headD []) = some o) (hm : (isHead [109, 111, 100] l.tail || isHead [37] l.tail) = false) : Pr.relP l = Pr.howP o l.tail := by
  cases l with
  | nil => cases h
  | cons t l =>
    simp only [List.headD_cons] at h
    simp only [List.tail_cons] at hm ⊢
    cases l with
    | nil => simp [Pr.relP, h, Pr.modP, Pr.howP]
    | cons u l =>
      simp only [isHead, Bool.or_eq_false_iff, decide_eq_false_iff_not] at hm
      simp [Pr.relP, h, Pr.modP, hm.1, hm.2]
theorem rel_mod (l : List Pr.T) (o : Pr.Opd) (h : Pr.opd (l.headD []) = some o) (hm : (isHead [109, 111, 100] l.tail || isHead [37] l.tail) = true) : Pr.relP l = Pr.valueP (fun m r => if m = 0 then none else Pr.howP (Pr.modS o m) r) l.tail.tail := by
  cases l with
  | nil => cases h
  | cons t l =>
    simp only [List.headD_cons] at h
    simp only [List.tail_cons] at hm ⊢
    cases l with
    | nil => cases hm
    | cons u l =>
      have : u = [109, 111, 100] ∨ u = [37] := by simpa [isHead] using hm
      simp only [Pr.relP, h, Pr.modP, this, if_true, List.tail_cons]

set_option maxHeartbeats 1600000 in
theorem relation_any (P : Nat) (w : World) (l : List Pr.T) (hX : BaseX P w) (hL : Left P w l) :
    Calls Tryz.prog 215 #[.pointer (some ⟨P, 0, none⟩)] w fun e w' => Said P w (Pr.relP l) e w' := by
  obtain ⟨S, hS⟩ : ∃ S, Hid (Pr.relP l = S) := ⟨_, rfl⟩
  rw [hS.out]
  have cn := next_any P w l hL
  obtain ⟨t, ht⟩ : ∃ t, Hid (l.headD [] = t) := ⟨_, rfl⟩
  rw [ht.out] at cn
  go_enter Tryz.func215, Tryz.ntmps215
  go_wp2_with fail
  refine cn.mono ?_
  rintro e w1 ⟨rfl, hl1, ha1⟩
  clear cn
  go_wp2_with fail
  refine (operandOf_any t _).mono ?_
  rintro e w2 ⟨rfl, rfl⟩
  cases ho : Pr.opd t with
  | none =>
    rw [opf_none t ho]
    have hR : Hid (S = none) := hS.out.symm.trans (rel_bad l (by rw [ht.out]; exact ho))
    clear ho ht
    have hnil := eql_nilFunc
    go_wp2
    go_ret2
    refine ⟨ha1, ?_⟩
    rw [hR.out]
    rfl
  | some o =>
    have hx := opf_some t o ho P w2
    generalize opf t = x at *
    obtain ⟨g, lb, rfl⟩ := hx.form
    have ho' : Hid (Pr.opd (l.headD []) = some o) := by show _ = _; rw [ht.out]; exact ho
    clear ho ht
    obtain ⟨l1, hlt⟩ : ∃ l1, Hid (l.tail = l1) := ⟨_, rfl⟩
    rw [hlt.out] at hl1
    have hb0 := (Below.refl w2.heap.size w2).alloc (Nat.le_refl _) (.cells #[.string ⟨#[109, 111, 100]⟩, .string ⟨#[37]⟩] 9)
    have hnil := eql_func
    have ct := take_two P w2.heap.size _ l1 [109, 111, 100] [37] (hl1.then hb0) (row_at w2 #[.string ⟨#[109, 111, 100]⟩, .string ⟨#[37]⟩] 9)
    go_wp2_with fail
    refine ct.mono ?_
    rintro e w3 ⟨rfl, hl3, ha3⟩
    clear hnil
    replace ha3 := (Ag.of (P := P) hb0 (Nat.le_refl _)).trans ha3
    clear ct hb0
    have hx3 := hx.later ha3
    have hA3 := ha1.trans ha3
    cases hm : (isHead [109, 111, 100] l1 || isHead [37] l1) with
    | false =>
      rw [hm] at hl3
      have hR0 : Hid (S = Pr.howP o l1) := by
        show _ = _
        rw [← hS.out, ← hlt.out]
        exact rel_how l o ho'.out (by rw [hlt.out]; exact hm)
      have cf := how_any P w3 l1 _ o (hX.later hA3) hl3 hx3
      rw [← hR0.out] at cf
      clear hR0 hm
      go_wp2_with fail
      refine cf.mono ?_
      rintro e w9 ⟨ha9, hs⟩
      clear cf
      replace ha9 := hA3.trans ha9
      cases hv : S with
      | none =>
        rw [hv] at hs
        obtain rfl := hs
        have hR : Hid (S = none) := hv
        clear hv
        unfold errRule
        go_wp2
        go_ret2
        refine ⟨ha9, ?_⟩
        rw [hR.out]
        rfl
      | some y =>
        obtain ⟨f, r⟩ := y
        rw [hv] at hs
        obtain ⟨v, rfl, hc, hl⟩ := hs
        have hR : Hid (S = some (f, r)) := hv
        clear hv
        go_wp2
        go_ret2
        refine ⟨ha9, ?_⟩
        rw [hR.out]
        exact ⟨_, rfl, hc, hl⟩
    | true =>
      rw [hm] at hl3
      have hl3' : Left P w3 l1.tail := hl3
      have hR0 : Hid (S = Pr.valueP (fun m r => if m = 0 then none else Pr.howP (Pr.modS o m) r) l1.tail) := by
        show _ = _
        rw [← hS.out, ← hlt.out]
        exact rel_mod l o ho'.out (by rw [hlt.out]; exact hm)
      clear hm
      have cv := value_said P w3 l1.tail (hX.later hA3) hl3'
      go_wp2_with fail
      refine cv.mono ?_
      rintro e w4 ⟨ha4, hs⟩
      clear cv
      have hA4 := hA3.trans ha4
      cases hv : Pr.value l1.tail with
      | none =>
        rw [hv] at hs
        obtain rfl := hs
        have hR : Hid (S = none) := by show _ = _; rw [hR0.out]; simp [Pr.valueP, hv]
        unfold errRule
        go_wp2
        go_ret2
        refine ⟨hA4, ?_⟩
        rw [hR.out]
        rfl
      | some y =>
        obtain ⟨m, r⟩ := y
        rw [hv] at hs
        obtain ⟨rfl, hl4, hm9⟩ := hs
        by_cases hm0 : m = 0
        · have hm0' : ((m : Int) == 0) = true := by rw [beq_iff_eq]; omega
          have hR : Hid (S = none) := by show _ = _; rw [hR0.out]; simp [Pr.valueP, hv, hm0]
          clear hm0
          go_wp2
          go_ret2
          refine ⟨hA4, ?_⟩
          rw [hR.out]
          rfl
        · have hm0' : ((m : Int) == 0) = false := by rw [beq_eq_false_iff_ne]; omega
          have hR1 : Hid (S = Pr.howP (Pr.modS o m) r) := by show _ = _; rw [hR0.out]; simp [Pr.valueP, hv, hm0]
          have cm := modulo_any P w4 _ o m (by omega) hm9 hl4.lt (hx3.later ha4)
          clear hm0 hR0
          go_wp2_with fail
          refine cm.mono ?_
          rintro e w5 ⟨⟨v5, rfl, hx5⟩, hb5⟩
          clear cm
          have hA5 := hA4.then hb5
          obtain ⟨g5, lb5, rfl⟩ := hx5.form
          have cf := how_any P w5 r _ _ (hX.later hA5) (hl4.then hb5) hx5
          rw [← hR1.out] at cf
          clear hR1
          go_wp2_with fail
          refine cf.mono ?_
          rintro e w9 ⟨ha9, hs⟩
          clear cf
          replace ha9 := hA5.trans ha9
          cases hv : S with
          | none =>
            rw [hv] at hs
            obtain rfl := hs
            have hR : Hid (S = none) := hv
            clear hv
            unfold errRule
            go_wp2
            go_ret2
            refine ⟨ha9, ?_⟩
            rw [hR.out]
            rfl
          | some y =>
            obtain ⟨f, r⟩ := y
            rw [hv] at hs
            obtain ⟨v, rfl, hc, hl⟩ := hs
            have hR : Hid (S = some (f, r)) := hv
            clear hv
            go_wp2
            go_ret2
            refine ⟨ha9, ?_⟩
            rw [hR.out]
            exact ⟨_, rfl, hc, hl⟩

theorem rel_len (l : List Pr.T) (f : Pr.Sem) (r : List Pr.T) (h : Pr.relP l = some (f, r)) : r.length ≤ l.length := by
  obtain ⟨p, e, _⟩ := Pr.good_rel.sound l f r h
  rw [e]; simp
theorem and_len (l : List Pr.T) (f : Pr.Sem) (r : List Pr.T) (h : Pr.andP l = some (f, r)) : r.length ≤ l.length := by
  obtain ⟨p, e, _⟩ := Pr.good_and.sound l f r h
  rw [e]; simp
theorem enters_rel : Enters 215 := enters_of Tryz.func215 (by kernel_rfl) rfl
theorem enters_and : Enters 189 := enters_of Tryz.func189 (by kernel_rfl) rfl
theorem append_none (a : Array Value) : a ++ (#[] : Array Value) = a := by simp
set_option maxHeartbeats 800000 in
theorem and_any (P : Nat) (w : World) (l : List Pr.T) (hX : BaseX P w) (hL : Left P w l) :
    Calls Tryz.prog 189 #[.pointer (some ⟨P, 0, none⟩)] w fun e w' => Said P w (Pr.andP l) e w' := by
  have cf := row_any P w l (.func (.func 215) #[.pointer (some ⟨P, 0, none⟩)] #[]) Pr.relP [97, 110, 100] 216 Pr.andS enters_both (joins_both P) rel_len hX hL
    ⟨_, _, _, rfl, enters_rel, fun W l' hX' _ hl' => by rw [append_none]; exact relation_any P W l' hX' hl'⟩
  change Calls _ _ _ _ fun e w' => Said P w (Pr.andP l) e w' at cf
  generalize Pr.andP l = S at *
  go_enter Tryz.func189, Tryz.ntmps189
  go_wp2_with fail
  refine cf.mono ?_
  rintro e w9 ⟨ha9, hs⟩
  clear cf
  cases hv : S with
  | none =>
    rw [hv] at hs
    obtain rfl := hs
    have hR : Hid (S = none) := hv
    clear hv
    unfold errRule
    go_wp2
    go_ret2
    refine ⟨ha9, ?_⟩
    rw [hR.out]
    rfl
  | some y =>
    obtain ⟨f, r⟩ := y
    rw [hv] at hs
    obtain ⟨v, rfl, hc, hl⟩ := hs
    have hR : Hid (S = some (f, r)) := hv
    clear hv
    go_wp2
    go_ret2
    refine ⟨ha9, ?_⟩
    rw [hR.out]
    exact ⟨_, rfl, hc, hl⟩
set_option maxHeartbeats 800000 in
theorem or_any (P : Nat) (w : World) (l : List Pr.T) (hX : BaseX P w) (hL : Left P w l) :
    Calls Tryz.prog 157 #[.pointer (some ⟨P, 0, none⟩)] w fun e w' => Said P w (Pr.orP l) e w' := by
  have cf := row_any P w l (.func (.func 189) #[.pointer (some ⟨P, 0, none⟩)] #[]) Pr.andP [111, 114] 190 Pr.orS enters_either (joins_either P) and_len hX hL
    ⟨_, _, _, rfl, enters_and, fun W l' hX' _ hl' => by rw [append_none]; exact and_any P W l' hX' hl'⟩
  change Calls _ _ _ _ fun e w' => Said P w (Pr.orP l) e w' at cf
  generalize Pr.orP l = S at *
  go_enter Tryz.func157, Tryz.ntmps157
  go_wp2_with fail
  refine cf.mono ?_
  rintro e w9 ⟨ha9, hs⟩
  clear cf
  cases hv : S with
  | none =>
    rw [hv] at hs
    obtain rfl := hs
    have hR : Hid (S = none) := hv
    clear hv
    unfold errRule
    go_wp2
    go_ret2
    refine ⟨ha9, ?_⟩
    rw [hR.out]
    rfl
  | some y =>
    obtain ⟨f, r⟩ := y
    rw [hv] at hs
    obtain ⟨v, rfl, hc, hl⟩ := hs
    have hR : Hid (S = some (f, r)) := hv
    clear hv
    go_wp2
    go_ret2
    refine ⟨ha9, ?_⟩
    rw [hR.out]
    exact ⟨_, rfl, hc, hl⟩
end Go.Proofs.YtaepcfidpekflaaGreatDoor
