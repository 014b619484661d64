/-
  NumOf (P2) put together. By the verifier.
-/
import Derived.Test.YtaepcfidpekflaaGreatDoorRb
namespace Go.Proofs.YtaepcfidpekflaaGreatDoor
open Go.RowKit

/-- What NumOf answers. -/
def numRes (l : List UInt8) (e : Ending) : Prop :=
  if Pn.isNum l = true then e = .returned (.tuple #[.agg #[.bool (Pn.minusOf l), .string ⟨(Pn.aOf l).toArray⟩, .string ⟨(Pn.bOf l).toArray⟩], .bool true])
  else ∃ (m : Bool) (x y : ByteArray), e = .returned (.tuple #[.agg #[.bool m, .string x, .string y], .bool false])
theorem num_no {s : ByteArray} {w : World} (hk : Pn.isNum s.data.toList = false) (h : Calls Tryz.prog 29 #[.string s] w fun e w' => (∃ (m : Bool) (x y : ByteArray), e = .returned (.tuple #[.agg #[.bool m, .string x, .string y], .bool false])) ∧ Below w.heap.size w w') :
    Calls Tryz.prog 29 #[.string s] w fun e w' => numRes s.data.toList e ∧ Below w.heap.size w w' :=
  h.mono fun e w' h => ⟨by unfold numRes; rw [if_neg (by rw [hk]; decide)]; exact h.1, h.2⟩
theorem num_yes {s : ByteArray} {w : World} {m : Bool} (hk : Pn.isNum s.data.toList = true) (hm : Pn.minusOf s.data.toList = m) (h : Calls Tryz.prog 29 #[.string s] w fun e w' => e = .returned (.tuple #[.agg #[.bool m, .string ⟨(Pn.aOf s.data.toList).toArray⟩, .string ⟨(Pn.bOf s.data.toList).toArray⟩], .bool true]) ∧ Below w.heap.size w w') :
    Calls Tryz.prog 29 #[.string s] w fun e w' => numRes s.data.toList e ∧ Below w.heap.size w w' :=
  h.mono fun e w' h => ⟨by unfold numRes; rw [if_pos hk, hm]; exact h.1, h.2⟩

theorem ok_1 (m p : Bool) (a b : List UInt8) (h : Pn.digitsB a = false) : Pn.okB m a b p = false := by simp [Pn.okB, Pn.wholeB, h]
theorem ok_2 (m p : Bool) (a b : List UInt8) (hp : p = true) (h : Pn.digitsB b = false) : Pn.okB m a b p = false := by simp [Pn.okB, hp, h]
theorem ok_3 (m p : Bool) (a b : List UInt8) (h : (30 : Int) < (a.length : Int) + b.length) : Pn.okB m a b p = false := by
  have : decide (a.length + b.length ≤ 30) = false := decide_eq_false (by omega)
  simp only [Pn.okB, this, Bool.false_and]
theorem head_of (a : List UInt8) (h : 0 < a.length) : a.head? = some a[0] := by
  cases a with
  | nil => exact absurd h (by simp)
  | cons c r => rfl
theorem whole_4 (a : List UInt8) (h : 1 < a.length) (h8 : a.head? = some 48) : Pn.wholeB a = false := by
  have h1 : (a == [48]) = false := by
    rw [beq_eq_false_iff_ne]
    intro e
    rw [e] at h
    simp at h
  rw [Pn.wholeB, h8, h1]; simp
theorem whole_5 (a : List UInt8) (h : a.length ≤ 1) (hd : Pn.digitsB a = true) : Pn.wholeB a = true := by
  match a, h, hd with
  | [], _, hd => simp [Pn.digitsB] at hd
  | [c], _, hd =>
    rw [Pn.wholeB, hd]
    by_cases e : c = 48
    · simp [e]
    · simp [e]
theorem whole_6 (a : List UInt8) (h8 : ¬ a.head? = some 48) (hd : Pn.digitsB a = true) : Pn.wholeB a = true := by
  rw [Pn.wholeB, hd]
  simp [h8]
theorem ok_4 (m p : Bool) (a b : List UInt8) (h : Pn.wholeB a = false) : Pn.okB m a b p = false := by simp [Pn.okB, h]
theorem ok_z (p : Bool) (a b : List UInt8) (h : (Pn.zeroB a && Pn.zeroB b) = true) : Pn.okB true a b p = false := by
  simp only [Bool.and_eq_true] at h
  simp [Pn.okB, h.1, h.2]
theorem ok_y (m p : Bool) (a b : List UInt8) (h3 : ¬ (30 : Int) < (a.length : Int) + b.length) (hw : Pn.wholeB a = true) (hp : p = false ∨ Pn.digitsB b = true) (hz : m = false ∨ (Pn.zeroB a && Pn.zeroB b) = false) : Pn.okB m a b p = true := by
  have h1 : decide (a.length + b.length ≤ 30) = true := decide_eq_true (by omega)
  have h2 : (!p || Pn.digitsB b) = true := by rcases hp with h | h <;> simp [h]
  have h4 : (!(m && Pn.zeroB a && Pn.zeroB b)) = true := by
    rw [Bool.and_assoc]
    rcases hz with h | h
    · rw [h]; rfl
    · rw [h, Bool.and_false]; rfl
  rw [Pn.okB, h1, hw, h2, h4]; rfl

set_option maxHeartbeats 2000000 in
theorem numOf_e (w : World) : Calls Tryz.prog 29 #[.string ⟨#[]⟩] w fun e w' => (∃ (m : Bool) (x y : ByteArray), e = .returned (.tuple #[.agg #[.bool m, .string x, .string y], .bool false])) ∧ Below w.heap.size w w' := by
  have x0 : Row ((w.alloc (.cells #[.bool false, .string ⟨#[]⟩, .string ⟨#[]⟩] 62)).alloc (.cells #[.bool false, .string ⟨#[]⟩, .string ⟨#[]⟩] 62)) w.heap.size #[.bool false, .string ⟨#[]⟩, .string ⟨#[]⟩] := (row_at w _ _).alloc _
  have x1 : Row ((w.alloc (.cells #[.bool false, .string ⟨#[]⟩, .string ⟨#[]⟩] 62)).alloc (.cells #[.bool false, .string ⟨#[]⟩, .string ⟨#[]⟩] 62)) (w.heap.size + 1) #[.bool false, .string ⟨#[]⟩, .string ⟨#[]⟩] := by simpa using row_at (w.alloc (.cells #[.bool false, .string ⟨#[]⟩, .string ⟨#[]⟩] 62)) #[.bool false, .string ⟨#[]⟩, .string ⟨#[]⟩] 62
  have hw0 : Below w.heap.size w ((w.alloc (.cells #[.bool false, .string ⟨#[]⟩, .string ⟨#[]⟩] 62)).alloc (.cells #[.bool false, .string ⟨#[]⟩, .string ⟨#[]⟩] 62)) := ((Below.refl _ _).alloc (Nat.le_refl _) _).alloc (by simp) _
  have hc : Hid (Lib.cut (⟨#[]⟩ : ByteArray).data.toList [46] = ([], [], false)) := by show _ = _; rfl
  have hN0 : Pn.digitsB [] = false := rfl
  go_enter Tryz.func29, Tryz.ntmps29
  go_wp2_with fail
  refine (rcut_any _ _ (by decide)).mono ?_
  rintro e w1 ⟨rfl, hb1⟩
  rw [hc.out]
  replace x0 := x0.keep hb1
  replace x1 := x1.keep hb1
  have hw := below_of hw0 hb1
  clear hb1 hw0
  have q0 := x0.2.1
  have p0 := x0.2.2
  have q1 := x1.2.1
  have p1 := x1.2.2
  clear x0 x1
  go_wp2_with (first | (go_at_call 50; refine (numerals_l [] _ (by decide)).mono ?_; rintro e w2 ⟨rfl, rfl⟩) | (go_at_call 51; refine (nought_cat [] [] _ (by decide)).mono ?_; rintro e w2 ⟨rfl, rfl⟩))
  exact bodyPost_ret (v := .tuple #[.agg #[.bool false, .string ⟨#[]⟩, .string ⟨#[]⟩], .bool false]) (by simp [results, Tryz.results29, go_sem, q0]) rfl ⟨⟨_, _, _, rfl⟩, ((((((hw.setCell (p := ⟨w.heap.size + 1, 1, none⟩) (Nat.le_succ _) _).setCell (p := ⟨w.heap.size + 1, 2, none⟩) (Nat.le_succ _) _)).setCell (p := ⟨w.heap.size, 0, none⟩) (Nat.le_refl _) _).setCell (p := ⟨w.heap.size, 1, none⟩) (Nat.le_refl _) _).setCell (p := ⟨w.heap.size, 2, none⟩) (Nat.le_refl _) _)⟩

theorem ab_len (l : List UInt8) : (Pn.aOf l).length + (Pn.bOf l).length ≤ l.length := by
  have hr : (Pn.restOf l).length ≤ l.length := by
    rcases Pn.minus_spec l with ⟨_, h2⟩ | ⟨_, h2, _⟩
    · have := congrArg List.length h2
      simp at this
      omega
    · rw [h2]; exact Nat.le_refl _
  rcases Pn.cut_spec (Pn.restOf l) with ⟨_, h2, _⟩ | ⟨_, h2, h3, _⟩
  · have := congrArg List.length h2
    rw [List.length_append, List.length_cons] at this
    show (Lib.cut (Pn.restOf l) [46]).1.length + (Lib.cut (Pn.restOf l) [46]).2.1.length ≤ _
    omega
  · show (Lib.cut (Pn.restOf l) [46]).1.length + (Lib.cut (Pn.restOf l) [46]).2.1.length ≤ _
    rw [h2, h3]; simp; exact hr
theorem head_45 (s : ByteArray) (h : 0 < s.size) : ((s[0].toNat : Int) == 45) = Pn.minusOf s.data.toList := by
  have hs : s.data.toList.head? = some s[0] := head_of s.data.toList (by rw [← Lib.size_eq]; exact h)
  rcases Pn.minus_spec s.data.toList with ⟨h1, h2⟩ | ⟨h1, _, h3⟩
  · rw [h1]
    rw [h2] at hs
    have : s[0] = 45 := by simpa using hs.symm
    rw [this]; rfl
  · rw [h1, beq_eq_false_iff_ne]
    intro e
    apply h3
    rw [hs]
    congr 1
    apply UInt8.toNat_inj.1
    have : s[0].toNat = 45 := by omega
    rw [this]; rfl
theorem head_48 (a : List UInt8) (h : 0 < a.length) (h2 : 0 < (⟨a.toArray⟩ : ByteArray).size) : (((⟨a.toArray⟩ : ByteArray)[0].toNat : Int) == 48) = (a.head? == some 48) := by
  have e : (⟨a.toArray⟩ : ByteArray)[0] = a[0] := rfl
  rw [e, head_of a h]
  rw [Bool.eq_iff_iff, beq_iff_eq, beq_iff_eq]
  constructor
  · intro e
    congr 1
    apply UInt8.toNat_inj.1
    have : a[0].toNat = 48 := by omega
    rw [this]; rfl
  · intro e
    rw [Option.some.inj e]; rfl

theorem numOf_any (s : ByteArray) (w : World) (hs : s.size ≤ 100000) :
    Calls Tryz.prog 29 #[.string s] w fun e w' => numRes s.data.toList e ∧ Below w.heap.size w w' := by
  by_cases hpos : 0 < s.size
  · have hab : (Pn.aOf s.data.toList).length + (Pn.bOf s.data.toList).length ≤ 100000 := by
      have := ab_len s.data.toList
      rw [← Lib.size_eq] at this
      omega
    have hc : Hid (Lib.cut (Pn.restOf s.data.toList) [46] = (Pn.aOf s.data.toList, Pn.bOf s.data.toList, Pn.pOf s.data.toList)) := by show _ = _; rfl
    have h45 := head_45 s hpos
    cases hm : Pn.minusOf s.data.toList with
    | true =>
      rw [hm] at h45
      have hk : Pn.isNum s.data.toList = Pn.okB true (Pn.aOf s.data.toList) (Pn.bOf s.data.toList) (Pn.pOf s.data.toList) := by rw [Pn.isNum, hm]
      have hR : Hid ((s.extract 1 s.size).data.toList = Pn.restOf s.data.toList) := by
        show _ = _
        rw [Lib.extract_from]
        rcases Pn.minus_spec s.data.toList with ⟨_, h2⟩ | ⟨h1, _, _⟩
        · conv => lhs; rw [h2]
          simp
        · rw [hm] at h1; cases h1
      cases hd : Pn.digitsB (Pn.aOf s.data.toList) with
      | false => exact num_no (hk.trans (ok_1 _ _ _ _ hd)) (numOf_m1 s w _ _ _ hs hpos h45 hR hc hab hd)
      | true =>
        have h0a : 0 < (Pn.aOf s.data.toList).length := by
          cases ha : Pn.aOf s.data.toList with
          | nil => rw [ha] at hd; simp [Pn.digitsB] at hd
          | cons c r => simp
        cases hp : Pn.pOf s.data.toList with
        | true =>
          rw [hp] at hc hk
          replace hp : true = true := rfl
          cases hdb : Pn.digitsB (Pn.bOf s.data.toList) with
          | false => exact num_no (hk.trans (ok_2 _ _ _ _ hp hdb)) (numOf_m2 s w _ _ _ hs hpos h45 hR hc hab hd hp hdb)
          | true =>
            by_cases h30 : (30 : Int) < ((Pn.aOf s.data.toList).length : Int) + (Pn.bOf s.data.toList).length
            · exact num_no (hk.trans (ok_3 _ _ _ _ h30)) (numOf_m3t s w _ _ _ hs hpos h45 hR hc hab hd hp hdb h30)
            · by_cases h1 : (1 : Int) < (Pn.aOf s.data.toList).length
              · have e48 := head_48 (Pn.aOf s.data.toList) h0a (by rw [Lib.size_mk]; exact h0a)
                by_cases h8 : (Pn.aOf s.data.toList).head? = some 48
                · rw [beq_iff_eq.2 h8] at e48
                  exact num_no (hk.trans (ok_4 _ _ _ _ (whole_4 _ (by omega) h8))) (numOf_m4t s w _ _ _ hs hpos h45 hR hc hab hd hp hdb h30 h0a h1 e48)
                · rw [beq_eq_false_iff_ne.2 h8] at e48
                  cases hz : (Pn.zeroB (Pn.aOf s.data.toList) && Pn.zeroB (Pn.bOf s.data.toList)) with
                  | true => exact num_no (hk.trans (ok_z _ _ _ hz)) (numOf_m6tz s w _ _ _ hs hpos h45 hR hc hab hd hp hdb h30 h0a h1 e48 hz)
                  | false => exact num_yes (hk.trans (ok_y _ _ _ _ h30 (whole_6 _ h8 hd) (Or.inr hdb) (Or.inr hz))) hm (numOf_m6ty s w _ _ _ hs hpos h45 hR hc hab hd hp hdb h30 h0a h1 e48 hz)
              · have h1' : decide ((1 : Int) < (Pn.aOf s.data.toList).length) = false := decide_eq_false h1
                cases hz : (Pn.zeroB (Pn.aOf s.data.toList) && Pn.zeroB (Pn.bOf s.data.toList)) with
                | true => exact num_no (hk.trans (ok_z _ _ _ hz)) (numOf_m5tz s w _ _ _ hs hpos h45 hR hc hab hd hp hdb h30 h0a h1' hz)
                | false => exact num_yes (hk.trans (ok_y _ _ _ _ h30 (whole_5 _ (by omega) hd) (Or.inr hdb) (Or.inr hz))) hm (numOf_m5ty s w _ _ _ hs hpos h45 hR hc hab hd hp hdb h30 h0a h1' hz)
        | false =>
          rw [hp] at hc hk
          replace hp : false = false := rfl
          by_cases h30 : (30 : Int) < ((Pn.aOf s.data.toList).length : Int) + (Pn.bOf s.data.toList).length
          · exact num_no (hk.trans (ok_3 _ _ _ _ h30)) (numOf_m3f s w _ _ _ hs hpos h45 hR hc hab hd hp h30)
          · by_cases h1 : (1 : Int) < (Pn.aOf s.data.toList).length
            · have e48 := head_48 (Pn.aOf s.data.toList) h0a (by rw [Lib.size_mk]; exact h0a)
              by_cases h8 : (Pn.aOf s.data.toList).head? = some 48
              · rw [beq_iff_eq.2 h8] at e48
                exact num_no (hk.trans (ok_4 _ _ _ _ (whole_4 _ (by omega) h8))) (numOf_m4f s w _ _ _ hs hpos h45 hR hc hab hd hp h30 h0a h1 e48)
              · rw [beq_eq_false_iff_ne.2 h8] at e48
                cases hz : (Pn.zeroB (Pn.aOf s.data.toList) && Pn.zeroB (Pn.bOf s.data.toList)) with
                | true => exact num_no (hk.trans (ok_z _ _ _ hz)) (numOf_m6fz s w _ _ _ hs hpos h45 hR hc hab hd hp h30 h0a h1 e48 hz)
                | false => exact num_yes (hk.trans (ok_y _ _ _ _ h30 (whole_6 _ h8 hd) (Or.inl hp) (Or.inr hz))) hm (numOf_m6fy s w _ _ _ hs hpos h45 hR hc hab hd hp h30 h0a h1 e48 hz)
            · have h1' : decide ((1 : Int) < (Pn.aOf s.data.toList).length) = false := decide_eq_false h1
              cases hz : (Pn.zeroB (Pn.aOf s.data.toList) && Pn.zeroB (Pn.bOf s.data.toList)) with
              | true => exact num_no (hk.trans (ok_z _ _ _ hz)) (numOf_m5fz s w _ _ _ hs hpos h45 hR hc hab hd hp h30 h0a h1' hz)
              | false => exact num_yes (hk.trans (ok_y _ _ _ _ h30 (whole_5 _ (by omega) hd) (Or.inl hp) (Or.inr hz))) hm (numOf_m5fy s w _ _ _ hs hpos h45 hR hc hab hd hp h30 h0a h1' hz)
    | false =>
      rw [hm] at h45
      have hk : Pn.isNum s.data.toList = Pn.okB false (Pn.aOf s.data.toList) (Pn.bOf s.data.toList) (Pn.pOf s.data.toList) := by rw [Pn.isNum, hm]
      have hR : Hid (s.data.toList = Pn.restOf s.data.toList) := by
        show _ = _
        rcases Pn.minus_spec s.data.toList with ⟨h1, _⟩ | ⟨_, h2, _⟩
        · rw [hm] at h1; cases h1
        · exact h2.symm
      cases hd : Pn.digitsB (Pn.aOf s.data.toList) with
      | false => exact num_no (hk.trans (ok_1 _ _ _ _ hd)) (numOf_n1 s w _ _ _ hs hpos h45 hR hc hab hd)
      | true =>
        have h0a : 0 < (Pn.aOf s.data.toList).length := by
          cases ha : Pn.aOf s.data.toList with
          | nil => rw [ha] at hd; simp [Pn.digitsB] at hd
          | cons c r => simp
        cases hp : Pn.pOf s.data.toList with
        | true =>
          rw [hp] at hc hk
          replace hp : true = true := rfl
          cases hdb : Pn.digitsB (Pn.bOf s.data.toList) with
          | false => exact num_no (hk.trans (ok_2 _ _ _ _ hp hdb)) (numOf_n2 s w _ _ _ hs hpos h45 hR hc hab hd hp hdb)
          | true =>
            by_cases h30 : (30 : Int) < ((Pn.aOf s.data.toList).length : Int) + (Pn.bOf s.data.toList).length
            · exact num_no (hk.trans (ok_3 _ _ _ _ h30)) (numOf_n3t s w _ _ _ hs hpos h45 hR hc hab hd hp hdb h30)
            · by_cases h1 : (1 : Int) < (Pn.aOf s.data.toList).length
              · have e48 := head_48 (Pn.aOf s.data.toList) h0a (by rw [Lib.size_mk]; exact h0a)
                by_cases h8 : (Pn.aOf s.data.toList).head? = some 48
                · rw [beq_iff_eq.2 h8] at e48
                  exact num_no (hk.trans (ok_4 _ _ _ _ (whole_4 _ (by omega) h8))) (numOf_n4t s w _ _ _ hs hpos h45 hR hc hab hd hp hdb h30 h0a h1 e48)
                · rw [beq_eq_false_iff_ne.2 h8] at e48
                  exact num_yes (hk.trans (ok_y _ _ _ _ h30 (whole_6 _ h8 hd) (Or.inr hdb) (Or.inl rfl))) hm (numOf_n6ty s w _ _ _ hs hpos h45 hR hc hab hd hp hdb h30 h0a h1 e48)
              · have h1' : decide ((1 : Int) < (Pn.aOf s.data.toList).length) = false := decide_eq_false h1
                exact num_yes (hk.trans (ok_y _ _ _ _ h30 (whole_5 _ (by omega) hd) (Or.inr hdb) (Or.inl rfl))) hm (numOf_n5ty s w _ _ _ hs hpos h45 hR hc hab hd hp hdb h30 h0a h1')
        | false =>
          rw [hp] at hc hk
          replace hp : false = false := rfl
          by_cases h30 : (30 : Int) < ((Pn.aOf s.data.toList).length : Int) + (Pn.bOf s.data.toList).length
          · exact num_no (hk.trans (ok_3 _ _ _ _ h30)) (numOf_n3f s w _ _ _ hs hpos h45 hR hc hab hd hp h30)
          · by_cases h1 : (1 : Int) < (Pn.aOf s.data.toList).length
            · have e48 := head_48 (Pn.aOf s.data.toList) h0a (by rw [Lib.size_mk]; exact h0a)
              by_cases h8 : (Pn.aOf s.data.toList).head? = some 48
              · rw [beq_iff_eq.2 h8] at e48
                exact num_no (hk.trans (ok_4 _ _ _ _ (whole_4 _ (by omega) h8))) (numOf_n4f s w _ _ _ hs hpos h45 hR hc hab hd hp h30 h0a h1 e48)
              · rw [beq_eq_false_iff_ne.2 h8] at e48
                exact num_yes (hk.trans (ok_y _ _ _ _ h30 (whole_6 _ h8 hd) (Or.inl hp) (Or.inl rfl))) hm (numOf_n6fy s w _ _ _ hs hpos h45 hR hc hab hd hp h30 h0a h1 e48)
            · have h1' : decide ((1 : Int) < (Pn.aOf s.data.toList).length) = false := decide_eq_false h1
              exact num_yes (hk.trans (ok_y _ _ _ _ h30 (whole_5 _ (by omega) hd) (Or.inl hp) (Or.inl rfl))) hm (numOf_n5fy s w _ _ _ hs hpos h45 hR hc hab hd hp h30 h0a h1')
  · have he : s = ⟨#[]⟩ := by
      apply ByteArray.ext
      apply Array.eq_empty_of_size_eq_zero
      have : s.data.size = s.size := rfl
      omega
    subst he
    exact num_no rfl (numOf_e w)
end Go.Proofs.YtaepcfidpekflaaGreatDoor
