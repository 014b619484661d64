/-
  Several texts in one (Js, Ij, Id, Ie, If, Ii, Ik). By the verifier.
-/
import Derived.Test.YtaepcfidpekflaaGreatDoorZ32
import Derived.Lib.TrimUEq
import Derived.Lib.SplitLaws
import Derived.Lib.Replace
import Derived.Shelf.GgClosure.StringsIndexFunc
import Derived.Test.YtaepcfidpekflaaGreatDoorZ10
import Derived.Test.YtaepcfidpekflaaGreatDoorZ29
import Derived.Test.YtaepcfidpekflaaGreatDoorZ27
import Derived.Test.YtaepcfidpekflaaGreatDoorZ09
namespace Go.Proofs.YtaepcfidpekflaaGreatDoor.Dk
/-- Sizes of a mark's parts. -/
def MOk (m : Mark) : Prop := m.text.length ≤ 3016 ∧ m.name.length ≤ 16 ∧ m.how.length ≤ 13 ∧ m.offset.length ≤ 9
def Bal : List Bool → List Mark → Prop
  | _, [] => True
  | st, m :: r => (m.kind = 41 → st ≠ []) ∧ Bal (stack st m) r
theorem dbl_len : ∀ s : T, (dbl s).length ≤ 2 * s.length := by
  intro s
  induction s with
  | nil => simp [dbl]
  | cons c r ih => rw [dbl]; split <;> simp <;> omega
theorem runW_len (r : T) : (runW r).length ≤ 2 * r.length + 2 := by
  unfold runW
  have := dbl_len r
  split
  · simp; omega
  · omega
theorem writtenGo_len (num : Bool) : ∀ (k : Nat) (s : T), (writtenGo num k s).length ≤ 4 * s.length := by
  intro k
  induction k with
  | zero => intro s; rw [writtenGo]; simp
  | succ k ih =>
    intro s
    cases s with
    | nil => simp [writtenGo]
    | cons c r =>
      rw [writtenGo]
      split
      · have := ih r; simp; omega
      · rename_i h
        have h1 := ih ((c :: r).dropWhile (inRun num))
        have h2 := runW_len ((c :: r).takeWhile (inRun num))
        have h3 : ((c :: r).takeWhile (inRun num)).length + ((c :: r).dropWhile (inRun num)).length = (c :: r).length := by rw [← List.length_append, List.takeWhile_append_dropWhile]
        have h4 : 1 ≤ ((c :: r).takeWhile (inRun num)).length := by
          rw [List.takeWhile_cons, if_pos (by simpa using h)]
          simp
        rw [List.length_append]
        omega
theorem written_len (num : Bool) (s : T) : (written num s).length ≤ 4 * s.length := writtenGo_len num _ s
theorem piece_len (st : List Bool) {m : Mark} (h : MOk m) : (piece st m).length ≤ 12200 := by
  obtain ⟨h1, h2, h3, h4⟩ := h
  unfold piece
  split
  · have := written_len (st.getLastD false) m.text; omega
  split
  · simp
  split
  · simp; omega
  split
  · simp; omega
  split
  · unfold offT; split <;> simp <;> omega
  split
  · simp; omega
  split
  · simp
  split
  · simp
  · simp
theorem stack_len (st : List Bool) (m : Mark) : (stack st m).length ≤ st.length + 1 := by
  unfold stack
  split
  · simp
  split
  · simp; omega
  · omega
end Go.Proofs.YtaepcfidpekflaaGreatDoor.Dk
namespace Go.Proofs.YtaepcfidpekflaaGreatDoor.Pg
open Go.Proofs.YtaepcfidpekflaaGreatDoor

theorem bal_flat {o : Nat → Nat} : ∀ (t : Tr) (st : List Bool) (R : List Dk.Mark), Dk.Bal st R → Dk.Bal st (flat o t ++ R) := by
  intro t
  induction t with
  | nil => intro st R h; exact h
  | text t r ih => intro st R h; exact ⟨by simp, ih st R h⟩
  | sign r ih => intro st R h; exact ⟨by simp, ih st R h⟩
  | simple n a r ih => intro st R h; exact ⟨by simp, ih st R h⟩
  | num n a r ih => intro st R h; exact ⟨by simp, ih st R h⟩
  | sel n a bs e r ih1 ih2 =>
    intro st R h
    have h2 : Dk.stack (st ++ [false]) { kind := 41, at_ := o e } = st := by simp [Dk.stack]
    refine ⟨by simp, ?_⟩
    rw [List.append_eq, List.append_assoc, show Dk.stack st { kind := 40, name := n, how := selectW, offset := [48], at_ := o a } = st ++ [false] by simp [Dk.stack]]
    refine ih1 _ _ ⟨by simp, ?_⟩
    rw [h2]
    exact ih2 _ _ h
  | plu n a ord off bs e r ih1 ih2 =>
    intro st R h
    have h2 : Dk.stack (st ++ [true]) { kind := 41, at_ := o e } = st := by simp [Dk.stack]
    refine ⟨by simp, ?_⟩
    rw [List.append_eq, List.append_assoc, show Dk.stack st { kind := 40, name := n, how := if ord then ordinalW else pluralW, offset := off, at_ := o a } = st ++ [true] by have := ord_ne ord; simp [Dk.stack, this]]
    refine ih1 _ _ ⟨by simp, ?_⟩
    rw [h2]
    exact ih2 _ _ h
  | br w a m r ih1 ih2 =>
    intro st R h
    refine ⟨by simp, ?_⟩
    rw [List.append_eq, List.append_assoc]
    refine ih1 st _ ⟨by simp, ih2 st _ h⟩
theorem mok_flat {o : Nat → Nat} : ∀ (t : Tr), Vd t → ∀ m ∈ flat o t, m.name.length ≤ 16 ∧ m.how.length ≤ 13 ∧ m.offset.length ≤ 9 := by
  intro t
  induction t with
  | nil => intro _ m hm; cases hm
  | text t r ih => intro h m hm; rcases List.mem_cons.1 hm with rfl | hm; simp; exact ih h m hm
  | sign r ih => intro h m hm; rcases List.mem_cons.1 hm with rfl | hm; simp; exact ih h m hm
  | simple n a r ih => intro h m hm; rcases List.mem_cons.1 hm with rfl | hm; exact ⟨h.1, by simp, by simp⟩; exact ih h.2 m hm
  | num n a r ih => intro h m hm; rcases List.mem_cons.1 hm with rfl | hm; exact ⟨h.1, by simp [numberW], by simp⟩; exact ih h.2 m hm
  | sel n a bs e r ih1 ih2 =>
    intro h m hm
    rcases List.mem_cons.1 hm with rfl | hm
    · exact ⟨h.1, by simp [selectW], by simp⟩
    rcases List.mem_append.1 hm with hm | hm
    · exact ih1 h.2.1 m hm
    rcases List.mem_cons.1 hm with rfl | hm
    · simp
    · exact ih2 h.2.2 m hm
  | plu n a ord off bs e r ih1 ih2 =>
    intro h m hm
    rcases List.mem_cons.1 hm with rfl | hm
    · exact ⟨h.1, by cases ord <;> simp [ordinalW, pluralW], h.2.1.2.2.1⟩
    rcases List.mem_append.1 hm with hm | hm
    · exact ih1 h.2.2.1 m hm
    rcases List.mem_cons.1 hm with rfl | hm
    · simp
    · exact ih2 h.2.2.2 m hm
  | br w a m r ih1 ih2 =>
    intro h x hx
    rcases List.mem_cons.1 hx with rfl | hx
    · simp
    rcases List.mem_append.1 hx with hx | hx
    · exact ih1 h.2.1 x hx
    rcases List.mem_cons.1 hx with rfl | hx
    · simp
    · exact ih2 h.2.2 x hx
/-- Sizes of the marks of a text that is a pattern as far as its form goes. -/
theorem tree_mok {s : T} (hl : s.length ≤ 1000) (h1 : Pn.ptsLen s = s.length) {t : Tr} (h2 : Whole (Pn.pts s) (.inr t)) : ∀ m ∈ flat (o (Pn.pts s)) t, Dk.MOk m := by
  obtain ⟨hp, hf⟩ := pts_of s h1
  obtain ⟨w1, w2, w3, w4, w5, w6⟩ := whole_marks hp.cps h2
  obtain ⟨g1, g2, g3, g4, g5, g6⟩ := tree_marks h1 h2
  intro m hm
  have hb := mok_flat t w4 m hm
  refine ⟨?_, hb⟩
  have hs := Dk.marksGo_sz s 16 (by omega) s.length { i := 0, out := [], opens := [], err := 0, place := 0 } ⟨by simp, by simp⟩
  have hi := marks_ok hp.cps w1 (List.getElem?_eq_none (Nat.le_refl _))
  rw [hf] at hi
  unfold Dk.marks at hi
  simp only at hi
  generalize Dk.marksGo s s.length { i := 0, out := [], opens := [], err := 0, place := 0 } = y at *
  have ho : y.out = flat (o (Pn.pts s)) t ∧ y.i = s.length := by
    split at hi
    · have e1 := congrArg Dk.Sc.out hi
      have e2 := congrArg Dk.Sc.i hi
      rw [Dk.fault_out] at e1
      rw [fault_i'] at e2
      exact ⟨e1, e2⟩
    · rw [hi]; exact ⟨rfl, rfl⟩
  have := hs.2 m (by rw [ho.1]; exact hm)
  rw [ho.2] at this
  omega
end Go.Proofs.YtaepcfidpekflaaGreatDoor.Pg
namespace Go.Proofs.YtaepcfidpekflaaGreatDoor.Dk

theorem mem_tw {α : Type} {p : α → Bool} {l : List α} {x : α} (h : x ∈ l.takeWhile p) : p x = true := by
  induction l with
  | nil => cases h
  | cons c r ih =>
    rw [List.takeWhile_cons] at h
    split at h
    · rcases List.mem_cons.1 h with rfl | h
      · assumption
      · exact ih h
    · cases h
theorem dw_nil {α : Type} {p : α → Bool} {l : List α} : l.dropWhile p = [] ↔ ∀ x ∈ l, p x = true := by
  induction l with
  | nil => simp
  | cons c r ih =>
    rw [List.dropWhile_cons]
    by_cases hc : p c = true
    · rw [if_pos hc, ih]; simp [hc]
    · rw [if_neg hc]; simp [hc]
theorem dec_high (n b0 b1 b2 b3 : Nat) (hb : ¬ b0 < 128) : 128 ≤ (Lib.decodeN n b0 b1 b2 b3).1 ∧ ((Lib.decodeN n b0 b1 b2 b3).2 = 1 ∨ (Lib.decodeN n b0 b1 b2 b3).2 = 2 ∧ 1 < n ∧ 128 ≤ b1 ∨ (Lib.decodeN n b0 b1 b2 b3).2 = 3 ∧ 2 < n ∧ 128 ≤ b1 ∧ 128 ≤ b2 ∨ (Lib.decodeN n b0 b1 b2 b3).2 = 4 ∧ 3 < n ∧ 128 ≤ b1 ∧ 128 ≤ b2 ∧ 128 ≤ b3) := by
  unfold Lib.decodeN
  repeat' split
  all_goals first | (exfalso; omega) | (dsimp only; refine ⟨?_, ?_⟩ <;> omega)
/-- Bytes of a rune that is no ASCII are none of ASCII. -/
theorem high_bytes (s : ByteArray) (pos : Nat) (h : pos < s.data.toList.length) (hb : ¬ (s.data.toList.getD pos 0).toNat < 128) : 128 ≤ (Utf8.decode s pos).1 ∧ pos + (Utf8.decode s pos).2 ≤ s.data.toList.length ∧ ∀ j, j < (Utf8.decode s pos).2 → 128 ≤ (s.data.toList.getD (pos + j) 0).toNat := by
  rw [Lib.decode_N]
  obtain ⟨h1, h2⟩ := dec_high (s.data.toList.length - pos) _ (s.data.toList.getD (pos + 1) 0).toNat (s.data.toList.getD (pos + 2) 0).toNat (s.data.toList.getD (pos + 3) 0).toNat hb
  generalize Lib.decodeN (s.data.toList.length - pos) _ (s.data.toList.getD (pos + 1) 0).toNat (s.data.toList.getD (pos + 2) 0).toNat (s.data.toList.getD (pos + 3) 0).toNat = d at *
  refine ⟨h1, by omega, fun j hj => ?_⟩
  match j, hj with
  | 0, _ => simpa using hb
  | 1, _ => omega
  | 2, _ => omega
  | 3, _ => omega
  | j + 4, hj => omega
theorem tw_pre (p : UInt8 → Bool) : ∀ (W : Nat) (t : T), W ≤ t.length → (∀ j, j < W → p (t.getD j 0) = false) → t.any p = (t.drop W).any p ∧ (t.takeWhile (fun c => !p c)).length = W + ((t.drop W).takeWhile (fun c => !p c)).length := by
  intro W
  induction W with
  | zero => intro t _ _; simp
  | succ W ih =>
    intro t h hp
    cases t with
    | nil => simp at h
    | cons c r =>
      have hc : p c = false := by have := hp 0 (by omega); simpa using this
      obtain ⟨h1, h2⟩ := ih r (by simp at h; omega) (fun j hj => by have := hp (j + 1) (by omega); simpa using this)
      refine ⟨?_, ?_⟩
      · rw [List.any_cons, hc, Bool.false_or, h1, List.drop_succ_cons]
      · rw [List.takeWhile_cons, if_pos (by simp [hc]), List.length_cons, h2, List.drop_succ_cons]; omega
/-- What a rune is by itself and its first byte. -/
structure Run (p : Nat → Bool) (pb : UInt8 → Bool) (hi : Bool) : Prop where
  low : ∀ c : UInt8, c.toNat < 128 → p c.toNat = pb c
  highR : ∀ r, 128 ≤ r → p r = hi
  highB : ∀ c : UInt8, ¬ c.toNat < 128 → pb c = hi
theorem idx_from {p : Nat → Bool} {pb : UInt8 → Bool} {hi : Bool} (R : Run p pb hi) (s : ByteArray) : ∀ (f pos : Nat), s.data.toList.length ≤ pos + f → Lib.idxFuncFrom p true s f pos = if (s.data.toList.drop pos).any pb = true then ((pos + ((s.data.toList.drop pos).takeWhile (fun c => !pb c)).length : Nat) : Int) else -1 := by
  intro f
  induction f with
  | zero => intro pos h; rw [Lib.idxFuncFrom, List.drop_eq_nil_of_le (by omega)]; rfl
  | succ f ih =>
    intro pos h
    rw [Lib.idxFuncFrom]
    have hsz : s.size = s.data.toList.length := Lib.size_eq s
    by_cases hlt : pos < s.data.toList.length
    · rw [if_pos (by omega)]
      have hd : s.data.toList.drop pos = s.data.toList[pos] :: s.data.toList.drop (pos + 1) := List.drop_eq_getElem_cons hlt
      have hg : s.data.toList.getD pos 0 = s.data.toList[pos] := by rw [List.getD_eq_getElem?_getD, List.getElem?_eq_getElem hlt]; rfl
      by_cases hb : (s.data.toList[pos]).toNat < 128
      · have hdec : Utf8.decode s pos = ((s.data.toList[pos]).toNat, 1) := by
          rw [Lib.decode_N, hg]
          unfold Lib.decodeN
          rw [if_pos hb]
        rw [hdec]
        simp only []
        rw [R.low _ hb, hd, List.any_cons, List.takeWhile_cons]
        by_cases hp : pb s.data.toList[pos] = true
        · rw [if_pos hp, hp]; simp
        · have hp' : pb s.data.toList[pos] = false := by simpa using hp
          rw [if_neg hp, ih (pos + 1) (by omega), hp']
          simp only [Bool.false_or, Bool.not_false, if_true, List.length_cons]
          congr 2
          omega
      · obtain ⟨k1, k2, k3⟩ := high_bytes s pos hlt (by rw [hg]; exact hb)
        have hw := Lib.width_pos s pos
        generalize Utf8.decode s pos = d at *
        rw [R.highR _ k1]
        cases hi with
        | true => rw [if_pos rfl, hd, List.any_cons, List.takeWhile_cons, R.highB _ hb]; simp
        | false =>
          rw [if_neg (by simp), ih (pos + d.2) (by omega)]
          obtain ⟨e1, e2⟩ := tw_pre pb d.2 (s.data.toList.drop pos) (by rw [List.length_drop]; omega) (fun j hj => by
            have := k3 j hj
            have hgd : (s.data.toList.drop pos).getD j 0 = s.data.toList.getD (pos + j) 0 := by rw [List.getD_eq_getElem?_getD, List.getD_eq_getElem?_getD, List.getElem?_drop]
            rw [hgd]
            exact R.highB _ (by omega))
          rw [List.drop_drop] at e1 e2
          rw [e1, e2]
          congr 2
          omega
    · rw [if_neg (by omega), List.drop_eq_nil_of_le (by omega)]; rfl
theorem any_tw (pb : UInt8 → Bool) : ∀ t : T, t.any pb = false → (t.takeWhile (fun c => !pb c)).length = t.length := by
  intro t
  induction t with
  | nil => intro _; rfl
  | cons c r ih =>
    intro h
    rw [List.any_cons, Bool.or_eq_false_iff] at h
    rw [List.takeWhile_cons, if_pos (by simp [h.1]), List.length_cons, List.length_cons, ih h.2]
theorem idx_any {p : Nat → Bool} {pb : UInt8 → Bool} {hi : Bool} (R : Run p pb hi) (t : T) : Lib.idxFunc p true ⟨t.toArray⟩ = if t.any pb = true then ((t.takeWhile (fun c => !pb c)).length : Int) else -1 := by
  unfold Lib.idxFunc
  rw [idx_from R _ _ 0 (by rw [Lib.size_eq]; simp)]
  simp
def runP (num : Bool) (r : Nat) : Bool := r == 39 || r == 123 || r == 125 || (r == 35 && num)
theorem run_in (num : Bool) : Run (runP num) (inRun num) false where
  low c h := by
    have e : ∀ n : Nat, n < 128 → (c.toNat == n) = (c == UInt8.ofNat n) := fun n hn => by
      rw [Bool.eq_iff_iff, beq_iff_eq, beq_iff_eq]
      constructor
      · intro h; apply UInt8.toNat_inj.1; rw [h, UInt8.toNat_ofNat']; omega
      · intro h; rw [h, UInt8.toNat_ofNat']; omega
    unfold runP inRun
    rw [e 39 (by omega), e 123 (by omega), e 125 (by omega), e 35 (by omega)]
    rfl
  highR r h := by
    unfold runP
    have e : ∀ n, n < 128 → (r == n) = false := fun n hn => by rw [beq_eq_false_iff_ne]; omega
    rw [e 39 (by omega), e 123 (by omega), e 125 (by omega), e 35 (by omega)]
    rfl
  highB c h := by
    unfold inRun
    have e : ∀ n : UInt8, n.toNat < 128 → (c == n) = false := fun n hn => by
      rw [beq_eq_false_iff_ne]
      intro e
      rw [e] at h
      exact h hn
    rw [e 39 (by decide), e 123 (by decide), e 125 (by decide), e 35 (by decide)]
    rfl
theorem run_out (num : Bool) : Run (fun r => !runP num r) (fun c => !inRun num c) true where
  low c h := by rw [(run_in num).low c h]
  highR r h := by rw [(run_in num).highR r h]; rfl
  highB c h := by rw [(run_in num).highB c h]; rfl
theorem writtenGo_fuel (num : Bool) : ∀ (k k' : Nat) (s : T), s.length ≤ k → s.length ≤ k' → writtenGo num k s = writtenGo num k' s := by
  intro k
  induction k with
  | zero =>
    intro k' s h _
    have : s = [] := List.length_eq_zero_iff.1 (by omega)
    subst this
    cases k' <;> simp [writtenGo]
  | succ k ih =>
    intro k' s h h'
    cases s with
    | nil => cases k' <;> simp [writtenGo]
    | cons c r =>
      cases k' with
      | zero => simp at h'
      | succ k' =>
        rw [writtenGo, writtenGo]
        by_cases hc : inRun num c = false
        · rw [if_pos hc, if_pos hc, ih k' r (by simp at h; omega) (by simp at h'; omega)]
        · have hl : ((c :: r).dropWhile (inRun num)).length ≤ r.length := by
            rw [List.dropWhile_cons, if_pos (by simpa using hc)]
            have := List.takeWhile_append_dropWhile (p := inRun num) (l := r)
            have := congrArg List.length this
            rw [List.length_append] at this
            omega
          rw [if_neg hc, if_neg hc, ih k' _ (by simp at h; omega) (by simp at h'; omega)]
theorem written_plain (num : Bool) : ∀ a b : T, (∀ c ∈ a, inRun num c = false) → written num (a ++ b) = a ++ written num b := by
  intro a
  induction a with
  | nil => intro b _; rfl
  | cons c r ih =>
    intro b h
    have h1 := ih b (fun c hc => h c (by simp [hc]))
    unfold written at h1 ⊢
    rw [List.cons_append, List.length_cons, writtenGo, if_pos (h c (by simp)), h1]
    rfl
theorem written_run (num : Bool) (b : T) (h : ∀ c, b.head? = some c → inRun num c = true) : written num b = runW (b.takeWhile (inRun num)) ++ written num (b.dropWhile (inRun num)) := by
  cases b with
  | nil => simp [written, writtenGo, runW, dbl]
  | cons c r =>
    have hc := h c rfl
    unfold written
    rw [List.length_cons, writtenGo, if_neg (by simp [hc])]
    congr 1
    refine writtenGo_fuel num _ _ _ ?_ (Nat.le_refl _)
    rw [List.dropWhile_cons, if_pos hc]
    have := congrArg List.length (List.takeWhile_append_dropWhile (p := inRun num) (l := r))
    rw [List.length_append] at this
    omega
/-- A round: what stands by itself, and the run behind it. -/
theorem written_round (num : Bool) (s : T) : ∃ a r z, s = a ++ (r ++ z) ∧ a = s.takeWhile (fun c => !inRun num c) ∧ r = (r ++ z).takeWhile (inRun num) ∧ written num s = a ++ (runW r ++ written num z) ∧ (s ≠ [] → z.length < s.length) := by
  have h0 := List.takeWhile_append_dropWhile (p := fun c => !inRun num c) (l := s)
  have h1 := List.takeWhile_append_dropWhile (p := inRun num) (l := s.dropWhile (fun c => !inRun num c))
  refine ⟨s.takeWhile (fun c => !inRun num c), (s.dropWhile (fun c => !inRun num c)).takeWhile (inRun num), (s.dropWhile (fun c => !inRun num c)).dropWhile (inRun num), by rw [h1, h0], rfl, by rw [h1], ?_, ?_⟩
  · conv => lhs; rw [← h0]
    rw [written_plain num _ _ (fun c hc => by have := mem_tw hc; simpa using this), written_run num _ (fun c hc => ?_)]
    have := List.head?_dropWhile_not (fun c => !inRun num c) s
    rw [hc] at this
    simpa using this
  · intro hne
    have e1 := congrArg List.length h0
    have e2 := congrArg List.length h1
    rw [List.length_append] at e1 e2
    cases s with
    | nil => exact absurd rfl hne
    | cons c r =>
      by_cases hc : inRun num c = true
      · have : 1 ≤ (((c :: r).dropWhile (fun c => !inRun num c)).takeWhile (inRun num)).length := by
          rw [List.dropWhile_cons, if_neg (by simp [hc]), List.takeWhile_cons, if_pos hc]
          simp
        omega
      · have : 1 ≤ ((c :: r).takeWhile (fun c => !inRun num c)).length := by
          rw [List.takeWhile_cons, if_pos (by simpa using hc)]
          simp
        omega
theorem replace_dbl : ∀ (s : T), Lib.replaceK [39] [39, 39] (s.count 39) s = dbl s := by
  intro s
  induction s with
  | nil => rfl
  | cons c r ih =>
    by_cases hc : c = 39
    · subst hc
      have hi : Lib.index (39 :: r) [39] = 0 := by simp [Lib.index, List.isPrefixOf]
      rw [List.count_cons_self, dbl, if_pos rfl, Lib.replaceK_hit _ _ _ _ 0 hi]
      simp [ih]
    · have hcnt : (c :: r).count 39 = r.count 39 := by rw [List.count_cons_of_ne hc]
      rw [hcnt, dbl, if_neg hc, ← ih]
      have hi : Lib.index (c :: r) [39] = if Lib.index r [39] == -1 then -1 else Lib.index r [39] + 1 := by
        rw [Lib.index, if_neg (by simp [List.isPrefixOf]; exact fun h => hc h.symm)]
      cases hk : r.count 39 with
      | zero => rfl
      | succ k =>
        rw [Lib.replaceK, Lib.replaceK, hi]
        by_cases hm : (Lib.index r [39] == -1) = true
        · rw [if_pos hm, if_pos hm, if_pos (by decide)]
        · have hge := Lib.index_ge r [39]
          have hne : Lib.index r [39] ≠ -1 := fun e => hm (by rw [e]; rfl)
          rw [if_neg hm, if_neg (by rw [beq_iff_eq]; omega)]
          obtain ⟨i, hi2⟩ : ∃ i : Nat, Lib.index r [39] = i := ⟨(Lib.index r [39]).toNat, by omega⟩
          rw [hi2, show ((i : Int) + 1).toNat = i + 1 by omega, show ((i : Int)).toNat = i by omega]
          simp
theorem replace_all (s : T) : Lib.replaceAll s [39] [39, 39] = dbl s := by
  unfold Lib.replaceAll Lib.replace Lib.replaceNum
  rw [if_neg (by decide), if_pos (.inl (by decide)), Lib.count_one, replace_dbl]
theorem trim_nil (s : T) : (Lib.trimB s 39 = []) ↔ s.any (fun c => c != 39) = false := by
  unfold Lib.trimB Lib.trimLeftB Lib.trimRightB
  constructor
  · intro h
    rw [List.any_eq_false]
    intro c hc
    have h1 : ∀ x ∈ (s.reverse.dropWhile (fun x => x == 39)).reverse, (x == 39) = true := dw_nil.1 h
    have h2 : ∀ x ∈ s.reverse, (x == 39) = true := by
      have h3 := List.takeWhile_append_dropWhile (p := fun x : UInt8 => x == 39) (l := s.reverse)
      intro x hx
      rw [← h3] at hx
      rcases List.mem_append.1 hx with hx | hx
      · exact mem_tw (p := fun x : UInt8 => x == 39) hx
      · exact h1 x (by simpa using hx)
    have := h2 c (by simpa using hc)
    simp only [beq_iff_eq] at this
    simp [this]
  · intro h
    rw [List.any_eq_false] at h
    have : s.reverse.dropWhile (fun x => x == 39) = [] := dw_nil.2 (fun x hx => by
      have := h x (by simpa using hx)
      simpa using this)
    rw [this]
    rfl
end Go.Proofs.YtaepcfidpekflaaGreatDoor.Dk
namespace Go.Proofs.YtaepcfidpekflaaGreatDoor
open Go.RowKit

theorem wr_size : (Tryz.prog.info? 148).map (·.size) = some 2 := by kernel_rfl
theorem wr_lies : liesAt Tryz.prog Tryz.prog.depth 238 (2 / Tryz.prog.cellsOf 238) 0 148 1 = true := by kernel_rfl
theorem wr_byte : (Tryz.prog.info? 5).map (fun i => (i.zero, i.size, i.bytes)) = some (some (.int .u8 0), 1, 1) := by kernel_rfl
/-- The writer's builder in block b holds l; what it has laid lies from B on. -/
def Wtr (w : World) (B b : Nat) (l : Pg.T) : Prop := Lib.IsBuilderF 238 5 B b (Lib.byteCells l) w
set_option maxHeartbeats 2000000 in
set_option maxRecDepth 100000 in
theorem wcopy_fresh (b : Nat) (w : World) (h0 : w.cell? ⟨b, 0, none⟩ = some (.pointer none)) (hsh : w.shape? b = some (238, 2)) (hfz : w.frozen? ⟨b, 0, none⟩ = false) :
    Calls Tryz.prog 110 #[.pointer (some ⟨b, 0, none⟩)] w fun e w' => e = .returned (.tuple #[]) ∧ w' = w.setCell ⟨b, 0, none⟩ (.pointer (some ⟨b, 0, none⟩)) := by
  obtain ⟨j, hj, hjs⟩ := Option.map_eq_some_iff.1 wr_size
  go_enter Tryz.func110, Tryz.ntmps110
  go_wp2
  rw [Lib.run_to_unsafe w ⟨b, 0, none⟩ Tryz.underlying145 Tryz.underlying152 hj (by rw [hjs]; decide) hsh (Nat.zero_lt_succ 1)]
  simp only [Result.andThen]
  rw [Oper.upon_value]
  go_wp2
  rw [run_callFunc_extern Tryz.func150 (by kernel_rfl) (by kernel_rfl) (by kernel_rfl) (e := Extern.AbiNoEscape.same) (by kernel_rfl)]
  rw [Lib.run_noEscape]
  simp only [Result.andThen]
  rw [Oper.upon_value]
  go_wp2
  rw [Lib.run_from_unsafe w ⟨b, 0, none⟩ Tryz.underlying152 Tryz.underlying145 hj hsh wr_lies]
  simp only [Result.andThen]
  rw [Oper.upon_value]
  go_wp2
  go_end0
  exact ⟨rfl, rfl⟩
set_option maxHeartbeats 2000000 in
set_option maxRecDepth 100000 in
theorem wcopy_used (b : Nat) (w : World) (h0 : w.cell? ⟨b, 0, none⟩ = some (.pointer (some ⟨b, 0, none⟩))) :
    Calls Tryz.prog 110 #[.pointer (some ⟨b, 0, none⟩)] w fun e w' => e = .returned (.tuple #[]) ∧ w' = w := by
  obtain ⟨j, hj, hjs⟩ := Option.map_eq_some_iff.1 wr_size
  go_enter Tryz.func110, Tryz.ntmps110
  go_wp2
  rw [Lib.run_neq_ptr_same w _ Tryz.underlying145 hj]
  go_wp2
  go_end0
  exact ⟨rfl, rfl⟩
theorem wcopy_any (B b : Nat) (l : Pg.T) (w : World) (h : Wtr w B b l) :
    Calls Tryz.prog 110 #[.pointer (some ⟨b, 0, none⟩)] w fun e w' => e = .returned (.tuple #[]) ∧ Lib.BuilderAtF 238 5 B b (.pointer (some ⟨b, 0, none⟩)) (Lib.byteCells l) w' ∧ Below B w w' ∧ Lib.OthersKept 5 (some b) w w' := by
  rcases h with h | h
  · refine (wcopy_fresh b w h.cell0 h.shape h.frozen0).mono ?_
    rintro e w' ⟨rfl, rfl⟩
    exact ⟨rfl, h.used _, (Below.refl B w).setCell (p := ⟨b, 0, none⟩) h.1 _, (Lib.OthersKept.refl _ _ w).setCell ⟨b, 0, none⟩ rfl _⟩
  · refine (wcopy_used b w h.cell0).mono ?_
    rintro e w' ⟨rfl, rfl⟩
    exact ⟨rfl, h, Below.refl B _, Lib.OthersKept.refl _ _ _⟩
theorem strCells_list (s : Pg.T) : Lib.strCells ⟨s.toArray⟩ = Lib.byteCells s := by simp [Lib.strCells, Lib.byteCells]
theorem byteCells_app (a b : Pg.T) : Lib.byteCells (a ++ b) = Lib.byteCells a ++ Lib.byteCells b := by simp [Lib.byteCells]
set_option maxHeartbeats 2000000 in
set_option maxRecDepth 100000 in
theorem wwrite_any (B b : Nat) (l s : Pg.T) (w : World) (h : Wtr w B b l) (hlen : l.length + s.length ≤ 140737488355328) (hBw : B ≤ w.heap.size) :
    Calls Tryz.prog 201 #[.pointer (some ⟨b, 0, none⟩), .string ⟨s.toArray⟩] w fun e w' => e = .returned (.tuple #[.int .i64 s.length, .nilIface]) ∧ Wtr w' B b (l ++ s) ∧ Below B w w' ∧ Lib.OthersKept 5 (some b) w w' := by
  obtain ⟨i0, hi, hz0, hz1, hz2⟩ := info_parts wr_byte
  have HI : Hid (Tryz.prog.info? 5 = some i0 ∧ i0.zero = some (.int .u8 0) ∧ i0.size = 1 ∧ i0.bytes = 1) := ⟨hi, hz0, hz1, hz2⟩
  clear hi hz0 hz1 hz2
  go_enter Tryz.func201, Tryz.ntmps201
  go_wp2_with fail
  refine (wcopy_any B b l _ h).mono ?_
  rintro e w1 ⟨rfl, h1, hb1, hk1⟩
  obtain ⟨hB, v, hbk, hown, hne⟩ := h1
  have c0 : w1.cell? ⟨b, 0, none⟩ = some (.pointer (some ⟨b, 0, none⟩)) := by rw [Lib.cell_of_heap hbk]; rfl
  have c1 : w1.cell? ⟨b, 1, none⟩ = some v := by rw [Lib.cell_of_heap hbk]; rfl
  rw [Lib.byteCells_length] at hown
  go_wp2_with (at_builtin; refine Lib.wpList_append_own_stringF _ rfl _ _ 146 9 rfl B 5 i0 Tryz.underlying146 Tryz.underlying9 HI.out.1 HI.out.2.1 HI.out.2.2.1 HI.out.2.2.2 _ _ _ rfl hown ⟨s.toArray⟩ rfl ?c3 ?c4 ?c5 ?_)
  case c3 => simp [ByteArray.size]; unfold maxLen; omega
  case c4 => simp [ByteArray.size]; omega
  case c5 => have := hb1.size; omega
  intro v' w2 hown' hgrow _
  have hlt : b < w1.heap.size := by
    rcases Nat.lt_or_ge b w1.heap.size with h' | h'
    · exact h'
    · simp [Array.getElem?_eq_none h'] at hbk
  have hb2 : w2.heap[b]? = some (.cells #[.pointer (some ⟨b, 0, none⟩), v] 238 (0, 0)) := by
    rw [hgrow.block b hlt (fun e => hne e.symm)]
    exact hbk
  have d0 : w2.cell? ⟨b, 0, none⟩ = some (.pointer (some ⟨b, 0, none⟩)) := by rw [Lib.cell_of_heap hb2]; rfl
  have d1 : w2.cell? ⟨b, 1, none⟩ = some v := by rw [Lib.cell_of_heap hb2]; rfl
  have f1 : w2.frozen? ⟨b, 1, none⟩ = false := Lib.frozen_of_heap hb2 1
  obtain ⟨ao, n', cap, rfl⟩ : ∃ ao n' cap, v' = .slice ao n' cap := by
    rcases hown'.2 with ⟨hv, _⟩ | ⟨g, cap, cur, fz, hv, _⟩
    · exact ⟨_, _, _, hv⟩
    · exact ⟨_, _, _, hv⟩
  have HK : Hid (Lib.OthersKept 5 (some b) w (w2.setCell ⟨b, 1, none⟩ (.slice ao n' cap))) := (hk1.grown hgrow (Lib.ownsRowF_kind hown)).setCell ⟨b, 1, none⟩ rfl _
  have HW : Hid (Wtr (w2.setCell ⟨b, 1, none⟩ (.slice ao n' cap)) B b (l ++ s)) := by
    refine .inr (Lib.BuilderAtF.put (T := 238) (e := 5) hB hb2 (bs' := Lib.byteCells (l ++ s)) ?_ (by decide))
    rw [byteCells_app, ← strCells_list s, List.length_append, Lib.byteCells_length, Lib.strCells_length]
    exact hown'
  have HBl : Hid (Below B w (w2.setCell ⟨b, 1, none⟩ (.slice ao n' cap))) := (hb1.grown hgrow (by have := hb1.size; omega) (fun k hk => (hown.lt k hk).1)).setCell (p := ⟨b, 1, none⟩) hB _
  clear hown hown' hgrow hk1 hb1 hbk hb2
  go_wp2
  go_ret2
  exact ⟨by simp, HW.out, HBl.out, HK.out⟩
end Go.Proofs.YtaepcfidpekflaaGreatDoor
namespace Go.Proofs.YtaepcfidpekflaaGreatDoor
open Go.RowKit

theorem wr_mixed : Tryz.prog.follows Departure.mixedOrders = true := by kernel_rfl
theorem wr_cells : Tryz.prog.cellsOf 5 = 1 := by kernel_rfl
set_option maxHeartbeats 2000000 in
set_option maxRecDepth 100000 in
theorem wstring_full (B b : Nat) (l : Pg.T) (w : World) (h : Wtr w B b l) (h0 : l ≠ []) :
    Calls Tryz.prog 83 #[.pointer (some ⟨b, 0, none⟩)] w fun e w' => e = .returned (.string ⟨l.toArray⟩) ∧ Below B w w' := by
  obtain ⟨p, hAt⟩ : ∃ p, Lib.BuilderAtF 238 5 B b p (Lib.byteCells l) w := by
    rcases h with h | h
    · exact ⟨_, h⟩
    · exact ⟨_, h⟩
  obtain ⟨hB, v, hbk, hown, hne⟩ := hAt
  have hl0 : l.length ≠ 0 := by simpa using h0
  rw [Lib.byteCells_length] at hown
  obtain ⟨g, cap, cur, fz, rfl, hbg, hg, hfz, hnc, hcm, hcs, htake⟩ : ∃ g cap cur fz, v = .slice (some ⟨g, 0, none⟩) l.length cap ∧ B ≤ g ∧ w.heap[g]? = some (.cells cur 5 fz) ∧ fz.2 ≤ l.length * 1 ∧ l.length ≤ cap ∧ cap ≤ maxLen ∧ cur.size = cap * 1 ∧ cur.toList.take (l.length * 1) = Lib.byteCells l := by
    rcases hown.2 with ⟨_, hz⟩ | ⟨g, cap, cur, fz, hv, r⟩
    · exact absurd hz hl0
    · exact ⟨g, cap, cur, fz, hv, r⟩
  have c1 : w.drew.cell? ⟨b, 1, none⟩ = some (.slice (some ⟨g, 0, none⟩) l.length cap) := by
    have : w.drew.heap[b]? = some (.cells #[p, .slice (some ⟨g, 0, none⟩) l.length cap] 238 (0, 0)) := hbk
    rw [Lib.cell_of_heap this]; rfl
  have hSD : (Builtin.unsafeSliceData_ #[146] 206 #[.slice (some ⟨g, 0, none⟩) l.length cap]).run Tryz.prog w.drew = .ok (.pointer (some ⟨g, 0, none⟩)) w.drew :=
    Lib.run_unsafeSliceData_row _ _ _ _ _ _ (by omega)
  have hUS : (Builtin.unsafeString_ #[206, 3] 9 #[.pointer (some ⟨g, 0, none⟩), .int .i64 l.length]).run Tryz.prog w.drew = .ok (.string ⟨l.toArray⟩) (w.drew.freeze ⟨g, 0, none⟩ l.length) := by
    refine Lib.run_unsafeString_row w.drew 206 3 9 5 Tryz.underlying206 wr_cells g cur.size (by have hg' : w.drew.heap[g]? = some (.cells cur 5 fz) := hg; simp [World.shape?, hg']) l h0 (by omega) (by unfold maxLen at hcm; omega) ?_
    intro j x hx
    exact hown.cells (g := g) rfl j (.int .u8 x.toNat) (by simp [Lib.byteCells, hx])
  have HBl : Hid (Below B w (w.drew.freeze ⟨g, 0, none⟩ l.length)) := Lib.below_freeze (Below.drew (Below.refl B w)) (p := ⟨g, 0, none⟩) hbg _
  clear hown hbk hg htake hfz hcs hcm h
  have mixed := wr_mixed
  go_enter Tryz.func83, Tryz.ntmps83
  go_wp2
  go_region_o
  all_goals (go_wp2; go_ret; exact ⟨rfl, HBl.out⟩)
set_option maxHeartbeats 2000000 in
set_option maxRecDepth 100000 in
theorem wstring_none (B b : Nat) (w : World) (h : Wtr w B b []) (hBw : B ≤ w.heap.size) :
    Calls Tryz.prog 83 #[.pointer (some ⟨b, 0, none⟩)] w fun e w' => e = .returned (.string ⟨#[]⟩) ∧ Below B w w' := by
  obtain ⟨p, hAt⟩ : ∃ p, Lib.BuilderAtF 238 5 B b p (Lib.byteCells []) w := by
    rcases h with h | h
    · exact ⟨_, h⟩
    · exact ⟨_, h⟩
  have hUS : ∀ (W : World) (q : Option Addr), (Builtin.unsafeString_ #[206, 3] 9 #[.pointer q, .int .i64 0]).run Tryz.prog W = .ok (.string .empty) W := fun W q => Lib.run_unsafeString_none W _ _ _ q
  have hlt := hAt.lt
  obtain ⟨hB, v, hbk, hown, hne⟩ := hAt
  have HB0 : Hid (Below B w w.drew) := Below.drew (Below.refl B w)
  clear h
  rcases hown.2 with ⟨rfl, _⟩ | ⟨g, cap, cur, fz, rfl, hbg, hg, _⟩
  · have c1 : w.drew.cell? ⟨b, 1, none⟩ = some (.slice none 0 0) := by
      have : w.drew.heap[b]? = some (.cells #[p, .slice none 0 0] 238 (0, 0)) := hbk
      rw [Lib.cell_of_heap this]; rfl
    have hSD : (Builtin.unsafeSliceData_ #[146] 206 #[.slice none 0 0]).run Tryz.prog w.drew = .ok (.pointer none) w.drew := rfl
    clear hown hbk hne
    have mixed := wr_mixed
    go_enter Tryz.func83, Tryz.ntmps83
    go_wp2
    go_region_o
    all_goals (go_wp2; go_ret; exact ⟨rfl, HB0.out⟩)
  · simp only [Lib.byteCells, List.map_nil, List.length_nil] at hbk
    by_cases hc0 : cap = 0
    · subst hc0
      have c1 : w.drew.cell? ⟨b, 1, none⟩ = some (.slice (some ⟨g, 0, none⟩) 0 0) := by
        have : w.drew.heap[b]? = some (.cells #[p, .slice (some ⟨g, 0, none⟩) 0 0] 238 (0, 0)) := hbk
        rw [Lib.cell_of_heap this]; rfl
      have hSD : (Builtin.unsafeSliceData_ #[146] 206 #[.slice (some ⟨g, 0, none⟩) 0 0]).run Tryz.prog w.drew = .ok (.pointer (some ⟨w.drew.heap.size, 0, none⟩)) (w.drew.alloc (.view ⟨g, 0, none⟩ 5)) :=
        Lib.run_unsafeSliceData_zero w.drew _ _ 5 Tryz.underlying206 ⟨g, 0, none⟩ 0 (5, cur.size) (by have hg' : w.drew.heap[g]? = some (.cells cur 5 fz) := hg; simp [World.shape?, hg'])
      have c2 : (w.drew.alloc (.view ⟨g, 0, none⟩ 5)).cell? ⟨b, 1, none⟩ = some (.slice (some ⟨g, 0, none⟩) 0 0) := by
        have : (w.drew.alloc (.view ⟨g, 0, none⟩ 5)).heap[b]? = _ := (Lib.alloc_old w.drew _ b hlt).trans hbk
        rw [Lib.cell_of_heap this]; rfl
      have c3 : (w.alloc (.view ⟨g, 0, none⟩ 5)).drew.cell? ⟨b, 1, none⟩ = some (.slice (some ⟨g, 0, none⟩) 0 0) := c2
      have HB1 : Hid (Below B w (w.drew.alloc (.view ⟨g, 0, none⟩ 5))) := (Below.drew (Below.refl B w)).alloc hBw _
      clear hown hbk hne hg
      have mixed := wr_mixed
      go_enter Tryz.func83, Tryz.ntmps83
      go_wp2
      go_region_o
      all_goals (go_wp2; go_ret; exact ⟨rfl, HB1.out⟩)
    · have c1 : w.drew.cell? ⟨b, 1, none⟩ = some (.slice (some ⟨g, 0, none⟩) 0 cap) := by
        have : w.drew.heap[b]? = some (.cells #[p, .slice (some ⟨g, 0, none⟩) 0 cap] 238 (0, 0)) := hbk
        rw [Lib.cell_of_heap this]; rfl
      have hSD : (Builtin.unsafeSliceData_ #[146] 206 #[.slice (some ⟨g, 0, none⟩) 0 cap]).run Tryz.prog w.drew = .ok (.pointer (some ⟨g, 0, none⟩)) w.drew :=
        Lib.run_unsafeSliceData_row _ _ _ _ _ _ hc0
      clear hown hbk hne hg hc0
      have mixed := wr_mixed
      go_enter Tryz.func83, Tryz.ntmps83
      go_wp2
      go_region_o
      all_goals (go_wp2; go_ret; exact ⟨rfl, HB0.out⟩)
theorem wstring_any (B b : Nat) (l : Pg.T) (w : World) (h : Wtr w B b l) (hBw : B ≤ w.heap.size) :
    Calls Tryz.prog 83 #[.pointer (some ⟨b, 0, none⟩)] w fun e w' => e = .returned (.string ⟨l.toArray⟩) ∧ Below B w w' := by
  cases l with
  | nil => exact wstring_none B b w h hBw
  | cons x r => exact wstring_full B b (x :: r) w h (by simp)
end Go.Proofs.YtaepcfidpekflaaGreatDoor
namespace Go.Proofs.YtaepcfidpekflaaGreatDoor
open Go.RowKit

/-- A row of texts that no writing of bytes turns. -/
def Tx (w : World) (b g : Nat) (ts : List Pg.T) : Prop := g ≠ b ∧ ∃ (cs : Array Value) (T : TypeId) (fz : Nat × Nat), w.heap[g]? = some (.cells cs T fz) ∧ T ≠ 5 ∧ ∀ (j : Nat) (t : Pg.T), ts[j]? = some t → cs[j]? = some (Value.string ⟨t.toArray⟩)
theorem Tx.kept {w w' : World} {b g : Nat} {ts : List Pg.T} (h : Tx w b g ts) (hk : Lib.OthersKept 5 (some b) w w') : Tx w' b g ts := by
  obtain ⟨h1, cs, T, fz, h2, h3, h4⟩ := h
  refine ⟨h1, cs, T, fz, hk g _ h2 (fun e => h1 (by injection e)) (fun c fz' e => ?_), h3, h4⟩
  injection e with _ e2 _
  exact h3 e2
theorem Tx.cell {w : World} {b g j : Nat} {ts : List Pg.T} {t : Pg.T} (h : Tx w b g ts) (ht : ts[j]? = some t) : w.cell? ⟨g, j, none⟩ = some (.string ⟨t.toArray⟩) := by
  obtain ⟨h1, cs, T, fz, h2, h3, h4⟩ := h
  have := h4 j t ht
  simp [World.cell?, h2, this]
set_option maxHeartbeats 2000000 in
set_option maxRecDepth 100000 in
theorem wall_any (B b : Nat) (l : Pg.T) (ts : List Pg.T) (g c : Nat) (w : World) (hW : Wtr w B b l) (hT : Tx w b g ts) (hlen : l.length + ts.flatten.length ≤ 1000000000) (hn : ts.length ≤ 1000) (hBw : B ≤ w.heap.size) :
    Calls Tryz.prog 164 #[.pointer (some ⟨b, 0, none⟩), .slice (some ⟨g, 0, none⟩) ts.length c] w fun e w' => e = .returned (.tuple #[]) ∧ Wtr w' B b (l ++ ts.flatten) ∧ Below B w w' ∧ Lib.OthersKept 5 (some b) w w' := by
  obtain ⟨R, HR⟩ : ∃ R, Hid (l ++ ts.flatten = R) := ⟨_, rfl⟩
  rw [HR.out]
  have HL : R.length ≤ 1000000000 := by rw [← HR.out, List.length_append]; exact hlen
  have H0 : Hid (Wtr w B b l) := hW
  have HT0 : Hid (Tx w b g ts) := hT
  clear hW hT hlen
  go_enter Tryz.func164, Tryz.ntmps164
  go_wp2_with fail
  go_loopw [8] (fun i wr => ∃ (k : Nat) (d : Pg.T), i = .int .i64 k ∧ k ≤ ts.length ∧ Hid (Wtr wr B b d) ∧ Hid (d ++ (ts.drop k).flatten = R) ∧ Hid (Below B w wr) ∧ Hid (Lib.OthersKept 5 (some b) w wr)) (fun i _ => ts.length - (intOf i).toNat)
  case atStart => exact ⟨0, l, rfl, Nat.zero_le _, H0, HR, Below.refl _ _, Lib.OthersKept.refl _ _ _⟩
  case round =>
    clear HR H0
    obtain ⟨k, d, rfl, hk, HW, HD, HB, HK⟩ := hrel
    by_cases hlt : k < ts.length
    · have hlt' : (k : Int) < ts.length := by omega
      obtain ⟨t, ht⟩ : ∃ t, ts[k]? = some t := ⟨ts[k], List.getElem?_eq_getElem hlt⟩
      have c0 := (HT0.out.kept HK.out).cell ht
      have hd : (ts.drop k).flatten = t ++ (ts.drop (k + 1)).flatten := by
        rw [List.getElem?_eq_getElem hlt] at ht
        injection ht with ht
        rw [List.drop_eq_getElem_cons hlt, ht, List.flatten_cons]
      have HD2 : Hid ((d ++ t) ++ (ts.drop (k + 1)).flatten = R) := by show _ = _; rw [← HD.out, hd, List.append_assoc]
      have hlen2 : d.length + t.length ≤ 1000000000 := by
        have := congrArg List.length HD2.out
        rw [List.length_append, List.length_append] at this
        omega
      have kw := wwrite_any B b d t wr HW.out (by omega) (Nat.le_trans hBw HB.out.size)
      clear hd ht HD
      go_wp2_with fail
      refine kw.mono ?_
      rintro e w2 ⟨rfl, hw2, hb2, hk2⟩
      have HW2 : Hid (Wtr w2 B b (d ++ t)) := hw2
      have HB2 : Hid (Below B w w2) := HB.out.trans hb2
      have HK2 : Hid (Lib.OthersKept 5 (some b) w w2) := HK.out.trans hk2
      clear kw hw2 hb2 hk2 c0
      go_wp2
      go_roundw
      case rel => exact ⟨k + 1, d ++ t, by go_num, by omega, HW2, HD2, HB2, HK2⟩
      case measure => simp [intOf]; omega
    · have hlt' : ¬ ((k : Int) < ts.length) := by omega
      have HF : Hid (d = R) := by show _ = _; rw [← HD.out, List.drop_eq_nil_of_le (by omega)]; simp
      go_wp2
      first | go_end0 | refine bodyPost_ret (results_none rfl _ _ _) rfl ?_
      exact ⟨rfl, by rw [← HF.out]; exact HW.out, HB.out, HK.out⟩
end Go.Proofs.YtaepcfidpekflaaGreatDoor
namespace Go.Proofs.YtaepcfidpekflaaGreatDoor
open Go.RowKit Pg

set_option maxHeartbeats 800000 in
theorem wselector_any (x : Pg.T) (hx : SelOk x) (a : Nat) (va : Option Addr) (vn vc : Nat) (w : World) (hB : Bas w) :
    Calls Tryz.prog 202 #[.agg #[.string ⟨(selV x).1.toArray⟩, .int .u32 ((selV x).2 : Nat), .int .i64 (a : Nat), .slice va vn vc]] w fun e w' => e = .returned (.string ⟨x.toArray⟩) ∧ Below w.heap.size w w' := by
  have hb := fun cs => allocB w (.cells cs 332)
  rcases hx with ⟨d, rfl, hd⟩ | ⟨h1, h2, h3⟩
  · rw [show selV (61 :: d) = ([], Pr.val d) from rfl]
    have hs := val_small hd
    have h9 := hd.2.2.1
    have kd := fun W (h : Below w.heap.size w W) => wdecimal_any d hd W (hB.below h)
    generalize Pr.val d = V at *
    go_enter Tryz.func202, Tryz.ntmps202
    go_wp2_with (first | (go_at_call 203; refine (kd _ (by first | exact hb _ | exact Below.refl _ _)).mono ?_; rintro e w2 ⟨rfl, hb2⟩))
    go_wp2
    go_ret
    exact ⟨by congr 2; try (apply ByteArray.ext; simp), by first | exact below_of (hb _) hb2 | exact hb2⟩
  · rw [selV_ne h1]
    have hem : List.isEmpty x = false := by
      cases x with
      | nil => exact absurd rfl h2
      | cons => rfl
    go_enter Tryz.func202, Tryz.ntmps202
    go_wp2
    go_ret
    exact ⟨rfl, by first | exact hb _ | exact Below.refl _ _⟩
end Go.Proofs.YtaepcfidpekflaaGreatDoor
namespace Go.Proofs.YtaepcfidpekflaaGreatDoor
open Go.RowKit Pg

/-- A row of texts that was laid last. -/
theorem tx_new (w : World) (b : Nat) (ts : List Pg.T) (hb : b < w.heap.size) (T : TypeId) (hT : T ≠ 5) : Tx (w.alloc (.cells (ts.map (fun t => Value.string ⟨t.toArray⟩)).toArray T)) b w.heap.size ts := by
  refine ⟨by omega, (ts.map (fun t => Value.string ⟨t.toArray⟩)).toArray, T, (0, 0), by rw [show (w.alloc (.cells (ts.map (fun t => Value.string ⟨t.toArray⟩)).toArray T)).heap = w.heap.push (.cells (ts.map (fun t => Value.string ⟨t.toArray⟩)).toArray T) from rfl]; simp, hT, fun j t ht => ?_⟩
  simp [ht]
theorem Wtr.alloc {w : World} {B b : Nat} {l : Pg.T} (h : Wtr w B b l) (o : Obj) : Wtr (w.alloc o) B b l := Lib.IsBuilderF.alloc h o
theorem Wtr.keep {w w' : World} {B b : Nat} {l : Pg.T} (h : Wtr w B b l) (hb : Below w.heap.size w w') : Wtr w' B b l := by
  have one : ∀ p, Lib.BuilderAtF 238 5 B b p (Lib.byteCells l) w → Lib.BuilderAtF 238 5 B b p (Lib.byteCells l) w' := by
    intro p h
    have hlt := h.lt
    obtain ⟨hB, v, hv, hown, hne⟩ := h
    refine ⟨hB, v, (hb.block b hlt).trans hv, hown.kept (row := none) ⟨hb.os, hb.tape, hb.output, hb.size, fun k hk _ => hb.block k hk⟩ ?_, hne⟩
    cases e : v.ownBlock with
    | none => exact .inl rfl
    | some _ => exact .inr (by simp)
  exact h.elim (fun x => .inl (one _ x)) (fun x => .inr (one _ x))
theorem Wtr.lt {w : World} {B b : Nat} {l : Pg.T} (h : Wtr w B b l) : b < w.heap.size ∧ B ≤ b := by
  rcases h with h | h
  · exact ⟨h.lt, h.1⟩
  · exact ⟨h.lt, h.1⟩
theorem kept_of {w w' : World} {e : TypeId} {b : Option Nat} (hb : Below w.heap.size w w') : Lib.OthersKept e b w w' := fun k o h _ _ => (hb.block k (by
  rcases Nat.lt_or_ge k w.heap.size with h' | h'
  · exact h'
  · rw [Array.getElem?_eq_none h'] at h; cases h)).trans h
set_option maxHeartbeats 3200000 in
set_option maxRecDepth 100000 in
theorem wrun_any (B b : Nat) (l r : Pg.T) (w : World) (hW : Wtr w B b l) (hB : Bas w) (hBw : B ≤ w.heap.size) (hr : r.length ≤ 100000) (hl : l.length ≤ 100000000) :
    Calls Tryz.prog 200 #[.pointer (some ⟨b, 0, none⟩), .string ⟨r.toArray⟩] w fun e w' => e = .returned (.tuple #[]) ∧ Wtr w' B b (l ++ Dk.runW r) ∧ Below B w w' ∧ Lib.OthersKept 5 (some b) w w' := by
  obtain ⟨m, hm⟩ := hB.1
  have kr := Tryz.strings_ReplaceAll ⟨r.toArray⟩ ⟨#[39]⟩ ⟨#[39, 39]⟩ m w (by simp [ByteArray.size]; omega) hm (by decide) (by
    have h1 : Lib.countB ⟨r.toArray⟩ ⟨#[39]⟩ ≤ r.length := by
      show Lib.count r [39] ≤ r.length
      rw [Lib.count_one]
      exact List.count_le_length
    have h2 : Lib.countB ⟨r.toArray⟩ ⟨#[39]⟩ * 2 ≤ 200000 := by omega
    simp [ByteArray.size]
    omega)
  rw [show Lib.replaceAll (⟨r.toArray⟩ : ByteArray).data.toList (⟨#[39]⟩ : ByteArray).data.toList (⟨#[39, 39]⟩ : ByteArray).data.toList = Dk.dbl r from Dk.replace_all r] at kr
  have hdl := Dk.dbl_len r
  obtain ⟨D, HD⟩ : ∃ D, Hid (Dk.dbl r = D) := ⟨_, rfl⟩
  rw [HD.out] at hdl kr
  obtain ⟨R, HR⟩ : ∃ R, Hid (l ++ Dk.runW r = R) := ⟨_, rfl⟩
  rw [HR.out]
  have hWl := hW.lt
  have HW : Hid (Wtr w B b l) := hW
  clear hW hm hB
  go_enter Tryz.func200, Tryz.ntmps200
  go_wp2_with fail
  refine kr.mono ?_
  rintro e w1 ⟨rfl, hb1⟩
  have HB1 : Hid (Below B w w1) := hb1.mono hBw
  have HW1 : Hid (Wtr w1 B b l) := HW.out.keep hb1
  have HK1 : Hid (Lib.OthersKept 5 (some b) w w1) := kept_of hb1
  have hz1 := hb1.size
  clear kr hb1 HW
  have kt := Tryz.strings_Trim_one ⟨r.toArray⟩ 39 (by decide) w1 (by simp [ByteArray.size]; omega)
  rw [show (⟨r.toArray⟩ : ByteArray).data.toList = r from rfl] at kt
  obtain ⟨K, HK⟩ : ∃ K, Hid (Lib.trimB r 39 = K) := ⟨_, rfl⟩
  rw [HK.out] at kt
  have HKN : Hid (K = [] ↔ r.any (fun c => c != 39) = false) := by
    show _ ↔ _
    rw [← HK.out]
    exact Dk.trim_nil r
  clear HK
  go_wp2_with fail
  refine kt.mono ?_
  rintro e w2 ⟨rfl, hw2⟩
  have hb2 : Below w1.heap.size w1 w2 := by
    rcases hw2 with rfl | rfl
    · exact Below.refl _ _
    · exact (Below.refl _ _).drew
  have HB2 : Hid (Below B w w2) := HB1.out.trans (hb2.mono (by omega))
  have HW2 : Hid (Wtr w2 B b l) := HW1.out.keep hb2
  have HK2 : Hid (Lib.OthersKept 5 (some b) w w2) := HK1.out.trans (kept_of hb2)
  have hz2 := hb2.size
  clear kt hw2 hb2 HB1 HW1
  cases hK : K with
  | nil =>
    have HR2 : Hid (l ++ [D].flatten = R) := by
      show _ = _
      rw [← HR.out, Dk.runW, HKN.out.1 hK, HD.out]
      simp
    have kw := wall_any B b l [D] w2.heap.size 1 (w2.alloc (.cells #[.string ⟨D.toArray⟩] 9)) (HW2.out.alloc _) (tx_new w2 b [D] (by omega) _ (by decide)) (by simp; omega) (by simp) (by simp; omega)
    rw [HR2.out] at kw
    clear HR HKN hK HD HR2
    go_wp2_with fail
    refine kw.mono ?_
    rintro e w3 ⟨rfl, hw3, hb3, hk3⟩
    clear kw
    have HB3 : Hid (Below B w w3) := (HB2.out.alloc (by omega) _).trans hb3
    have HK3 : Hid (Lib.OthersKept 5 (some b) w w3) := (HK2.out.alloc _).trans hk3
    go_wp2
    first | go_end0 | refine bodyPost_ret (results_none rfl _ _ _) rfl ?_
    exact ⟨rfl, hw3, HB3.out, HK3.out⟩
  | cons c0 K0 =>
    have HR2 : Hid (l ++ [[39], D, [39]].flatten = R) := by
      show _ = _
      have hne : r.any (fun c => c != 39) = true := by
        cases h : r.any (fun c => c != 39) with
        | true => rfl
        | false => rw [HKN.out.2 h] at hK; cases hK
      rw [← HR.out, Dk.runW, hne, HD.out]
      simp
    have kw := wall_any B b l [[39], D, [39]] w2.heap.size 3 (w2.alloc (.cells #[.string ⟨#[39]⟩, .string ⟨D.toArray⟩, .string ⟨#[39]⟩] 9)) (HW2.out.alloc _) (tx_new w2 b [[39], D, [39]] (by omega) _ (by decide)) (by simp; omega) (by simp) (by simp; omega)
    rw [HR2.out] at kw
    clear HR HKN hK HD HR2
    go_wp2_with fail
    refine kw.mono ?_
    rintro e w3 ⟨rfl, hw3, hb3, hk3⟩
    clear kw
    have HB3 : Hid (Below B w w3) := (HB2.out.alloc (by omega) _).trans hb3
    have HK3 : Hid (Lib.OthersKept 5 (some b) w w3) := (HK2.out.alloc _).trans hk3
    go_wp2
    first | go_end0 | refine bodyPost_ret (results_none rfl _ _ _) rfl ?_
    exact ⟨rfl, hw3, HB3.out, HK3.out⟩
theorem tw_len (p : UInt8 → Bool) (l : Pg.T) : (l.takeWhile p).length ≤ l.length := by
  have := congrArg List.length (List.takeWhile_append_dropWhile (p := p) (l := l))
  rw [List.length_append] at this
  omega
/-- A function that tells of a rune what p does. -/
def Tells (w : World) (v : Value) (p : Nat → Bool) : Prop := ∃ g lb, v = .func (.func g) #[] lb ∧ Enters g ∧ PredAt Tryz.prog g lb encR p w
set_option maxHeartbeats 800000 in
theorem wlength_any (t : Pg.T) (v : Value) (p : Nat → Bool) (pb : UInt8 → Bool) (hi : Bool) (R : Dk.Run p pb hi) (w : World) (hv : Tells w v p) :
    Calls Tryz.prog 199 #[.string ⟨t.toArray⟩, v] w fun e w' => e = .returned (.int .i64 ((t.takeWhile (fun c => !pb c)).length : Nat)) ∧ Below w.heap.size w w' := by
  obtain ⟨g, lb, rfl, eg, hp⟩ := hv
  have ki := Tryz.strings_IndexFunc g lb eg p ⟨t.toArray⟩ w hp
  rw [Dk.idx_any R t] at ki
  have hle : (t.takeWhile (fun c => !pb c)).length ≤ t.length := tw_len _ _
  have HA : Hid (t.any pb = false → (t.takeWhile (fun c => !pb c)).length = t.length) := Dk.any_tw pb t
  generalize (t.takeWhile (fun c => !pb c)).length = N at *
  clear hp eg R
  go_enter Tryz.func199, Tryz.ntmps199
  cases hany : t.any pb with
  | true =>
    rw [hany, if_pos rfl] at ki
    have h0 : (0 : Int) ≤ N := by omega
    clear HA hany
    go_wp2_with fail
    refine ki.mono ?_
    rintro e w1 ⟨rfl, hb1⟩
    clear ki
    go_wp2
    go_ret
    exact ⟨rfl, hb1⟩
  | false =>
    have HN : Hid (N = t.length) := HA.out hany
    rw [hany, if_neg (by simp)] at ki
    clear HA hany
    go_wp2_with fail
    refine ki.mono ?_
    rintro e w1 ⟨rfl, hb1⟩
    clear ki
    go_wp2
    go_ret
    exact ⟨by rw [HN.out]; try rfl, hb1⟩
end Go.Proofs.YtaepcfidpekflaaGreatDoor
