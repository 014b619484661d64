/-
  Several texts in one (Jf, Jm, Jp, Mx, My, Mz). By the verifier.
-/
import Derived.Test.YtaepcfidpekflaaGreatDoorZ07
import Derived.Test.YtaepcfidpekflaaGreatDoorZ08
import Derived.Test.YtaepcfidpekflaaGreatDoorZ29
import Derived.Maps.Views
import Derived.StringKeys
namespace Go.Proofs.YtaepcfidpekflaaGreatDoor.Dk
open Go.Proofs.YtaepcfidpekflaaGreatDoor Pg

/-- So many marks, and texts so long, at most. -/
def Sz (n : Nat) (x : Sc) : Prop := x.out.length ≤ n ∧ ∀ m ∈ x.out, m.text.length ≤ n
theorem Sz.mono {n k : Nat} {x : Sc} (h : Sz n x) (hn : n ≤ k) : Sz k x := ⟨Nat.le_trans h.1 hn, fun m hm => Nat.le_trans (h.2 m hm) hn⟩
/-- So many marks more, of texts so long. -/
def Adds (k b : Nat) (x y : Sc) : Prop := ∃ l, y.out = x.out ++ l ∧ l.length ≤ k ∧ ∀ m ∈ l, m.text.length ≤ b
theorem Adds.of {k b : Nat} {x y : Sc} (h : y.out = x.out) : Adds k b x y := ⟨[], by simp [h], by simp, by simp⟩
theorem Adds.trans {k j b : Nat} {x y z : Sc} (h : Adds k b x y) (h2 : Adds j b y z) : Adds (k + j) b x z := by
  obtain ⟨l, h1, h3, h4⟩ := h
  obtain ⟨l', h5, h6, h7⟩ := h2
  refine ⟨l ++ l', by rw [h5, h1, List.append_assoc], by rw [List.length_append]; omega, fun m hm => ?_⟩
  rcases List.mem_append.1 hm with h | h
  · exact h4 m h
  · exact h7 m h
theorem Adds.put {b : Nat} (x : Sc) (m : Mark) (h : m.text.length ≤ b) : Adds 1 b x (x.put m) := ⟨[m], rfl, by simp, by simpa using h⟩
theorem Adds.sz {k b n : Nat} {x y : Sc} (h : Adds k b x y) (hx : Sz n x) (hb : b ≤ n + k) : Sz (n + k) y := by
  obtain ⟨l, h1, h2, h3⟩ := h
  refine ⟨by rw [h1, List.length_append]; have := hx.1; omega, fun m hm => ?_⟩
  rw [h1] at hm
  rcases List.mem_append.1 hm with h | h
  · have := hx.2 m h; omega
  · have := h3 m h; omega
theorem fault_out (x : Sc) (e a : Nat) : (x.fault e a).out = x.out := by unfold Sc.fault; split <;> rfl
theorem name_out (s : T) (x : Sc) : (x.name s).out = x.out := by unfold Sc.name Sc.go; split; exact fault_out _ _ _; rfl
theorem whole_out (s : T) (x : Sc) : (x.whole s).out = x.out := by unfold Sc.whole Sc.go; split; exact fault_out _ _ _; rfl
theorem needs_out (s : T) (x : Sc) (c : UInt8) : (x.needs s c).out = x.out := by unfold Sc.needs; split; rfl; exact fault_out _ _ _
theorem named_16 (l : T) : named l ≤ 16 := by
  rw [named_eq]
  split <;> omega
theorem whole_9 (l : T) : wholeN l ≤ 9 := by
  rw [wholeN_eq]
  split <;> omega
theorem opened_adds (s : T) (x : Sc) (num : Bool) (m : Mark) (h : m.text.length ≤ 16) : Adds 1 16 x (x.opened s num m) := by
  refine ⟨[m], ?_, by simp, by simpa using h⟩
  unfold Sc.opened
  simp only
  split
  · rw [fault_out, needs_out]; rfl
  · rw [needs_out]; rfl
theorem branch_adds (s : T) (x : Sc) (num : Bool) : Adds 1 16 x (x.branch s num) := by
  unfold Sc.branch
  split
  · exact Adds.of rfl
  · split
    · have h := opened_adds s ((x.go 1).whole s) num { kind := 91, text := 61 :: (x.go 1).wholeT s, at_ := x.i } (by
        have := whole_9 (s.drop (x.go 1).i)
        simp only [List.length_cons, Sc.wholeT, Sc.next, List.length_take]
        omega)
      obtain ⟨l, h1, h2, h3⟩ := h
      exact ⟨l, by rw [h1, whole_out]; rfl, h2, h3⟩
    · simp only
      have hT : (x.nameT s).length ≤ 16 := by
        have := named_16 (s.drop x.i)
        simp only [Sc.nameT, Sc.next, List.length_take]
        omega
      split
      · obtain ⟨l, h1, h2, h3⟩ := opened_adds s ((x.name s).fault 3 x.i) num { kind := 91, text := x.nameT s, at_ := x.i } hT
        exact ⟨l, by rw [h1, fault_out, name_out], h2, h3⟩
      · obtain ⟨l, h1, h2, h3⟩ := opened_adds s (x.name s) num { kind := 91, text := x.nameT s, at_ := x.i } hT
        exact ⟨l, by rw [h1, name_out], h2, h3⟩
theorem Adds.first {k b : Nat} {x x' y : Sc} (h : Adds k b x' y) (hx : x'.out = x.out) : Adds k b x y := by
  obtain ⟨l, h1, h2, h3⟩ := h
  exact ⟨l, by rw [h1, hx], h2, h3⟩
theorem args_adds (s : T) (x : Sc) (known : Nat) (m : Mark) (hm : m.text.length ≤ 16) : Adds 2 16 x (x.args s known m) := by
  have hy : ((x.needs s 44).blanks s).out = x.out := needs_out s x 44
  unfold Sc.args
  simp only
  generalize (x.needs s 44).blanks s = y at *
  split
  · have hu : ((((y.go 7).blanks s).whole s).blanks s).out = x.out := by
      show (Sc.whole s _).out = _
      rw [whole_out]
      exact hy
    generalize ((y.go 7).blanks s).wholeT s = wt at *
    generalize (((y.go 7).blanks s).whole s).blanks s = u at *
    exact ((Adds.put (b := 16) u { m with offset := wt } hm).trans (branch_adds s (u.put { m with offset := wt }) true)).first hu
  · exact ((Adds.put (b := 16) y { m with offset := [48] } hm).trans (branch_adds s (y.put { m with offset := [48] }) (decide (known < 3)))).first hy
theorem brace_adds (s : T) (x : Sc) : Adds 2 16 x (x.brace s) := by
  have hb : ((((x.go 1).blanks s).name s).blanks s).out = x.out := by
    show (Sc.name s _).out = _
    rw [name_out]; rfl
  unfold Sc.brace
  simp only
  generalize (((x.go 1).blanks s).name s).blanks s = b at *
  split
  · exact Adds.of hb
  · split
    · refine Adds.first (x' := b.needs s 125) ?_ (by rw [needs_out, hb])
      obtain ⟨l, h1, h2, h3⟩ := Adds.put (b := 16) (b.needs s 125) { kind := 112, name := ((x.go 1).blanks s).nameT s, at_ := x.i } (by simp)
      exact ⟨l, h1, by omega, h3⟩
    · have hc : (((b.go 1).blanks s).name s).out = x.out := by rw [name_out]; exact hb
      generalize ((b.go 1).blanks s).nameT s = how at *
      generalize ((b.go 1).blanks s).name s = d at *
      split
      · exact Adds.of (by rw [fault_out, hc])
      · split
        · refine Adds.first (x' := (d.blanks s).needs s 125) ?_ (by rw [needs_out]; exact hc)
          obtain ⟨l, h1, h2, h3⟩ := Adds.put (b := 16) ((d.blanks s).needs s 125) { kind := 110, name := ((x.go 1).blanks s).nameT s, how := how, at_ := x.i } (by simp)
          exact ⟨l, h1, by omega, h3⟩
        · exact Adds.first (args_adds s (d.blanks s) _ _ (by simp)) hc
theorem behind_adds (s : T) (x : Sc) : Adds 1 16 x (x.behind s) := by
  unfold Sc.behind
  simp only
  split
  · exact Adds.put (b := 16) _ _ (by simp)
  · exact Adds.first (branch_adds s _ _) rfl
theorem Sz.say {n : Nat} {x : Sc} (t : T) (h : Sz n x) : Sz (n + t.length + 1) (x.say t) := by
  unfold Sc.say
  split
  · exact h.mono (by omega)
  · rcases List.eq_nil_or_concat x.out with h0 | ⟨l, m, h0⟩
    · refine ⟨by simp [addText, h0], fun q hq => ?_⟩
      simp only [addText, h0, List.getLast?_nil, List.mem_singleton] at hq
      rw [hq]
      show t.length ≤ _
      omega
    · simp only [List.concat_eq_append] at h0
      have h1 := h.1
      have h2 := h.2
      rw [h0] at h1 h2
      simp only [List.length_append, List.length_singleton] at h1
      by_cases hk : m.kind = 116
      · have e : addText x.out t = l ++ [{ m with text := m.text ++ t }] := by rw [h0]; simp [addText, hk]
        refine ⟨by show (addText x.out t).length ≤ _; rw [e]; simp; omega, fun q hq => ?_⟩
        have hq' : q ∈ addText x.out t := hq
        rw [e] at hq'
        rcases List.mem_append.1 hq' with hq | hq
        · have := h2 q (List.mem_append_left _ hq); omega
        · rw [List.mem_singleton] at hq
          have := h2 m (by simp)
          rw [hq]
          simp
          omega
      · have e : addText x.out t = x.out ++ [{ kind := 116, text := t }] := by rw [h0]; simp [addText, hk]
        refine ⟨by show (addText x.out t).length ≤ _; rw [e, h0]; simp; omega, fun q hq => ?_⟩
        have hq' : q ∈ addText x.out t := hq
        rw [e] at hq'
        rcases List.mem_append.1 hq' with hq | hq
        · have := h.2 q hq; omega
        · rw [List.mem_singleton] at hq
          rw [hq]
          show t.length ≤ _
          omega
theorem say_i0 (x : Sc) (t : T) : (x.say t).i = x.i := by unfold Sc.say; split <;> rfl
theorem say_sz {n : Nat} {x : Sc} (A : T) (h : Sz (3 * x.i + n) x) : Sz (3 * ((x.say A).go A.length).i + n) ((x.say A).go A.length) := by
  by_cases hA : A = []
  · subst hA
    have : x.say [] = x := by unfold Sc.say; simp
    rw [this]
    exact h
  · have h1 : Sz (3 * x.i + n + A.length + 1) (x.say A) := h.say A
    have hl : 0 < A.length := List.length_pos_iff.2 hA
    have hi : ((x.say A).go A.length).i = x.i + A.length := by show (x.say A).i + _ = _; rw [say_i0]
    rw [hi]
    exact Sz.mono (x := (x.say A).go A.length) h1 (by omega)
theorem go_sz {n k : Nat} {x : Sc} (h : Sz (3 * x.i + n) x) : Sz (3 * (x.go k).i + n) (x.go k) := Sz.mono (x := x.go k) h (by show _ ≤ 3 * (x.i + k) + n; omega)
theorem say1_sz {n : Nat} {x : Sc} (c : UInt8) (h : Sz (3 * x.i + n) x) : Sz (3 * ((x.say [c]).go 1).i + n) ((x.say [c]).go 1) := say_sz [c] h
theorem quote_sz : ∀ (k : Nat) (x : Sc) (r : T) (n : Nat), Sz (3 * x.i + n) x → Sz (3 * (x.quoteGo k r).i + n) (x.quoteGo k r) := by
  intro k
  induction k with
  | zero => intro x r n h; exact h
  | succ k ih =>
    intro x r n h
    have h1 := say_sz (Lib.cut r [39]).1 h
    rw [Sc.quoteGo]
    simp only
    split
    · exact h1
    · split
      · split
        · exact ih _ _ _ (say1_sz 39 (go_sz h1))
        · exact go_sz h1
      · exact go_sz h1
theorem say_go1 (x : Sc) (t : T) (n : Nat) : (x.go n).say t = (x.say t).go n := by
  unfold Sc.say Sc.go
  split <;> rfl
theorem apos_sz (s : T) (x : Sc) (num : Bool) (n : Nat) (h : Sz (3 * x.i + n) x) : Sz (3 * (x.apostrophe s num).i + n) (x.apostrophe s num) := by
  unfold Sc.apostrophe
  simp only
  split
  · rw [say_go1]; exact say1_sz 39 h
  · split
    · rw [say_go1]
      have := say1_sz 39 (go_sz (k := 1) h)
      exact this
    · split
      · exact quote_sz _ _ _ _ (go_sz h)
      · rw [say_go1]; exact say1_sz 39 h
theorem adds_sz {k n : Nat} {x y : Sc} (h : Adds k 16 x y) (hx : Sz (3 * x.i + n) x) (hk : k ≤ 3) (hi : x.i + 1 ≤ y.i) (hn : 16 ≤ n) : Sz (3 * y.i + n) y := (h.sz hx (by omega)).mono (by omega)
theorem one_sz (s : T) (x : Sc) (n : Nat) (hn : 16 ≤ n) (h : Sz (3 * x.i + n) x) : Sz (3 * (x.one s).i + n) (x.one s) := by
  unfold Sc.one
  split
  · exact h
  · split
    · exact apos_sz s x _ n h
    · split
      · exact adds_sz (brace_adds s x) h (by omega) (brace_ge s x) hn
      · split
        · refine ⟨?_, ?_⟩
          · rw [fault_out, fault_i']; exact h.1
          · rw [fault_out, fault_i']; exact h.2
        · split
          · refine adds_sz (x := x) (k := 2) ?_ h (by omega) ?_ hn
            · exact (Adds.put (b := 16) (x.go 1) { kind := 93 } (by simp)).trans (behind_adds s _)
            · exact Nat.le_trans (by show x.i + 1 ≤ x.i + 1; omega) (behind_ge s ((x.go 1).put { kind := 93 }))
          · split
            · refine adds_sz (x := x) (k := 1) ?_ h (by omega) ?_ hn
              · exact Adds.put (b := 16) (x.go 1) { kind := 35 } (by simp)
              · exact Nat.le_refl _
            · rw [say_go1]; exact say1_sz _ h
theorem marksGo_sz (s : T) (n : Nat) (hn : 16 ≤ n) : ∀ (k : Nat) (x : Sc), Sz (3 * x.i + n) x → Sz (3 * (marksGo s k x).i + n) (marksGo s k x) := by
  intro k
  induction k with
  | zero => intro x h; exact h
  | succ k ih =>
    intro x h
    rw [marksGo]
    split
    · exact ih _ (one_sz s x n hn h)
    · exact h
end Go.Proofs.YtaepcfidpekflaaGreatDoor.Dk
namespace Go.Proofs.YtaepcfidpekflaaGreatDoor.Dk

def faultsFrom (l : List Mark) : Nat → Nat → Nat × Nat → Nat × Nat
  | 0, _, st => st
  | g + 1, n, st => faultsFrom l g (n + 1) ((candsAt l n).foldl upd st)
theorem faults_from (l : List Mark) : faults l = faultsFrom l l.length 0 (0, 0) := by
  have h : ∀ (g n : Nat) (st : Nat × Nat), ((List.range' n g).flatMap (candsAt l)).foldl upd st = faultsFrom l g n st := by
    intro g
    induction g with
    | zero => intro n st; rfl
    | succ g ih =>
      intro n st
      rw [List.range'_succ, List.flatMap_cons, List.foldl_append, ih]
      rfl
  rw [← h, faults, List.range_eq_range']
/-- A mark's faults on top of what was found. -/
theorem cands_some {l : List Mark} {n : Nat} {m : Mark} (h : l[n]? = some m) (st : Nat × Nat) :
    (candsAt l n).foldl upd st = if m.kind = 40 then (othC l n (brsAt l n)).foldl upd ((twGo l [] (brsAt l n)).foldl upd ((kindC (l.take n) m).foldl upd st)) else (kindC (l.take n) m).foldl upd st := by
  unfold candsAt
  rw [h]
  simp only
  split
  · rw [List.foldl_append, List.foldl_append]
  · rw [List.append_nil]
theorem kind_none {P : List Mark} {m : Mark} (h : sortM m = 0 ∨ firstK m.name P = 0) (st : Nat × Nat) : (kindC P m).foldl upd st = st := by
  unfold kindC
  rw [if_neg (fun e => h.elim e.1 e.2.1)]
  rfl
theorem kind_same {P : List Mark} {m : Mark} (h : firstK m.name P = sortM m) (st : Nat × Nat) : (kindC P m).foldl upd st = st := by
  unfold kindC
  rw [if_neg (fun e => e.2.2 h)]
  rfl
theorem kind_other {P : List Mark} {m : Mark} (h0 : sortM m ≠ 0) (h1 : firstK m.name P ≠ 0) (h2 : firstK m.name P ≠ sortM m) (st : Nat × Nat) : (kindC P m).foldl upd st = if st.1 = 0 ∨ m.at_ < st.2 then (5, m.at_) else st := by
  unfold kindC
  rw [if_pos ⟨h0, h1, h2⟩]
  rfl
theorem first_skip {n : T} {m : Mark} {r : List Mark} (h : sortM m = 0 ∨ m.name ≠ n) : firstK n (m :: r) = firstK n r := by
  rw [firstK, if_neg (fun e => h.elim e.1 (fun h => h e.2))]
theorem first_hit {n : T} {m : Mark} {r : List Mark} (h : sortM m ≠ 0) (h2 : m.name = n) : firstK n (m :: r) = sortM m := by
  rw [firstK, if_pos ⟨h, h2⟩]
theorem sort_cases (m : Mark) : sortM m = 0 ∨ sortM m = 110 ∨ sortM m = 116 := by
  unfold sortM
  split
  · exact .inr (.inl rfl)
  · split
    · exact .inr (.inr rfl)
    · exact .inl rfl
theorem brGo_lt (l : List Mark) (E : Nat) : ∀ (g n x : Nat), x ∈ brGo l E g n → x < E := by
  intro g
  induction g with
  | zero => intro n x h; cases h
  | succ g ih =>
    intro n x h
    rw [brGo] at h
    split at h
    · rcases List.mem_cons.1 h with rfl | h'
      · assumption
      · exact ih _ _ h'
    · cases h
theorem brGo_len (l : List Mark) (E : Nat) : ∀ (g n : Nat), (brGo l E g n).length ≤ g := by
  intro g
  induction g with
  | zero => intro n; exact Nat.le_refl _
  | succ g ih =>
    intro n
    rw [brGo]
    split
    · have := ih (endAt l n + 1)
      rw [List.length_cons]
      omega
    · simp
/-- The same text as one that was seen: what it adds. -/
def same (l : List Mark) (a : Nat) (seen : List Nat) : List (Nat × Nat) := (seen.filter (fun b => textAt l a = textAt l b)).map (fun _ => (7, placeAt l a))
theorem same_step (l : List Mark) (a b : Nat) (r : List Nat) (st : Nat × Nat) : (same l a (b :: r)).foldl upd st = (same l a r).foldl upd (if textAt l a = textAt l b then (if st.1 = 0 ∨ placeAt l a < st.2 then (7, placeAt l a) else st) else st) := by
  unfold same
  by_cases h : textAt l a = textAt l b
  · rw [List.filter_cons_of_pos (by simpa using h), List.map_cons, List.foldl_cons, if_pos h]
    rfl
  · rw [List.filter_cons_of_neg (by simpa using h), if_neg h]
theorem tw_step (l : List Mark) (seen : List Nat) (a : Nat) (r : List Nat) (st : Nat × Nat) : (twGo l seen (a :: r)).foldl upd st = (twGo l (seen ++ [a]) r).foldl upd ((same l a seen).foldl upd st) := by
  rw [twGo, List.foldl_append]
  rfl
end Go.Proofs.YtaepcfidpekflaaGreatDoor.Dk
namespace Go.Proofs.YtaepcfidpekflaaGreatDoor.Pg
open Go.Proofs.YtaepcfidpekflaaGreatDoor

theorem ends_in {o : Nat → Nat} : ∀ (t : Tr) (P Q : List Dk.Mark) (i : Nat) (m : Dk.Mark), P.length ≤ i → i < P.length + (flat o t).length → (P ++ (flat o t ++ Q))[i]? = some m → m.kind = 40 → Dk.endAt (P ++ (flat o t ++ Q)) i < P.length + (flat o t).length := by
  intro t
  have step : ∀ (r : Tr) (ih : ∀ (P Q : List Dk.Mark) (i : Nat) (m : Dk.Mark), P.length ≤ i → i < P.length + (flat o r).length → (P ++ (flat o r ++ Q))[i]? = some m → m.kind = 40 → Dk.endAt (P ++ (flat o r ++ Q)) i < P.length + (flat o r).length) (x : Dk.Mark) (hx : x.kind ≠ 40) (P Q : List Dk.Mark) (i : Nat) (m : Dk.Mark), P.length ≤ i → i < P.length + (x :: flat o r).length → (P ++ ((x :: flat o r) ++ Q))[i]? = some m → m.kind = 40 → Dk.endAt (P ++ ((x :: flat o r) ++ Q)) i < P.length + (x :: flat o r).length := by
    intro r ih x hx P Q i m h1 h2 h3 h4
    have e : P ++ ((x :: flat o r) ++ Q) = (P ++ [x]) ++ (flat o r ++ Q) := by simp
    by_cases hi : i = P.length
    · subst hi
      rw [List.cons_append, at_app] at h3
      injection h3 with h3
      rw [h3] at hx
      exact absurd h4 hx
    · rw [e] at h3 ⊢
      have := ih (P ++ [x]) Q i m (by simp; omega) (by simp at h2 ⊢; omega) h3 h4
      simp at this ⊢
      omega
  have open_ : ∀ (bs r : Tr) (ih1 : ∀ (P Q : List Dk.Mark) (i : Nat) (m : Dk.Mark), P.length ≤ i → i < P.length + (flat o bs).length → (P ++ (flat o bs ++ Q))[i]? = some m → m.kind = 40 → Dk.endAt (P ++ (flat o bs ++ Q)) i < P.length + (flat o bs).length) (ih2 : ∀ (P Q : List Dk.Mark) (i : Nat) (m : Dk.Mark), P.length ≤ i → i < P.length + (flat o r).length → (P ++ (flat o r ++ Q))[i]? = some m → m.kind = 40 → Dk.endAt (P ++ (flat o r ++ Q)) i < P.length + (flat o r).length) (x c : Dk.Mark) (hx : Dk.delta x = 1) (hc : Dk.delta c = -1) (hk : c.kind ≠ 40) (P Q : List Dk.Mark) (i : Nat) (m : Dk.Mark), P.length ≤ i → i < P.length + (x :: (flat o bs ++ c :: flat o r)).length → (P ++ ((x :: (flat o bs ++ c :: flat o r)) ++ Q))[i]? = some m → m.kind = 40 → Dk.endAt (P ++ ((x :: (flat o bs ++ c :: flat o r)) ++ Q)) i < P.length + (x :: (flat o bs ++ c :: flat o r)).length := by
    intro bs r ih1 ih2 x c hx hc hk P Q i m h1 h2 h3 h4
    have e0 : P ++ ((x :: (flat o bs ++ c :: flat o r)) ++ Q) = P ++ x :: (flat o bs ++ c :: (flat o r ++ Q)) := by simp
    have e1 : P ++ ((x :: (flat o bs ++ c :: flat o r)) ++ Q) = (P ++ [x]) ++ (flat o bs ++ (c :: (flat o r ++ Q))) := by simp
    have e2 : P ++ ((x :: (flat o bs ++ c :: flat o r)) ++ Q) = (P ++ x :: flat o bs) ++ ((c :: flat o r) ++ Q) := by simp
    have L : (x :: (flat o bs ++ c :: flat o r)).length = (flat o bs).length + (flat o r).length + 2 := by simp; omega
    rw [L] at h2 ⊢
    by_cases hi : i = P.length
    · subst hi
      rw [e0, endAt_open hx hc]
      omega
    · by_cases hj : i < P.length + 1 + (flat o bs).length
      · rw [e1] at h3 ⊢
        have := ih1 (P ++ [x]) _ i m (by simp; omega) (by simp; omega) h3 h4
        simp at this ⊢
        omega
      · rw [e2] at h3 ⊢
        have := step r ih2 c hk (P ++ x :: flat o bs) Q i m (by simp; omega) (by simp; omega) h3 h4
        simp at this ⊢
        omega
  induction t with
  | nil => intro P Q i m h1 h2; simp [flat] at h2; omega
  | text t r ih => exact step r ih _ (by simp)
  | sign r ih => exact step r ih _ (by simp)
  | simple n a r ih => exact step r ih _ (by simp)
  | num n a r ih => exact step r ih _ (by simp)
  | sel n a bs e r ih1 ih2 => exact open_ bs r ih1 ih2 _ _ rfl rfl (by simp)
  | plu n a ord off bs e r ih1 ih2 => exact open_ bs r ih1 ih2 _ _ rfl rfl (by simp)
  | br w a m r ih1 ih2 => exact open_ m r ih1 ih2 _ _ rfl rfl (by simp)
theorem ends_flat {o : Nat → Nat} (t : Tr) (i : Nat) (m : Dk.Mark) (h : (flat o t)[i]? = some m) (hk : m.kind = 40) : Dk.endAt (flat o t) i < (flat o t).length := by
  have hi : i < (flat o t).length := by
    rcases Nat.lt_or_ge i (flat o t).length with h' | h'
    · exact h'
    · rw [List.getElem?_eq_none h'] at h; cases h
  have := ends_in (o := o) t [] [] i m (Nat.zero_le _) (by simpa using hi) (by simpa using h) hk
  simpa using this
end Go.Proofs.YtaepcfidpekflaaGreatDoor.Pg
namespace Go.Proofs.YtaepcfidpekflaaGreatDoor.Dk
/-- The document's reading: marks, fault, its place in code points. -/
def readS (s : T) : List Mark × Nat × Nat :=
  if 1000 < s.length then ([], 1, 0)
  else if Pn.ptsLen s < s.length then ([], 2, (Pn.pts s).length)
  else if (marks s).err ≠ 0 then ([], (marks s).err, (Pn.pts (s.take (marks s).place)).length)
  else if (faults (marks s).out).1 ≠ 0 then ([], (faults (marks s).out).1, (Pn.pts (s.take (faults (marks s).out).2)).length)
  else ((marks s).out, 0, 0)
/-- What the document's reading needs of the marks. -/
def ReadOk (s : T) : Prop := s.length ≤ 1000 → Pn.ptsLen s = s.length → (marks s).place ≤ s.length ∧ ((marks s).err = 0 → (marks s).out.length ≤ 3016 ∧ (∀ i m, (marks s).out[i]? = some m → m.kind = 40 → endAt (marks s).out i < (marks s).out.length) ∧ (faults (marks s).out).2 ≤ s.length)
end Go.Proofs.YtaepcfidpekflaaGreatDoor.Dk
namespace Go.Proofs.YtaepcfidpekflaaGreatDoor
open Go.RowKit Go.Maps Pg

/-- A kind's number in the map. -/
def kz (s : Nat) : Int := if s = 110 then 1 else 2
/-- The map holds the kinds of the marks P. -/
structure KM (D : DataW Unit) (P : List Dk.Mark) : Prop where
  isMap : IsMap D
  has : ∀ x : Pg.T, Maps.has D (.string x) = decide (Dk.firstK x P ≠ 0)
  val : ∀ x : Pg.T, Dk.firstK x P ≠ 0 → ∀ z, D.atKey (.string x) z = .lit (.int .i64 (kz (Dk.firstK x P)))
theorem firstK_snoc (x : Pg.T) (P : List Dk.Mark) (m : Dk.Mark) : Dk.firstK x (P ++ [m]) = if Dk.firstK x P ≠ 0 then Dk.firstK x P else if Dk.sortM m ≠ 0 ∧ m.name = x then Dk.sortM m else 0 := by
  induction P with
  | nil => simp [Dk.firstK]
  | cons a P ih =>
    simp only [List.cons_append, Dk.firstK]
    by_cases h : Dk.sortM a ≠ 0 ∧ a.name = x
    · simp only [if_pos h]
      rw [if_pos h.1]
    · simp only [if_neg h]
      exact ih
theorem sort_cases (m : Dk.Mark) : Dk.sortM m = 0 ∨ Dk.sortM m = 110 ∨ Dk.sortM m = 116 := by
  unfold Dk.sortM
  split
  · exact .inr (.inl rfl)
  · split
    · exact .inr (.inr rfl)
    · exact .inl rfl
theorem first_cases (x : Pg.T) (P : List Dk.Mark) : Dk.firstK x P = 0 ∨ Dk.firstK x P = 110 ∨ Dk.firstK x P = 116 := by
  induction P with
  | nil => exact .inl rfl
  | cons a P ih =>
    unfold Dk.firstK
    split
    · exact sort_cases a
    · exact ih
theorem KM.none {D : DataW Unit} {P : List Dk.Mark} (h : KM D P) (m : Dk.Mark) (hm : Dk.sortM m = 0) : KM D (P ++ [m]) := by
  have e : ∀ x, Dk.firstK x (P ++ [m]) = Dk.firstK x P := fun x => by
    rw [firstK_snoc, hm]
    simp
    exact fun h => h.symm
  exact ⟨h.isMap, fun x => by rw [e]; exact h.has x, fun x hx z => by rw [e] at hx ⊢; exact h.val x hx z⟩
theorem KM.put {D : DataW Unit} {P : List Dk.Mark} (h : KM D P) (m : Dk.Mark) (hm : Dk.sortM m ≠ 0) (hk : ¬ kindBad P m) : KM (D.put (.string m.name) (.lit (.int .i64 (kz (Dk.sortM m))))) (P ++ [m]) := by
  have hk' : Dk.firstK m.name P = 0 ∨ Dk.firstK m.name P = Dk.sortM m := by
    rw [kindBad_iff] at hk
    by_cases h0 : Dk.firstK m.name P = 0
    · exact .inl h0
    · exact .inr (Classical.byContradiction fun h1 => hk ⟨h0, h1⟩)
  have key : WideAt.IsKeyLit (.string m.name) := trivial
  have e1 : Dk.firstK m.name (P ++ [m]) = Dk.sortM m := by
    rw [firstK_snoc]
    rcases hk' with h0 | h0
    · rw [h0]; simp [hm]
    · rw [h0, if_pos hm]
  have e2 : ∀ x, x ≠ m.name → Dk.firstK x (P ++ [m]) = Dk.firstK x P := fun x hx => by
    rw [firstK_snoc]
    split
    · rfl
    · rename_i h0
      rw [if_neg (fun e => hx e.2.symm)]
      simpa using (Classical.not_not.1 h0).symm
  refine ⟨h.isMap.put _ _, fun x => ?_, fun x hx z => ?_⟩
  · by_cases hx : x = m.name
    · subst hx
      rw [has_put_same h.isMap key, e1]
      simp [hm]
    · rw [has_put_other (by simpa using hx), e2 x hx]; exact h.has x
  · by_cases hx2 : x = m.name
    · subst hx2
      rw [atKey_put_same h.isMap key, e1]
    · rw [atKey_put_other (by simpa using hx2)]
      rw [e2 x hx2] at hx ⊢
      exact h.val x hx z
/-- The checker's map in its block. -/
def Kmap (w : World) (M n : Nat) (P : List Dk.Mark) : Prop := ∃ D : DataW Unit, w.ownsMap Tryz.prog 9 (plainElem Tryz.prog 362) M n D ∧ KM D P
/-- What a check answers: the fault that it meets first, or none, the marks Q being behind it then. -/
def CkSaid (M n : Nat) (r : Option (Nat × Nat)) (Q : List Dk.Mark) (w : World) (e : Ending) (w' : World) : Prop := Ag M w w' ∧ match r with
  | some (er, a) => ∃ v, e = .returned v ∧ Flt w.heap.size w' v er a
  | none => e = .returned .nilIface ∧ ∃ n', n' ≤ n ∧ Kmap w' M n' Q
theorem Kmap.ag {w w' : World} {M n g : Nat} {P : List Dk.Mark} (h : Kmap w M n P) (ha : Ag g w w') (hg : g ≠ M) : Kmap w' M n P := by
  obtain ⟨D, h1, h2⟩ := h
  exact ⟨D, h1.kept (row := some g) ⟨ha.os, ha.tape, ha.output, ha.size, fun k hk hkP => ha.block k hk (fun e => hkP (by rw [e]))⟩ (by intro e; injection e with e; exact hg e.symm), h2⟩
theorem Kmap.keep {w w' : World} {M n : Nat} {P : List Dk.Mark} (h : Kmap w M n P) (hb : Below w.heap.size w w') : Kmap w' M n P := by
  obtain ⟨D, h1, h2⟩ := h
  exact ⟨D, h1.kept (row := none) ⟨hb.os, hb.tape, hb.output, hb.size, fun k hk _ => hb.block k hk⟩ (by simp), h2⟩
theorem name_key (n : Pg.T) (h : n.length ≤ 16) : keyOf Tryz.prog 9 (.string ⟨n.toArray⟩) = some (.string n) := by
  have := WideMaps.keyOf_string_mk (P := Tryz.prog) (k := 9) Tryz.underlying9 (s := ⟨n.toArray⟩) (by show n.toArray.size ≤ _; simp [maxLen]; omega)
  simpa using this
theorem kz_ne {f s : Nat} (hf : f = 0 ∨ f = 110 ∨ f = 116) (hs : s = 0 ∨ s = 110 ∨ s = 116) (h1 : f ≠ 0) (h2 : s ≠ 0) (h : f ≠ s) : kz f ≠ kz s := by
  rcases hf with rfl | rfl | rfl
  · exact absurd rfl h1
  · rcases hs with rfl | rfl | rfl
    · exact absurd rfl h2
    · exact absurd rfl h
    · decide
  · rcases hs with rfl | rfl | rfl
    · exact absurd rfl h2
    · decide
    · exact absurd rfl h
theorem kz_wf (s : Nat) : (Lit.int .i64 (kz s)).wf = true := by
  unfold kz
  split <;> decide
set_option maxHeartbeats 3200000 in
set_option maxRecDepth 100000 in
theorem puse_any (M n a : Nat) (w : World) (P : List Dk.Mark) (m : Dk.Mark) (hm : Dk.sortM m ≠ 0) (hl : m.name.length ≤ 16) (hn : n < 1000000) (hK : Kmap w M n P) :
    Calls Tryz.prog 223 #[.agg #[.map (some M)], .agg #[.string ⟨m.name.toArray⟩, .int .i64 a], .int .i64 (kz (Dk.sortM m))] w fun e w' => CkSaid M (n + 1) (if kindBad P m then some (5, a) else none) (P ++ [m]) w e w' := by
  obtain ⟨R, HR⟩ : ∃ R : Option (Nat × Nat), Hid ((if kindBad P m then some (5, a) else none) = R) := ⟨_, rfl⟩
  rw [HR.out]
  have hb0 : Below w.heap.size w ((w.alloc (.cells #[.map (some M)] 280)).alloc (.cells #[.string ⟨m.name.toArray⟩, .int .i64 a] 189)) := (allocB _ _).alloc (by simp) _
  have hkey := name_key m.name hl
  have law : Keyed Tryz.prog 9 := string_keyed Tryz.underlying9
  obtain ⟨D, hD, hKM⟩ := hK.keep hb0
  have HZK : Hid (∀ W, (zeroValue 362).run Tryz.prog W = .ok (.int .i64 0) W) := Tryz.zeroValue362
  have HKM : Hid (KM D P) := hKM
  have HKEY : Hid (keyOf Tryz.prog 9 (.string ⟨m.name.toArray⟩) = some (.string m.name)) := hkey
  have HD : Hid (((w.alloc (.cells #[.map (some M)] 280)).alloc (.cells #[.string ⟨m.name.toArray⟩, .int .i64 a] 189)).ownsMap Tryz.prog 9 (plainElem Tryz.prog 362) M n D) := hD
  clear hK hD hKM hkey
  go_enter Tryz.func223, Tryz.ntmps223
  obtain ⟨S, HS⟩ : ∃ S, Hid (kz (Dk.sortM m) = S) := ⟨_, rfl⟩
  have HWF : Hid ((Lit.int .i64 S).wf = true) := by show _ = _; rw [← HS.out]; exact kz_wf _
  rw [HS.out]
  by_cases hf : Dk.firstK m.name P = 0
  · have hasE : Hid (Maps.has D (.string m.name) = false) := by show _ = _; rw [HKM.out.has, hf]; rfl
    have HNB : Hid (¬ kindBad P m) := fun h => (kindBad_iff.1 h).1 hf
    clear hf
    go_wp2_with (first | (at_lookup; refine wpList_lookup_own_ok_int _ rfl _ _ 278 rfl 9 362 .i64 law Tryz.underlying278 Tryz.underlying362 (HZK.out _) M n D rfl HD.out _ _ rfl HKEY.out ?_; intro c hat hwc; rw [hasE.out]) | (at_mapUpdate; refine wpList_mapUpdate_own _ rfl _ _ _ 278 rfl 9 362 law Tryz.underlying278 (plainElem (H := Unit) Tryz.prog 362) M n D rfl HD.out (by unfold maxLen; omega) _ _ _ rfl rfl HKEY.out (.lit (.int .i64 S)) [] (plainElem_int Tryz.underlying362 HWF.out) ?_; intro w3 hmap3 hgrow3))
    go_ret
    have hag : Ag M w w3 := ((Ag.of hb0 (Nat.le_refl _)).trans ⟨hgrow3.os, hgrow3.tape, hgrow3.output, hgrow3.size, fun k hk hk2 => hgrow3.block k hk (fun e => hk2 (by injection e))⟩)
    refine ⟨hag, ?_⟩
    rw [← HR.out, if_neg HNB.out]
    exact ⟨rfl, n + 1, Nat.le_refl _, _, hmap3, by rw [← HS.out]; exact HKM.out.put m hm HNB.out⟩
  · have hasE : Hid (Maps.has D (.string m.name) = true) := by show _ = _; rw [HKM.out.has]; simp [hf]
    have HVAL : Hid (∀ z, D.atKey (.string m.name) z = .lit (.int .i64 (kz (Dk.firstK m.name P)))) := HKM.out.val m.name hf
    by_cases hs : Dk.firstK m.name P = Dk.sortM m
    · have HNB : Hid (¬ kindBad P m) := fun h => (kindBad_iff.1 h).2 hs
      rw [hs, HS.out] at HVAL
      clear hf hs
      go_wp2_with (first | (at_lookup; refine wpList_lookup_own_ok_int _ rfl _ _ 278 rfl 9 362 .i64 law Tryz.underlying278 Tryz.underlying362 (HZK.out _) M n D rfl HD.out _ _ rfl HKEY.out ?_; intro c hat hwc; rw [hasE.out]; rw [HVAL.out] at hat; injection hat with hat; injection hat with _ hat; subst hat) | (at_mapUpdate; refine wpList_mapUpdate_own _ rfl _ _ _ 278 rfl 9 362 law Tryz.underlying278 (plainElem (H := Unit) Tryz.prog 362) M n D rfl HD.out (by unfold maxLen; omega) _ _ _ rfl rfl HKEY.out (.lit (.int .i64 S)) [] (plainElem_int Tryz.underlying362 HWF.out) ?_; intro w3 hmap3 hgrow3))
      go_ret
      have hag : Ag M w w3 := ((Ag.of hb0 (Nat.le_refl _)).trans ⟨hgrow3.os, hgrow3.tape, hgrow3.output, hgrow3.size, fun k hk hk2 => hgrow3.block k hk (fun e => hk2 (by injection e))⟩)
      refine ⟨hag, ?_⟩
      rw [← HR.out, if_neg HNB.out]
      exact ⟨rfl, n + 1, Nat.le_refl _, _, hmap3, by rw [← HS.out]; exact HKM.out.put m hm HNB.out⟩
    · have HB : Hid (kindBad P m) := kindBad_iff.2 ⟨hf, hs⟩
      have hne : (kz (Dk.firstK m.name P) == S) = false := by
        rw [beq_eq_false_iff_ne, ← HS.out]
        exact kz_ne (first_cases m.name P) (sort_cases m) hf hm hs
      obtain ⟨C, HCC⟩ : ∃ C, Hid (kz (Dk.firstK m.name P) = C) := ⟨_, rfl⟩
      rw [HCC.out] at HVAL hne
      have kf := fun W => pfault_any W 5 a
      clear hf hs
      go_wp2_with (first | (at_lookup; refine wpList_lookup_own_ok_int _ rfl _ _ 278 rfl 9 362 .i64 law Tryz.underlying278 Tryz.underlying362 (HZK.out _) M n D rfl HD.out _ _ rfl HKEY.out ?_; intro c hat hwc; rw [hasE.out]; rw [HVAL.out] at hat; injection hat with hat; injection hat with _ hat; subst hat) | (go_at_call 158; refine (kf _).mono ?_; rintro e w4 ⟨⟨v, rfl, hv⟩, hb4⟩))
      go_ret
      refine ⟨Ag.of (below_of hb0 hb4) (Nat.le_refl _), ?_⟩
      rw [← HR.out, if_pos HB.out]
      exact ⟨v, rfl, hv.mono (by simp; omega)⟩
end Go.Proofs.YtaepcfidpekflaaGreatDoor
namespace Go.Proofs.YtaepcfidpekflaaGreatDoor.Pg
open Go.Proofs.YtaepcfidpekflaaGreatDoor
/-- A row's first part, and what stands behind it. -/
def hd : Tr → Tr
  | .nil => .nil
  | .text t _ => .text t .nil
  | .sign _ => .sign .nil
  | .simple n a _ => .simple n a .nil
  | .num n a _ => .num n a .nil
  | .sel n a bs e _ => .sel n a bs e .nil
  | .plu n a ord off bs e _ => .plu n a ord off bs e .nil
  | .br w a m _ => .br w a m .nil
def tl : Tr → Tr
  | .nil => .nil
  | .text _ r => r
  | .sign r => r
  | .simple _ _ r => r
  | .num _ _ r => r
  | .sel _ _ _ _ r => r
  | .plu _ _ _ _ _ _ r => r
  | .br _ _ _ r => r
theorem hd_tl (t : Tr) : (hd t).app (tl t) = t := by cases t <;> rfl
theorem flat_hd (o : Nat → Nat) (t : Tr) : flat o t = flat o (hd t) ++ flat o (tl t) := by rw [← flat_app, hd_tl]
theorem vd_hd {t : Tr} (h : Vd t) : Vd (hd t) ∧ Vd (tl t) := by
  cases t with
  | nil => exact ⟨trivial, trivial⟩
  | text => exact ⟨trivial, h⟩
  | sign => exact ⟨trivial, h⟩
  | simple => exact ⟨⟨h.1, trivial⟩, h.2⟩
  | num => exact ⟨⟨h.1, trivial⟩, h.2⟩
  | sel => exact ⟨⟨h.1, h.2.1, trivial⟩, h.2.2⟩
  | plu => exact ⟨⟨h.1, h.2.1, h.2.2.1, trivial⟩, h.2.2.2⟩
  | br => exact ⟨⟨h.1, h.2.1, trivial⟩, h.2.2⟩
theorem wf_hd {k : Bool} {t : Tr} (h : Wf k t) : Wf k (hd t) ∧ Wf k (tl t) := by
  cases t with
  | nil => exact ⟨trivial, trivial⟩
  | text => exact ⟨⟨h.1, trivial⟩, by rw [h.1]; exact h.2⟩
  | sign => exact ⟨⟨h.1, trivial⟩, by rw [h.1]; exact h.2⟩
  | simple => exact ⟨⟨h.1, trivial⟩, by rw [h.1]; exact h.2⟩
  | num => exact ⟨⟨h.1, trivial⟩, by rw [h.1]; exact h.2⟩
  | sel => exact ⟨⟨h.1, h.2.1, trivial⟩, by rw [h.1]; exact h.2.2⟩
  | plu => exact ⟨⟨h.1, h.2.1, trivial⟩, by rw [h.1]; exact h.2.2⟩
  | br => exact ⟨⟨h.1, h.2.1, trivial⟩, by rw [h.1]; exact h.2.2⟩
theorem ck_hd (o : Nat → Nat) (P : List Dk.Mark) {t : Tr} (h : Wf false t) (hn : t ≠ .nil) : ck o P [] t = match ck o P [] (hd t) with | some f => some f | none => ck o (P ++ flat o (hd t)) [] (tl t) := by
  cases t with
  | nil => exact absurd rfl hn
  | text => simp [ck, hd, tl, flat]
  | sign => simp [ck, hd, tl, flat]
  | simple => simp [ck, hd, tl, flat]
  | num n a r =>
    simp only [ck, hd, tl, flat]
    have e : nodeM o (.num n a .nil) = nodeM o (.num n a r) := rfl
    rw [e]
    split <;> simp [nodeM]
  | sel n a bs e r =>
    simp only [ck, hd, tl, flat]
    have e1 : nodeM o (.sel n a bs e .nil) = nodeM o (.sel n a bs e r) := rfl
    rw [e1]
    split
    · rfl
    · split
      · rfl
      · split <;> rfl
  | plu n a ord off bs e r =>
    simp only [ck, hd, tl, flat]
    have e1 : nodeM o (.plu n a ord off bs e .nil) = nodeM o (.plu n a ord off bs e r) := rfl
    rw [e1]
    split
    · rfl
    · split
      · rfl
      · split <;> rfl
  | br => exact absurd h.1 (by simp)
end Go.Proofs.YtaepcfidpekflaaGreatDoor.Pg
namespace Go.Proofs.YtaepcfidpekflaaGreatDoor
open Go.RowKit Go.Maps Pg

theorem lay_hd {w : World} {S : Nat → Prop} {t : Pg.Tr} {u : Value} {us : List Value} (h : Lay w S t (u :: us)) (hw : Wf false t) : t ≠ .nil ∧ Lay w S (hd t) [u] ∧ Lay w S (tl t) us := by
  cases h with
  | text h => exact ⟨by simp, .text .nil, h⟩
  | sign h => exact ⟨by simp, .sign .nil, h⟩
  | simple h => exact ⟨by simp, .simple .nil, h⟩
  | num h => exact ⟨by simp, .num .nil, h⟩
  | sel hs hb h => exact ⟨by simp, .sel hs hb .nil, h⟩
  | plu hs hb h => exact ⟨by simp, .plu hs hb .nil, h⟩
  | br => exact absurd hw.1 (by simp)
theorem lay_end {w : World} {S : Nat → Prop} {t : Pg.Tr} (h : Lay w S t []) : t = .nil := by cases h; rfl
def nM (t : Pg.Tr) : Nat := (flat id t).length
/-- A row of branches is checked. -/
def CkBrs (bs : Pg.Tr) : Prop := ∀ M n w v e P, Vd bs → Wf true bs → n + nM bs ≤ 1000000 → Kmap w M n P → M < w.heap.size → RowAt w (fun g => g ≠ M) 4 v bs →
  Calls Tryz.prog 224 #[.agg #[.map (some M)], .agg #[v, .int .i64 (e : Nat)]] w fun en w' => CkSaid M (n + nM bs) (match ck id P [] bs with | some f => some f | none => if Dk.otherW ∈ keys bs then none else some (6, e)) (P ++ flat id bs) w en w'
def CkMsg (t : Pg.Tr) : Prop := ∀ M n w v P, Vd t → Wf false t → n + nM t ≤ 1000000 → Kmap w M n P → M < w.heap.size → RowAt w (fun g => g ≠ M) 1 v t →
  Calls Tryz.prog 162 #[.agg #[.map (some M)], v] w fun en w' => CkSaid M (n + nM t) (ck id P [] t) (P ++ flat id t) w en w'
def CkNode (x : Pg.Tr) : Prop := ∀ M n w u P, Vd x → Wf false x → n + nM x ≤ 1000000 → Kmap w M n P → M < w.heap.size → Lay w (fun g => g ≠ M) x [u] →
  Calls Tryz.prog 195 #[.agg #[.map (some M)], u] w fun en w' => CkSaid M (n + nM x) (ck id P [] x) (P ++ flat id x) w en w'
theorem ta_same {t xT : TypeId} {fs : Array Field} (hu : Tryz.prog.underlying t = some (.struct fs)) (v : Value) (w : World) : (Instr.typeAssert (.iface t v) xT t true).run Tryz.prog w = .ok (.tuple #[v, .bool true]) w := by
  simp [Instr.typeAssert, run_underlying hu]
theorem ta_other {t a xT : TypeId} {fs : Array Field} {z : Value} (hu : Tryz.prog.underlying a = some (.struct fs)) (hne : t ≠ a) (hz : ∀ w, (zeroValue a).run Tryz.prog w = .ok z w) (v : Value) (w : World) : (Instr.typeAssert (.iface t v) xT a true).run Tryz.prog w = .ok (.tuple #[z, .bool false]) w := by
  simp [Instr.typeAssert, run_underlying hu, hne, hz]
theorem ta_num (t : TypeId) (h : t ≠ 291) (v : Value) (w : World) : (Instr.typeAssert (.iface t v) 283 291 true).run Tryz.prog w = .ok (.tuple #[.agg #[.string ⟨#[]⟩, .int .i64 0], .bool false]) w := ta_other Tryz.underlying291 h Tryz.zeroValue291 v w
theorem ta_sel (t : TypeId) (h : t ≠ 296) (v : Value) (w : World) : (Instr.typeAssert (.iface t v) 283 296 true).run Tryz.prog w = .ok (.tuple #[.agg #[.string ⟨#[]⟩, .int .i64 0, .slice none 0 0, .int .i64 0], .bool false]) w := ta_other Tryz.underlying296 h Tryz.zeroValue296 v w
theorem ta_plu (t : TypeId) (h : t ≠ 299) (v : Value) (w : World) : (Instr.typeAssert (.iface t v) 283 299 true).run Tryz.prog w = .ok (.tuple #[.agg #[.string ⟨#[]⟩, .int .i64 0, .bool false, .int .u32 0, .slice none 0 0, .int .i64 0], .bool false]) w := ta_other Tryz.underlying299 h Tryz.zeroValue299 v w
theorem ta_num1 (v : Value) (w : World) : (Instr.typeAssert (.iface 291 v) 283 291 true).run Tryz.prog w = .ok (.tuple #[v, .bool true]) w := ta_same Tryz.underlying291 v w
theorem ta_sel1 (v : Value) (w : World) : (Instr.typeAssert (.iface 296 v) 283 296 true).run Tryz.prog w = .ok (.tuple #[v, .bool true]) w := ta_same Tryz.underlying296 v w
theorem ta_plu1 (v : Value) (w : World) : (Instr.typeAssert (.iface 299 v) 283 299 true).run Tryz.prog w = .ok (.tuple #[v, .bool true]) w := ta_same Tryz.underlying299 v w
set_option maxHeartbeats 3200000 in
set_option maxRecDepth 100000 in
theorem pnode_plain (T : TypeId) (cs : Array Value) (hT : T = 285 ∨ T = 287 ∨ T = 290) (M : Nat) (w : World) :
    Calls Tryz.prog 195 #[.agg #[.map (some M)], .iface T (.agg cs)] w fun en w' => en = .returned .nilIface ∧ Below w.heap.size w w' := by
  have hb := allocB w (.cells #[.map (some M)] 280)
  have e1 : T ≠ 291 := by rcases hT with rfl | rfl | rfl <;> decide
  have e2 : T ≠ 296 := by rcases hT with rfl | rfl | rfl <;> decide
  have e3 : T ≠ 299 := by rcases hT with rfl | rfl | rfl <;> decide
  have t1 := ta_num T e1
  have t2 := ta_sel T e2
  have t3 := ta_plu T e3
  clear hT e1 e2 e3
  go_enter Tryz.func195, Tryz.ntmps195
  go_wp2
  go_ret
  exact ⟨rfl, hb⟩
end Go.Proofs.YtaepcfidpekflaaGreatDoor
namespace Go.Proofs.YtaepcfidpekflaaGreatDoor
open Go.RowKit Go.Maps Pg

theorem CkSaid.tail {M n n' : Nat} {r : Option (Nat × Nat)} {Q : List Dk.Mark} {w w1 w' : World} {e : Ending} (h : CkSaid M n' r Q w1 e w') (ha : Ag M w w1) (hn : n' ≤ n) : CkSaid M n r Q w e w' := by
  obtain ⟨h1, h2⟩ := h
  refine ⟨ha.trans h1, ?_⟩
  cases r with
  | none =>
    obtain ⟨h3, k, hk, h4⟩ := h2
    exact ⟨h3, k, by omega, h4⟩
  | some x =>
    obtain ⟨er, a⟩ := x
    obtain ⟨v, h3, h4⟩ := h2
    exact ⟨v, h3, h4.mono ha.size⟩
theorem CkSaid.ret {M n : Nat} {r : Option (Nat × Nat)} {Q : List Dk.Mark} {w w' : World} {e : Ending} (h : CkSaid M n r Q w e w') : ∃ v, e = .returned v := by
  obtain ⟨_, h2⟩ := h
  cases r with
  | none => exact ⟨_, h2.1⟩
  | some x =>
    obtain ⟨er, a⟩ := x
    obtain ⟨v, h3, _⟩ := h2
    exact ⟨v, h3⟩
set_option maxHeartbeats 3200000 in
set_option maxRecDepth 100000 in
theorem pnode_num (M n a : Nat) (nm : Pg.T) (w : World) (P : List Dk.Mark) (hl : nm.length ≤ 16) (hn : n < 1000000) (hK : Kmap w M n P) :
    Calls Tryz.prog 195 #[.agg #[.map (some M)], .iface 291 (.agg #[.string ⟨nm.toArray⟩, .int .i64 a])] w fun en w' => CkSaid M (n + 1) (if kindBad P (nodeM id (.num nm a .nil)) then some (5, a) else none) (P ++ [nodeM id (.num nm a .nil)]) w en w' := by
  have ku := fun W (hW : Below w.heap.size w W) => puse_any M n a W P (nodeM id (.num nm a .nil)) (by show (110 : Nat) ≠ 0; decide) hl hn (hK.keep hW)
  rw [show kz (Dk.sortM (nodeM id (.num nm a .nil))) = 1 from rfl, show (nodeM id (.num nm a .nil)).name = nm from rfl] at ku
  generalize (if kindBad P (nodeM id (.num nm a .nil)) then some (5, a) else none) = R at *
  have t1 := ta_num1
  have hb1 : Below w.heap.size w ((w.alloc (.cells #[.map (some M)] 280)).alloc (.cells #[.string ⟨nm.toArray⟩, .int .i64 a] 291)) := (allocB _ _).alloc (by simp) _
  have k1 := ku _ hb1
  clear ku
  go_enter Tryz.func195, Tryz.ntmps195
  go_wp2_with fail
  refine k1.mono ?_
  intro e w2 hs
  have HS : Hid (CkSaid M (n + 1) R (P ++ [nodeM id (.num nm a .nil)]) _ e w2) := hs
  obtain ⟨v, rfl⟩ := hs.ret
  clear hs k1
  go_wp2
  go_ret
  exact HS.out.tail (Ag.of hb1 (Nat.le_refl _)) (Nat.le_refl _)
theorem sort_sel (n : Pg.T) (a : Nat) (bs : Pg.Tr) (e : Nat) (r : Pg.Tr) : Dk.sortM (nodeM id (.sel n a bs e r)) = 116 := by
  unfold Dk.sortM nodeM
  simp
theorem sort_plu (n : Pg.T) (a : Nat) (ord : Bool) (off : Pg.T) (bs : Pg.Tr) (e : Nat) (r : Pg.Tr) : Dk.sortM (nodeM id (.plu n a ord off bs e r)) = 110 := by
  unfold Dk.sortM nodeM
  rw [if_pos]
  right
  exact ⟨rfl, by cases ord <;> simp [ordinalW, pluralW, selectW]⟩
/-- Behind an argument's branches: its closing. -/
theorem CkSaid.close {M n : Nat} {r : Option (Nat × Nat)} {Q : List Dk.Mark} {w w' : World} {e : Ending} (h : CkSaid M n r Q w e w') (m : Dk.Mark) (hm : Dk.sortM m = 0) : CkSaid M (n + 1) r (Q ++ [m]) w e w' := by
  obtain ⟨h1, h2⟩ := h
  refine ⟨h1, ?_⟩
  cases r with
  | none =>
    obtain ⟨h3, k, hk, D, h4, h5⟩ := h2
    exact ⟨h3, k, by omega, D, h4, h5.none m hm⟩
  | some x => exact h2
set_option maxHeartbeats 6400000 in
set_option maxRecDepth 100000 in
theorem pnode_sel (M n a e0 : Nat) (nm : Pg.T) (bs : Pg.Tr) (v : Value) (w : World) (P : List Dk.Mark) (hB : CkBrs bs) (hl : nm.length ≤ 16) (hvd : Vd bs) (hwf : Wf true bs) (hn : n + 1 + nM bs ≤ 1000000) (hK : Kmap w M n P) (hMw : M < w.heap.size) (hrow : RowAt w (fun g => g ≠ M) 4 v bs) :
    Calls Tryz.prog 195 #[.agg #[.map (some M)], .iface 296 (.agg #[.string ⟨nm.toArray⟩, .int .i64 a, v, .int .i64 e0])] w fun en w' => CkSaid M (n + 1 + nM bs + 1) (ck id P [] (.sel nm a bs e0 .nil)) (P ++ flat id (.sel nm a bs e0 .nil)) w en w' := by
  have hs116 := sort_sel nm a bs e0 .nil
  have ku := fun W (hW : Below w.heap.size w W) => puse_any M n a W P (nodeM id (.sel nm a bs e0 .nil)) (by rw [hs116]; decide) hl (by omega) (hK.keep hW)
  rw [hs116, show kz 116 = 2 from rfl, show (nodeM id (.sel nm a bs e0 .nil)).name = nm from rfl] at ku
  have hfl : P ++ flat id (.sel nm a bs e0 .nil) = ((P ++ [nodeM id (.sel nm a bs e0 .nil)]) ++ flat id bs) ++ [{ kind := 41, at_ := e0 }] := by simp [flat, nodeM]
  rw [hfl]
  have HCK : Hid (ck id P [] (.sel nm a bs e0 .nil) = if kindBad P (nodeM id (.sel nm a bs e0 .nil)) then some (5, a) else match ck id (P ++ [nodeM id (.sel nm a bs e0 .nil)]) [] bs with | some f => some f | none => if Dk.otherW ∈ keys bs then none else some (6, e0)) := by
    show _ = _
    simp only [ck]
    rfl
  generalize ck id P [] (.sel nm a bs e0 .nil) = R at *
  have t0 := ta_num 296 (by decide)
  have t1 := ta_sel1
  obtain ⟨va, vn, vc, rfl⟩ : ∃ va vn vc, v = .slice va vn vc := by
    obtain ⟨us, h1, _⟩ := hrow
    rcases h1 with ⟨_, h1⟩ | ⟨g, n, c, h1, _⟩
    · exact ⟨_, _, _, h1⟩
    · exact ⟨_, _, _, h1⟩
  have hb1 : Below w.heap.size w ((w.alloc (.cells #[.map (some M)] 280)).alloc (.cells #[.string ⟨nm.toArray⟩, .int .i64 a, .slice va vn vc, .int .i64 e0] 296)) := (allocB _ _).alloc (by simp) _
  have rc : Row ((w.alloc (.cells #[.map (some M)] 280)).alloc (.cells #[.string ⟨nm.toArray⟩, .int .i64 a, .slice va vn vc, .int .i64 e0] 296)) w.heap.size #[.map (some M)] := (row_at w _ _).alloc _
  have rn : Row ((w.alloc (.cells #[.map (some M)] 280)).alloc (.cells #[.string ⟨nm.toArray⟩, .int .i64 a, .slice va vn vc, .int .i64 e0] 296)) (w.heap.size + 1) #[.string ⟨nm.toArray⟩, .int .i64 a, .slice va vn vc, .int .i64 e0] := by
    have := row_at (w.alloc (.cells #[.map (some M)] 280)) #[.string ⟨nm.toArray⟩, .int .i64 a, .slice va vn vc, .int .i64 e0] 296
    rw [World.size_alloc] at this
    exact this
  have k1 := ku _ hb1
  have hz1 : ((w.alloc (.cells #[.map (some M)] 280)).alloc (.cells #[.string ⟨nm.toArray⟩, .int .i64 a, .slice va vn vc, .int .i64 e0] 296)).heap.size = w.heap.size + 2 := by simp
  have hrow1 := hrow.keep hb1
  clear ku hrow
  go_enter Tryz.func195, Tryz.ntmps195
  go_wp2_with fail
  refine k1.mono ?_
  rintro e w2 ⟨ha, hm⟩
  have ha1 : Ag M w w2 := (Ag.of hb1 (Nat.le_refl _)).trans ha
  have hz2 := ha.size
  clear k1
  by_cases hkb : kindBad P (nodeM id (.sel nm a bs e0 .nil))
  · rw [if_pos hkb] at hm HCK
    obtain ⟨u, rfl, hu⟩ := hm
    have HU : Hid (Flt (w.heap.size + 2) w2 u 5 a) := by rw [hz1] at hu; exact hu
    obtain ⟨b, rfl, _⟩ := hu
    clear hkb
    go_wp2
    go_ret
    refine ⟨ha1, ?_⟩
    rw [HCK.out]
    exact ⟨_, rfl, HU.out.mono (by omega)⟩
  · rw [if_neg hkb] at hm HCK
    obtain ⟨rfl, n2, hn2, hK2⟩ := hm
    have HRC : Hid (Row w2 w.heap.size #[.map (some M)]) := rc.ag ha (by omega)
    have HRN : Hid (Row w2 (w.heap.size + 1) #[.string ⟨nm.toArray⟩, .int .i64 a, .slice va vn vc, .int .i64 e0]) := rn.ag ha (by omega)
    have kb := hB M n2 w2 (.slice va vn vc) e0 (P ++ [nodeM id (.sel nm a bs e0 .nil)]) hvd hwf (by omega) hK2 (by omega) (hrow1.ag ha (fun g hg => hg))
    have qc := HRC.out.2.1
    have qn := HRN.out.2.1
    clear hkb rc rn hK2 hrow1
    go_wp2_with fail
    refine kb.mono ?_
    intro e w3 hs
    have HS : Hid (CkSaid M (n2 + nM bs) (match ck id (P ++ [nodeM id (.sel nm a bs e0 .nil)]) [] bs with | some f => some f | none => if Dk.otherW ∈ keys bs then none else some (6, e0)) ((P ++ [nodeM id (.sel nm a bs e0 .nil)]) ++ flat id bs) w2 e w3) := hs
    obtain ⟨u, rfl⟩ := hs.ret
    clear hs kb
    go_wp2
    go_ret
    rw [HCK.out]
    exact (HS.out.close _ (by rfl)).tail ha1 (by omega)
set_option maxHeartbeats 6400000 in
set_option maxRecDepth 100000 in
theorem pnode_plu (M n a e0 : Nat) (nm : Pg.T) (ord : Bool) (off : Pg.T) (bs : Pg.Tr) (v : Value) (w : World) (P : List Dk.Mark) (hB : CkBrs bs) (hl : nm.length ≤ 16) (hvd : Vd bs) (hwf : Wf true bs) (hn : n + 1 + nM bs ≤ 1000000) (hK : Kmap w M n P) (hMw : M < w.heap.size) (hrow : RowAt w (fun g => g ≠ M) 4 v bs) :
    Calls Tryz.prog 195 #[.agg #[.map (some M)], .iface 299 (.agg #[.string ⟨nm.toArray⟩, .int .i64 a, .bool ord, .int .u32 (Pr.val off : Nat), v, .int .i64 e0])] w fun en w' => CkSaid M (n + 1 + nM bs + 1) (ck id P [] (.plu nm a ord off bs e0 .nil)) (P ++ flat id (.plu nm a ord off bs e0 .nil)) w en w' := by
  have hs110 := sort_plu nm a ord off bs e0 .nil
  have ku := fun W (hW : Below w.heap.size w W) => puse_any M n a W P (nodeM id (.plu nm a ord off bs e0 .nil)) (by rw [hs110]; decide) hl (by omega) (hK.keep hW)
  rw [hs110, show kz 110 = 1 from rfl, show (nodeM id (.plu nm a ord off bs e0 .nil)).name = nm from rfl] at ku
  have hfl : P ++ flat id (.plu nm a ord off bs e0 .nil) = ((P ++ [nodeM id (.plu nm a ord off bs e0 .nil)]) ++ flat id bs) ++ [{ kind := 41, at_ := e0 }] := by simp [flat, nodeM]
  rw [hfl]
  have HCK : Hid (ck id P [] (.plu nm a ord off bs e0 .nil) = if kindBad P (nodeM id (.plu nm a ord off bs e0 .nil)) then some (5, a) else match ck id (P ++ [nodeM id (.plu nm a ord off bs e0 .nil)]) [] bs with | some f => some f | none => if Dk.otherW ∈ keys bs then none else some (6, e0)) := by
    show _ = _
    simp only [ck]
    rfl
  generalize ck id P [] (.plu nm a ord off bs e0 .nil) = R at *
  have t0 := ta_num 299 (by decide)
  have t2 := ta_sel 299 (by decide)
  have t1 := ta_plu1
  obtain ⟨OV, hOV⟩ : ∃ OV : Nat, Hid (Pr.val off = OV) := ⟨_, rfl⟩
  rw [hOV.out]
  obtain ⟨va, vn, vc, rfl⟩ : ∃ va vn vc, v = .slice va vn vc := by
    obtain ⟨us, h1, _⟩ := hrow
    rcases h1 with ⟨_, h1⟩ | ⟨g, n, c, h1, _⟩
    · exact ⟨_, _, _, h1⟩
    · exact ⟨_, _, _, h1⟩
  have hb1 : Below w.heap.size w ((w.alloc (.cells #[.map (some M)] 280)).alloc (.cells #[.string ⟨nm.toArray⟩, .int .i64 a, .bool ord, .int .u32 OV, .slice va vn vc, .int .i64 e0] 299)) := (allocB _ _).alloc (by simp) _
  have rc : Row ((w.alloc (.cells #[.map (some M)] 280)).alloc (.cells #[.string ⟨nm.toArray⟩, .int .i64 a, .bool ord, .int .u32 OV, .slice va vn vc, .int .i64 e0] 299)) w.heap.size #[.map (some M)] := (row_at w _ _).alloc _
  have rn : Row ((w.alloc (.cells #[.map (some M)] 280)).alloc (.cells #[.string ⟨nm.toArray⟩, .int .i64 a, .bool ord, .int .u32 OV, .slice va vn vc, .int .i64 e0] 299)) (w.heap.size + 1) #[.string ⟨nm.toArray⟩, .int .i64 a, .bool ord, .int .u32 OV, .slice va vn vc, .int .i64 e0] := by
    have := row_at (w.alloc (.cells #[.map (some M)] 280)) #[.string ⟨nm.toArray⟩, .int .i64 a, .bool ord, .int .u32 OV, .slice va vn vc, .int .i64 e0] 299
    rw [World.size_alloc] at this
    exact this
  have k1 := ku _ hb1
  have hz1 : ((w.alloc (.cells #[.map (some M)] 280)).alloc (.cells #[.string ⟨nm.toArray⟩, .int .i64 a, .bool ord, .int .u32 OV, .slice va vn vc, .int .i64 e0] 299)).heap.size = w.heap.size + 2 := by simp
  have hrow1 := hrow.keep hb1
  clear ku hrow
  go_enter Tryz.func195, Tryz.ntmps195
  go_wp2_with fail
  refine k1.mono ?_
  rintro e w2 ⟨ha, hm⟩
  have ha1 : Ag M w w2 := (Ag.of hb1 (Nat.le_refl _)).trans ha
  have hz2 := ha.size
  clear k1
  by_cases hkb : kindBad P (nodeM id (.plu nm a ord off bs e0 .nil))
  · rw [if_pos hkb] at hm HCK
    obtain ⟨u, rfl, hu⟩ := hm
    have HU : Hid (Flt (w.heap.size + 2) w2 u 5 a) := by rw [hz1] at hu; exact hu
    obtain ⟨b, rfl, _⟩ := hu
    clear hkb
    go_wp2
    go_ret
    refine ⟨ha1, ?_⟩
    rw [HCK.out]
    exact ⟨_, rfl, HU.out.mono (by omega)⟩
  · rw [if_neg hkb] at hm HCK
    obtain ⟨rfl, n2, hn2, hK2⟩ := hm
    have HRC : Hid (Row w2 w.heap.size #[.map (some M)]) := rc.ag ha (by omega)
    have HRN : Hid (Row w2 (w.heap.size + 1) #[.string ⟨nm.toArray⟩, .int .i64 a, .bool ord, .int .u32 OV, .slice va vn vc, .int .i64 e0]) := rn.ag ha (by omega)
    have kb := hB M n2 w2 (.slice va vn vc) e0 (P ++ [nodeM id (.plu nm a ord off bs e0 .nil)]) hvd hwf (by omega) hK2 (by omega) (hrow1.ag ha (fun g hg => hg))
    have qc := HRC.out.2.1
    have qn := HRN.out.2.1
    clear hkb rc rn hK2 hrow1
    go_wp2_with fail
    refine kb.mono ?_
    intro e w3 hs
    have HS : Hid (CkSaid M (n2 + nM bs) (match ck id (P ++ [nodeM id (.plu nm a ord off bs e0 .nil)]) [] bs with | some f => some f | none => if Dk.otherW ∈ keys bs then none else some (6, e0)) ((P ++ [nodeM id (.plu nm a ord off bs e0 .nil)]) ++ flat id bs) w2 e w3) := hs
    obtain ⟨u, rfl⟩ := hs.ret
    clear hs kb
    go_wp2
    go_ret
    rw [HCK.out]
    exact (HS.out.close _ (by rfl)).tail ha1 (by omega)
end Go.Proofs.YtaepcfidpekflaaGreatDoor
