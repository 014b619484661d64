/-
  Several texts in one (Kt, Ku, Kv, Kw). By the verifier.
-/
import Derived.Test.YtaepcfidpekflaaGreatDoorU05
namespace Go.Proofs.YtaepcfidpekflaaGreatDoor.Pg
open Go.Proofs.YtaepcfidpekflaaGreatDoor

theorem cut39_at (A B : List UInt8) (h : 39 ∉ A) : Lib.cut (A ++ 39 :: B) [39] = (A, B, true) := by
  rw [cut_at39 (A ++ 39 :: B) A.length (by simp) (fun j hj hlt e => h (by rw [← e, List.getElem_append_left hlt]; exact List.getElem_mem hlt)) (by simp)]
  simp
theorem cut39_no (A : List UInt8) (h : 39 ∉ A) : Lib.cut A [39] = (A, [], false) := cut_end39 A fun j hj e => h (by rw [← e]; exact List.getElem_mem hj)
/-- Steps of the scan. -/
inductive Reach (s : T) : Dk.Sc → Dk.Sc → Prop
  | refl (x) : Reach s x x
  | step {x y} (h : x.err = 0) (h2 : x.i < s.length) (r : Reach s (x.one s) y) : Reach s x y
theorem Reach.trans {s : T} {x y z : Dk.Sc} (h : Reach s x y) (h2 : Reach s y z) : Reach s x z := by
  induction h with
  | refl => exact h2
  | step a b _ ih => exact .step a b (ih h2)
theorem say_say (x : Dk.Sc) (a b : T) : (x.say a).say b = x.say (a ++ b) := by
  unfold Dk.Sc.say
  by_cases ha : a = []
  · rw [if_pos ha, ha]
    rfl
  · rw [if_neg ha]
    by_cases hb : b = []
    · rw [if_pos hb, hb, List.append_nil, if_neg ha]
    · rw [if_neg hb, if_neg (by simp [ha])]
      simp only
      congr 1
      unfold Dk.addText
      rcases List.eq_nil_or_concat x.out with h0 | ⟨l, m, h0⟩
      · simp [h0]
      · simp only [List.concat_eq_append] at h0
        rw [h0]
        by_cases hk : m.kind = 116
        · simp [hk]
        · simp [hk]
theorem say_nil (x : Dk.Sc) : x.say [] = x := by
  unfold Dk.Sc.say; rw [if_pos rfl]
theorem say_go (x : Dk.Sc) (a : T) (n : Nat) : (x.say a).go n = (x.go n).say a := by
  unfold Dk.Sc.say Dk.Sc.go
  split <;> rfl
theorem say_with (x : Dk.Sc) (a : T) (n : Nat) : ({ x.say a with i := n } : Dk.Sc) = ({ x with i := n } : Dk.Sc).say a := by
  unfold Dk.Sc.say
  split <;> rfl
theorem say_same (x : Dk.Sc) (a : T) : (x.say a).i = x.i ∧ (x.say a).opens = x.opens ∧ (x.say a).err = x.err ∧ (x.say a).place = x.place := by
  unfold Dk.Sc.say
  split <;> exact ⟨rfl, rfl, rfl, rfl⟩
theorem byNumber_say (x : Dk.Sc) (a : T) : (x.say a).byNumber = x.byNumber := by
  unfold Dk.Sc.byNumber; rw [(say_same x a).2.1]
/-- A byte that stands for itself. -/
theorem one_plain {s : T} {x : Dk.Sc} {c : UInt8} (h : s[x.i]? = some c) (h1 : c ≠ 39) (h2 : c ≠ 123) (h3 : c ≠ 125) (h4 : ¬ (c = 35 ∧ x.byNumber = true)) : x.one s = (x.go 1).say [c] := by
  unfold Dk.Sc.one
  rw [h]
  simp only
  rw [if_neg h1, if_neg h2, if_neg (fun h => h3 h.1), if_neg h3, if_neg h4]
theorem lt_of_some {α : Type} {s : List α} {i : Nat} {c : α} (h : s[i]? = some c) : i < s.length := by
  rcases Nat.lt_or_ge i s.length with h' | h'
  · exact h'
  · rw [List.getElem?_eq_none h'] at h; cases h
theorem reach_bytes {s : T} : ∀ (c : T) (x : Dk.Sc) (r : T), s.drop x.i = c ++ r → x.err = 0 → (∀ b ∈ c, 128 ≤ b.toNat) → Reach s x ((x.go c.length).say c) := by
  intro c
  induction c with
  | nil => intro x r _ _ _; rw [say_nil]; exact .refl _
  | cons b c ih =>
    intro x r h he hb
    have hg : s[x.i]? = some b := by
      have := congrArg List.head? h
      rw [List.head?_drop] at this
      simpa using this
    have hb0 := hb b (by simp)
    have h1 := one_plain (x := x) hg (by rintro rfl; simp at hb0) (by rintro rfl; simp at hb0) (by rintro rfl; simp at hb0) (by rintro ⟨rfl, _⟩; simp at hb0)
    refine .step he (lt_of_some hg) ?_
    rw [h1]
    have hd : s.drop (x.i + 1) = c ++ r := by
      rw [← List.drop_drop, h]
      rfl
    have := ih ((x.go 1).say [b]) r (by rw [(say_same _ _).1]; exact hd) (by rw [(say_same _ _).2.2.1]; exact he) (fun b' hb' => hb b' (by simp [hb']))
    rw [say_go, say_say] at this
    simp only [List.length_cons, Dk.Sc.go] at this ⊢
    rw [show x.i + (c.length + 1) = x.i + 1 + c.length by omega]
    exact this
theorem reach_cp {rs : List T} (hc : Cps rs) {x : Dk.Sc} {p : Nat} {c : T} (hi : x.i = o rs p) (he : x.err = 0) (h : rs[p]? = some c) (h1 : c ≠ [39]) (h2 : spec x.byNumber c = false) : Reach rs.flatten x (({ x with i := o rs (p + 1) } : Dk.Sc).say c) := by
  have hlt := lt_of_some h
  have hdrop : rs.drop p = c :: rs.drop (p + 1) := by
    rw [List.drop_eq_getElem_cons hlt]
    rw [List.getElem?_eq_getElem hlt] at h
    injection h with h
    rw [h]
  rcases hc c (List.mem_of_getElem? h) with ⟨b, rfl, hb⟩ | ⟨h3, h4⟩
  · have hg := (at_one hc p b hb).2 h
    rw [← hi] at hg
    have hs : ¬ b = 123 ∧ ¬ b = 125 ∧ ¬ (b = 35 ∧ x.byNumber = true) := by
      unfold spec at h2
      simp only [Bool.or_eq_false_iff, beq_eq_false_iff_ne, Bool.and_eq_false_iff, ne_eq, List.cons.injEq, and_true] at h2
      refine ⟨h2.1.1, h2.1.2, fun h => ?_⟩
      rcases h2.2 with h' | h'
      · exact h' h.1
      · rw [h.2] at h'; cases h'
    have h5 := one_plain (x := x) hg (by rintro rfl; exact h1 rfl) hs.1 hs.2.1 hs.2.2
    refine .step he (lt_of_some hg) ?_
    rw [h5, o_succ h, ← hi]
    exact .refl _
  · have := reach_bytes (s := rs.flatten) c x (rs.drop (p + 1)).flatten (by rw [hi, drop_o, hdrop]; rfl) he h4
    rw [o_succ h, ← hi]
    exact this
theorem saidGo_ne (num q : Bool) (c : T) (r : List T) (h : ¬ (q = false ∧ spec num c = true)) (h1 : c ≠ [39]) : saidGo num q (c :: r) = (c ++ (saidGo num q r).1, (saidGo num q r).2 + 1) := by
  rw [saidGo.eq_def]
  simp only
  rw [if_neg h, if_pos h1]
theorem saidGo_stop (num : Bool) (c : T) (r : List T) (h : spec num c = true) : saidGo num false (c :: r) = ([], 0) := by
  rw [saidGo.eq_def]
  simp only
  rw [if_pos (by simp [h])]
theorem saidGo_two (num q : Bool) (r : List T) : saidGo num q ([39] :: [39] :: r) = (39 :: (saidGo num q r).1, (saidGo num q r).2 + 2) := by
  rw [saidGo.eq_def]
  simp only
  rw [if_neg (by simp [spec]), if_neg (by simp), if_pos (by simp)]
theorem saidGo_quote (num q : Bool) (d : T) (r : List T) (hd : d ≠ [39]) (h : q = true ∨ spec num d = true) : saidGo num q ([39] :: d :: r) = ((saidGo num (!q) (d :: r)).1, (saidGo num (!q) (d :: r)).2 + 1) := by
  conv => lhs; rw [saidGo.eq_def]
  simp only
  rw [if_neg (by simp [spec]), if_neg (by simp), if_neg hd, if_pos h]
theorem saidGo_one (num : Bool) (d : T) (r : List T) (hd : d ≠ [39]) (h : spec num d = false) : saidGo num false ([39] :: d :: r) = (39 :: (saidGo num false (d :: r)).1, (saidGo num false (d :: r)).2 + 1) := by
  conv => lhs; rw [saidGo.eq_def]
  simp only
  rw [if_neg (by simp [spec]), if_neg (by simp), if_neg hd, if_neg (by simp [h])]
theorem said_quoted (num : Bool) : ∀ (A D : List T), (∀ c ∈ A, c ≠ [39]) → saidGo num true (A ++ D) = (A.flatten ++ (saidGo num true D).1, (saidGo num true D).2 + A.length) := by
  intro A
  induction A with
  | nil => intro D _; rfl
  | cons c A ih =>
    intro D h
    have h1 := ih D (fun c hc => h c (by simp [hc]))
    rw [List.cons_append, saidGo_ne num true c _ (by simp) (h c (by simp)), h1]
    simp only [List.flatten_cons, List.append_assoc, List.length_cons, Prod.mk.injEq, true_and]
    omega
theorem no39 {A : List T} (hc : Cps A) (h : ∀ c ∈ A, c ≠ [39]) : 39 ∉ A.flatten := by
  intro hm
  obtain ⟨c, h1, h2⟩ := List.mem_flatten.1 hm
  rcases hc c h1 with ⟨b, rfl, hb⟩ | ⟨h3, h4⟩
  · have : 39 = b := by simpa using h2
    exact h _ h1 (by rw [this])
  · have := h4 39 h2
    simp at this
theorem split39 : ∀ (L : List T), ∃ A D, L = A ++ D ∧ (∀ c ∈ A, c ≠ [39]) ∧ (D = [] ∨ ∃ D', D = [39] :: D') := by
  intro L
  induction L with
  | nil => exact ⟨[], [], rfl, by simp, .inl rfl⟩
  | cons c L ih =>
    by_cases h : c = [39]
    · exact ⟨[], c :: L, rfl, by simp, .inr ⟨L, by rw [h]⟩⟩
    · obtain ⟨A, D, h1, h2, h3⟩ := ih
      refine ⟨c :: A, D, by rw [h1]; rfl, ?_, h3⟩
      intro d hd
      rcases List.mem_cons.1 hd with rfl | hd
      · exact h
      · exact h2 d hd
/-- Within a quote, up to its end. -/
theorem quote_o (num : Bool) : ∀ (k : Nat) (L : List T) (z : Dk.Sc), Cps L → L.flatten.length < k →
    ∃ n t, n ≤ L.length ∧ z.quoteGo k L.flatten = (z.go (L.take n).flatten.length).say t ∧ saidGo num true L = (t ++ (saidGo num false (L.drop n)).1, (saidGo num false (L.drop n)).2 + n) := by
  intro k
  induction k with
  | zero => intro L z _ h; omega
  | succ k ih =>
    intro L z hc hk
    obtain ⟨A, D, rfl, hA, hD⟩ := split39 L
    have hcA : Cps A := fun c h => hc c (by simp [h])
    have hn := no39 hcA hA
    have hq := said_quoted num A D hA
    rcases hD with rfl | ⟨D', rfl⟩
    · refine ⟨A.length, A.flatten, by simp, ?_, ?_⟩
      · rw [Dk.Sc.quoteGo]
        simp only [List.append_nil, List.take_length, cut39_no _ hn, if_true]
        rw [say_go]
      · rw [hq]
        simp [saidGo]
    · have hcut : Lib.cut (A ++ [39] :: D').flatten [39] = (A.flatten, D'.flatten, true) := by
        rw [List.flatten_append, List.flatten_cons]
        exact cut39_at _ _ hn
      have hcD : Cps D' := fun c h => hc c (by simp [h])
      have hlen : (A ++ [39] :: D').flatten.length = A.flatten.length + 1 + D'.flatten.length := by simp; omega
      rw [Dk.Sc.quoteGo, hcut]
      simp only [Bool.true_eq_false, if_false]
      cases D' with
      | nil =>
        refine ⟨A.length + 1, A.flatten, by simp, ?_, ?_⟩
        · have ht : (A ++ [[39]]).take (A.length + 1) = A ++ [[39]] := List.take_of_length_le (by simp)
          rw [ht]
          simp only [List.flatten_nil]
          rw [say_go, say_go, List.flatten_append, List.length_append]
          simp [Dk.Sc.go, Nat.add_assoc]
        · rw [hq]
          simp [saidGo, Nat.add_comm]
      | cons d D'' =>
        by_cases hd : d = [39]
        · subst hd
          simp only [List.flatten_cons, List.cons_append, List.nil_append, if_true]
          obtain ⟨n, t, h0, h1, h2⟩ := ih D'' ((((z.say A.flatten).go A.flatten.length).go 1).say [39] |>.go 1) (fun c h => hcD c (by simp [h])) (by simp at hlen hk ⊢; omega)
          refine ⟨A.length + 2 + n, A.flatten ++ 39 :: t, by simp; omega, ?_, ?_⟩
          · rw [h1]
            have ht : (A ++ [39] :: [39] :: D'').take (A.length + 2 + n) = A ++ [39] :: [39] :: D''.take n := by
              rw [show A.length + 2 + n = A.length + (n + 2) by omega, List.take_length_add_append]
              rfl
            rw [ht]
            simp only [say_go, say_say]
            have e : ((((z.go A.flatten.length).go 1).go 1).go (D''.take n).flatten.length) = z.go (A ++ [39] :: [39] :: D''.take n).flatten.length := by
              simp only [Dk.Sc.go, List.flatten_append, List.flatten_cons, List.length_append, List.length_cons, List.length_nil]
              congr 1
              omega
            rw [e]
            congr 1
            simp
          · have hdr : (A ++ [39] :: [39] :: D'').drop (A.length + 2 + n) = D''.drop n := by
              rw [show A.length + 2 + n = A.length + (n + 2) by omega, List.drop_length_add_append]
              rfl
            rw [hq, hdr, saidGo_two]
            simp only [h2, List.append_assoc, List.cons_append, Prod.mk.injEq, true_and]
            omega
        · have hne : ∀ r, (d :: D'').flatten ≠ 39 :: r := by
            intro r h
            rcases hcD d (by simp) with ⟨b, rfl, hb⟩ | ⟨h3, h4⟩
            · have : b = 39 := by simpa using congrArg List.head? h
              exact hd (by rw [this])
            · cases d with
              | nil => simp at h3
              | cons b d =>
                have : b = 39 := by simpa using congrArg List.head? h
                have := h4 b (by simp)
                subst b
                simp at this
          refine ⟨A.length + 1, A.flatten, by simp, ?_, ?_⟩
          · have ht : (A ++ [39] :: d :: D'').take (A.length + 1) = A ++ [[39]] := by
              rw [List.take_length_add_append]
              rfl
            rw [ht]
            have e : ((z.say A.flatten).go A.flatten.length).go 1 = (z.go (A ++ [[39]]).flatten.length).say A.flatten := by
              rw [say_go, say_go]
              simp [Dk.Sc.go, Nat.add_assoc]
            rw [← e]
            cases hf : (d :: D'').flatten with
            | nil => rfl
            | cons b r =>
              simp only
              rw [if_neg (fun h => hne r (by rw [hf, h]))]
          · have hdr : (A ++ [39] :: d :: D'').drop (A.length + 1) = d :: D'' := by
              rw [List.drop_length_add_append]
              rfl
            rw [hq, hdr, saidGo_quote num true d D'' hd (.inl rfl)]
            simp only [Bool.not_true, Prod.mk.injEq, true_and]
            omega
end Go.Proofs.YtaepcfidpekflaaGreatDoor.Pg
namespace Go.Proofs.YtaepcfidpekflaaGreatDoor.Pg
open Go.Proofs.YtaepcfidpekflaaGreatDoor

theorem drop_cons {rs : List T} {p : Nat} {c : T} {r : List T} (h : rs.drop p = c :: r) : rs[p]? = some c ∧ rs.drop (p + 1) = r := by
  constructor
  · have := congrArg List.head? h
    rw [List.head?_drop] at this
    simpa using this
  · rw [← List.drop_drop, h]
    rfl
theorem one_quote {rs : List T} (hc : Cps rs) {x : Dk.Sc} {p : Nat} (hi : x.i = o rs p) (h : rs[p]? = some [39]) : x.one rs.flatten = x.apostrophe rs.flatten x.byNumber := by
  have hg := (at_one hc p 39 (by decide)).2 h
  rw [← hi] at hg
  unfold Dk.Sc.one
  rw [hg]
  simp
theorem spec_head (num : Bool) (b : UInt8) : spec num [b] = true ↔ (b = 123 ∨ b = 125 ∨ b = 35 ∧ num = true) := by
  unfold spec
  simp [or_assoc]
/-- What stands for itself is passed and said. -/
theorem said_o {rs : List T} (hc : Cps rs) (num : Bool) : ∀ (n p : Nat) (x : Dk.Sc), (rs.drop p).length < n → x.i = o rs p → x.err = 0 → x.byNumber = num →
    Reach rs.flatten x (({ x with i := o rs (p + (saidGo num false (rs.drop p)).2) } : Dk.Sc).say (saidGo num false (rs.drop p)).1) := by
  intro n
  induction n with
  | zero => intro p x h; omega
  | succ n ih =>
    intro p x hn hi he hnum
    cases hd : rs.drop p with
    | nil =>
      simp only [saidGo, say_nil, Nat.add_zero]
      rw [← hi]
      exact .refl _
    | cons c r =>
      obtain ⟨hp, hr⟩ := drop_cons hd
      rw [hd] at hn
      simp only [List.length_cons] at hn
      by_cases hs : spec num c = true
      · rw [saidGo_stop num c r hs]
        simp only [say_nil, Nat.add_zero]
        rw [← hi]
        exact .refl _
      have hs' : spec num c = false := by simpa using hs
      by_cases h39 : c = [39]
      · subst h39
        have h1 := one_quote hc hi hp
        have hlt := o_lt hc hp
        refine .step he (by rw [hi]; exact hlt) ?_
        rw [h1, hnum]
        have hg : x.go 1 = { x with i := o rs (p + 1) } := by rw [Dk.Sc.go, o_succ hp, hi]; rfl
        unfold Dk.Sc.apostrophe
        simp only
        rw [hg]
        simp only
        rw [drop_o, hr]
        cases r with
        | nil =>
          simp only [List.flatten_nil]
          rw [saidGo.eq_def]
          simp [spec]
          exact .refl _
        | cons d r' =>
          obtain ⟨hp2, hr2⟩ := drop_cons hr
          have hcd : Cp d := hc d (List.mem_of_getElem? hp2)
          have hcr : Cps (d :: r') := fun c' h' => hc c' (List.mem_of_mem_drop (i := p + 1) (by rw [hr]; exact h'))
          simp only [List.length_cons] at hn
          by_cases hd39 : d = [39]
          · subst hd39
            simp only [List.flatten_cons, List.cons_append, List.nil_append, if_true]
            rw [saidGo_two]
            have hg2 : (({ x with i := o rs (p + 1) } : Dk.Sc).go 1) = { x with i := o rs (p + 2) } := by
              rw [Dk.Sc.go, show p + 2 = p + 1 + 1 from rfl, o_succ hp2]; rfl
            rw [hg2]
            have := ih (p + 2) (({ x with i := o rs (p + 2) } : Dk.Sc).say [39]) (by rw [hr2]; omega) (say_same _ _).1 (by rw [(say_same _ _).2.2.1]; exact he) (by rw [byNumber_say]; exact hnum)
            rw [hr2, say_with, say_say] at this
            simp only [List.cons_append, List.nil_append] at this ⊢
            rw [show p + ((saidGo num false r').2 + 2) = p + 2 + (saidGo num false r').2 by omega]
            exact this
          · obtain ⟨b, db, hdb⟩ : ∃ b db, d = b :: db := by
              cases d with
              | nil => exact absurd rfl hcd.ne
              | cons b db => exact ⟨b, db, rfl⟩
            have hb39 : b ≠ 39 := by
              rintro rfl
              rcases hcd with ⟨b', e, _⟩ | ⟨_, h4⟩
              · rw [hdb] at e
                injection e with e1 e2
                exact hd39 (by rw [hdb, e2])
              · have := h4 39 (by rw [hdb]; simp)
                simp at this
            have hfl : (d :: r').flatten = b :: (db ++ r'.flatten) := by rw [hdb]; rfl
            by_cases hsp : spec num d = true
            · rw [saidGo_quote num false d r' hd39 (.inr hsp)]
              have hdb1 : d = [b] := by
                unfold spec at hsp
                simp only [Bool.or_eq_true, beq_iff_eq, Bool.and_eq_true] at hsp
                rcases hsp with (h | h) | ⟨h, _⟩ <;> · rw [h] at hdb ⊢; injection hdb with h1 h2; rw [h1]
              have hb := (spec_head num b).1 (by rw [← hdb1]; exact hsp)
              have hfl' : (d :: r').flatten = b :: r'.flatten := by rw [hdb1]; rfl
              rw [hfl']
              simp only
              rw [if_neg hb39, if_pos hb]
              obtain ⟨m, t, q0, q1, q2⟩ := quote_o num (r'.flatten.length + 2) (d :: r') { x with i := o rs (p + 1) } hcr (by rw [hfl']; simp)
              rw [hfl'] at q1
              rw [q1]
              simp only [Bool.not_false]
              rw [q2]
              have hom : o rs (p + 1) + ((d :: r').take m).flatten.length = o rs (p + 1 + m) := by
                have e : rs.take (p + 1 + m) = rs.take (p + 1) ++ (rs.drop (p + 1)).take m := List.take_add
                unfold o
                rw [e, List.flatten_append, List.length_append, hr]
              have hgo : (({ x with i := o rs (p + 1) } : Dk.Sc).go ((d :: r').take m).flatten.length) = { x with i := o rs (p + 1 + m) } := by
                rw [Dk.Sc.go, ← hom]
              rw [hgo]
              have hdm : rs.drop (p + 1 + m) = (d :: r').drop m := by rw [← List.drop_drop, hr]
              have := ih (p + 1 + m) (({ x with i := o rs (p + 1 + m) } : Dk.Sc).say t) (by rw [hdm]; simp; omega) (say_same _ _).1 (by rw [(say_same _ _).2.2.1]; exact he) (by rw [byNumber_say]; exact hnum)
              rw [hdm, say_with, say_say] at this
              simp only at this ⊢
              rw [show p + ((saidGo num false ((d :: r').drop m)).2 + m + 1) = p + 1 + m + (saidGo num false ((d :: r').drop m)).2 by omega]
              exact this
            · have hsp' : spec num d = false := by simpa using hsp
              rw [saidGo_one num d r' hd39 hsp', hfl]
              simp only
              have hnb : ¬ (b = 123 ∨ b = 125 ∨ b = 35 ∧ num = true) := by
                intro hb
                rcases hcd with ⟨b', e, _⟩ | ⟨_, h4⟩
                · rw [hdb] at e
                  injection e with e1 e2
                  exact hsp (by rw [hdb, e2]; exact (spec_head num b).2 hb)
                · have := h4 b (by rw [hdb]; simp)
                  rcases hb with rfl | rfl | ⟨rfl, _⟩ <;> simp at this
              rw [if_neg hb39, if_neg hnb]
              have := ih (p + 1) (({ x with i := o rs (p + 1) } : Dk.Sc).say [39]) (by rw [hr]; simp; omega) (say_same _ _).1 (by rw [(say_same _ _).2.2.1]; exact he) (by rw [byNumber_say]; exact hnum)
              rw [hr, say_with, say_say] at this
              simp only [List.cons_append, List.nil_append] at this ⊢
              rw [show p + ((saidGo num false (d :: r')).2 + 1) = p + 1 + (saidGo num false (d :: r')).2 by omega]
              exact this
      · rw [saidGo_ne num false c r (by simp [hs']) h39]
        have h1 := reach_cp hc hi he hp h39 (by rw [hnum]; exact hs')
        refine h1.trans ?_
        have := ih (p + 1) (({ x with i := o rs (p + 1) } : Dk.Sc).say c) (by rw [hr]; omega) (say_same _ _).1 (by rw [(say_same _ _).2.2.1]; exact he) (by rw [byNumber_say]; exact hnum)
        rw [hr, say_with, say_say] at this
        simp only at this ⊢
        rw [show p + ((saidGo num false r).2 + 1) = p + 1 + (saidGo num false r).2 by omega]
        exact this
theorem said_end (num : Bool) : ∀ (n : Nat) (L : List T) (q : Bool), L.length < n → ∀ c, L[(saidGo num q L).2]? = some c → spec num c = true := by
  intro n
  induction n with
  | zero => intro L q h; omega
  | succ n ih =>
    intro L q hn c hc
    cases L with
    | nil => simp at hc
    | cons d r =>
      simp only [List.length_cons] at hn
      by_cases h0 : q = false ∧ spec num d = true
      · rw [h0.1, saidGo_stop num d r h0.2] at hc
        simp at hc
        rw [← hc]
        exact h0.2
      by_cases h39 : d = [39]
      · subst h39
        cases r with
        | nil =>
          rw [saidGo.eq_def] at hc
          simp only at hc
          rw [if_neg h0, if_neg (by simp)] at hc
          split at hc <;> simp at hc
        | cons e r =>
          simp only [List.length_cons] at hn
          by_cases he : e = [39]
          · subst he
            rw [saidGo_two] at hc
            exact ih r q (by omega) c (by simpa using hc)
          · by_cases hs : q = true ∨ spec num e = true
            · rw [saidGo_quote num q e r he hs] at hc
              exact ih (e :: r) (!q) (by simp; omega) c (by simpa using hc)
            · have hq : q = false := by cases q with | false => rfl | true => exact absurd (.inl rfl) hs
              have hs' : spec num e = false := by
                cases h : spec num e with
                | false => rfl
                | true => exact absurd (.inr h) hs
              subst hq
              rw [saidGo_one num e r he hs'] at hc
              exact ih (e :: r) false (by simp; omega) c (by simpa using hc)
      · rw [saidGo_ne num q d r h0 h39] at hc
        exact ih r q (by omega) c (by simpa using hc)
theorem said_ne (num : Bool) (c : T) (r : List T) (hc : Cps (c :: r)) (hs : spec num c = false) : (saidGo num false (c :: r)).1 ≠ [] := by
  by_cases h39 : c = [39]
  · subst h39
    cases r with
    | nil => rw [saidGo.eq_def]; simp [spec]
    | cons d r =>
      by_cases hd : d = [39]
      · subst hd
        rw [saidGo_two]
        simp
      · by_cases hsp : spec num d = true
        · rw [saidGo_quote num false d r hd (.inr hsp)]
          simp only [Bool.not_false]
          rw [saidGo_ne num true d r (by simp) hd]
          have := (hc d (by simp)).ne
          simp [this]
        · rw [saidGo_one num d r hd (by simpa using hsp)]
          simp
  · rw [saidGo_ne num false c r (by simp [hs]) h39]
    have := (hc c (by simp)).ne
    simp [this]
/-- The scan comes to a fault. -/
def Ends (s : T) (x : Dk.Sc) (e a : Nat) : Prop := ∃ y, Reach s x y ∧ (Bad y e a ∨ y.err = 0 ∧ y.i = s.length ∧ y.opens ≠ [] ∧ e = 3 ∧ a = s.length)
theorem Ends.bad {s : T} {x : Dk.Sc} {e a : Nat} (h : Bad x e a) : Ends s x e a := ⟨x, .refl _, .inl h⟩
theorem Ends.after {s : T} {x y : Dk.Sc} {e a : Nat} (h : Reach s x y) (h2 : Ends s y e a) : Ends s x e a := by
  obtain ⟨z, h3, h4⟩ := h2
  exact ⟨z, h.trans h3, h4⟩
/-- What a branch's end is followed by. -/
def beh (s : T) (z : Dk.Sc) (num first : Bool) : Dk.Sc :=
  if first = true then (z.blanks s).branch s num
  else if s[(z.blanks s).i]? = some 125 then ((z.blanks s).put { kind := 41, at_ := (z.blanks s).i }).go 1 else (z.blanks s).branch s num
/-- The last mark is no text, or what stands next is none. -/
def Nt (rs : List T) (num : Bool) (x : Dk.Sc) (p : Nat) : Prop := (∃ m, x.out.getLast? = some m ∧ m.kind = 116) → ∀ c, rs[p]? = some c → spec num c = true
def Good (rs : List T) : Mode → Nat → Res → Prop
  | .msg d num, p, res => ∀ x : Dk.Sc, x.i = o rs p → x.err = 0 → x.opens.length + 1 = d → x.byNumber = num → Nt rs num x p → match res with
    | .ok t q => Reach rs.flatten x { x with i := o rs q, out := x.out ++ flat (o rs) t } ∧ (rs[q]? = none ∨ rs[q]? = some [125])
    | .okB _ _ _ => True
    | .bad e a => Ends rs.flatten x e (o rs a)
  | .arg d, p, res => ∀ x : Dk.Sc, x.i = o rs p → x.err = 0 → x.opens.length + 1 = d → rs[p]? = some [123] → match res with
    | .ok t q => Reach rs.flatten x { x with i := o rs q, out := x.out ++ flat (o rs) t } ∧ ∃ m, (flat (o rs) t).getLast? = some m ∧ m.kind ≠ 116
    | .okB _ _ _ => True
    | .bad e a => Ends rs.flatten x e (o rs a)
  | .brs d num first, p, res => ∀ z : Dk.Sc, z.i = o rs p → z.err = 0 → z.opens.length + 1 = d → match res with
    | .okB t e q => Reach rs.flatten (beh rs.flatten z num first) { z with i := o rs q, out := z.out ++ flat (o rs) t ++ [{ kind := 41, at_ := o rs e }] }
    | .ok _ _ => False
    | .bad e a => Ends rs.flatten (beh rs.flatten z num first) e (o rs a)
theorem beh_o {rs : List T} (hc : Cps rs) {z : Dk.Sc} {p : Nat} (hi : z.i = o rs p) (num first : Bool) (h : first = true ∨ rs[bl rs p]? ≠ some [125]) : beh rs.flatten z num first = ({ z with i := o rs (bl rs p) } : Dk.Sc).branch rs.flatten num := by
  unfold beh
  rw [blanks_o hc hi]
  cases first with
  | true => rw [if_pos rfl]
  | false =>
    rw [if_neg (by simp), if_neg]
    intro h1
    rcases h with h | h
    · cases h
    · exact h ((at_one hc (bl rs p) 125 (by decide)).1 h1)
theorem one_brace {rs : List T} (hc : Cps rs) {x : Dk.Sc} {p : Nat} (hi : x.i = o rs p) (h : rs[p]? = some [123]) : x.one rs.flatten = x.brace rs.flatten := by
  have hg := (at_one hc p 123 (by decide)).2 h
  rw [← hi] at hg
  unfold Dk.Sc.one
  rw [hg]
  simp
/-- A branch's end. -/
theorem one_close {rs : List T} (hc : Cps rs) {z : Dk.Sc} {p : Nat} {num : Bool} (h : rs[p]? = some [125]) : ({ z with i := o rs p, opens := z.opens ++ [num] } : Dk.Sc).one rs.flatten = beh rs.flatten { z with i := o rs (p + 1), out := z.out ++ [{ kind := 93 }] } num false := by
  have hg := (at_one hc p 125 (by decide)).2 h
  unfold Dk.Sc.one
  simp only
  rw [hg]
  simp only
  rw [if_neg (by decide), if_neg (by decide), if_neg (by simp), if_pos trivial]
  unfold Dk.Sc.behind beh
  have e : (({ z with i := o rs p, opens := z.opens ++ [num] } : Dk.Sc).go 1).put { kind := 93 } = { z with i := o rs (p + 1), out := z.out ++ [{ kind := 93 }], opens := z.opens ++ [num] } := by
    rw [o_succ h]; rfl
  rw [e, if_neg (show ¬ (false = true) by simp)]
  have hb : ({ z with i := o rs (p + 1), out := z.out ++ [{ kind := 93 }], opens := z.opens ++ [num] } : Dk.Sc).byNumber = num := by simp [Dk.Sc.byNumber]
  simp only [hb, List.dropLast_concat]
end Go.Proofs.YtaepcfidpekflaaGreatDoor.Pg
namespace Go.Proofs.YtaepcfidpekflaaGreatDoor.Pg
open Go.Proofs.YtaepcfidpekflaaGreatDoor

theorem Nt.of_ne {rs : List T} {num : Bool} {x : Dk.Sc} {p : Nat} {l : List Dk.Mark} {m : Dk.Mark} (h : x.out = l ++ [m]) (hm : m.kind ≠ 116) : Nt rs num x p := by
  rintro ⟨m', h1, h2⟩
  rw [h] at h1
  simp at h1
  rw [← h1] at h2
  exact absurd h2 hm
theorem last_split {α : Type} {l : List α} {m : α} (h : l.getLast? = some m) : ∃ k, l = k ++ [m] := by
  rcases List.eq_nil_or_concat l with h0 | ⟨k, m', h0⟩
  · rw [h0] at h; cases h
  · rw [h0] at h ⊢
    simp at h
    exact ⟨k, by simp [h]⟩
theorem known_sel : Dk.knownOf selectW = 3 := by decide
theorem known_plu (ord : Bool) : Dk.knownOf (if ord = true then ordinalW else pluralW) ≠ 4 ∧ Dk.knownOf (if ord = true then ordinalW else pluralW) ≠ 0 ∧ Dk.knownOf (if ord = true then ordinalW else pluralW) < 3 := by
  cases ord <;> decide
theorem plu_word {w : T} (h : w = pluralW ∨ w = ordinalW) : ∃ ord : Bool, w = if ord = true then ordinalW else pluralW := by
  rcases h with h | h
  · exact ⟨false, by rw [h]; rfl⟩
  · exact ⟨true, by rw [h]; rfl⟩
set_option maxHeartbeats 1600000 in
theorem good_of {rs : List T} (hc : Cps rs) {mode : Mode} {p : Nat} {res : Res} (h : Rd rs mode p res) : Good rs mode p res := by
  induction h with
  | @stop d num p h =>
    intro x hi he hd hn nt
    refine ⟨?_, h⟩
    rw [← hi]
    simp only [flat, List.append_nil]
    exact .refl _
  | @argB d num p e a h h1 ih =>
    intro x hi he hd hn nt
    exact ih x hi he hd h
  | @argK d num p n q res h h1 h2 ih1 ih2 =>
    intro x hi he hd hn nt
    obtain ⟨r1, m, m1, m2⟩ := ih1 x hi he hd h
    obtain ⟨l, hl⟩ := last_split m1
    have := ih2 { x with i := o rs q, out := x.out ++ flat (o rs) n } rfl he hd hn (Nt.of_ne (l := x.out ++ l) (m := m) (by simp [hl]) m2)
    cases res with
    | ok t q' =>
      obtain ⟨r2, r3⟩ := this
      refine ⟨r1.trans ?_, r3⟩
      simp only [flat_app, ← List.append_assoc] at r2 ⊢
      exact r2
    | okB t e q' => trivial
    | bad e a => exact Ends.after r1 this
  | @sign d p res h h1 ih =>
    intro x hi he hd hn nt
    have hg := (at_one hc p 35 (by decide)).2 h
    rw [← hi] at hg
    have h1 : x.one rs.flatten = { x with i := o rs (p + 1), out := x.out ++ [{ kind := 35 }] } := by
      unfold Dk.Sc.one
      rw [hg]
      simp only
      rw [if_neg (by decide), if_neg (by decide), if_neg (by simp), if_neg (by decide), if_pos ⟨trivial, hn⟩, o_succ h, hi.symm]
      rfl
    have r1 : Reach rs.flatten x { x with i := o rs (p + 1), out := x.out ++ [{ kind := 35 }] } := .step he (lt_of_some hg) (by rw [h1]; exact .refl _)
    have := ih { x with i := o rs (p + 1), out := x.out ++ [{ kind := 35 }] } rfl he hd hn (Nt.of_ne rfl (by decide))
    cases res with
    | ok t q' =>
      obtain ⟨r2, r3⟩ := this
      refine ⟨r1.trans ?_, r3⟩
      simp only [flat_app, flat, ← List.append_assoc] at r2 ⊢
      exact r2
    | okB t e q' => trivial
    | bad e a => exact Ends.after r1 this
  | @said d num p c res h hs h1 ih =>
    intro x hi he hd hn nt
    have r1 := said_o hc num _ p x (Nat.lt_succ_self _) hi he hn
    have hdr : rs.drop p = c :: rs.drop (p + 1) := by
      have hlt := lt_of_some h
      rw [List.drop_eq_getElem_cons hlt]
      rw [List.getElem?_eq_getElem hlt] at h
      injection h with h
      rw [h]
    have hne : (saidGo num false (rs.drop p)).1 ≠ [] := by
      rw [hdr]
      exact said_ne num c _ (by rw [← hdr]; exact hc.drop p) hs
    have hend : ∀ c', rs[p + (saidGo num false (rs.drop p)).2]? = some c' → spec num c' = true := by
      intro c' h'
      rw [← List.getElem?_drop] at h'
      exact said_end num _ (rs.drop p) false (Nat.lt_succ_self _) c' h'
    generalize (saidGo num false (rs.drop p)).2 = n at *
    generalize (saidGo num false (rs.drop p)).1 = t at *
    have hsay : ({ x with i := o rs (p + n) } : Dk.Sc).say t = { x with i := o rs (p + n), out := x.out ++ [{ kind := 116, text := t }] } := by
      unfold Dk.Sc.say
      rw [if_neg hne]
      congr 1
      unfold Dk.addText
      simp only
      split
      · rename_i m hm
        rw [if_neg]
        intro hk
        have := nt ⟨m, hm, hk⟩ c h
        rw [hs] at this
        cases this
      · rename_i hm
        have : x.out = [] := by simpa using hm
        rw [this]
        rfl
    rw [hsay] at r1
    have := ih { x with i := o rs (p + n), out := x.out ++ [{ kind := 116, text := t }] } rfl he hd hn (fun _ c' h' => hend c' h')
    cases res with
    | ok t q' =>
      obtain ⟨r2, r3⟩ := this
      refine ⟨r1.trans ?_, r3⟩
      simp only [flat_app, flat, ← List.append_assoc] at r2 ⊢
      exact r2
    | okB t e q' => trivial
    | bad e a => exact Ends.after r1 this
  | @nameB d p a h =>
    intro x hi he hd hp
    have hb := (brace_o hc hi he hp).1 a h
    rw [← one_brace hc hi hp] at hb
    exact ⟨_, .step he (by rw [hi]; exact o_lt hc hp) (.refl _), .inl hb⟩
  | @simple d p n q h h1 =>
    intro x hi he hd hp
    have hb := ((brace_o hc hi he hp).2 n q h).1 h1
    rw [← one_brace hc hi hp] at hb
    refine ⟨.step he (by rw [hi]; exact o_lt hc hp) (by rw [hb]; exact .refl _), { kind := 112, name := n, at_ := o rs p }, rfl, by show (112 : UInt8) ≠ 116; decide⟩
  | @commaB d p n q h h1 h2 =>
    intro x hi he hd hp
    have hb := ((brace_o hc hi he hp).2 n q h).2.1 h1 h2
    rw [← one_brace hc hi hp] at hb
    exact ⟨_, .step he (by rw [hi]; exact o_lt hc hp) (.refl _), .inl hb⟩
  | @kindB d p n q k h h2 hk h3 =>
    intro x hi he hd hp
    have hb := (((brace_o hc hi he hp).2 n q h).2.2 h2 k hk).1 h3
    rw [← one_brace hc hi hp] at hb
    exact ⟨_, .step he (by rw [hi]; exact o_lt hc hp) (.refl _), .inl hb⟩
  | @numB d p n q k j h h2 hk h3 hj h4 =>
    intro x hi he hd hp
    have hb := (((((brace_o hc hi he hp).2 n q h).2.2 h2 k hk).2 (by rw [h3]; decide) j hj).1 (by rw [h3]; decide)).1 h4
    rw [← one_brace hc hi hp] at hb
    exact ⟨_, .step he (by rw [hi]; exact o_lt hc hp) (.refl _), .inl hb⟩
  | @num d p n q k j h h2 hk h3 hj h4 =>
    intro x hi he hd hp
    have hb := (((((brace_o hc hi he hp).2 n q h).2.2 h2 k hk).2 (by rw [h3]; decide) j hj).1 (by rw [h3]; decide)).2 h4
    rw [← one_brace hc hi hp, h3] at hb
    refine ⟨.step he (by rw [hi]; exact o_lt hc hp) (by rw [hb]; exact .refl _), { kind := 110, name := n, how := numberW, at_ := o rs p }, rfl, by show (110 : UInt8) ≠ 116; decide⟩
  | @argC d p n q k j h h2 hk h3 hj h4 =>
    intro x hi he hd hp
    have hk4 : Dk.knownOf (word rs k).flatten ≠ 4 ∧ Dk.knownOf (word rs k).flatten ≠ 0 := by
      rcases h3 with h3 | h3 | h3 <;> rw [h3] <;> decide
    have hb := ((((brace_o hc hi he hp).2 n q h).2.2 h2 k hk).2 hk4.1 j hj).2 hk4.2
    have hb2 := (args_o hc (x := { x with i := o rs j }) (j := j) rfl he (Dk.knownOf (word rs k).flatten) { kind := 40, name := n, how := (word rs k).flatten, at_ := o rs p }).1 h4
    rw [← hb, ← one_brace hc hi hp] at hb2
    exact ⟨_, .step he (by rw [hi]; exact o_lt hc hp) (.refl _), .inl hb2⟩
  | @sel d p n q k j res h h2 hk h3 hj h4 h5 ih =>
    intro x hi he hd hp
    have hk4 : Dk.knownOf (word rs k).flatten ≠ 4 ∧ Dk.knownOf (word rs k).flatten ≠ 0 := by rw [h3]; decide
    have hb := ((((brace_o hc hi he hp).2 n q h).2.2 h2 k hk).2 hk4.1 j hj).2 hk4.2
    have hb2 := (args_o hc (x := { x with i := o rs j }) (j := j) rfl he (Dk.knownOf (word rs k).flatten) { kind := 40, name := n, how := (word rs k).flatten, at_ := o rs p }).2.1 h4 (by rw [h3]; decide)
    rw [← hb, ← one_brace hc hi hp, h3] at hb2
    have hlt : x.i < rs.flatten.length := by rw [hi]; exact o_lt hc hp
    have := ih { x with i := o rs (bl rs (j + 1)), out := x.out ++ [{ kind := 40, name := n, how := selectW, offset := [48], at_ := o rs p }] } rfl he hd
    have hbe := beh_o hc (z := { x with i := o rs (bl rs (j + 1)), out := x.out ++ [{ kind := 40, name := n, how := selectW, offset := [48], at_ := o rs p }] }) (p := bl rs (j + 1)) rfl false true (.inl rfl)
    rw [bl_bl] at hbe
    rw [hbe] at this
    cases res with
    | ok t q' => exact this.elim
    | okB t e q' =>
      refine ⟨.step he hlt ?_, { kind := 41, at_ := o rs e }, by simp [flat, List.getLast?_cons], by show (41 : UInt8) ≠ 116; decide⟩
      rw [hb2]
      simp only [flat, List.append_assoc, List.cons_append, List.nil_append] at this ⊢
      exact this
    | bad e a =>
      refine Ends.after (.step he hlt (.refl _)) ?_
      rw [hb2]
      exact this
  | @offB d p n q k j a h h2 hk h3 hj h4 h5 =>
    intro x hi he hd hp
    obtain ⟨ord, ho⟩ := plu_word h3
    obtain ⟨k1, k2, k3⟩ := known_plu ord
    rw [← ho] at k1 k2 k3
    have hb := ((((brace_o hc hi he hp).2 n q h).2.2 h2 k hk).2 k1 j hj).2 k2
    have hb2 := ((args_o hc (x := { x with i := o rs j }) (j := j) rfl he (Dk.knownOf (word rs k).flatten) { kind := 40, name := n, how := (word rs k).flatten, at_ := o rs p }).2.2 h4 k3).1 a h5
    rw [← hb, ← one_brace hc hi hp] at hb2
    exact ⟨_, .step he (by rw [hi]; exact o_lt hc hp) (.refl _), .inl hb2⟩
  | @plu d p n q k j ord off i res h h2 hk h3 hj h4 h5 h6 ih =>
    intro x hi he hd hp
    obtain ⟨k1, k2, k3⟩ := known_plu ord
    rw [← h3] at k1 k2 k3
    have hb := ((((brace_o hc hi he hp).2 n q h).2.2 h2 k hk).2 k1 j hj).2 k2
    have hb2 := ((args_o hc (x := { x with i := o rs j }) (j := j) rfl he (Dk.knownOf (word rs k).flatten) { kind := 40, name := n, how := (word rs k).flatten, at_ := o rs p }).2.2 h4 k3).2 off i h5
    rw [← hb, ← one_brace hc hi hp, h3] at hb2
    have hlt : x.i < rs.flatten.length := by rw [hi]; exact o_lt hc hp
    have := ih { x with i := o rs i, out := x.out ++ [{ kind := 40, name := n, how := if ord = true then ordinalW else pluralW, offset := off, at_ := o rs p }] } rfl he hd
    rw [beh_o hc (z := { x with i := o rs i, out := x.out ++ [{ kind := 40, name := n, how := if ord = true then ordinalW else pluralW, offset := off, at_ := o rs p }] }) (p := i) rfl true true (.inl rfl)] at this
    cases res with
    | ok t q' => exact this.elim
    | okB t e q' =>
      refine ⟨.step he hlt ?_, { kind := 41, at_ := o rs e }, by simp [flat, List.getLast?_cons], by show (41 : UInt8) ≠ 116; decide⟩
      rw [hb2]
      simp only [flat, List.append_assoc, List.cons_append, List.nil_append] at this ⊢
      exact this
    | bad e a =>
      refine Ends.after (.step he hlt (.refl _)) ?_
      rw [hb2]
      exact this
  | @brsEnd d num p h =>
    intro z hi he hd
    show Reach _ (beh _ z num false) _
    unfold beh
    rw [blanks_o hc hi, if_neg (by simp), if_pos ((at_one hc _ 125 (by decide)).2 h)]
    simp only [flat, List.append_nil]
    have e : (Dk.Sc.put { z with i := o rs (bl rs p) } { kind := 41, at_ := o rs (bl rs p) }).go 1 = { z with i := o rs (bl rs p + 1), out := z.out ++ [{ kind := 41, at_ := o rs (bl rs p) }] } := by
      rw [o_succ h]; rfl
    rw [e]
    exact .refl _
  | @brsSel d num first p a h h1 =>
    intro z hi he hd
    show Ends _ _ _ _
    rw [beh_o hc hi num first h]
    exact Ends.bad ((branch_o hc (x := { z with i := o rs (bl rs p) }) (p := bl rs p) rfl he num).2 a h1)
  | @brsOpen d num first p w q h h1 h2 =>
    intro z hi he hd
    show Ends _ _ _ _
    rw [beh_o hc hi num first h, (branch_o hc (x := { z with i := o rs (bl rs p) }) (p := bl rs p) rfl he num).1 w q h1]
    exact Ends.bad ((opened_o hc (x := { z with i := o rs q }) (p := q) rfl he num _).1 h2)
  | @brsDeep num first p w q h h1 h2 =>
    intro z hi he hd
    show Ends _ _ _ _
    rw [beh_o hc hi num first h, (branch_o hc (x := { z with i := o rs (bl rs p) }) (p := bl rs p) rfl he num).1 w q h1]
    exact Ends.bad ((opened_o hc (x := { z with i := o rs q }) (p := q) rfl he num _).2.2 h2 (by show 6 < z.opens.length + 2; omega))
  | @brsMsg d num first p w q e a h h1 h2 hd6 h3 ih =>
    intro z hi he hd
    show Ends _ _ _ _
    rw [beh_o hc hi num first h, (branch_o hc (x := { z with i := o rs (bl rs p) }) (p := bl rs p) rfl he num).1 w q h1]
    have := (opened_o hc (x := { z with i := o rs q }) (p := q) rfl he num { kind := 91, text := w, at_ := o rs (bl rs p) }).2.1 h2 (by show z.opens.length + 2 ≤ 6; omega)
    simp only at this ⊢
    rw [this]
    exact ih _ rfl he (by simp; omega) (by simp [Dk.Sc.byNumber]) (Nt.of_ne rfl (by show (91 : UInt8) ≠ 116; decide))
  | @brsClose d num first p w q m j h h1 h2 hd6 h3 h4 ih =>
    intro z hi he hd
    show Ends _ _ _ _
    rw [beh_o hc hi num first h, (branch_o hc (x := { z with i := o rs (bl rs p) }) (p := bl rs p) rfl he num).1 w q h1]
    have := (opened_o hc (x := { z with i := o rs q }) (p := q) rfl he num { kind := 91, text := w, at_ := o rs (bl rs p) }).2.1 h2 (by show z.opens.length + 2 ≤ 6; omega)
    simp only at this ⊢
    rw [this]
    obtain ⟨r1, r2⟩ := ih { z with i := o rs (bl rs q + 1), opens := z.opens ++ [num], out := z.out ++ [{ kind := 91, text := w, at_ := o rs (bl rs p) }] } rfl he (by simp; omega) (by simp [Dk.Sc.byNumber]) (Nt.of_ne rfl (by show (91 : UInt8) ≠ 116; decide))
    refine Ends.after r1 ⟨_, .refl _, .inr ⟨he, ?_, by simp, rfl, ?_⟩⟩
    · rcases r2 with r2 | r2
      · exact o_len rs j (List.getElem?_eq_none_iff.1 r2)
      · exact absurd r2 h4
    · rcases r2 with r2 | r2
      · exact o_len rs j (List.getElem?_eq_none_iff.1 r2)
      · exact absurd r2 h4
  | @brs d num first p w q m j res h h1 h2 hd6 h3 h4 h5 ih1 ih2 =>
    intro z hi he hd
    have hop := (opened_o hc (x := { z with i := o rs q }) (p := q) rfl he num { kind := 91, text := w, at_ := o rs (bl rs p) }).2.1 h2 (by show z.opens.length + 2 ≤ 6; omega)
    have hbe := (beh_o hc hi num first h).trans ((branch_o hc (x := { z with i := o rs (bl rs p) }) (p := bl rs p) rfl he num).1 w q h1)
    simp only at hop hbe
    rw [hop] at hbe
    obtain ⟨r1, _⟩ := ih1 { z with i := o rs (bl rs q + 1), opens := z.opens ++ [num], out := z.out ++ [{ kind := 91, text := w, at_ := o rs (bl rs p) }] } rfl he (by simp; omega) (by simp [Dk.Sc.byNumber]) (Nt.of_ne rfl (by show (91 : UInt8) ≠ 116; decide))
    have hcl := one_close hc (z := { z with out := z.out ++ [{ kind := 91, text := w, at_ := o rs (bl rs p) }] ++ flat (o rs) m }) (num := num) h4
    have hlt := o_lt hc h4
    have r3 : Reach rs.flatten (beh rs.flatten z num first) (beh rs.flatten { z with i := o rs (j + 1), out := z.out ++ [{ kind := 91, text := w, at_ := o rs (bl rs p) }] ++ flat (o rs) m ++ [{ kind := 93 }] } num false) := by
      rw [hbe]
      refine r1.trans (.step he hlt ?_)
      simp only at hcl ⊢
      rw [hcl]
      exact .refl _
    have := ih2 { z with i := o rs (j + 1), out := z.out ++ [{ kind := 91, text := w, at_ := o rs (bl rs p) }] ++ flat (o rs) m ++ [{ kind := 93 }] } rfl he hd
    cases res with
    | ok t q' => exact this.elim
    | okB t e q' =>
      have r4 := r3.trans this
      simp only [Res.pre, Tr.app]
      show Reach _ _ _
      simp only [flat, List.append_assoc, List.cons_append, List.nil_append] at r4 ⊢
      exact r4
    | bad e a => exact Ends.after r3 this
end Go.Proofs.YtaepcfidpekflaaGreatDoor.Pg
namespace Go.Proofs.YtaepcfidpekflaaGreatDoor.Pg
open Go.Proofs.YtaepcfidpekflaaGreatDoor

theorem fault_i' (x : Dk.Sc) (e a : Nat) : (x.fault e a).i = x.i := by
  unfold Dk.Sc.fault; split <;> rfl
theorem blanks_ge (s : T) (x : Dk.Sc) : x.i ≤ (x.blanks s).i := Nat.le_add_right _ _
theorem go_ge (x : Dk.Sc) (n : Nat) : x.i ≤ (x.go n).i := Nat.le_add_right _ _
theorem name_ge (s : T) (x : Dk.Sc) : x.i ≤ (x.name s).i := by
  unfold Dk.Sc.name
  refine Nat.le_trans ?_ (go_ge _ _)
  split
  · rw [fault_i']; exact Nat.le_refl _
  · exact Nat.le_refl _
theorem whole_ge (s : T) (x : Dk.Sc) : x.i ≤ (x.whole s).i := by
  unfold Dk.Sc.whole
  refine Nat.le_trans ?_ (go_ge _ _)
  split
  · rw [fault_i']; exact Nat.le_refl _
  · exact Nat.le_refl _
theorem needs_ge (s : T) (x : Dk.Sc) (c : UInt8) : x.i ≤ (x.needs s c).i := by
  unfold Dk.Sc.needs
  split
  · exact go_ge _ _
  · rw [fault_i']; exact Nat.le_refl _
theorem opened_ge (s : T) (x : Dk.Sc) (num : Bool) (m : Dk.Mark) : x.i ≤ (x.opened s num m).i := by
  have h := Nat.le_trans (blanks_ge s x) (needs_ge s (x.blanks s) 123)
  unfold Dk.Sc.opened
  simp only
  split
  · rw [fault_i']; exact h
  · exact h
theorem branch_ge (s : T) (x : Dk.Sc) (num : Bool) : x.i ≤ (x.branch s num).i := by
  unfold Dk.Sc.branch
  split
  · exact Nat.le_refl _
  split
  · exact Nat.le_trans (Nat.le_trans (go_ge x 1) (whole_ge s _)) (opened_ge _ _ _ _)
  · refine Nat.le_trans (Nat.le_trans (name_ge s x) ?_) (opened_ge _ _ _ _)
    split
    · rw [fault_i']; exact Nat.le_refl _
    · exact Nat.le_refl _
theorem args_ge (s : T) (x : Dk.Sc) (k : Nat) (m : Dk.Mark) : x.i ≤ (x.args s k m).i := by
  have h := Nat.le_trans (needs_ge s x 44) (blanks_ge s (x.needs s 44))
  unfold Dk.Sc.args
  simp only
  split
  · generalize (x.needs s 44).blanks s = y at *
    have h1 := go_ge y 7
    generalize y.go 7 = y1 at *
    have h2 := blanks_ge s y1
    have h3 := whole_ge s (y1.blanks s)
    have h4 := blanks_ge s ((y1.blanks s).whole s)
    generalize ((y1.blanks s).whole s).blanks s = y4 at *
    have h5 := branch_ge s (y4.put { m with offset := (y1.blanks s).wholeT s }) true
    have h6 : (y4.put { m with offset := (y1.blanks s).wholeT s }).i = y4.i := rfl
    omega
  · generalize (x.needs s 44).blanks s = y at *
    have h5 := branch_ge s (y.put { m with offset := [48] }) (decide (k < 3))
    have h6 : (y.put { m with offset := [48] }).i = y.i := rfl
    omega
theorem brace_ge (s : T) (x : Dk.Sc) : x.i + 1 ≤ (x.brace s).i := by
  have h1 : x.i + 1 ≤ ((x.go 1).blanks s).i := blanks_ge s (x.go 1)
  have h2 := Nat.le_trans h1 (Nat.le_trans (name_ge s _) (blanks_ge s _))
  unfold Dk.Sc.brace
  simp only
  split
  · exact h2
  split
  · exact Nat.le_trans h2 (needs_ge s _ 125)
  have h3 := Nat.le_trans h2 (Nat.le_trans (go_ge _ 1) (Nat.le_trans (blanks_ge s _) (name_ge s _)))
  split
  · rw [fault_i']; exact h3
  split
  · exact Nat.le_trans h3 (Nat.le_trans (blanks_ge s _) (needs_ge s _ 125))
  · exact Nat.le_trans h3 (Nat.le_trans (blanks_ge s _) (args_ge s _ _ _))
theorem quoteGo_ge : ∀ (k : Nat) (x : Dk.Sc) (r : T), x.i ≤ (x.quoteGo k r).i := by
  intro k
  induction k with
  | zero => intro x r; exact Nat.le_refl _
  | succ k ih =>
    intro x r
    have h1 : x.i ≤ ((x.say (Lib.cut r [39]).1).go (Lib.cut r [39]).1.length).i := by
      refine Nat.le_trans ?_ (go_ge _ _)
      rw [(say_same _ _).1]
      exact Nat.le_refl _
    rw [Dk.Sc.quoteGo]
    simp only
    split
    · exact h1
    split
    · split
      · refine Nat.le_trans (Nat.le_trans h1 (go_ge _ 1)) (Nat.le_trans ?_ (ih _ _))
        refine Nat.le_trans ?_ (go_ge _ 1)
        rw [(say_same _ _).1]
        exact Nat.le_refl _
      · exact Nat.le_trans h1 (go_ge _ 1)
    · exact Nat.le_trans h1 (go_ge _ 1)
theorem apos_ge (s : T) (x : Dk.Sc) (num : Bool) : x.i + 1 ≤ (x.apostrophe s num).i := by
  unfold Dk.Sc.apostrophe
  simp only
  split
  · rw [(say_same _ _).1]; exact Nat.le_refl _
  split
  · rw [(say_same _ _).1]; exact Nat.le_succ _
  split
  · rename_i c r _ _ _
    exact quoteGo_ge (r.length + 2) (x.go 1) (c :: r)
  · rw [(say_same _ _).1]; exact Nat.le_refl _
theorem behind_ge (s : T) (x : Dk.Sc) : x.i ≤ (x.behind s).i := by
  unfold Dk.Sc.behind
  simp only
  have h : x.i ≤ (({ x with opens := x.opens.dropLast } : Dk.Sc).blanks s).i := blanks_ge s { x with opens := x.opens.dropLast }
  split
  · exact Nat.le_trans h (Nat.le_succ _)
  · exact Nat.le_trans h (branch_ge _ _ _)
theorem one_adv (s : T) (x : Dk.Sc) (he : x.err = 0) (hi : x.i < s.length) : (x.one s).err ≠ 0 ∨ x.i < (x.one s).i := by
  unfold Dk.Sc.one
  rw [List.getElem?_eq_getElem hi]
  simp only
  split
  · exact .inr (apos_ge s x _)
  split
  · exact .inr (brace_ge s x)
  split
  · left
    unfold Dk.Sc.fault
    rw [if_pos he]
    simp
  split
  · exact .inr (behind_ge s ((x.go 1).put { kind := 93 }))
  split
  · exact .inr (Nat.lt_succ_self _)
  · right
    rw [(say_same _ _).1]
    exact Nat.lt_succ_self _
theorem marksGo_stop (s : T) (k : Nat) (x : Dk.Sc) (h : x.err ≠ 0 ∨ s.length ≤ x.i) : Dk.marksGo s k x = x := by
  cases k with
  | zero => rfl
  | succ k =>
    rw [Dk.marksGo, if_neg]
    rintro ⟨h1, h2⟩
    rcases h with h | h
    · exact h h1
    · omega
theorem marksGo_reach {s : T} {x y : Dk.Sc} (h : Reach s x y) (hy : y.err ≠ 0 ∨ s.length ≤ y.i) : ∀ k, s.length - x.i ≤ k → Dk.marksGo s k x = y := by
  induction h with
  | refl x => intro k _; exact marksGo_stop s k x hy
  | @step x y he hi r ih =>
    intro k hk
    obtain ⟨k', rfl⟩ : ∃ k', k = k' + 1 := ⟨k - 1, by omega⟩
    rw [Dk.marksGo, if_pos ⟨he, hi⟩]
    rcases one_adv s x he hi with h | h
    · rw [marksGo_stop s k' _ (.inl h)]
      cases r with
      | refl => rfl
      | step h' => exact absurd h' h
    · exact ih hy k' (by omega)
def sc0 : Dk.Sc := { i := 0, out := [], opens := [], err := 0, place := 0 }
/-- The marks of a whole pattern, by what the program reads. -/
theorem marks_ok {rs : List T} (hc : Cps rs) {t : Tr} {q : Nat} (h : Rd rs (.msg 1 false) 0 (.ok t q)) (hq : rs[q]? = none) : Dk.marks rs.flatten = { i := rs.flatten.length, out := flat (o rs) t, opens := [], err := 0, place := 0 } := by
  obtain ⟨r1, _⟩ := good_of hc h sc0 (by simp [sc0, o]) rfl rfl rfl (by rintro ⟨m, h, _⟩; cases h)
  have hl := o_len rs q (List.getElem?_eq_none_iff.1 hq)
  have := marksGo_reach r1 (.inr (by rw [hl]; exact Nat.le_refl _)) rs.flatten.length (by simp [sc0])
  unfold Dk.marks
  have e : ({ i := 0, out := [], opens := [], err := 0, place := 0 } : Dk.Sc) = sc0 := rfl
  rw [e, this, hl]
  simp [sc0]
theorem marks_brace {rs : List T} (hc : Cps rs) {t : Tr} {q : Nat} (h : Rd rs (.msg 1 false) 0 (.ok t q)) (hq : rs[q]? = some [125]) : Bad (Dk.marks rs.flatten) 3 (o rs q) := by
  obtain ⟨r1, _⟩ := good_of hc h sc0 (by simp [sc0, o]) rfl rfl rfl (by rintro ⟨m, h, _⟩; cases h)
  have hg := (at_one hc q 125 (by decide)).2 hq
  have h1 : Dk.Sc.one rs.flatten { sc0 with i := o rs q, out := sc0.out ++ flat (o rs) t } = ({ sc0 with i := o rs q, out := sc0.out ++ flat (o rs) t } : Dk.Sc).fault 3 (o rs q) := by
    unfold Dk.Sc.one
    simp only
    rw [hg]
    simp [sc0]
  have hb : Bad (({ sc0 with i := o rs q, out := sc0.out ++ flat (o rs) t } : Dk.Sc).fault 3 (o rs q)) 3 (o rs q) := Bad.new (x := { sc0 with i := o rs q, out := sc0.out ++ flat (o rs) t }) rfl 3 _ (by decide)
  have r2 := r1.trans (.step rfl (o_lt hc hq) (by rw [h1]; exact .refl _))
  have := marksGo_reach r2 (.inl (by rw [hb.1]; decide)) rs.flatten.length (by simp [sc0])
  unfold Dk.marks
  have e : ({ i := 0, out := [], opens := [], err := 0, place := 0 } : Dk.Sc) = sc0 := rfl
  rw [e, this]
  simp only
  split
  · exact hb.fault _ _
  · exact hb
theorem marks_bad {rs : List T} (hc : Cps rs) {e a : Nat} (h : Rd rs (.msg 1 false) 0 (.bad e a)) : Bad (Dk.marks rs.flatten) e (o rs a) := by
  obtain ⟨y, r1, h1⟩ := good_of hc h sc0 (by simp [sc0, o]) rfl rfl rfl (by rintro ⟨m, h, _⟩; cases h)
  have e0 : ({ i := 0, out := [], opens := [], err := 0, place := 0 } : Dk.Sc) = sc0 := rfl
  unfold Dk.marks
  rcases h1 with h1 | ⟨h1, h2, h3, h4, h5⟩
  · have := marksGo_reach r1 (.inl (by rw [h1.1]; exact h1.2.2)) rs.flatten.length (by simp [sc0])
    rw [e0, this]
    simp only
    split
    · exact h1.fault _ _
    · exact h1
  · have := marksGo_reach r1 (.inr (by rw [h2]; exact Nat.le_refl _)) rs.flatten.length (by simp [sc0])
    rw [e0, this]
    simp only
    rw [if_pos ⟨h1, h3⟩, h4, h5]
    exact Bad.new h1 3 _ (by decide)
end Go.Proofs.YtaepcfidpekflaaGreatDoor.Pg
