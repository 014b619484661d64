/-
  Several texts in one (Kr, Ks, Ih, Ko). By the verifier.
-/
import Derived.Test.YtaepcfidpekflaaGreatDoorU04
namespace Go.Proofs.YtaepcfidpekflaaGreatDoor.Pg
open Go.Proofs.YtaepcfidpekflaaGreatDoor

theorem blanks_o {rs : List T} (hc : Cps rs) {x : Dk.Sc} {p : Nat} (hi : x.i = o rs p) : x.blanks rs.flatten = { x with i := o rs (bl rs p) } := by
  unfold Dk.Sc.blanks Dk.Sc.go bl
  rw [hi, drop_o, (tw _ isBlk_lt _ (hc.drop p)).1, (tw _ isBlk_lt _ (hc.drop p)).2, o_tw Dk.isBlk p _ (Nat.le_refl _)]
theorem alpha_dig (c : UInt8) (h : Dk.isAlpha c = true) : Pn.isDig c = false := by
  simp only [Dk.isAlpha, Bool.or_eq_true, decide_eq_true_eq, beq_iff_eq] at h
  simp only [Pn.isDig, decide_eq_false_iff_not]
  rcases h with (h | h) | rfl
  · omega
  · omega
  · decide
theorem namedGo_eq : ∀ (l : T) (n : Nat), 1 ≤ n → n ≤ 16 → Dk.namedGo n l = min 16 (n + (l.takeWhile isN).length) := by
  intro l
  induction l with
  | nil => intro n _ h; simp [Dk.namedGo]; omega
  | cons c r ih =>
    intro n h1 h2
    rw [Dk.namedGo]
    by_cases hn : isN c = true
    · have hc : Dk.isAlpha c = true ∨ n ≠ 0 ∧ Pn.isDig c = true := by
        simp only [isN, Bool.or_eq_true] at hn
        rcases hn with h | h
        · exact .inl h
        · exact .inr ⟨by omega, h⟩
      by_cases h16 : n < 16
      · rw [if_pos ⟨h16, hc⟩, ih (n + 1) (by omega) (by omega), List.takeWhile_cons, if_pos hn]
        simp only [List.length_cons]
        omega
      · rw [if_neg (fun h => h16 h.1)]
        omega
    · rw [if_neg ?_, List.takeWhile_cons, if_neg hn]
      · simp; omega
      · rintro ⟨_, h | h⟩
        · exact hn (by simp [isN, h])
        · exact hn (by simp [isN, h.2])
theorem named_eq (l : T) : Dk.named l = if (l.head?.any Pn.isDig) = true then 0 else min 16 (l.takeWhile isN).length := by
  cases l with
  | nil => rfl
  | cons c r =>
    unfold Dk.named
    rw [Dk.namedGo, show ((c :: r).head?.any Pn.isDig) = Pn.isDig c from rfl]
    by_cases ha : Dk.isAlpha c = true
    · rw [if_pos ⟨by omega, .inl ha⟩, namedGo_eq r 1 (by omega) (by omega), if_neg (by rw [alpha_dig c ha]; simp), List.takeWhile_cons, if_pos (by simp [isN, ha])]
      simp only [List.length_cons]
      omega
    · rw [if_neg (by rintro ⟨_, h | h⟩; exact ha h; exact h.1 rfl)]
      by_cases hd : Pn.isDig c = true
      · rw [if_pos hd]
      · rw [if_neg hd, List.takeWhile_cons, if_neg (by simp [isN, ha, hd])]
        rfl
theorem wholeGo_eq (z : Bool) : ∀ (l : T) (n : Nat), 1 ≤ n → n ≤ 9 → (z = true → 2 ≤ n) → Dk.wholeGo z n l = min 9 (n + (l.takeWhile Pn.isDig).length) := by
  intro l
  induction l with
  | nil => intro n _ h _; simp [Dk.wholeGo]; omega
  | cons c r ih =>
    intro n h1 h2 h3
    rw [Dk.wholeGo]
    by_cases hn : Pn.isDig c = true
    · by_cases h16 : n < 9
      · rw [if_pos ⟨h16, hn, fun h => by have := h3 h.2; omega⟩, ih (n + 1) (by omega) (by omega) (fun h => by have := h3 h; omega), List.takeWhile_cons, if_pos hn]
        simp only [List.length_cons]
        omega
      · rw [if_neg (fun h => h16 h.1)]
        omega
    · rw [if_neg (fun h => hn h.2.1), List.takeWhile_cons, if_neg hn]
      simp; omega
theorem wholeN_eq (l : T) : Dk.wholeN l = if l.head? = some 48 then 1 else min 9 (l.takeWhile Pn.isDig).length := by
  cases l with
  | nil => rfl
  | cons c r =>
    unfold Dk.wholeN
    obtain ⟨z, hz⟩ : ∃ z, ((c :: r).head? == some (48 : UInt8)) = z := ⟨_, rfl⟩
    rw [hz, Dk.wholeGo]
    by_cases hd : Pn.isDig c = true
    · rw [if_pos ⟨by omega, hd, by omega⟩]
      by_cases h0 : c = 48
      · have hz1 : z = true := by rw [← hz, h0]; rfl
        rw [if_pos (show (c :: r).head? = some 48 by rw [h0]; rfl), hz1]
        cases r with
        | nil => rfl
        | cons d r => rw [Dk.wholeGo, if_neg]; simp
      · have hz0 : z = false := by rw [← hz]; simpa using h0
        rw [if_neg (show ¬ (c :: r).head? = some 48 by simpa using h0), hz0, wholeGo_eq false r 1 (by omega) (by omega) (by simp), List.takeWhile_cons, if_pos hd]
        simp only [List.length_cons]
        omega
    · rw [if_neg (fun h => hd h.2.1), List.takeWhile_cons, if_neg hd, if_neg (show ¬ (c :: r).head? = some 48 from fun e => hd (by
        have : c = 48 := by simpa using e
        rw [this]; decide))]
      rfl
theorem head_o {rs : List T} (hc : Cps rs) (p : Nat) (f : UInt8 → Bool) (hf : ∀ b, f b = true → b.toNat < 128) : ((rs.drop p).flatten.head?.any f) = at1 rs p f := by
  rw [← drop_o, List.head?_drop, at_o hc, at1]
  cases h : rs[p]? with
  | none => rfl
  | some c =>
    rcases hc c (List.mem_of_getElem? h) with ⟨b, rfl, hb⟩ | ⟨h1, h2⟩
    · rfl
    · cases c with
      | nil => simp at h1
      | cons b r =>
        cases r with
        | nil => simp at h1
        | cons d r =>
          have := h2 b (by simp)
          have hb : f b = false := by
            cases e : f b with
            | false => rfl
            | true => have := hf b e; omega
          simp [one1, hb]
theorem take_tw {rs : List T} (hc : Cps rs) (f : UInt8 → Bool) (hf : ∀ b, f b = true → b.toNat < 128) (p : Nat) : ((rs.flatten).drop (o rs p)).take ((rs.drop p).takeWhile (one1 f)).length = ((rs.drop p).takeWhile (one1 f)).flatten := by
  rw [drop_o, ← (tw f hf _ (hc.drop p)).2, ← (tw f hf _ (hc.drop p)).1]
  exact (List.prefix_iff_eq_take.1 (List.takeWhile_prefix f)).symm
theorem at_tw {rs : List T} (f : UInt8 → Bool) (p n : Nat) (hn : n < ((rs.drop p).takeWhile (one1 f)).length) : at1 rs (p + n) f = true := by
  have hm : one1 f (((rs.drop p).takeWhile (one1 f))[n]) = true := by
    have := List.all_takeWhile (l := rs.drop p) (p := one1 f)
    exact List.all_eq_true.1 this _ (List.getElem_mem hn)
  have hpre : (rs.drop p)[n]? = some (((rs.drop p).takeWhile (one1 f))[n]) := by
    have := (List.takeWhile_prefix (one1 f) (l := rs.drop p)).getElem hn
    rw [List.getElem?_eq_getElem (Nat.lt_of_lt_of_le hn (List.takeWhile_prefix _).length_le)]
    rw [this]
  rw [List.getElem?_drop] at hpre
  unfold at1
  rw [hpre]
  exact hm
theorem name_o {rs : List T} (hc : Cps rs) {x : Dk.Sc} {p : Nat} (hi : x.i = o rs p) (he : x.err = 0) :
    (∀ n q, nameR rs p = .inr (n, q) → x.name rs.flatten = { x with i := o rs q } ∧ x.nameT rs.flatten = n) ∧
    (∀ a, nameR rs p = .inl a → x.name rs.flatten = { x with err := 3, place := o rs a } ∧ a = p ∧ x.nameT rs.flatten = [] ∨ x.name rs.flatten = { x with i := o rs a } ∧ at1 rs a isN = true ∧ (x.nameT rs.flatten).length = 16) := by
  have hn : Dk.named (rs.flatten.drop x.i) = if at1 rs p Pn.isDig = true then 0 else min 16 (word rs p).length := by
    rw [hi, drop_o, named_eq, head_o hc p _ isDig_lt, (tw _ isN_lt _ (hc.drop p)).1, (tw _ isN_lt _ (hc.drop p)).2]
    rfl
  have hT : ((rs.flatten).drop x.i).take (word rs p).length = (word rs p).flatten := by rw [hi]; exact take_tw hc isN isN_lt p
  have hlen : ((rs.flatten).drop x.i).length ≥ (word rs p).length := by
    rw [hi, drop_o]
    have h1 : (word rs p).flatten.length ≤ (rs.drop p).flatten.length := by
      have := (tw _ isN_lt _ (hc.drop p)).1
      show ((rs.drop p).takeWhile (one1 isN)).flatten.length ≤ _
      rw [← this]
      exact (List.takeWhile_prefix _).length_le
    have h2 : (word rs p).flatten.length = (word rs p).length := (tw _ isN_lt _ (hc.drop p)).2
    omega
  unfold nameR Dk.Sc.name Dk.Sc.nameT Dk.Sc.next
  rw [hn]
  constructor
  · intro n q h
    split at h
    · cases h
    rename_i h1
    split at h
    · cases h
    rename_i h2
    split at h
    · cases h
    rename_i h3
    injection h with h
    injection h with h4 h5
    have hm : min 16 (word rs p).length = (word rs p).length := by omega
    rw [if_neg h1, hm, if_neg h2]
    refine ⟨?_, by rw [hT, h4]⟩
    rw [← h5, Dk.Sc.go, hi, ← o_tw isN p (word rs p).length (Nat.le_refl _)]
  · intro a h
    split at h
    · rename_i h1
      injection h with h
      left
      rw [if_pos h1]
      simp only [if_true, Dk.Sc.fault, if_pos he, Dk.Sc.go, Nat.add_zero, List.take_zero, and_true, ← h]
      rw [hi]
    rename_i h1
    split at h
    · rename_i h2
      injection h with h
      left
      rw [if_neg h1, h2]
      simp only [Nat.min_zero, if_true, Dk.Sc.fault, if_pos he, Dk.Sc.go, Nat.add_zero, List.take_zero, and_true, ← h]
      rw [hi]
    rename_i h2
    split at h
    · rename_i h3
      injection h with h
      right
      have hm : min 16 (word rs p).length = 16 := by omega
      rw [if_neg h1, hm, if_neg (by omega), ← h]
      refine ⟨?_, at_tw isN p 16 h3, by rw [List.length_take]; omega⟩
      rw [Dk.Sc.go, o_tw isN p 16 (by show 16 ≤ (word rs p).length; omega), hi]
    · cases h
theorem whole_o {rs : List T} (hc : Cps rs) {x : Dk.Sc} {p : Nat} (hi : x.i = o rs p) (he : x.err = 0) :
    (∀ n q, valR rs p = .inr (n, q) → x.whole rs.flatten = { x with i := o rs q } ∧ x.wholeT rs.flatten = n) ∧
    (∀ a, valR rs p = .inl a → x.whole rs.flatten = { x with err := 3, place := o rs a } ∨ x.whole rs.flatten = { x with i := o rs a } ∧ at1 rs a Pn.isDig = true) := by
  have hT : ((rs.flatten).drop x.i).take (digs rs p).length = (digs rs p).flatten := by rw [hi]; exact take_tw hc Pn.isDig isDig_lt p
  have hh : (rs.drop p).flatten.head? = some 48 ↔ rs[p]? = some [48] := by
    rw [← drop_o, List.head?_drop]
    exact at_one hc p 48 (by decide)
  have hn : Dk.wholeN (rs.flatten.drop x.i) = if rs[p]? = some [48] then 1 else min 9 (digs rs p).length := by
    rw [hi, drop_o, wholeN_eq, (tw _ isDig_lt _ (hc.drop p)).1, (tw _ isDig_lt _ (hc.drop p)).2]
    simp only [hh]
    rfl
  have h48 : rs[p]? = some [48] → 1 ≤ (digs rs p).length := by
    intro h
    have hd : rs.drop p = [48] :: rs.drop (p + 1) := by
      have hl : p < rs.length := by
        rcases Nat.lt_or_ge p rs.length with h' | h'
        · exact h'
        · rw [List.getElem?_eq_none h'] at h; cases h
      rw [List.drop_eq_getElem_cons hl]
      rw [List.getElem?_eq_getElem hl] at h
      injection h with h
      rw [h]
    unfold digs
    rw [hd, List.takeWhile_cons, if_pos (by decide)]
    simp
  unfold valR Dk.Sc.whole Dk.Sc.wholeT Dk.Sc.next
  rw [hn]
  constructor
  · intro n q h
    split at h
    · cases h
    rename_i h1
    split at h
    · cases h
    rename_i h2
    split at h
    · cases h
    rename_i h3
    injection h with h
    injection h with h4 h5
    have hm : (if rs[p]? = some [48] then 1 else min 9 (digs rs p).length) = (digs rs p).length := by
      split
      · rename_i h6
        have : ¬ 1 < (digs rs p).length := fun h => h2 ⟨h, h6⟩
        omega
      · omega
    rw [hm, if_neg h1]
    refine ⟨?_, by rw [hT, h4]⟩
    rw [← h5, Dk.Sc.go, hi, ← o_tw Pn.isDig p (digs rs p).length (Nat.le_refl _)]
  · intro a h
    split at h
    · rename_i h1
      injection h with h
      left
      have hm : (if rs[p]? = some [48] then 1 else min 9 (digs rs p).length) = 0 := by
        split
        · rename_i h6
          have := h48 h6
          omega
        · omega
      rw [hm]
      simp only [if_true, Dk.Sc.fault, if_pos he, Dk.Sc.go, Nat.add_zero]
      rw [hi, h]
    rename_i h1
    split at h
    · rename_i h2
      injection h with h
      right
      rw [if_pos h2.2, if_neg (by omega), ← h]
      refine ⟨?_, at_tw Pn.isDig p 1 h2.1⟩
      rw [Dk.Sc.go, o_tw Pn.isDig p 1 (by show 1 ≤ (digs rs p).length; omega), hi]
    rename_i h2
    split at h
    · rename_i h3
      injection h with h
      right
      have h6 : ¬ rs[p]? = some [48] := fun h => h2 ⟨by omega, h⟩
      have hm : min 9 (digs rs p).length = 9 := by omega
      rw [if_neg h6, hm, if_neg (by omega), ← h]
      refine ⟨?_, at_tw Pn.isDig p 9 h3⟩
      rw [Dk.Sc.go, o_tw Pn.isDig p 9 (by show 9 ≤ (digs rs p).length; omega), hi]
    · cases h
/-- A fault stands. -/
def Bad (x : Dk.Sc) (e a : Nat) : Prop := x.err = e ∧ x.place = a ∧ e ≠ 0
theorem Bad.go {x : Dk.Sc} {e a : Nat} (h : Bad x e a) (n : Nat) : Bad (x.go n) e a := h
theorem Bad.put {x : Dk.Sc} {e a : Nat} (h : Bad x e a) (m : Dk.Mark) : Bad (x.put m) e a := h
theorem Bad.blanks {x : Dk.Sc} {e a : Nat} (h : Bad x e a) (s : T) : Bad (x.blanks s) e a := h
theorem Bad.fault {x : Dk.Sc} {e a : Nat} (h : Bad x e a) (f b : Nat) : Bad (x.fault f b) e a := by
  unfold Dk.Sc.fault
  rw [if_neg (by rw [h.1]; exact h.2.2)]
  exact h
theorem Bad.new {x : Dk.Sc} (he : x.err = 0) (e a : Nat) (h : e ≠ 0) : Bad (x.fault e a) e a := by
  unfold Dk.Sc.fault
  rw [if_pos he]
  exact ⟨rfl, rfl, h⟩
theorem Bad.name {x : Dk.Sc} {e a : Nat} (h : Bad x e a) (s : T) : Bad (x.name s) e a := by
  unfold Dk.Sc.name
  split
  · exact (h.fault _ _).go _
  · exact h.go _
theorem Bad.whole {x : Dk.Sc} {e a : Nat} (h : Bad x e a) (s : T) : Bad (x.whole s) e a := by
  unfold Dk.Sc.whole
  split
  · exact (h.fault _ _).go _
  · exact h.go _
theorem Bad.needs {x : Dk.Sc} {e a : Nat} (h : Bad x e a) (s : T) (c : UInt8) : Bad (x.needs s c) e a := by
  unfold Dk.Sc.needs
  split
  · exact h.go _
  · exact h.fault _ _
theorem Bad.opened {x : Dk.Sc} {e a : Nat} (h : Bad x e a) (s : T) (num : Bool) (m : Dk.Mark) : Bad (x.opened s num m) e a := by
  have h1 := (h.blanks s).needs s 123
  unfold Dk.Sc.opened
  simp only
  split
  · exact h1.fault _ _
  · exact h1
theorem Bad.branch {x : Dk.Sc} {e a : Nat} (h : Bad x e a) (s : T) (num : Bool) : Bad (x.branch s num) e a := by
  unfold Dk.Sc.branch
  rw [if_pos (by rw [h.1]; exact h.2.2)]
  exact h
theorem needs_o {rs : List T} (hc : Cps rs) {x : Dk.Sc} {p : Nat} (hi : x.i = o rs p) (he : x.err = 0) (c : UInt8) (hb : c.toNat < 128) :
    (rs[p]? = some [c] → x.needs rs.flatten c = { x with i := o rs (p + 1) }) ∧ (rs[p]? ≠ some [c] → Bad (x.needs rs.flatten c) 3 (o rs p)) := by
  unfold Dk.Sc.needs
  rw [hi]
  constructor
  · intro h
    rw [if_pos ((at_one hc p c hb).2 h), o_succ h, Dk.Sc.go, hi]
    rfl
  · intro h
    rw [if_neg (fun h' => h ((at_one hc p c hb).1 h'))]
    exact Bad.new he 3 _ (by omega)
theorem bl_at {rs : List T} {p : Nat} {f : UInt8 → Bool} (h : at1 rs p f = true) (hf : ∀ b, f b = true → Dk.isBlk b = false) : bl rs p = p := by
  unfold at1 at h
  split at h
  · rename_i c hc
    have hl : p < rs.length := by
      rcases Nat.lt_or_ge p rs.length with h' | h'
      · exact h'
      · rw [List.getElem?_eq_none h'] at hc; cases hc
    unfold bl
    rw [List.getElem?_eq_getElem hl] at hc
    injection hc with hc
    rw [List.drop_eq_getElem_cons hl, hc, List.takeWhile_cons, if_neg]
    · rfl
    · unfold one1 at h ⊢
      split at h
      · rw [hf _ h]; simp
      · cases h
  · cases h
theorem not_at {rs : List T} {p : Nat} {f : UInt8 → Bool} (h : at1 rs p f = true) (c : UInt8) (hf : f c = false) : rs[p]? ≠ some [c] := by
  intro e
  rw [at1, e] at h
  simp only [one1] at h
  rw [hf] at h
  cases h
theorem isN_blk (b : UInt8) (h : isN b = true) : Dk.isBlk b = false := by
  cases e : Dk.isBlk b with
  | false => rfl
  | true =>
    simp only [Dk.isBlk, Bool.or_eq_true, beq_iff_eq] at e
    rcases e with ((rfl | rfl) | rfl) | rfl <;> exact absurd h (by decide)
theorem isDig_blk (b : UInt8) (h : Pn.isDig b = true) : Dk.isBlk b = false := isN_blk b (by simp [isN, h])
theorem opened_o {rs : List T} (hc : Cps rs) {x : Dk.Sc} {p : Nat} (hi : x.i = o rs p) (he : x.err = 0) (num : Bool) (m : Dk.Mark) :
    (rs[bl rs p]? ≠ some [123] → Bad (x.opened rs.flatten num m) 3 (o rs (bl rs p))) ∧
    (rs[bl rs p]? = some [123] → x.opens.length + 2 ≤ 6 → x.opened rs.flatten num m = { x with i := o rs (bl rs p + 1), opens := x.opens ++ [num], out := x.out ++ [m] }) ∧
    (rs[bl rs p]? = some [123] → 6 < x.opens.length + 2 → Bad (x.opened rs.flatten num m) 4 (o rs (bl rs p))) := by
  have hn := needs_o hc (x := { x with i := o rs (bl rs p) }) (p := bl rs p) rfl he 123 (by decide)
  unfold Dk.Sc.opened
  rw [blanks_o hc hi]
  simp only
  refine ⟨fun h => ?_, fun h h6 => ?_, fun h h6 => ?_⟩
  · have := hn.2 h
    split
    · exact this.fault _ _
    · exact this
  · rw [hn.1 h]
    simp only
    rw [if_neg (by omega)]
  · rw [hn.1 h]
    simp only
    rw [if_pos h6]
    have := Bad.new (x := { x with i := o rs (bl rs p + 1) }) he 4 (o rs (bl rs p)) (by decide)
    exact this
theorem cat_len (t : T) (h : Dk.isCat t = true) : 0 < t.length ∧ t.length ≤ 5 ∧ Dk.isAlpha (t.headD 0) = true := by
  have : t = [122, 101, 114, 111] ∨ t = [111, 110, 101] ∨ t = [116, 119, 111] ∨ t = [102, 101, 119] ∨ t = [109, 97, 110, 121] ∨ t = [111, 116, 104, 101, 114] := by
    simpa [Dk.isCat, Pr.catB, or_assoc] using h
  rcases this with rfl | rfl | rfl | rfl | rfl | rfl <;> decide
theorem word_head {rs : List T} (p : Nat) (c : UInt8) (h : (word rs p).flatten.head? = some c) : rs[p]? = some [c] := by
  unfold word at h
  cases hd : rs.drop p with
  | nil => rw [hd] at h; simp at h
  | cons d r =>
    have h1 : rs[p]? = some d := by
      have := congrArg List.head? hd
      rw [List.head?_drop] at this
      simpa using this
    rw [hd, List.takeWhile_cons] at h
    split at h
    · rename_i hd1
      unfold one1 at hd1
      split at hd1
      · rename_i b
        simp at h
        rw [h1, h]
      · cases hd1
    · simp at h
/-- A word that begins with a letter and is short is a name. -/
theorem name_word {rs : List T} (hc : Cps rs) (p : Nat) (h0 : Dk.isAlpha ((word rs p).flatten.headD 0) = true) (h1 : 0 < (word rs p).flatten.length) (h2 : (word rs p).flatten.length ≤ 16) : nameR rs p = .inr ((word rs p).flatten, p + (word rs p).length) := by
  have hl : (word rs p).flatten.length = (word rs p).length := (tw _ isN_lt _ (hc.drop p)).2
  have hd : at1 rs p Pn.isDig = false := by
    cases hw : (word rs p).flatten with
    | nil => rw [hw] at h1; simp at h1
    | cons c r =>
      have := word_head p c (by rw [hw]; rfl)
      rw [hw] at h0
      unfold at1
      rw [this]
      exact alpha_dig c h0
  unfold nameR
  rw [hd, if_neg (by simp), if_neg (by omega), if_neg (by omega)]
theorem branch_o {rs : List T} (hc : Cps rs) {x : Dk.Sc} {p : Nat} (hi : x.i = o rs p) (he : x.err = 0) (num : Bool) :
    (∀ w q, selR num rs p = .inr (w, q) → x.branch rs.flatten num = ({ x with i := o rs q } : Dk.Sc).opened rs.flatten num { kind := 91, text := w, at_ := o rs p }) ∧
    (∀ a, selR num rs p = .inl a → Bad (x.branch rs.flatten num) 3 (o rs a)) := by
  have hnm := name_o hc hi he
  unfold Dk.Sc.branch
  rw [if_neg (by rw [he]; simp)]
  cases num with
  | false =>
    simp only [Bool.false_eq_true, false_and, if_false]
    unfold selR
    rw [if_pos rfl]
    constructor
    · intro w q h
      obtain ⟨h1, h2⟩ := hnm.1 w q h
      rw [h1, h2, hi]
    · intro a h
      rcases hnm.2 a h with ⟨h1, _, _⟩ | ⟨h1, h2, _⟩
      · rw [h1]
        exact Bad.opened (e := 3) ⟨rfl, rfl, by decide⟩ _ _ _
      · rw [h1]
        have hb := bl_at h2 isN_blk
        have := (opened_o hc (x := { x with i := o rs a }) (p := a) rfl he false { kind := 91, text := x.nameT rs.flatten, at_ := x.i }).1
        rw [hb] at this
        exact this (not_at h2 123 (by decide))
  | true =>
    simp only [true_and]
    rw [hi]
    simp only [at_one hc p 61 (by decide)]
    unfold selR
    rw [if_neg (by simp)]
    by_cases h61 : rs[p]? = some [61]
    · rw [if_pos h61, if_pos h61]
      have hg : (x.go 1).i = o rs (p + 1) := by rw [Dk.Sc.go, o_succ h61, hi]; rfl
      have hwh := whole_o hc hg he
      have hgo : x.go 1 = { x with i := o rs (p + 1) } := by rw [Dk.Sc.go, o_succ h61, hi]; rfl
      constructor
      · intro w q h
        split at h
        · cases h
        · rename_i t q' e
          injection h with h
          injection h with h3 h4
          obtain ⟨h1, h2⟩ := hwh.1 t q' e
          rw [h1, h2, h3, h4, hgo]
      · intro a h
        split at h
        · rename_i a' e
          injection h with h
          rw [← h]
          rcases hwh.2 a' e with h1 | ⟨h1, h2⟩
          · rw [h1]
            exact Bad.opened (e := 3) ⟨rfl, rfl, by decide⟩ _ _ _
          · rw [h1]
            have hb := bl_at h2 isDig_blk
            have := (opened_o hc (x := { x.go 1 with i := o rs a' }) (p := a') rfl he true { kind := 91, text := 61 :: (x.go 1).wholeT rs.flatten, at_ := o rs p }).1
            rw [hb] at this
            exact this (not_at h2 123 (by decide))
        · cases h
    · rw [if_neg h61, if_neg h61]
      by_cases hcat : Dk.isCat (word rs p).flatten = true
      · obtain ⟨c1, c2, c3⟩ := cat_len _ hcat
        have hw := name_word hc p c3 c1 (by omega)
        obtain ⟨h1, h2⟩ := hnm.1 _ _ hw
        rw [if_pos hcat]
        constructor
        · intro w q h
          injection h with h
          injection h with h3 h4
          rw [h2, h1, hcat, ← h3, ← h4]
          simp
        · intro a h
          cases h
      · rw [if_neg hcat]
        constructor
        · intro w q h
          cases h
        · intro a h
          injection h with h
          rw [← h]
          have hcT : Dk.isCat (x.nameT rs.flatten) = false := by
            cases hr : nameR rs p with
            | inl b =>
              rcases hnm.2 b hr with ⟨_, _, h3⟩ | ⟨_, _, h3⟩
              · rw [h3]; decide
              · cases e : Dk.isCat (x.nameT rs.flatten) with
                | false => rfl
                | true => have := cat_len _ e; omega
            | inr nq =>
              obtain ⟨n, q⟩ := nq
              rw [(hnm.1 n q hr).2]
              have : n = (word rs p).flatten := by
                unfold nameR at hr
                split at hr
                · cases hr
                split at hr
                · cases hr
                split at hr
                · cases hr
                injection hr with hr
                injection hr with hr _
                exact hr.symm
              rw [this]
              simpa using hcat
          rw [if_pos hcT]
          refine Bad.opened ?_ _ _ _
          cases hr : nameR rs p with
          | inl b =>
            rcases hnm.2 b hr with ⟨h3, h4, _⟩ | ⟨h3, _⟩
            · rw [h3, h4]
              exact Bad.fault (e := 3) ⟨rfl, rfl, by decide⟩ _ _
            · rw [h3]
              exact Bad.new (x := { x with i := o rs b }) he 3 _ (by decide)
          | inr nq =>
            obtain ⟨n, q⟩ := nq
            rw [(hnm.1 n q hr).1]
            exact Bad.new (x := { x with i := o rs q }) he 3 _ (by decide)
end Go.Proofs.YtaepcfidpekflaaGreatDoor.Pg
namespace Go.Proofs.YtaepcfidpekflaaGreatDoor.Pg
open Go.Proofs.YtaepcfidpekflaaGreatDoor

theorem tw_stop {α : Type} (f : α → Bool) (l : List α) (n : Nat) (h : n = (l.takeWhile f).length) : (l.drop n).takeWhile f = [] := by
  subst h
  induction l with
  | nil => rfl
  | cons c r ih =>
    by_cases hf : f c = true
    · simp [hf, ih]
    · simp [hf]
theorem bl_bl (rs : List T) (p : Nat) : bl rs (bl rs p) = bl rs p := by
  have h := tw_stop (one1 Dk.isBlk) (rs.drop p) _ rfl
  rw [List.drop_drop] at h
  show bl rs p + ((rs.drop (bl rs p)).takeWhile (one1 Dk.isBlk)).length = bl rs p
  have h' : (rs.drop (bl rs p)).takeWhile (one1 Dk.isBlk) = [] := h
  rw [h']
  rfl
theorem known_word (t : T) (h : Dk.knownOf t ≠ 4) : 0 < t.length ∧ t.length ≤ 13 ∧ Dk.isAlpha (t.headD 0) = true := by
  unfold Dk.knownOf at h
  split at h
  · rename_i h1; rw [h1]; decide
  split at h
  · rename_i h1; rw [h1]; decide
  split at h
  · rename_i h1; rw [h1]; decide
  split at h
  · rename_i h1; rw [h1]; decide
  · exact absurd rfl h
theorem nameR_inr {rs : List T} {p : Nat} {n : T} {q : Nat} (h : nameR rs p = .inr (n, q)) : n = (word rs p).flatten ∧ q = p + (word rs p).length := by
  unfold nameR at h
  split at h
  · cases h
  split at h
  · cases h
  split at h
  · cases h
  injection h with h
  injection h with h1 h2
  exact ⟨h1.symm, h2.symm⟩
/-- The word of an argument's kind. -/
theorem known_o {rs : List T} (hc : Cps rs) {x : Dk.Sc} {k : Nat} (hi : x.i = o rs k) (he : x.err = 0) :
    (Dk.knownOf (word rs k).flatten = 4 → Dk.knownOf (x.nameT rs.flatten) = 4 ∧ Bad ((x.name rs.flatten).fault 3 (o rs k)) 3 (o rs k)) ∧
    (Dk.knownOf (word rs k).flatten ≠ 4 → x.nameT rs.flatten = (word rs k).flatten ∧ x.name rs.flatten = { x with i := o rs (k + (word rs k).length) }) := by
  have hnm := name_o hc hi he
  constructor
  · intro h
    cases hr : nameR rs k with
    | inl a =>
      rcases hnm.2 a hr with ⟨h1, h2, h3⟩ | ⟨h1, h2, h3⟩
      · rw [h3, h1, h2]
        exact ⟨by decide, Bad.fault (e := 3) ⟨rfl, rfl, by decide⟩ _ _⟩
      · refine ⟨?_, ?_⟩
        · rcases Nat.decEq (Dk.knownOf (x.nameT rs.flatten)) 4 with h' | h'
          · have := known_word _ h'
            omega
          · exact h'
        · rw [h1]
          exact Bad.new (x := { x with i := o rs a }) he 3 _ (by decide)
    | inr nq =>
      obtain ⟨n, q⟩ := nq
      obtain ⟨h1, h2⟩ := hnm.1 n q hr
      rw [h2, h1, (nameR_inr hr).1]
      exact ⟨h, Bad.new (x := { x with i := o rs q }) he 3 _ (by decide)⟩
  · intro h
    obtain ⟨k1, k2, k3⟩ := known_word _ h
    have hw := name_word hc k k3 k1 (by omega)
    obtain ⟨h1, h2⟩ := hnm.1 _ _ hw
    exact ⟨h2, h1⟩
theorem take7 (L : T) : L.take 7 = Dk.offsetW ↔ L.takeWhile isN = offW ∧ L[6]? = some 58 := by
  constructor
  · intro h
    have h1 := List.take_append_drop 7 L
    rw [h] at h1
    rw [← h1]
    have ha : ∀ l : T, (Dk.offsetW ++ l).takeWhile isN = offW := by
      intro l
      simp only [Dk.offsetW, List.cons_append, List.nil_append, List.takeWhile_cons, offW]
      simp [show isN 111 = true by decide, show isN 102 = true by decide, show isN 115 = true by decide, show isN 101 = true by decide, show isN 116 = true by decide, show isN 58 = false by decide]
    exact ⟨ha _, by simp [Dk.offsetW]⟩
  · rintro ⟨h1, h2⟩
    have h3 := List.takeWhile_append_dropWhile (p := isN) (l := L)
    rw [h1] at h3
    rw [← h3] at h2 ⊢
    cases hd : L.dropWhile isN with
    | nil => rw [hd] at h2; simp [offW] at h2
    | cons c r =>
      rw [hd] at h2
      have : c = 58 := by simpa [offW] using h2
      rw [this]
      rfl
theorem next7 {rs : List T} (hc : Cps rs) {x : Dk.Sc} {p : Nat} (hi : x.i = o rs p) : x.next rs.flatten 7 = Dk.offsetW ↔ (word rs p).flatten = offW ∧ rs[p + (word rs p).length]? = some [58] := by
  unfold Dk.Sc.next
  rw [hi, take7, drop_o, (tw _ isN_lt _ (hc.drop p)).1]
  constructor
  · rintro ⟨h1, h2⟩
    refine ⟨h1, ?_⟩
    have hl : (word rs p).flatten.length = (word rs p).length := (tw _ isN_lt _ (hc.drop p)).2
    have h6 : (word rs p).length = 6 := by rw [← hl]; show ((rs.drop p).takeWhile (one1 isN)).flatten.length = 6; rw [h1]; rfl
    rw [h6]
    have h7 := o_tw (rs := rs) isN p 6 (by show 6 ≤ (word rs p).length; omega)
    rw [← drop_o, List.getElem?_drop, ← h7] at h2
    exact (at_one hc _ 58 (by decide)).1 h2
  · rintro ⟨h1, h2⟩
    refine ⟨h1, ?_⟩
    have hl : (word rs p).flatten.length = (word rs p).length := (tw _ isN_lt _ (hc.drop p)).2
    have h6 : (word rs p).length = 6 := by rw [← hl, h1]; rfl
    rw [h6] at h2
    have h7 := o_tw (rs := rs) isN p 6 (by show 6 ≤ (word rs p).length; omega)
    rw [← drop_o, List.getElem?_drop, ← h7]
    exact (at_one hc _ 58 (by decide)).2 h2
theorem sel_dig {rs : List T} {a : Nat} (h : at1 rs a Pn.isDig = true) : selR true rs a = .inl a := by
  unfold selR
  rw [if_neg (by simp), if_neg (not_at h 61 (by decide)), if_neg]
  intro hcat
  obtain ⟨c1, c2, c3⟩ := cat_len _ hcat
  cases hw : (word rs a).flatten with
  | nil => rw [hw] at c1; simp at c1
  | cons c r =>
    have h1 := word_head a c (by rw [hw]; rfl)
    rw [hw] at c3
    have h2 := alpha_dig c c3
    rw [at1, h1] at h
    simp only [one1] at h
    rw [h2] at h
    cases h
/-- Behind the word of an argument with branches. -/
theorem args_o {rs : List T} (hc : Cps rs) {x : Dk.Sc} {j : Nat} (hi : x.i = o rs j) (he : x.err = 0) (known : Nat) (m : Dk.Mark) :
    (rs[j]? ≠ some [44] → Bad (x.args rs.flatten known m) 3 (o rs j)) ∧
    (rs[j]? = some [44] → 3 ≤ known → x.args rs.flatten known m = ({ x with i := o rs (bl rs (j + 1)), out := x.out ++ [{ m with offset := [48] }] } : Dk.Sc).branch rs.flatten false) ∧
    (rs[j]? = some [44] → known < 3 → (∀ a, offR rs (bl rs (j + 1)) = .inl a → Bad (x.args rs.flatten known m) 3 (o rs a)) ∧
      (∀ off i, offR rs (bl rs (j + 1)) = .inr (off, i) → x.args rs.flatten known m = ({ x with i := o rs (bl rs i), out := x.out ++ [{ m with offset := off }] } : Dk.Sc).branch rs.flatten true)) := by
  have hn := needs_o hc hi he 44 (by decide)
  unfold Dk.Sc.args
  refine ⟨fun h => ?_, fun h hk => ?_, fun h hk => ?_⟩
  · have h1 := (hn.2 h).blanks rs.flatten
    simp only
    split
    · exact (((h1.go 7).blanks _).whole _ |>.blanks _ |>.put _).branch _ _
    · exact (h1.put _).branch _ _
  · rw [hn.1 h, blanks_o hc (x := { x with i := o rs (j + 1) }) (p := j + 1) rfl]
    simp only
    rw [if_neg (by omega), decide_eq_false (by omega)]
    rfl
  · rw [hn.1 h, blanks_o hc (x := { x with i := o rs (j + 1) }) (p := j + 1) rfl]
    simp only
    have h7 := next7 hc (x := { x with i := o rs (bl rs (j + 1)) }) (p := bl rs (j + 1)) rfl
    unfold offR
    have hbb := bl_bl rs (j + 1)
    generalize bl rs (j + 1) = i1 at *
    by_cases ho : (word rs i1).flatten = offW ∧ rs[i1 + (word rs i1).length]? = some [58]
    · rw [if_pos ho, if_pos ⟨hk, h7.2 ho⟩]
      have hl : (word rs i1).flatten.length = (word rs i1).length := (tw _ isN_lt _ (hc.drop i1)).2
      have h6 : (word rs i1).length = 6 := by rw [← hl, ho.1]; rfl
      have hg : (({ x with i := o rs i1 } : Dk.Sc).go 7) = { x with i := o rs (i1 + (word rs i1).length + 1) } := by
        rw [o_succ ho.2, o_tw (rs := rs) isN i1 (word rs i1).length (Nat.le_refl _), h6]
        rfl
      rw [hg, blanks_o hc (x := { x with i := o rs (i1 + (word rs i1).length + 1) }) (p := i1 + (word rs i1).length + 1) rfl]
      generalize bl rs (i1 + (word rs i1).length + 1) = z at *
      have hw := whole_o hc (x := { x with i := o rs z }) (p := z) rfl he
      constructor
      · intro a h
        rcases hw.2 a h with h1 | ⟨h1, h2⟩
        · rw [h1]
          exact ((Bad.blanks (e := 3) (a := o rs a) ⟨rfl, rfl, by decide⟩ _).put _).branch _ _
        · rw [h1, blanks_o hc (x := { x with i := o rs a }) (p := a) rfl, bl_at h2 isDig_blk]
          exact (branch_o hc (x := Dk.Sc.put { x with i := o rs a } { m with offset := ({ x with i := o rs z } : Dk.Sc).wholeT rs.flatten }) (p := a) rfl he true).2 a (sel_dig h2)
      · intro off i h
        obtain ⟨h1, h2⟩ := hw.1 off i h
        rw [h1, h2, blanks_o hc (x := { x with i := o rs i }) (p := i) rfl]
        rfl
    · rw [if_neg ho, if_neg (fun h => ho (h7.1 h.2))]
      constructor
      · intro a h; cases h
      · intro off i h
        injection h with h
        injection h with h1 h2
        rw [← h1, ← h2, decide_eq_true hk, hbb]
        rfl
/-- An argument's opening; of one with branches up to its first branch's message. -/
theorem brace_o {rs : List T} (hc : Cps rs) {x : Dk.Sc} {p : Nat} (hi : x.i = o rs p) (he : x.err = 0) (hp : rs[p]? = some [123]) :
    (∀ a, nameR rs (bl rs (p + 1)) = .inl a → Bad (x.brace rs.flatten) 3 (o rs a)) ∧
    (∀ n q, nameR rs (bl rs (p + 1)) = .inr (n, q) →
      (rs[bl rs q]? = some [125] → x.brace rs.flatten = { x with i := o rs (bl rs q + 1), out := x.out ++ [{ kind := 112, name := n, at_ := o rs p }] }) ∧
      (rs[bl rs q]? ≠ some [125] → rs[bl rs q]? ≠ some [44] → Bad (x.brace rs.flatten) 3 (o rs (bl rs q))) ∧
      (rs[bl rs q]? = some [44] → ∀ k, k = bl rs (bl rs q + 1) →
        (Dk.knownOf (word rs k).flatten = 4 → Bad (x.brace rs.flatten) 3 (o rs k)) ∧
        (Dk.knownOf (word rs k).flatten ≠ 4 → ∀ j, j = bl rs (k + (word rs k).length) →
          (Dk.knownOf (word rs k).flatten = 0 → (rs[j]? ≠ some [125] → Bad (x.brace rs.flatten) 3 (o rs j)) ∧
            (rs[j]? = some [125] → x.brace rs.flatten = { x with i := o rs (j + 1), out := x.out ++ [{ kind := 110, name := n, how := (word rs k).flatten, at_ := o rs p }] })) ∧
          (Dk.knownOf (word rs k).flatten ≠ 0 → x.brace rs.flatten = ({ x with i := o rs j } : Dk.Sc).args rs.flatten (Dk.knownOf (word rs k).flatten) { kind := 40, name := n, how := (word rs k).flatten, at_ := o rs p })))) := by
  have hg : x.go 1 = { x with i := o rs (p + 1) } := by rw [Dk.Sc.go, o_succ hp, hi]; rfl
  unfold Dk.Sc.brace
  rw [hg, blanks_o hc (x := { x with i := o rs (p + 1) }) (p := p + 1) rfl]
  simp only
  generalize bl rs (p + 1) = A at *
  have hnm := name_o hc (x := { x with i := o rs A }) (p := A) rfl he
  constructor
  · intro a h
    rcases hnm.2 a h with ⟨h1, _⟩ | ⟨h1, h2, _⟩
    · rw [h1]
      have hb : Bad (({ x with i := o rs A, err := 3, place := o rs a } : Dk.Sc).blanks rs.flatten) 3 (o rs a) := Bad.blanks (x := { x with i := o rs A, err := 3, place := o rs a }) (e := 3) ⟨rfl, rfl, (by decide : (3 : Nat) ≠ 0)⟩ _
      rw [if_pos (by rw [hb.1]; decide)]
      exact hb
    · rw [h1, blanks_o hc (x := { x with i := o rs a }) (p := a) rfl, bl_at h2 isN_blk]
      have hne := not_at h2 44 (by decide)
      simp only
      rw [if_neg (by rw [he]; decide), if_pos (fun h => hne ((at_one hc a 44 (by decide)).1 h))]
      exact ((needs_o hc (x := { x with i := o rs a }) (p := a) rfl he 125 (by decide)).2 (not_at h2 125 (by decide))).put _
  · intro n q h
    obtain ⟨h1, h2⟩ := hnm.1 n q h
    rw [h1, h2, blanks_o hc (x := { x with i := o rs q }) (p := q) rfl]
    simp only
    generalize bl rs q = Q at *
    rw [if_neg (by rw [he]; decide)]
    have hnd := needs_o hc (x := { x with i := o rs Q }) (p := Q) rfl he 125 (by decide)
    refine ⟨fun h3 => ?_, fun h3 h4 => ?_, fun h3 k hk => ?_⟩
    · rw [if_pos (fun h => by rw [(at_one hc Q 44 (by decide)).1 h] at h3; cases h3), hnd.1 h3, hi]
      rfl
    · rw [if_pos (fun h => h4 ((at_one hc Q 44 (by decide)).1 h))]
      exact (hnd.2 h3).put _
    · rw [if_neg (fun h => h ((at_one hc Q 44 (by decide)).2 h3))]
      have hg2 : (({ x with i := o rs Q } : Dk.Sc).go 1) = { x with i := o rs (Q + 1) } := by rw [Dk.Sc.go, o_succ h3]; rfl
      rw [hg2, blanks_o hc (x := { x with i := o rs (Q + 1) }) (p := Q + 1) rfl, ← hk]
      have hkn := known_o hc (x := { x with i := o rs k }) (k := k) rfl he
      constructor
      · intro h4
        obtain ⟨h5, h6⟩ := hkn.1 h4
        rw [if_pos h5]
        exact h6
      · intro h4 j hj
        obtain ⟨h5, h6⟩ := hkn.2 h4
        rw [h5, h6, if_neg h4, blanks_o hc (x := { x with i := o rs (k + (word rs k).length) }) (p := k + (word rs k).length) rfl, ← hj]
        have hne := needs_o hc (x := { x with i := o rs j }) (p := j) rfl he 125 (by decide)
        constructor
        · intro h7
          rw [if_pos h7, hi]
          refine ⟨fun h8 => (hne.2 h8).put _, fun h8 => ?_⟩
          rw [hne.1 h8]
          rfl
        · intro h7
          rw [if_neg h7, hi]
end Go.Proofs.YtaepcfidpekflaaGreatDoor.Pg
namespace Go.Proofs.YtaepcfidpekflaaGreatDoor

theorem cut_at39 (l : List UInt8) (k : Nat) (hk : k < l.length) (h1 : ∀ j (hj : j < l.length), j < k → l[j] ≠ 39) (h2 : l[k] = 39) : Lib.cut l [39] = (l.take k, l.drop (k + 1), true) := by
  have hi : Lib.index l [39] = k := by
    refine Lib.index_first (by omega) ?_ ?_
    · rw [Lib.occAt, List.drop_eq_getElem_cons hk, h2]; simp [List.isPrefixOf]
    · intro j hj
      rw [Lib.occAt, List.drop_eq_getElem_cons (by omega)]
      have := h1 j (by omega) hj
      simp only [List.isPrefixOf, Bool.and_true, beq_eq_false_iff_ne]
      exact fun e => this e.symm
  unfold Lib.cut
  rw [hi, if_pos (by omega)]
  simp
theorem cut_end39 (l : List UInt8) (h1 : ∀ j (hj : j < l.length), l[j] ≠ 39) : Lib.cut l [39] = (l, [], false) := by
  have hi : Lib.index l [39] = -1 := by
    refine Lib.index_none ?_
    intro j hj
    rw [Lib.occAt]
    rcases Nat.lt_or_ge j l.length with h | h
    · rw [List.drop_eq_getElem_cons h]
      have := h1 j h
      simp only [List.isPrefixOf, Bool.and_true, beq_eq_false_iff_ne]
      exact fun e => this e.symm
    · rw [List.drop_eq_nil_of_le h]; rfl
  unfold Lib.cut
  rw [hi, if_neg (by omega)]
end Go.Proofs.YtaepcfidpekflaaGreatDoor
namespace Go.Proofs.YtaepcfidpekflaaGreatDoor

theorem cut39_spec (l : List UInt8) : ((Lib.cut l [39]).2.2 = true ∧ l = (Lib.cut l [39]).1 ++ 39 :: (Lib.cut l [39]).2.1 ∧ 39 ∉ (Lib.cut l [39]).1)
    ∨ ((Lib.cut l [39]).2.2 = false ∧ (Lib.cut l [39]).1 = l ∧ (Lib.cut l [39]).2.1 = [] ∧ 39 ∉ l) := by
  rcases Lib.index_spec l [39] with ⟨h1, h2⟩ | ⟨i, h1, h2, h3, h4⟩
  · right
    have : ¬ (0 ≤ Lib.index l [39]) := by omega
    simp only [Lib.cut, if_neg this, true_and]
    intro hm
    obtain ⟨j, hj, he⟩ := List.getElem_of_mem hm
    have := h2 j (by omega)
    rw [Lib.occAt, List.drop_eq_getElem_cons hj, he] at this
    simp [List.isPrefixOf] at this
  · left
    have h0 : (0 : Int) ≤ Lib.index l [39] := by omega
    have hi : (Lib.index l [39]).toNat = i := by omega
    simp only [Lib.cut, if_pos h0, hi, true_and]
    have hlt : i < l.length := by
      rcases Nat.lt_or_ge i l.length with h | h
      · exact h
      · rw [Lib.occAt, List.drop_eq_nil_of_le h] at h3; simp [List.isPrefixOf] at h3
    have hget : l[i] = 39 := by
      rw [Lib.occAt, List.drop_eq_getElem_cons hlt] at h3
      have h3' : (39 : UInt8) = l[i] := by simpa [List.isPrefixOf] using h3
      exact h3'.symm
    constructor
    · have := List.take_append_drop i l
      rw [List.drop_eq_getElem_cons hlt, hget] at this
      simpa using this.symm
    · intro hm
      obtain ⟨j, hj, he⟩ := List.getElem_of_mem hm
      have hj' : j < i := by simp at hj; omega
      have := h4 j hj'
      rw [Lib.occAt, List.drop_eq_getElem_cons (by omega)] at this
      rw [List.getElem_take] at he
      simp [List.isPrefixOf, he] at this


theorem say_i (x : Dk.Sc) (t : Pr.T) : (x.say t).i = x.i ∧ (x.say t).opens = x.opens := by
  unfold Dk.Sc.say
  split <;> exact ⟨rfl, rfl⟩
theorem quote_stop (z : Dk.Sc) (k : Nat) (R : Pr.T) (h : (Lib.cut R [39]).2.2 = false) : z.quoteGo (k + 1) R = (z.say (Lib.cut R [39]).1).go (Lib.cut R [39]).1.length := by
  rw [Dk.Sc.quoteGo]
  simp only [h, if_true]
theorem quote_end (z : Dk.Sc) (k : Nat) (R : Pr.T) (h : (Lib.cut R [39]).2.2 = true) (hb : ∀ r, (Lib.cut R [39]).2.1 ≠ 39 :: r) : z.quoteGo (k + 1) R = ((z.say (Lib.cut R [39]).1).go (Lib.cut R [39]).1.length).go 1 := by
  rw [Dk.Sc.quoteGo]
  simp only [h, Bool.true_eq_false, if_false]
  split
  · rename_i c r e
    rw [if_neg (fun hc => hb r (by rw [e, hc]))]
  · rfl
theorem quote_more (z : Dk.Sc) (k : Nat) (R r : Pr.T) (h : (Lib.cut R [39]).2.2 = true) (hb : (Lib.cut R [39]).2.1 = 39 :: r) : z.quoteGo (k + 1) R = (((((z.say (Lib.cut R [39]).1).go (Lib.cut R [39]).1.length).go 1).say [39]).go 1).quoteGo k r := by
  rw [Dk.Sc.quoteGo]
  simp only [h, Bool.true_eq_false, if_false, hb, if_true]
end Go.Proofs.YtaepcfidpekflaaGreatDoor
