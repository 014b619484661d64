/-
  Several texts in one (Sn, So). By the verifier.
-/
import Derived.Test.YtaepcfidpekflaaGreatDoorZ13
import Derived.Test.YtaepcfidpekflaaGreatDoorZ14
namespace Go.Proofs.YtaepcfidpekflaaGreatDoor
open Go.RowKit

/-- The words so far, the kind of the last byte, the bytes that are left. -/
def wGo (out : List Pr.T) (last : Nat) : Pr.T → Option (List Pr.T)
  | [] => some out
  | c :: r =>
    if kindN c = 3 then wGo out 3 r
    else if 0 < kindN c ∧ kindN c = last then wGo (out.dropLast ++ [out.getLastD [] ++ [c]]) (kindN c) r
    else if 0 < kindN c ∨ c = 61 ∨ c = 44 ∨ c = 37 then wGo (out ++ [[c]]) (kindN c) r
    else match r with
      | [] => none
      | d :: r' => if c = 33 ∧ d = 61 ∨ c = 46 ∧ d = 46 then wGo (out ++ [[c, d]]) (kindN c) r' else none
theorem wGo_cons (out : List Pr.T) (last : Nat) (c : UInt8) (r : Pr.T) : wGo out last (c :: r) = if kindN c = 3 then wGo out 3 r
    else if 0 < kindN c ∧ kindN c = last then wGo (out.dropLast ++ [out.getLastD [] ++ [c]]) (kindN c) r
    else if 0 < kindN c ∨ c = 61 ∨ c = 44 ∨ c = 37 then wGo (out ++ [[c]]) (kindN c) r
    else match r with
      | [] => none
      | d :: r' => if c = 33 ∧ d = 61 ∨ c = 46 ∧ d = 46 then wGo (out ++ [[c, d]]) (kindN c) r' else none := by
  cases r with
  | nil => simp only [wGo]
  | cons d r => rw [wGo]
def pK (k : Nat) : UInt8 → Bool := if k = 1 then Pr.isLet else if k = 2 then Pn.isDig else fun _ => false
theorem kind_four (c : UInt8) : (kindN c = 1 ∧ Pr.isLet c = true) ∨ (kindN c = 2 ∧ Pr.isLet c = false ∧ Pn.isDig c = true) ∨ (kindN c = 3 ∧ c = 32) ∨ (kindN c = 0 ∧ Pr.isLet c = false ∧ Pn.isDig c = false ∧ c ≠ 32) := by
  unfold kindN
  cases h1 : Pr.isLet c with
  | true => exact .inl ⟨by simp, rfl⟩
  | false =>
    cases h2 : Pn.isDig c with
    | true => exact .inr (.inl ⟨by simp, rfl, rfl⟩)
    | false =>
      by_cases h3 : c = 32
      · exact .inr (.inr (.inl ⟨by simp [h3], h3⟩))
      · exact .inr (.inr (.inr ⟨by simp [h3], rfl, rfl, h3⟩))
theorem pK_kind (c : UInt8) (last : Nat) (h : kindN c ≠ last ∨ kindN c = 0 ∨ kindN c = 3) : pK last c = false := by
  unfold pK
  have h4 := kind_four c
  by_cases h1 : last = 1
  · rw [if_pos h1]
    rcases h4 with ⟨a, b⟩ | ⟨a, b, _⟩ | ⟨a, b⟩ | ⟨a, b, _⟩
    · omega
    · exact b
    · subst b; decide
    · exact b
  · rw [if_neg h1]
    by_cases h2 : last = 2
    · rw [if_pos h2]
      rcases h4 with ⟨a, b⟩ | ⟨a, b, _⟩ | ⟨a, b⟩ | ⟨a, b, b2, _⟩
      · rcases (isLet_iff c).1 b with ⟨b1, b2⟩
        rw [← Bool.not_eq_true, Pn.isDig_iff]; omega
      · omega
      · subst b; decide
      · exact b2
    · rw [if_neg h2]
theorem pK_self (c : UInt8) (h : 0 < kindN c) (h3 : kindN c ≠ 3) : pK (kindN c) c = true := by
  rcases kind_four c with ⟨a, b⟩ | ⟨a, b, b2⟩ | ⟨a, b⟩ | ⟨a, b, b2, _⟩
  · rw [a]; exact b
  · rw [a]; exact b2
  · omega
  · omega
theorem part_kind (c : UInt8) (r : Pr.T) (h : 0 < kindN c) (h3 : kindN c ≠ 3) : Pr.partLen (c :: r) = (r.takeWhile (pK (kindN c))).length + 1 := by
  rcases kind_four c with ⟨a, b⟩ | ⟨a, b, b2⟩ | ⟨a, b⟩ | ⟨a, b, b2, _⟩
  · rw [a]; simp [Pr.partLen, b, pK]
  · rw [a]; simp [Pr.partLen, b, b2, pK]
  · omega
  · omega
theorem take_tw (p : UInt8 → Bool) (r : Pr.T) : r.take (r.takeWhile p).length = r.takeWhile p ∧ r.drop (r.takeWhile p).length = r.dropWhile p := by
  induction r with
  | nil => exact ⟨rfl, rfl⟩
  | cons c r ih =>
    cases h : p c with
    | true =>
      rw [List.takeWhile_cons_of_pos h, List.dropWhile_cons_of_pos h, List.length_cons, List.take_succ_cons, List.drop_succ_cons, ih.1, ih.2]
      exact ⟨rfl, rfl⟩
    | false =>
      rw [List.takeWhile_cons_of_neg (by simp [h]), List.dropWhile_cons_of_neg (by simp [h])]
      exact ⟨rfl, rfl⟩
theorem toks_kind (c : UInt8) (r : Pr.T) (h : 0 < kindN c) (h3 : kindN c ≠ 3) : Pr.toks (c :: r) = (Pr.toks (r.dropWhile (pK (kindN c)))).map ((c :: r.takeWhile (pK (kindN c))) :: ·) := by
  have hc : c ≠ 32 := fun e => by subst e; exact h3 (by decide)
  obtain ⟨t1, t2⟩ := take_tw (pK (kindN c)) r
  rw [Pr.toks_step, part_kind c r h h3, if_neg (by omega), List.drop_succ_cons, List.take_succ_cons, t1, t2]
  cases Pr.toks (r.dropWhile (pK (kindN c))) with
  | none => rfl
  | some l => simp [hc]
theorem toks_sign (c : UInt8) (r : Pr.T) (h : kindN c = 0) (hs : c = 61 ∨ c = 44 ∨ c = 37) : Pr.toks (c :: r) = (Pr.toks r).map ([c] :: ·) := by
  have hp : Pr.partLen (c :: r) = 1 := by rcases hs with rfl | rfl | rfl <;> simp [Pr.partLen, Pr.isLet, Pn.isDig]
  have hc : c ≠ 32 := by rcases hs with rfl | rfl | rfl <;> decide
  rw [Pr.toks_step, hp]
  simp only [List.drop_succ_cons, List.drop_zero, List.take_succ_cons, List.take_zero]
  cases Pr.toks r <;> simp [hc]
theorem toks_two (c d : UInt8) (r : Pr.T) (hs : c = 33 ∧ d = 61 ∨ c = 46 ∧ d = 46) : Pr.toks (c :: d :: r) = (Pr.toks r).map ([c, d] :: ·) := by
  have hp : Pr.partLen (c :: d :: r) = 2 := by rcases hs with ⟨rfl, rfl⟩ | ⟨rfl, rfl⟩ <;> simp [Pr.partLen, Pr.isLet, Pn.isDig]
  have hc : c ≠ 32 := by rcases hs with ⟨rfl, _⟩ | ⟨rfl, _⟩ <;> decide
  rw [Pr.toks_step, hp]
  simp only [List.drop_succ_cons, List.drop_zero, List.take_succ_cons, List.take_zero]
  cases Pr.toks r <;> simp [hc]
theorem toks_bad (c : UInt8) (r : Pr.T) (h : kindN c = 0) (hs : ¬ (c = 61 ∨ c = 44 ∨ c = 37)) (hr : ¬ (c = 33 ∧ r.head? = some 61 ∨ c = 46 ∧ r.head? = some 46)) : Pr.toks (c :: r) = none := by
  rcases kind_four c with ⟨a, b⟩ | ⟨a, b, b2⟩ | ⟨a, b⟩ | ⟨a, b, b2, b3⟩
  · omega
  · omega
  · omega
  · have hp : Pr.partLen (c :: r) = 0 := by
      rw [Pr.partLen, b, b2, if_neg Bool.false_ne_true, if_neg Bool.false_ne_true, if_neg hr, if_neg]
      rintro (e | e | e | e)
      · exact b3 e
      · exact hs (.inl e)
      · exact hs (.inr (.inr e))
      · exact hs (.inr (.inl e))
    rw [Pr.toks_step, hp]; rfl
theorem tw_stop (p : UInt8 → Bool) (c : UInt8) (r : Pr.T) (h : p c = false) : (c :: r).takeWhile p = [] ∧ (c :: r).dropWhile p = c :: r := by
  constructor
  · rw [List.takeWhile_cons_of_neg (by simp [h])]
  · rw [List.dropWhile_cons_of_neg (by simp [h])]
/-- Behind a word that may go on. -/
theorem words_go : ∀ (n : Nat) (s : Pr.T), s.length ≤ n → (∀ (out : List Pr.T) (last : Nat), last = 0 ∨ last = 3 → wGo out last s = (Pr.toks s).map (out ++ ·)) ∧
    (∀ (out : List Pr.T) (t : Pr.T) (last : Nat), wGo (out ++ [t]) last s = (Pr.toks (s.dropWhile (pK last))).map (fun l => (out ++ [t ++ s.takeWhile (pK last)]) ++ l)) := by
  intro n
  induction n with
  | zero =>
    intro s h
    have : s = [] := List.length_eq_zero_iff.1 (by omega)
    subst this
    refine ⟨fun out last _ => ?_, fun out t last => ?_⟩
    · simp [wGo, Pr.toks, Pr.splitGo]
    · simp [wGo, Pr.toks, Pr.splitGo]
  | succ n ih =>
    intro s h
    cases s with
    | nil =>
      refine ⟨fun out last _ => ?_, fun out t last => ?_⟩
      · simp [wGo, Pr.toks, Pr.splitGo]
      · simp [wGo, Pr.toks, Pr.splitGo]
    | cons c r =>
      have hr : r.length ≤ n := by simp at h; omega
      -- a byte that does not go on with the last word
      have step : ∀ (out : List Pr.T) (last : Nat), (kindN c ≠ last ∨ kindN c = 0 ∨ kindN c = 3) → wGo out last (c :: r) = (Pr.toks (c :: r)).map (out ++ ·) := by
        intro out last hl
        by_cases h3 : kindN c = 3
        · have hc : c = 32 := by
            rcases kind_four c with ⟨a, b⟩ | ⟨a, b, b2⟩ | ⟨a, b⟩ | ⟨a, b, b2, b3⟩
            · omega
            · omega
            · exact b
            · omega
          rw [wGo_cons, if_pos h3, (ih r hr).1 out 3 (.inr rfl), hc, Pr.toks_blank]
        · by_cases h0 : 0 < kindN c
          · have hn : ¬ (0 < kindN c ∧ kindN c = last) := by omega
            rw [wGo_cons, if_neg h3, if_neg hn, if_pos (.inl h0), (ih r hr).2 out [c] (kindN c), toks_kind c r h0 h3]
            cases Pr.toks (r.dropWhile (pK (kindN c))) with
            | none => rfl
            | some l => simp
          · have hn : ¬ (0 < kindN c ∧ kindN c = last) := by omega
            have hz : kindN c = 0 := by omega
            by_cases hs : c = 61 ∨ c = 44 ∨ c = 37
            · rw [wGo_cons, if_neg h3, if_neg hn, if_pos (.inr hs), (ih r hr).1 _ (kindN c) (.inl hz), toks_sign c r hz hs]
              cases Pr.toks r <;> simp
            · have hn2 : ¬ (0 < kindN c ∨ c = 61 ∨ c = 44 ∨ c = 37) := fun e => e.elim h0 hs
              cases r with
              | nil =>
                rw [wGo_cons, if_neg h3, if_neg hn, if_neg hn2, toks_bad c [] hz hs (by simp)]
                rfl
              | cons d r' =>
                by_cases h2 : c = 33 ∧ d = 61 ∨ c = 46 ∧ d = 46
                · rw [wGo_cons, if_neg h3, if_neg hn, if_neg hn2]
                  simp only [if_pos h2]
                  rw [(ih r' (by simp at hr; omega)).1 _ (kindN c) (.inl hz), toks_two c d r' h2]
                  cases Pr.toks r' <;> simp
                · rw [wGo_cons, if_neg h3, if_neg hn, if_neg hn2, toks_bad c (d :: r') hz hs (by simpa using h2)]
                  simp only [if_neg h2]
                  rfl
      refine ⟨fun out last hl => step out last (by omega), fun out t last => ?_⟩
      by_cases hl : kindN c ≠ last ∨ kindN c = 0 ∨ kindN c = 3
      · obtain ⟨t1, t2⟩ := tw_stop (pK last) c r (pK_kind c last hl)
        rw [step _ _ hl, t1, t2, List.append_nil]
      · have hk : 0 < kindN c ∧ kindN c = last := by omega
        have h3 : kindN c ≠ 3 := by omega
        have hp := pK_self c hk.1 h3
        rw [wGo_cons, if_neg h3, if_pos hk]
        simp only [List.dropLast_concat, List.getLastD_concat]
        rw [(ih r hr).2 out (t ++ [c]) (kindN c), ← hk.2, List.dropWhile_cons_of_pos hp, List.takeWhile_cons_of_pos hp]
        simp
theorem words_toks (s : Pr.T) : wGo [] 3 s = Pr.toks s := by
  rw [(words_go s.length s (Nat.le_refl _)).1 [] 3 (.inr rfl)]
  cases Pr.toks s <;> rfl
end Go.Proofs.YtaepcfidpekflaaGreatDoor
namespace Go.Proofs.YtaepcfidpekflaaGreatDoor
open Go.RowKit

theorem cut_at64 (l : List UInt8) (k : Nat) (hk : k < l.length) (h1 : ∀ j (hj : j < l.length), j < k → l[j] ≠ 64) (h2 : l[k] = 64) : Lib.cut l [64] = (l.take k, l.drop (k + 1), true) := by
  have hi : Lib.index l [64] = k := by
    refine Lib.index_first (by omega) ?_ ?_
    · rw [Lib.occAt, List.drop_eq_getElem_cons hk, h2]; simp [List.isPrefixOf]
    · intro j hj
      rw [Lib.occAt, List.drop_eq_getElem_cons (by omega)]
      have := h1 j (by omega) hj
      simp only [List.isPrefixOf, Bool.and_true, beq_eq_false_iff_ne]
      exact fun e => this e.symm
  unfold Lib.cut
  rw [hi, if_pos (by omega)]
  simp
theorem cut_end64 (l : List UInt8) (h1 : ∀ j (hj : j < l.length), l[j] ≠ 64) : Lib.cut l [64] = (l, [], false) := by
  have hi : Lib.index l [64] = -1 := by
    refine Lib.index_none ?_
    intro j hj
    rw [Lib.occAt]
    rcases Nat.lt_or_ge j l.length with h | h
    · rw [List.drop_eq_getElem_cons h]
      have := h1 j h
      simp only [List.isPrefixOf, Bool.and_true, beq_eq_false_iff_ne]
      exact fun e => this e.symm
    · rw [List.drop_eq_nil_of_le h]; rfl
  unfold Lib.cut
  rw [hi, if_neg (by omega)]
theorem ret_cut64 {l a b : List UInt8} {s t : ByteArray} {p q : Bool} (h : Lib.cut l [64] = (a, b, p)) (hs : s = ⟨a.toArray⟩) (ht : t = ⟨b.toArray⟩) (hq : q = p) :
    Ending.returned (.tuple #[.string s, .string t, .bool q]) = .returned (.tuple #[.string ⟨(Lib.cut l [64]).1.toArray⟩, .string ⟨(Lib.cut l [64]).2.1.toArray⟩, .bool (Lib.cut l [64]).2.2]) := by
  rw [h, hs, ht, hq]

set_option maxHeartbeats 400000 in
theorem rcut_at (s : ByteArray) (w : World) (hs : s.size ≤ 1000000) :
    Calls Tryz.prog 49 #[.string s, .int .u8 64] w fun e w' => e = .returned (.tuple #[.string ⟨(Lib.cut s.data.toList [64]).1.toArray⟩, .string ⟨(Lib.cut s.data.toList [64]).2.1.toArray⟩, .bool (Lib.cut s.data.toList [64]).2.2]) ∧ Below w.heap.size w w' := by
  go_enter Tryz.func49, Tryz.ntmps49
  go_wp2
  go_loop [7] (fun t => ∃ k : Nat, k ≤ s.size ∧ t = .int .i64 k ∧ Hid (∀ j (hj : j < s.data.toList.length), j < k → s.data.toList[j] ≠ 64)) (fun t => s.size - (intOf t).toNat)
  case atStart => exact ⟨0, Nat.zero_le _, rfl, fun j _ h => by omega⟩
  case round =>
    obtain ⟨k, hk, rfl, HK⟩ := hrel
    by_cases hlt : k < s.size
    · have hlt' : k < s.data.toList.length := by rw [← Lib.size_eq]; exact hlt
      have hgk : s.data.toList[k] = s[k] := rfl
      by_cases hc : s[k].toNat = 64
      · have hc' : ((s[k].toNat : Int) == 64) = true := by simp; omega
        have HX : Hid (Lib.cut s.data.toList [64] = (s.data.toList.take k, s.data.toList.drop (k + 1), true)) := cut_at64 _ k hlt' HK.out (by rw [hgk]; exact UInt8.toNat_inj.1 hc)
        clear hc hgk
        go_wp2
        go_quiet (fail)
        go_wp2
        go_ret3
        exact ⟨ret_cut64 HX.out (by rw [Lib.extract_upto]) (by rw [Lib.extract_from]) rfl, drewB _ _⟩
      · have hc' : ((s[k].toNat : Int) == 64) = false := by simp; omega
        have HK2 : Hid (∀ j (hj : j < s.data.toList.length), j < k + 1 → s.data.toList[j] ≠ 64) := by
          intro j hj h
          by_cases e : j = k
          · subst e; intro h64; rw [hgk] at h64; exact hc (by rw [h64]; rfl)
          · exact HK.out j hj (by omega)
        clear hc hgk
        go_wp2
        go_round
        case rel => exact ⟨k + 1, hlt, by go_num, HK2⟩
        case measure => simp [intOf]; omega
    · have HX : Hid (Lib.cut s.data.toList [64] = (s.data.toList, [], false)) := cut_end64 _ (fun j hj => HK.out j hj (by rw [← Lib.size_eq] at hj; omega))
      go_wp2
      go_ret3
      exact ⟨ret_cut64 HX.out (by rw [Lib.mk_data]) rfl rfl, Below.refl _ _⟩

end Go.Proofs.YtaepcfidpekflaaGreatDoor
