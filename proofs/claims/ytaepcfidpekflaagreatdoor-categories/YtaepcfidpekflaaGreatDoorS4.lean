/-
  Several texts in one (Sn, So, Sp). By the verifier.
-/
import Derived.Test.YtaepcfidpekflaaGreatDoorS1
import Derived.Test.YtaepcfidpekflaaGreatDoorPu
import Derived.Test.YtaepcfidpekflaaGreatDoorQo
import Derived.Laws.OwnMore
namespace Go.Proofs.YtaepcfidpekflaaGreatDoor
open Go.RowKit

/-- The words so far, the kind of the last byte, the bytes that are left. -/
def wGo (out : List Pr.T) (last : Nat) : Pr.T → Option (List Pr.T)
  | [] => some out
  | c :: r =>
    if kindN c = 3 then wGo out 3 r
    else if 0 < kindN c ∧ kindN c = last then wGo (out.dropLast ++ [out.getLastD [] ++ [c]]) (kindN c) r
    else if 0 < kindN c ∨ c = 61 ∨ c = 44 ∨ c = 37 then wGo (out ++ [[c]]) (kindN c) r
    else match r with
      | [] => none
      | d :: r' => if c = 33 ∧ d = 61 ∨ c = 46 ∧ d = 46 then wGo (out ++ [[c, d]]) (kindN c) r' else none
theorem wGo_cons (out : List Pr.T) (last : Nat) (c : UInt8) (r : Pr.T) : wGo out last (c :: r) = if kindN c = 3 then wGo out 3 r
    else if 0 < kindN c ∧ kindN c = last then wGo (out.dropLast ++ [out.getLastD [] ++ [c]]) (kindN c) r
    else if 0 < kindN c ∨ c = 61 ∨ c = 44 ∨ c = 37 then wGo (out ++ [[c]]) (kindN c) r
    else match r with
      | [] => none
      | d :: r' => if c = 33 ∧ d = 61 ∨ c = 46 ∧ d = 46 then wGo (out ++ [[c, d]]) (kindN c) r' else none := by
  cases r with
  | nil => simp only [wGo]
  | cons d r => rw [wGo]
def pK (k : Nat) : UInt8 → Bool := if k = 1 then Pr.isLet else if k = 2 then Pn.isDig else fun _ => false
theorem kind_four (c : UInt8) : (kindN c = 1 ∧ Pr.isLet c = true) ∨ (kindN c = 2 ∧ Pr.isLet c = false ∧ Pn.isDig c = true) ∨ (kindN c = 3 ∧ c = 32) ∨ (kindN c = 0 ∧ Pr.isLet c = false ∧ Pn.isDig c = false ∧ c ≠ 32) := by
  unfold kindN
  cases h1 : Pr.isLet c with
  | true => exact .inl ⟨by simp, rfl⟩
  | false =>
    cases h2 : Pn.isDig c with
    | true => exact .inr (.inl ⟨by simp, rfl, rfl⟩)
    | false =>
      by_cases h3 : c = 32
      · exact .inr (.inr (.inl ⟨by simp [h3], h3⟩))
      · exact .inr (.inr (.inr ⟨by simp [h3], rfl, rfl, h3⟩))
theorem pK_kind (c : UInt8) (last : Nat) (h : kindN c ≠ last ∨ kindN c = 0 ∨ kindN c = 3) : pK last c = false := by
  unfold pK
  have h4 := kind_four c
  by_cases h1 : last = 1
  · rw [if_pos h1]
    rcases h4 with ⟨a, b⟩ | ⟨a, b, _⟩ | ⟨a, b⟩ | ⟨a, b, _⟩
    · omega
    · exact b
    · subst b; decide
    · exact b
  · rw [if_neg h1]
    by_cases h2 : last = 2
    · rw [if_pos h2]
      rcases h4 with ⟨a, b⟩ | ⟨a, b, _⟩ | ⟨a, b⟩ | ⟨a, b, b2, _⟩
      · rcases (isLet_iff c).1 b with ⟨b1, b2⟩
        rw [← Bool.not_eq_true, Pn.isDig_iff]; omega
      · omega
      · subst b; decide
      · exact b2
    · rw [if_neg h2]
theorem pK_self (c : UInt8) (h : 0 < kindN c) (h3 : kindN c ≠ 3) : pK (kindN c) c = true := by
  rcases kind_four c with ⟨a, b⟩ | ⟨a, b, b2⟩ | ⟨a, b⟩ | ⟨a, b, b2, _⟩
  · rw [a]; exact b
  · rw [a]; exact b2
  · omega
  · omega
theorem part_kind (c : UInt8) (r : Pr.T) (h : 0 < kindN c) (h3 : kindN c ≠ 3) : Pr.partLen (c :: r) = (r.takeWhile (pK (kindN c))).length + 1 := by
  rcases kind_four c with ⟨a, b⟩ | ⟨a, b, b2⟩ | ⟨a, b⟩ | ⟨a, b, b2, _⟩
  · rw [a]; simp [Pr.partLen, b, pK]
  · rw [a]; simp [Pr.partLen, b, b2, pK]
  · omega
  · omega
theorem take_tw (p : UInt8 → Bool) (r : Pr.T) : r.take (r.takeWhile p).length = r.takeWhile p ∧ r.drop (r.takeWhile p).length = r.dropWhile p := by
  induction r with
  | nil => exact ⟨rfl, rfl⟩
  | cons c r ih =>
    cases h : p c with
    | true =>
      rw [List.takeWhile_cons_of_pos h, List.dropWhile_cons_of_pos h, List.length_cons, List.take_succ_cons, List.drop_succ_cons, ih.1, ih.2]
      exact ⟨rfl, rfl⟩
    | false =>
      rw [List.takeWhile_cons_of_neg (by simp [h]), List.dropWhile_cons_of_neg (by simp [h])]
      exact ⟨rfl, rfl⟩
theorem toks_kind (c : UInt8) (r : Pr.T) (h : 0 < kindN c) (h3 : kindN c ≠ 3) : Pr.toks (c :: r) = (Pr.toks (r.dropWhile (pK (kindN c)))).map ((c :: r.takeWhile (pK (kindN c))) :: ·) := by
  have hc : c ≠ 32 := fun e => by subst e; exact h3 (by decide)
  obtain ⟨t1, t2⟩ := take_tw (pK (kindN c)) r
  rw [Pr.toks_step, part_kind c r h h3, if_neg (by omega), List.drop_succ_cons, List.take_succ_cons, t1, t2]
  cases Pr.toks (r.dropWhile (pK (kindN c))) with
  | none => rfl
  | some l => simp [hc]
theorem toks_sign (c : UInt8) (r : Pr.T) (h : kindN c = 0) (hs : c = 61 ∨ c = 44 ∨ c = 37) : Pr.toks (c :: r) = (Pr.toks r).map ([c] :: ·) := by
  have hp : Pr.partLen (c :: r) = 1 := by rcases hs with rfl | rfl | rfl <;> simp [Pr.partLen, Pr.isLet, Pn.isDig]
  have hc : c ≠ 32 := by rcases hs with rfl | rfl | rfl <;> decide
  rw [Pr.toks_step, hp]
  simp only [List.drop_succ_cons, List.drop_zero, List.take_succ_cons, List.take_zero]
  cases Pr.toks r <;> simp [hc]
theorem toks_two (c d : UInt8) (r : Pr.T) (hs : c = 33 ∧ d = 61 ∨ c = 46 ∧ d = 46) : Pr.toks (c :: d :: r) = (Pr.toks r).map ([c, d] :: ·) := by
  have hp : Pr.partLen (c :: d :: r) = 2 := by rcases hs with ⟨rfl, rfl⟩ | ⟨rfl, rfl⟩ <;> simp [Pr.partLen, Pr.isLet, Pn.isDig]
  have hc : c ≠ 32 := by rcases hs with ⟨rfl, _⟩ | ⟨rfl, _⟩ <;> decide
  rw [Pr.toks_step, hp]
  simp only [List.drop_succ_cons, List.drop_zero, List.take_succ_cons, List.take_zero]
  cases Pr.toks r <;> simp [hc]
theorem toks_bad (c : UInt8) (r : Pr.T) (h : kindN c = 0) (hs : ¬ (c = 61 ∨ c = 44 ∨ c = 37)) (hr : ¬ (c = 33 ∧ r.head? = some 61 ∨ c = 46 ∧ r.head? = some 46)) : Pr.toks (c :: r) = none := by
  rcases kind_four c with ⟨a, b⟩ | ⟨a, b, b2⟩ | ⟨a, b⟩ | ⟨a, b, b2, b3⟩
  · omega
  · omega
  · omega
  · have hp : Pr.partLen (c :: r) = 0 := by
      rw [Pr.partLen, b, b2, if_neg Bool.false_ne_true, if_neg Bool.false_ne_true, if_neg hr, if_neg]
      rintro (e | e | e | e)
      · exact b3 e
      · exact hs (.inl e)
      · exact hs (.inr (.inr e))
      · exact hs (.inr (.inl e))
    rw [Pr.toks_step, hp]; rfl
theorem tw_stop (p : UInt8 → Bool) (c : UInt8) (r : Pr.T) (h : p c = false) : (c :: r).takeWhile p = [] ∧ (c :: r).dropWhile p = c :: r := by
  constructor
  · rw [List.takeWhile_cons_of_neg (by simp [h])]
  · rw [List.dropWhile_cons_of_neg (by simp [h])]
/-- Behind a word that may go on. -/
theorem words_go : ∀ (n : Nat) (s : Pr.T), s.length ≤ n → (∀ (out : List Pr.T) (last : Nat), last = 0 ∨ last = 3 → wGo out last s = (Pr.toks s).map (out ++ ·)) ∧
    (∀ (out : List Pr.T) (t : Pr.T) (last : Nat), wGo (out ++ [t]) last s = (Pr.toks (s.dropWhile (pK last))).map (fun l => (out ++ [t ++ s.takeWhile (pK last)]) ++ l)) := by
  intro n
  induction n with
  | zero =>
    intro s h
    have : s = [] := List.length_eq_zero_iff.1 (by omega)
    subst this
    refine ⟨fun out last _ => ?_, fun out t last => ?_⟩
    · simp [wGo, Pr.toks, Pr.splitGo]
    · simp [wGo, Pr.toks, Pr.splitGo]
  | succ n ih =>
    intro s h
    cases s with
    | nil =>
      refine ⟨fun out last _ => ?_, fun out t last => ?_⟩
      · simp [wGo, Pr.toks, Pr.splitGo]
      · simp [wGo, Pr.toks, Pr.splitGo]
    | cons c r =>
      have hr : r.length ≤ n := by simp at h; omega
      -- a byte that does not go on with the last word
      have step : ∀ (out : List Pr.T) (last : Nat), (kindN c ≠ last ∨ kindN c = 0 ∨ kindN c = 3) → wGo out last (c :: r) = (Pr.toks (c :: r)).map (out ++ ·) := by
        intro out last hl
        by_cases h3 : kindN c = 3
        · have hc : c = 32 := by
            rcases kind_four c with ⟨a, b⟩ | ⟨a, b, b2⟩ | ⟨a, b⟩ | ⟨a, b, b2, b3⟩
            · omega
            · omega
            · exact b
            · omega
          rw [wGo_cons, if_pos h3, (ih r hr).1 out 3 (.inr rfl), hc, Pr.toks_blank]
        · by_cases h0 : 0 < kindN c
          · have hn : ¬ (0 < kindN c ∧ kindN c = last) := by omega
            rw [wGo_cons, if_neg h3, if_neg hn, if_pos (.inl h0), (ih r hr).2 out [c] (kindN c), toks_kind c r h0 h3]
            cases Pr.toks (r.dropWhile (pK (kindN c))) with
            | none => rfl
            | some l => simp
          · have hn : ¬ (0 < kindN c ∧ kindN c = last) := by omega
            have hz : kindN c = 0 := by omega
            by_cases hs : c = 61 ∨ c = 44 ∨ c = 37
            · rw [wGo_cons, if_neg h3, if_neg hn, if_pos (.inr hs), (ih r hr).1 _ (kindN c) (.inl hz), toks_sign c r hz hs]
              cases Pr.toks r <;> simp
            · have hn2 : ¬ (0 < kindN c ∨ c = 61 ∨ c = 44 ∨ c = 37) := fun e => e.elim h0 hs
              cases r with
              | nil =>
                rw [wGo_cons, if_neg h3, if_neg hn, if_neg hn2, toks_bad c [] hz hs (by simp)]
                rfl
              | cons d r' =>
                by_cases h2 : c = 33 ∧ d = 61 ∨ c = 46 ∧ d = 46
                · rw [wGo_cons, if_neg h3, if_neg hn, if_neg hn2]
                  simp only [if_pos h2]
                  rw [(ih r' (by simp at hr; omega)).1 _ (kindN c) (.inl hz), toks_two c d r' h2]
                  cases Pr.toks r' <;> simp
                · rw [wGo_cons, if_neg h3, if_neg hn, if_neg hn2, toks_bad c (d :: r') hz hs (by simpa using h2)]
                  simp only [if_neg h2]
                  rfl
      refine ⟨fun out last hl => step out last (by omega), fun out t last => ?_⟩
      by_cases hl : kindN c ≠ last ∨ kindN c = 0 ∨ kindN c = 3
      · obtain ⟨t1, t2⟩ := tw_stop (pK last) c r (pK_kind c last hl)
        rw [step _ _ hl, t1, t2, List.append_nil]
      · have hk : 0 < kindN c ∧ kindN c = last := by omega
        have h3 : kindN c ≠ 3 := by omega
        have hp := pK_self c hk.1 h3
        rw [wGo_cons, if_neg h3, if_pos hk]
        simp only [List.dropLast_concat, List.getLastD_concat]
        rw [(ih r hr).2 out (t ++ [c]) (kindN c), ← hk.2, List.dropWhile_cons_of_pos hp, List.takeWhile_cons_of_pos hp]
        simp
theorem words_toks (s : Pr.T) : wGo [] 3 s = Pr.toks s := by
  rw [(words_go s.length s (Nat.le_refl _)).1 [] 3 (.inr rfl)]
  cases Pr.toks s <;> rfl
end Go.Proofs.YtaepcfidpekflaaGreatDoor
namespace Go.Proofs.YtaepcfidpekflaaGreatDoor
open Go.RowKit

theorem cut_at64 (l : List UInt8) (k : Nat) (hk : k < l.length) (h1 : ∀ j (hj : j < l.length), j < k → l[j] ≠ 64) (h2 : l[k] = 64) : Lib.cut l [64] = (l.take k, l.drop (k + 1), true) := by
  have hi : Lib.index l [64] = k := by
    refine Lib.index_first (by omega) ?_ ?_
    · rw [Lib.occAt, List.drop_eq_getElem_cons hk, h2]; simp [List.isPrefixOf]
    · intro j hj
      rw [Lib.occAt, List.drop_eq_getElem_cons (by omega)]
      have := h1 j (by omega) hj
      simp only [List.isPrefixOf, Bool.and_true, beq_eq_false_iff_ne]
      exact fun e => this e.symm
  unfold Lib.cut
  rw [hi, if_pos (by omega)]
  simp
theorem cut_end64 (l : List UInt8) (h1 : ∀ j (hj : j < l.length), l[j] ≠ 64) : Lib.cut l [64] = (l, [], false) := by
  have hi : Lib.index l [64] = -1 := by
    refine Lib.index_none ?_
    intro j hj
    rw [Lib.occAt]
    rcases Nat.lt_or_ge j l.length with h | h
    · rw [List.drop_eq_getElem_cons h]
      have := h1 j h
      simp only [List.isPrefixOf, Bool.and_true, beq_eq_false_iff_ne]
      exact fun e => this e.symm
    · rw [List.drop_eq_nil_of_le h]; rfl
  unfold Lib.cut
  rw [hi, if_neg (by omega)]
theorem ret_cut64 {l a b : List UInt8} {s t : ByteArray} {p q : Bool} (h : Lib.cut l [64] = (a, b, p)) (hs : s = ⟨a.toArray⟩) (ht : t = ⟨b.toArray⟩) (hq : q = p) :
    Ending.returned (.tuple #[.string s, .string t, .bool q]) = .returned (.tuple #[.string ⟨(Lib.cut l [64]).1.toArray⟩, .string ⟨(Lib.cut l [64]).2.1.toArray⟩, .bool (Lib.cut l [64]).2.2]) := by
  rw [h, hs, ht, hq]

set_option maxHeartbeats 400000 in
theorem rcut_at (s : ByteArray) (w : World) (hs : s.size ≤ 1000000) :
    Calls Tryz.prog 49 #[.string s, .int .u8 64] w fun e w' => e = .returned (.tuple #[.string ⟨(Lib.cut s.data.toList [64]).1.toArray⟩, .string ⟨(Lib.cut s.data.toList [64]).2.1.toArray⟩, .bool (Lib.cut s.data.toList [64]).2.2]) ∧ Below w.heap.size w w' := by
  go_enter Tryz.func49, Tryz.ntmps49
  go_wp2
  go_loop [7] (fun t => ∃ k : Nat, k ≤ s.size ∧ t = .int .i64 k ∧ Hid (∀ j (hj : j < s.data.toList.length), j < k → s.data.toList[j] ≠ 64)) (fun t => s.size - (intOf t).toNat)
  case atStart => exact ⟨0, Nat.zero_le _, rfl, fun j _ h => by omega⟩
  case round =>
    obtain ⟨k, hk, rfl, HK⟩ := hrel
    by_cases hlt : k < s.size
    · have hlt' : k < s.data.toList.length := by rw [← Lib.size_eq]; exact hlt
      have hgk : s.data.toList[k] = s[k] := rfl
      by_cases hc : s[k].toNat = 64
      · have hc' : ((s[k].toNat : Int) == 64) = true := by simp; omega
        have HX : Hid (Lib.cut s.data.toList [64] = (s.data.toList.take k, s.data.toList.drop (k + 1), true)) := cut_at64 _ k hlt' HK.out (by rw [hgk]; exact UInt8.toNat_inj.1 hc)
        clear hc hgk
        go_wp2
        go_quiet (fail)
        go_wp2
        go_ret3
        exact ⟨ret_cut64 HX.out (by rw [Lib.extract_upto]) (by rw [Lib.extract_from]) rfl, drewB _ _⟩
      · have hc' : ((s[k].toNat : Int) == 64) = false := by simp; omega
        have HK2 : Hid (∀ j (hj : j < s.data.toList.length), j < k + 1 → s.data.toList[j] ≠ 64) := by
          intro j hj h
          by_cases e : j = k
          · subst e; intro h64; rw [hgk] at h64; exact hc (by rw [h64]; rfl)
          · exact HK.out j hj (by omega)
        clear hc hgk
        go_wp2
        go_round
        case rel => exact ⟨k + 1, hlt, by go_num, HK2⟩
        case measure => simp [intOf]; omega
    · have HX : Hid (Lib.cut s.data.toList [64] = (s.data.toList, [], false)) := cut_end64 _ (fun j hj => HK.out j hj (by rw [← Lib.size_eq] at hj; omega))
      go_wp2
      go_ret3
      exact ⟨ret_cut64 HX.out (by rw [Lib.mk_data]) rfl rfl, Below.refl _ _⟩

end Go.Proofs.YtaepcfidpekflaaGreatDoor
namespace Go.Proofs.YtaepcfidpekflaaGreatDoor
open Go.RowKit

/-- What words answers. -/
def WordsSaid (w : World) (x : Option (List Pr.T)) (e : Ending) (w' : World) : Prop := Below w.heap.size w w' ∧ match x with
  | none => e = .returned (.tuple #[.slice none 0 0, .bool false])
  | some ts => ∃ v, e = .returned (.tuple #[v, .bool true]) ∧ Parts w' w.heap.size v ts
theorem cut64_len (l : Pr.T) : (Lib.cut l [64]).1.length ≤ l.length := by
  unfold Lib.cut
  split
  · simp only [List.length_take]; omega
  · exact Nat.le_refl _
theorem at_drop {p : Pr.T} {k : Nat} {c : UInt8} {r : Pr.T} (h : p.drop k = c :: r) : k < p.length ∧ p.drop (k + 1) = r ∧ (∀ hh, ((⟨p.toArray⟩ : ByteArray)[k]'hh) = c) := by
  have hk : k < p.length := by
    rcases Nat.lt_or_ge k p.length with h1 | h1
    · exact h1
    · rw [List.drop_eq_nil_of_le h1] at h; cases h
  rw [List.drop_eq_getElem_cons hk] at h
  injection h with h1 h2
  exact ⟨hk, h2, fun _ => h1⟩
theorem ex_one {p : Pr.T} {k : Nat} {c : UInt8} {r : Pr.T} (h : p.drop k = c :: r) : (⟨p.toArray⟩ : ByteArray).extract k (k + 1) = ⟨[c].toArray⟩ := by
  have h1 : (⟨p.toArray⟩ : ByteArray).extract k (k + 1) = ⟨((p.drop k).take (k + 1 - k)).toArray⟩ := by
    apply ByteArray.ext
    simp [ByteArray.data_extract, List.extract_toArray]
  rw [h1, h, show k + 1 - k = 1 by omega]; rfl
theorem ex_two {p : Pr.T} {k : Nat} {c d : UInt8} {r : Pr.T} (h : p.drop k = c :: d :: r) : (⟨p.toArray⟩ : ByteArray).extract k (k + 2) = ⟨[c, d].toArray⟩ := by
  have h1 : (⟨p.toArray⟩ : ByteArray).extract k (k + 2) = ⟨((p.drop k).take (k + 2 - k)).toArray⟩ := by
    apply ByteArray.ext
    simp [ByteArray.data_extract, List.extract_toArray]
  rw [h1, h, show k + 2 - k = 2 by omega]; rfl
theorem byte_ne {c : UInt8} {n : Nat} (hn : n < 256) (h : ¬ c = UInt8.ofNat n) : ((c.toNat : Int) == (n : Int)) = false := by
  rw [beq_eq_false_iff_ne]
  intro e
  apply h
  apply UInt8.toNat_inj.1
  rw [UInt8.toNat_ofNat', Nat.mod_eq_of_lt hn]
  omega

theorem wGo_end (ps : List Pr.T) (n : Nat) (c : UInt8) (hK : kindN c = 0) (h1 : ¬ c = 61) (h2 : ¬ c = 44) (h3 : ¬ c = 37) : wGo ps n [c] = none := by
  rw [wGo_cons, if_neg (by omega), if_neg (by omega), if_neg (by rintro (h | h | h | h) <;> first | omega | contradiction)]
theorem wGo_two (ps : List Pr.T) (n : Nat) (c d : UInt8) (r : Pr.T) (hK : kindN c = 0) (h1 : ¬ c = 61) (h2 : ¬ c = 44) (h3 : ¬ c = 37) : wGo ps n (c :: d :: r) = if c = 33 ∧ d = 61 ∨ c = 46 ∧ d = 46 then wGo (ps ++ [[c, d]]) 0 r else none := by
  rw [wGo_cons, if_neg (by omega), if_neg (by omega), if_neg (by rintro (h | h | h | h) <;> first | omega | contradiction), hK]

set_option maxHeartbeats 3200000 in
set_option maxRecDepth 100000 in
theorem words_any (l : Pr.T) (hl : l.length ≤ 1000000) (w : World) :
    Calls Tryz.prog 88 #[.string ⟨l.toArray⟩] w fun e w' => WordsSaid w (wGo [] 3 (Lib.cut l [64]).1) e w' := by
  obtain ⟨i0, hi0, hz0, hz1, hz2⟩ := info_parts info_strQ
  have HI : Hid (Tryz.prog.info? 9 = some i0 ∧ i0.zero = some (.string ⟨#[]⟩) ∧ i0.size = 1 ∧ i0.bytes = 16) := ⟨hi0, hz0, hz1, hz2⟩
  clear hi0 hz0 hz1 hz2
  have cc := rcut_at ⟨l.toArray⟩ w (by show l.toArray.size ≤ _; simpa using hl)
  have hcl := cut64_len l
  simp only [] at cc
  generalize (Lib.cut l [64]).1 = p at *
  obtain ⟨S, hS⟩ : ∃ S, Hid (wGo [] 3 p = S) := ⟨_, rfl⟩
  rw [hS.out]
  have hpl : p.length ≤ 1000000 := by omega
  clear hcl
  go_enter Tryz.func88, Tryz.ntmps88
  go_wp2_with fail
  refine cc.mono ?_
  rintro e w1 ⟨rfl, hb1⟩
  clear cc
  go_wp2_with fail
  go_loopw [4, 5, 6] (fun v la i wr => ∃ (ps : List Pr.T) (k n : Nat), la = .int .i64 n ∧ i = .int .i64 k ∧ k ≤ p.length ∧ ps.length ≤ k ∧ Parts wr w.heap.size v ps ∧ Below w.heap.size w wr ∧ Hid ((n = 1 ∨ n = 2) → ps ≠ []) ∧ Hid (∀ t ∈ ps, t.length ≤ k) ∧ Hid (wGo ps n (p.drop k) = S)) (fun _ _ i _ => p.length - (intOf i).toNat)
  case atStart => exact ⟨[], 0, 3, rfl, rfl, Nat.zero_le _, Nat.le_refl _, World.ownsRow_nil _ _ _ _, hb1, fun h => by omega, fun t ht => (by cases ht), hS⟩
  case round =>
    obtain ⟨ps, k, n, rfl, rfl, hk, hpk, hown, hb, HN, HT, HS⟩ := hrel
    clear hS hb1
    cases hd : p.drop k with
    | nil =>
      have hk' : ¬ (k : Int) < p.length := by
        have : p.length ≤ k := List.drop_eq_nil_iff.1 hd
        omega
      have hF : Hid (S = some ps) := by show _ = _; rw [← HS.out, hd]; rfl
      clear HS hd
      go_wp2
      go_ret2
      exact ⟨hb, by rw [hF.out]; exact ⟨_, rfl, hown⟩⟩
    | cons c r =>
      obtain ⟨hkl, hr, hgc⟩ := at_drop hd
      have hx1 := ex_one hd
      have hkl' : (k : Int) < p.length := by omega
      have hw1 : IntKind.i64.wrap ((k : Int) + 1) = k + 1 := by rw [IntKind.wrap_i64]; omega
      have HT1 : Hid (∀ t ∈ ps, t.length ≤ k + 1) := fun t ht => Nat.le_succ_of_le (HT.out t ht)
      have HG : Hid (wGo ps n (c :: r) = S) := by show _ = _; rw [← HS.out, hd]
      have HD : Hid (p.drop k = c :: r) := hd
      have HR : Hid (p.drop (k + 1) = r) := hr
      clear HS hd hr
      rcases kind_four c with ⟨hK, hx⟩ | ⟨hK, hx⟩ | ⟨hK, hx⟩ | ⟨hK, _, _, hx⟩ <;> clear hx
      · have kc : Calls Tryz.prog 115 #[.int .u8 c.toNat] wr fun e w' => e = .returned (.int .i64 1) ∧ w' = wr := by have := kind_any c wr; rw [hK] at this; exact this
        by_cases hn : n = 1
        · have hn' : ((1 : Int) == (n : Int)) = true := by rw [hn]; rfl
          rcases List.eq_nil_or_concat ps with rfl | ⟨qs, t, rfl⟩
          · exact absurd rfl (HN.out (by omega))
          · simp only [List.concat_eq_append] at *
            have HS2 : Hid (wGo (qs ++ [t ++ [c]]) 1 (p.drop (k + 1)) = S) := by
              show _ = _
              rw [← HG.out, wGo_cons, if_neg (by omega), if_pos ⟨by omega, by omega⟩, HR.out, hK]
              simp
            have HT2 : Hid (∀ u ∈ qs ++ [t ++ [c]], u.length ≤ k + 1) := by
              intro u hu
              rcases List.mem_append.1 hu with hu | hu
              · have := HT.out u (List.mem_append_left _ hu); omega
              · rw [List.mem_singleton] at hu
                have := HT.out t (by simp)
                rw [hu]; simp; omega
            have htl : t.length ≤ k := HT.out t (by simp)
            rcases hown.2 with ⟨_, h0⟩ | ⟨g, cap, cur, rfl, _⟩
            · simp at h0
            have hlt := World.ownsRow.lt hown g rfl
            have hce := hown.cellAt qs.length (by simp)
            have hfz := hown.frozenAt qs.length
            obtain ⟨hst, _⟩ := hown.stored qs.length (.string ⟨(t ++ [c]).toArray⟩)
            have HO : Hid (Parts (wr.setCell ⟨g, qs.length, none⟩ (.string ⟨(t ++ [c]).toArray⟩)) w.heap.size (.slice (some ⟨g, 0, none⟩) (qs.length + 1) cap) (qs ++ [t ++ [c]])) := by
              show Parts _ _ _ _
              unfold Parts
              have he : (List.map strV (qs ++ [t])).set qs.length (.string ⟨(t ++ [c]).toArray⟩) = List.map strV (qs ++ [t ++ [c]]) := by simp [strV]
              rw [he] at hst
              simpa using hst
            have hce2 : wr.cell? ⟨g, qs.length, none⟩ = some (.string ⟨t.toArray⟩) := by rw [hce]; simp [strV]
            have hb2 : Below w.heap.size w (wr.setCell ⟨g, qs.length, none⟩ (.string ⟨(t ++ [c]).toArray⟩)) := hb.setCell (p := ⟨g, qs.length, none⟩) hlt.1 _
            have hcat : (⟨t.toArray⟩ : ByteArray) ++ ⟨[c].toArray⟩ = ⟨(t ++ [c]).toArray⟩ := by apply ByteArray.ext; simp
            have hw2 : IntKind.i64.wrap ((qs.length : Int) + 1 - 1) = qs.length := by rw [IntKind.wrap_i64]; simp only [List.length_append, List.length_singleton] at hpk; omega
            have hw3 : IntKind.i64.wrap (qs.length : Int) = qs.length := by rw [IntKind.wrap_i64]; simp only [List.length_append, List.length_singleton] at hpk; omega
            have hlt3 : (qs.length : Int) < qs.length + 1 := by omega
            simp only [List.length_append, List.length_singleton] at hpk ⊢
            clear HG HT HT1 HN hst hce hown HD HR
            go_wp2_with (go_at_call 115; refine kc.mono ?_; rintro e wk ⟨rfl, rfl⟩)
            go_region_with (fail)
            all_goals go_wp2
            all_goals go_roundw
            all_goals first
              | exact ⟨qs ++ [t ++ [c]], k + 1, 1, by go_num, by go_num, by omega, by simp; omega, World.ownsRow.drew HO.out, hb2.drew, fun _ => by simp, HT2, HS2⟩
              | exact ⟨qs ++ [t ++ [c]], k + 1, 1, by go_num, by go_num, by omega, by simp; omega, HO, hb2, fun _ => by simp, HT2, HS2⟩
              | (simp [intOf] <;> omega)
        · have hn' : ((1 : Int) == (n : Int)) = false := by rw [beq_eq_false_iff_ne]; omega
          have HS2 : Hid (wGo (ps ++ [[c]]) 1 (p.drop (k + 1)) = S) := by
            show _ = _
            rw [← HG.out, wGo_cons, if_neg (by omega), if_neg (by omega), if_pos (.inl (by omega)), HR.out, hK]
          have HT2 : Hid (∀ t ∈ ps ++ [[c]], t.length ≤ k + 1) := by
            intro t ht
            rcases List.mem_append.1 ht with ht | ht
            · have := HT.out t ht; omega
            · rw [List.mem_singleton] at ht
              rw [ht]; simp <;> omega
          clear HG HT HT1 HN HD HR hn
          go_wp2_with (first | (go_at_call 115; refine kc.mono ?_; rintro e wk ⟨rfl, rfl⟩) | (at_builtin; refine wpList_append_own _ rfl _ _ 35 rfl w.heap.size 9 i0 (.string ⟨#[]⟩) 1 16 Tryz.underlying35 HI.out.1 HI.out.2.1 HI.out.2.2.1 HI.out.2.2.2 rfl (by decide) _ _ _ rfl (World.ownsRow.alloc hown _) ⟨wk.heap.size, 0, none⟩ 1 1 [strV [c]] rfl rfl ?c1 ?c2 ?c3 ?c4 ?c5 ?_))
          case c1 =>
            intro j u hj
            match j, hj with
            | 0, hj => simp at hj; subst hj; simp [Addr.add, strV]
          case c2 => intro u hu; simp at hu; subst hu; rfl
          case c3 => unfold maxLen; omega
          case c4 => omega
          case c5 => have := hb.size; simp; omega
          · intro v' w2 hown' hgrow _
            obtain ⟨g1, g2⟩ := parts_grow hown hb (by have := hb.size; omega) hown' hgrow
            clear hown' hgrow hown
            go_wp2
            go_roundw
            case rel => exact ⟨ps ++ [[c]], k + 1, 1, by go_num, by go_num, by omega, by simp; omega, g1, g2, fun _ => by simp, HT2, HS2⟩
            case measure => simp [intOf] <;> omega
      · have kc : Calls Tryz.prog 115 #[.int .u8 c.toNat] wr fun e w' => e = .returned (.int .i64 2) ∧ w' = wr := by have := kind_any c wr; rw [hK] at this; exact this
        by_cases hn : n = 2
        · have hn' : ((2 : Int) == (n : Int)) = true := by rw [hn]; rfl
          rcases List.eq_nil_or_concat ps with rfl | ⟨qs, t, rfl⟩
          · exact absurd rfl (HN.out (by omega))
          · simp only [List.concat_eq_append] at *
            have HS2 : Hid (wGo (qs ++ [t ++ [c]]) 2 (p.drop (k + 1)) = S) := by
              show _ = _
              rw [← HG.out, wGo_cons, if_neg (by omega), if_pos ⟨by omega, by omega⟩, HR.out, hK]
              simp
            have HT2 : Hid (∀ u ∈ qs ++ [t ++ [c]], u.length ≤ k + 1) := by
              intro u hu
              rcases List.mem_append.1 hu with hu | hu
              · have := HT.out u (List.mem_append_left _ hu); omega
              · rw [List.mem_singleton] at hu
                have := HT.out t (by simp)
                rw [hu]; simp; omega
            have htl : t.length ≤ k := HT.out t (by simp)
            rcases hown.2 with ⟨_, h0⟩ | ⟨g, cap, cur, rfl, _⟩
            · simp at h0
            have hlt := World.ownsRow.lt hown g rfl
            have hce := hown.cellAt qs.length (by simp)
            have hfz := hown.frozenAt qs.length
            obtain ⟨hst, _⟩ := hown.stored qs.length (.string ⟨(t ++ [c]).toArray⟩)
            have HO : Hid (Parts (wr.setCell ⟨g, qs.length, none⟩ (.string ⟨(t ++ [c]).toArray⟩)) w.heap.size (.slice (some ⟨g, 0, none⟩) (qs.length + 1) cap) (qs ++ [t ++ [c]])) := by
              show Parts _ _ _ _
              unfold Parts
              have he : (List.map strV (qs ++ [t])).set qs.length (.string ⟨(t ++ [c]).toArray⟩) = List.map strV (qs ++ [t ++ [c]]) := by simp [strV]
              rw [he] at hst
              simpa using hst
            have hce2 : wr.cell? ⟨g, qs.length, none⟩ = some (.string ⟨t.toArray⟩) := by rw [hce]; simp [strV]
            have hb2 : Below w.heap.size w (wr.setCell ⟨g, qs.length, none⟩ (.string ⟨(t ++ [c]).toArray⟩)) := hb.setCell (p := ⟨g, qs.length, none⟩) hlt.1 _
            have hcat : (⟨t.toArray⟩ : ByteArray) ++ ⟨[c].toArray⟩ = ⟨(t ++ [c]).toArray⟩ := by apply ByteArray.ext; simp
            have hw2 : IntKind.i64.wrap ((qs.length : Int) + 1 - 1) = qs.length := by rw [IntKind.wrap_i64]; simp only [List.length_append, List.length_singleton] at hpk; omega
            have hw3 : IntKind.i64.wrap (qs.length : Int) = qs.length := by rw [IntKind.wrap_i64]; simp only [List.length_append, List.length_singleton] at hpk; omega
            have hlt3 : (qs.length : Int) < qs.length + 1 := by omega
            simp only [List.length_append, List.length_singleton] at hpk ⊢
            clear HG HT HT1 HN hst hce hown HD HR
            go_wp2_with (go_at_call 115; refine kc.mono ?_; rintro e wk ⟨rfl, rfl⟩)
            go_region_with (fail)
            all_goals go_wp2
            all_goals go_roundw
            all_goals first
              | exact ⟨qs ++ [t ++ [c]], k + 1, 2, by go_num, by go_num, by omega, by simp; omega, World.ownsRow.drew HO.out, hb2.drew, fun _ => by simp, HT2, HS2⟩
              | exact ⟨qs ++ [t ++ [c]], k + 1, 2, by go_num, by go_num, by omega, by simp; omega, HO, hb2, fun _ => by simp, HT2, HS2⟩
              | (simp [intOf] <;> omega)
        · have hn' : ((2 : Int) == (n : Int)) = false := by rw [beq_eq_false_iff_ne]; omega
          have HS2 : Hid (wGo (ps ++ [[c]]) 2 (p.drop (k + 1)) = S) := by
            show _ = _
            rw [← HG.out, wGo_cons, if_neg (by omega), if_neg (by omega), if_pos (.inl (by omega)), HR.out, hK]
          have HT2 : Hid (∀ t ∈ ps ++ [[c]], t.length ≤ k + 1) := by
            intro t ht
            rcases List.mem_append.1 ht with ht | ht
            · have := HT.out t ht; omega
            · rw [List.mem_singleton] at ht
              rw [ht]; simp <;> omega
          clear HG HT HT1 HN HD HR hn
          go_wp2_with (first | (go_at_call 115; refine kc.mono ?_; rintro e wk ⟨rfl, rfl⟩) | (at_builtin; refine wpList_append_own _ rfl _ _ 35 rfl w.heap.size 9 i0 (.string ⟨#[]⟩) 1 16 Tryz.underlying35 HI.out.1 HI.out.2.1 HI.out.2.2.1 HI.out.2.2.2 rfl (by decide) _ _ _ rfl (World.ownsRow.alloc hown _) ⟨wk.heap.size, 0, none⟩ 1 1 [strV [c]] rfl rfl ?c1 ?c2 ?c3 ?c4 ?c5 ?_))
          case c1 =>
            intro j u hj
            match j, hj with
            | 0, hj => simp at hj; subst hj; simp [Addr.add, strV]
          case c2 => intro u hu; simp at hu; subst hu; rfl
          case c3 => unfold maxLen; omega
          case c4 => omega
          case c5 => have := hb.size; simp; omega
          · intro v' w2 hown' hgrow _
            obtain ⟨g1, g2⟩ := parts_grow hown hb (by have := hb.size; omega) hown' hgrow
            clear hown' hgrow hown
            go_wp2
            go_roundw
            case rel => exact ⟨ps ++ [[c]], k + 1, 2, by go_num, by go_num, by omega, by simp; omega, g1, g2, fun _ => by simp, HT2, HS2⟩
            case measure => simp [intOf] <;> omega
      · have kc : Calls Tryz.prog 115 #[.int .u8 c.toNat] wr fun e w' => e = .returned (.int .i64 3) ∧ w' = wr := by have := kind_any c wr; rw [hK] at this; exact this
        have HS2 : Hid (wGo ps 3 (p.drop (k + 1)) = S) := by show _ = _; rw [← HG.out, wGo_cons, if_pos hK, HR.out]
        clear HG HT HN HD HR
        go_wp2_with (go_at_call 115; refine kc.mono ?_; rintro e wk ⟨rfl, rfl⟩)
        go_roundw
        case rel => exact ⟨ps, k + 1, 3, rfl, by go_num, by omega, by omega, hown, hb, fun h => by omega, HT1, HS2⟩
        case measure => simp [intOf] <;> omega
      · have kc : Calls Tryz.prog 115 #[.int .u8 c.toNat] wr fun e w' => e = .returned (.int .i64 0) ∧ w' = wr := by have := kind_any c wr; rw [hK] at this; exact this
        by_cases e61 : c = 61
        · have HS2 : Hid (wGo (ps ++ [[c]]) 0 (p.drop (k + 1)) = S) := by
            show _ = _
            rw [← HG.out, wGo_cons, if_neg (by omega), if_neg (by omega), if_pos (.inr (by simp [e61])), HR.out, hK]
          have b61 : ((c.toNat : Int) == 61) = true := by rw [e61]; rfl
          have HT2 : Hid (∀ t ∈ ps ++ [[c]], t.length ≤ k + 1) := by
            intro t ht
            rcases List.mem_append.1 ht with ht | ht
            · have := HT.out t ht; omega
            · rw [List.mem_singleton] at ht
              rw [ht]; simp <;> omega
          clear HG HT HT1 HN HD HR e61
          go_wp2_with (first | (go_at_call 115; refine kc.mono ?_; rintro e wk ⟨rfl, rfl⟩) | (at_builtin; refine wpList_append_own _ rfl _ _ 35 rfl w.heap.size 9 i0 (.string ⟨#[]⟩) 1 16 Tryz.underlying35 HI.out.1 HI.out.2.1 HI.out.2.2.1 HI.out.2.2.2 rfl (by decide) _ _ _ rfl (World.ownsRow.alloc hown _) ⟨wk.heap.size, 0, none⟩ 1 1 [strV [c]] rfl rfl ?c1 ?c2 ?c3 ?c4 ?c5 ?_))
          case c1 =>
            intro j u hj
            match j, hj with
            | 0, hj => simp at hj; subst hj; simp [Addr.add, strV]
          case c2 => intro u hu; simp at hu; subst hu; rfl
          case c3 => unfold maxLen; omega
          case c4 => omega
          case c5 => have := hb.size; simp; omega
          · intro v' w2 hown' hgrow _
            obtain ⟨g1, g2⟩ := parts_grow hown hb (by have := hb.size; omega) hown' hgrow
            clear hown' hgrow hown
            go_wp2
            go_roundw
            case rel => exact ⟨ps ++ [[c]], k + 1, 0, by go_num, by go_num, by omega, by simp; omega, g1, g2, fun _ => by simp, HT2, HS2⟩
            case measure => simp [intOf] <;> omega
        have b61 : ((c.toNat : Int) == 61) = false := byte_ne (n := 61) (by decide) e61
        by_cases e44 : c = 44
        · have HS2 : Hid (wGo (ps ++ [[c]]) 0 (p.drop (k + 1)) = S) := by
            show _ = _
            rw [← HG.out, wGo_cons, if_neg (by omega), if_neg (by omega), if_pos (.inr (by simp [e44])), HR.out, hK]
          have b44 : ((c.toNat : Int) == 44) = true := by rw [e44]; rfl
          have HT2 : Hid (∀ t ∈ ps ++ [[c]], t.length ≤ k + 1) := by
            intro t ht
            rcases List.mem_append.1 ht with ht | ht
            · have := HT.out t ht; omega
            · rw [List.mem_singleton] at ht
              rw [ht]; simp <;> omega
          clear HG HT HT1 HN HD HR e44
          go_wp2_with (first | (go_at_call 115; refine kc.mono ?_; rintro e wk ⟨rfl, rfl⟩) | (at_builtin; refine wpList_append_own _ rfl _ _ 35 rfl w.heap.size 9 i0 (.string ⟨#[]⟩) 1 16 Tryz.underlying35 HI.out.1 HI.out.2.1 HI.out.2.2.1 HI.out.2.2.2 rfl (by decide) _ _ _ rfl (World.ownsRow.alloc hown _) ⟨wk.heap.size, 0, none⟩ 1 1 [strV [c]] rfl rfl ?c1 ?c2 ?c3 ?c4 ?c5 ?_))
          case c1 =>
            intro j u hj
            match j, hj with
            | 0, hj => simp at hj; subst hj; simp [Addr.add, strV]
          case c2 => intro u hu; simp at hu; subst hu; rfl
          case c3 => unfold maxLen; omega
          case c4 => omega
          case c5 => have := hb.size; simp; omega
          · intro v' w2 hown' hgrow _
            obtain ⟨g1, g2⟩ := parts_grow hown hb (by have := hb.size; omega) hown' hgrow
            clear hown' hgrow hown
            go_wp2
            go_roundw
            case rel => exact ⟨ps ++ [[c]], k + 1, 0, by go_num, by go_num, by omega, by simp; omega, g1, g2, fun _ => by simp, HT2, HS2⟩
            case measure => simp [intOf] <;> omega
        have b44 : ((c.toNat : Int) == 44) = false := byte_ne (n := 44) (by decide) e44
        by_cases e37 : c = 37
        · have HS2 : Hid (wGo (ps ++ [[c]]) 0 (p.drop (k + 1)) = S) := by
            show _ = _
            rw [← HG.out, wGo_cons, if_neg (by omega), if_neg (by omega), if_pos (.inr (by simp [e37])), HR.out, hK]
          have b37 : ((c.toNat : Int) == 37) = true := by rw [e37]; rfl
          have HT2 : Hid (∀ t ∈ ps ++ [[c]], t.length ≤ k + 1) := by
            intro t ht
            rcases List.mem_append.1 ht with ht | ht
            · have := HT.out t ht; omega
            · rw [List.mem_singleton] at ht
              rw [ht]; simp <;> omega
          clear HG HT HT1 HN HD HR e37
          go_wp2_with (first | (go_at_call 115; refine kc.mono ?_; rintro e wk ⟨rfl, rfl⟩) | (at_builtin; refine wpList_append_own _ rfl _ _ 35 rfl w.heap.size 9 i0 (.string ⟨#[]⟩) 1 16 Tryz.underlying35 HI.out.1 HI.out.2.1 HI.out.2.2.1 HI.out.2.2.2 rfl (by decide) _ _ _ rfl (World.ownsRow.alloc hown _) ⟨wk.heap.size, 0, none⟩ 1 1 [strV [c]] rfl rfl ?c1 ?c2 ?c3 ?c4 ?c5 ?_))
          case c1 =>
            intro j u hj
            match j, hj with
            | 0, hj => simp at hj; subst hj; simp [Addr.add, strV]
          case c2 => intro u hu; simp at hu; subst hu; rfl
          case c3 => unfold maxLen; omega
          case c4 => omega
          case c5 => have := hb.size; simp; omega
          · intro v' w2 hown' hgrow _
            obtain ⟨g1, g2⟩ := parts_grow hown hb (by have := hb.size; omega) hown' hgrow
            clear hown' hgrow hown
            go_wp2
            go_roundw
            case rel => exact ⟨ps ++ [[c]], k + 1, 0, by go_num, by go_num, by omega, by simp; omega, g1, g2, fun _ => by simp, HT2, HS2⟩
            case measure => simp [intOf] <;> omega
        have b37 : ((c.toNat : Int) == 37) = false := byte_ne (n := 37) (by decide) e37
        cases r with
        | nil =>
          have hF : Hid (S = none) := by show _ = _; rw [← HG.out, wGo_end ps n c hK e61 e44 e37]
          have hk2 : ¬ (k : Int) + 1 < p.length := by
            have : p.length ≤ k + 1 := List.drop_eq_nil_iff.1 HR.out
            omega
          clear HG HT HT1 HN HD HR hx1 e61 e44 e37
          go_wp2_with (go_at_call 115; refine kc.mono ?_; rintro e wk ⟨rfl, rfl⟩)
          go_ret2
          exact ⟨hb, by rw [hF.out]; rfl⟩
        | cons d r' =>
          have HG2 : Hid ((if c = 33 ∧ d = 61 ∨ c = 46 ∧ d = 46 then wGo (ps ++ [[c, d]]) 0 r' else none) = S) := by show _ = _; rw [← HG.out, wGo_two ps n c d r' hK e61 e44 e37]
          clear HG e61 e44 e37
          have hx2 := ex_two HD.out
          have hk2 : (k : Int) + 1 < p.length := by
            have := (at_drop HR.out).1
            omega
          have hk3 := (at_drop HR.out).1
          have hw2 : IntKind.i64.wrap ((k : Int) + 2) = k + 2 := by rw [IntKind.wrap_i64]; omega
          have hr2 := (at_drop HR.out).2.1
          have HR2 : Hid (p.drop (k + 2) = r') := hr2
          clear hr2
          by_cases h1 : c = 33 ∧ d = 61
          · have y1 : ([c, d] == [33, 61]) = true := by rw [h1.1, h1.2]; rfl
            have HS2 : Hid (wGo (ps ++ [[c, d]]) 0 (p.drop (k + 2)) = S) := by show _ = _; rw [← HG2.out, HR2.out]; simp [h1]
            have HT2 : Hid (∀ t ∈ ps ++ [[c, d]], t.length ≤ k + 2) := by
              intro t ht
              rcases List.mem_append.1 ht with ht | ht
              · have := HT.out t ht; omega
              · rw [List.mem_singleton] at ht
                rw [ht]; simp <;> omega
            clear HG2 HT HT1 HN HD HR HR2 h1 hx1
            go_wp2_with (first | (go_at_call 115; refine kc.mono ?_; rintro e wk ⟨rfl, rfl⟩) | (at_builtin; refine wpList_append_own _ rfl _ _ 35 rfl w.heap.size 9 i0 (.string ⟨#[]⟩) 1 16 Tryz.underlying35 HI.out.1 HI.out.2.1 HI.out.2.2.1 HI.out.2.2.2 rfl (by decide) _ _ _ rfl (World.ownsRow.alloc hown _) ⟨wk.heap.size, 0, none⟩ 1 1 [strV [c, d]] rfl rfl ?c1 ?c2 ?c3 ?c4 ?c5 ?_))
            case c1 =>
              intro j u hj
              match j, hj with
              | 0, hj => simp at hj; subst hj; simp [Addr.add, strV]
            case c2 => intro u hu; simp at hu; subst hu; rfl
            case c3 => unfold maxLen; omega
            case c4 => omega
            case c5 => have := hb.size; simp; omega
            · intro v' w2 hown' hgrow _
              obtain ⟨g1, g2⟩ := parts_grow hown hb (by have := hb.size; omega) hown' hgrow
              clear hown' hgrow hown
              go_wp2
              go_roundw
              case rel => exact ⟨ps ++ [[c, d]], k + 2, 0, by go_num, by go_num, by omega, by simp; omega, g1, g2, fun _ => by simp, HT2, HS2⟩
              case measure => simp [intOf] <;> omega
          have n1 : ([c, d] == [33, 61]) = false := by
            rw [beq_eq_false_iff_ne]
            intro e
            injection e with e1 e2
            injection e2 with e2 _
            exact h1 ⟨e1, e2⟩
          by_cases h2 : c = 46 ∧ d = 46
          · have y2 : ([c, d] == [46, 46]) = true := by rw [h2.1, h2.2]; rfl
            have HS2 : Hid (wGo (ps ++ [[c, d]]) 0 (p.drop (k + 2)) = S) := by show _ = _; rw [← HG2.out, HR2.out]; simp [h2]
            have HT2 : Hid (∀ t ∈ ps ++ [[c, d]], t.length ≤ k + 2) := by
              intro t ht
              rcases List.mem_append.1 ht with ht | ht
              · have := HT.out t ht; omega
              · rw [List.mem_singleton] at ht
                rw [ht]; simp <;> omega
            clear HG2 HT HT1 HN HD HR HR2 h1 h2 hx1
            go_wp2_with (first | (go_at_call 115; refine kc.mono ?_; rintro e wk ⟨rfl, rfl⟩) | (at_builtin; refine wpList_append_own _ rfl _ _ 35 rfl w.heap.size 9 i0 (.string ⟨#[]⟩) 1 16 Tryz.underlying35 HI.out.1 HI.out.2.1 HI.out.2.2.1 HI.out.2.2.2 rfl (by decide) _ _ _ rfl (World.ownsRow.alloc hown _) ⟨wk.heap.size, 0, none⟩ 1 1 [strV [c, d]] rfl rfl ?c1 ?c2 ?c3 ?c4 ?c5 ?_))
            case c1 =>
              intro j u hj
              match j, hj with
              | 0, hj => simp at hj; subst hj; simp [Addr.add, strV]
            case c2 => intro u hu; simp at hu; subst hu; rfl
            case c3 => unfold maxLen; omega
            case c4 => omega
            case c5 => have := hb.size; simp; omega
            · intro v' w2 hown' hgrow _
              obtain ⟨g1, g2⟩ := parts_grow hown hb (by have := hb.size; omega) hown' hgrow
              clear hown' hgrow hown
              go_wp2
              go_roundw
              case rel => exact ⟨ps ++ [[c, d]], k + 2, 0, by go_num, by go_num, by omega, by simp; omega, g1, g2, fun _ => by simp, HT2, HS2⟩
              case measure => simp [intOf] <;> omega
          have n2 : ([c, d] == [46, 46]) = false := by
            rw [beq_eq_false_iff_ne]
            intro e
            injection e with e1 e2
            injection e2 with e2 _
            exact h2 ⟨e1, e2⟩
          have hF : Hid (S = none) := by show _ = _; rw [← HG2.out]; simp [h1, h2]
          clear HG2 HT HT1 HN HD HR HR2 h1 h2 hx1
          go_wp2_with (go_at_call 115; refine kc.mono ?_; rintro e wk ⟨rfl, rfl⟩)
          go_ret2
          exact ⟨hb, by rw [hF.out]; rfl⟩
end Go.Proofs.YtaepcfidpekflaaGreatDoor
