/-
  What the two sides make of a locale's digits; when New refuses. By the verifier.
-/
import Derived.Test.YtbdljbnboahekaaGreatDoorWi
import Derived.Test.YtbdljbnboahekaaGreatDoorRf
import Derived.Test.YtbdljbnboahekaaGreatDoorRg
namespace Go.Proofs.YtbdljbnboahekaaGreatDoor.Pn
theorem wWhole_congr (g : List UInt8) (f n : Nat) (dig dig' : UInt8 → List UInt8) : ∀ (a : List UInt8) (later : Bool), (∀ c ∈ a, dig c = dig' c) → wWhole g f n dig later a = wWhole g f n dig' later a
  | [], _, _ => rfl
  | c :: r, later, h => by
    rw [wWhole, wWhole, h c (by simp), wWhole_congr g f n dig dig' r true (fun x hx => h x (by simp [hx]))]
theorem flat_congr (dig dig' : UInt8 → List UInt8) : ∀ (a : List UInt8), (∀ c ∈ a, dig c = dig' c) → a.flatMap dig = a.flatMap dig'
  | [], _ => rfl
  | c :: r, h => by rw [List.flatMap_cons, List.flatMap_cons, h c (by simp), flat_congr dig dig' r (fun x hx => h x (by simp [hx]))]
theorem wParts_congr (pre po g : List UInt8) (f n : Nat) (dig dig' : UInt8 → List UInt8) (a b : List UInt8) (ha : ∀ c ∈ a, dig c = dig' c) (hb : ∀ c ∈ b, dig c = dig' c) :
    wParts pre po g f n dig a b = wParts pre po g f n dig' a b := by
  rw [wParts, wParts, wWhole_congr g f n dig dig' a false ha, flat_congr dig dig' b hb]
theorem runesN_le : ∀ (n : Nat) (l : List UInt8), ∀ x ∈ runesN n l, -2147483648 ≤ x ∧ x ≤ 2147483647
  | 0, _, x, h => by simp [runesN] at h
  | n + 1, l, x, h => by
    rw [runesN] at h
    by_cases hl : l = []
    · rw [if_pos hl] at h; cases h
    · rw [if_neg hl] at h
      rcases List.mem_cons.1 h with rfl | h
      · have hd := decode_le ⟨l.toArray⟩ 0
        have e := Lib.decodeL_drop ⟨l.toArray⟩ 0
        simp only [List.drop_zero] at e
        rw [← e] at hd
        omega
      · exact runesN_le n _ x h
theorem ten (R : List Int) (h : R.length = 10) : ∃ d0 d1 d2 d3 d4 d5 d6 d7 d8 d9, R = [d0, d1, d2, d3, d4, d5, d6, d7, d8, d9] := by
  match R, h with
  | [d0, d1, d2, d3, d4, d5, d6, d7, d8, d9], _ => exact ⟨d0, d1, d2, d3, d4, d5, d6, d7, d8, d9, rfl⟩
theorem pts_nil : pts [] = [] := rfl
theorem dig_none : ∀ k : Fin 10, Lib.encodeRune (([48, 49, 50, 51, 52, 53, 54, 55, 56, 57] : List Int).getD k.val 0) = [UInt8.ofNat (48 + k.val)] := by decide
end Go.Proofs.YtbdljbnboahekaaGreatDoor.Pn
namespace Go.Proofs.YtbdljbnboahekaaGreatDoor
open Go.RowKit
theorem dig_of_none (c : UInt8) (h : Pn.isDig c = true) : Lib.encodeRune (Pn.digAt [48, 49, 50, 51, 52, 53, 54, 55, 56, 57] c) = dshow [] [c] := by
  have hc := (Pn.isDig_iff c).1 h
  have := Pn.dig_none ⟨c.toNat - 48, by omega⟩
  have e : (48 + (c.toNat - 48)) = c.toNat := by omega
  simp only [e] at this
  rw [Pn.digAt]
  rw [this]
  simp [dshow]
theorem dig_of_some (R : List Int) (hR : R.length = 10) (c : UInt8) (h : Pn.isDig c = true) : Lib.encodeRune (Pn.digAt R c) = dshow (R.map Lib.encodeRune) [c] := by
  have hc := (Pn.isDig_iff c).1 h
  have hl : c.toNat - 48 < R.length := by omega
  have hne : ¬ R.map Lib.encodeRune = [] := by
    intro e
    have := congrArg List.length e
    rw [List.length_map, hR] at this
    cases this
  rw [dshow, if_neg hne, Pn.digAt]
  simp [List.getD_eq_getElem?_getD, List.getElem?_eq_getElem hl]
/-- The digits of a locale that are right: both sides write them alike. -/
theorem digits_good (d : ByteArray) (hd : d.size ≤ 100000) (h : Pn.digitsOkB d.data.toList = true) :
    ∃ d0 d1 d2 d3 d4 d5 d6 d7 d8 d9 : Int, (∀ x ∈ [d0, d1, d2, d3, d4, d5, d6, d7, d8, d9], -2147483648 ≤ x ∧ x ≤ 2147483647)
      ∧ (∀ c, Pn.isDig c = true → Lib.encodeRune (Pn.digAt [d0, d1, d2, d3, d4, d5, d6, d7, d8, d9] c) = dshow (Pn.pts d.data.toList) [c])
      ∧ (Pn.pts d.data.toList = [] ∨ (Pn.pts d.data.toList).length = 10) ∧ (∀ p ∈ Pn.pts d.data.toList, p.length ≤ 4)
      ∧ Hid (∀ w, Base w → Calls Tryz.prog 51 #[.string d] w fun e w' => e = .returned (.tuple #[.agg #[.int .i32 d0, .int .i32 d1, .int .i32 d2, .int .i32 d3, .int .i32 d4, .int .i32 d5, .int .i32 d6, .int .i32 d7, .int .i32 d8, .int .i32 d9], .bool true]) ∧ Below w.heap.size w w') := by
  by_cases h0 : 0 < d.size
  · have hne : d.data.toList.isEmpty = false := by have := ne_nil d h0; rw [Lib.toList_data] at this; exact this
    rw [Pn.digitsOkB, hne, Bool.false_or, Bool.and_eq_true, beq_iff_eq, beq_iff_eq] at h
    have hv := (Pn.valid_len d.data.toList).2 h.1
    have hp := Pn.valid_runes d.data.toList hv
    have hl : (Pn.runes d.data.toList).length = 10 := by
      have := h.2
      rw [hp, List.length_map] at this
      exact this
    obtain ⟨d0, d1, d2, d3, d4, d5, d6, d7, d8, d9, hR⟩ := Pn.ten _ hl
    refine ⟨d0, d1, d2, d3, d4, d5, d6, d7, d8, d9, ?_, ?_, Or.inr h.2, ?_, ?_⟩
    · rw [← hR]; exact Pn.runesN_le _ _
    · intro c hc
      rw [hp, ← hR]
      exact dig_of_some _ hl c hc
    · rw [hp]
      intro p hm
      obtain ⟨r, _, rfl⟩ := List.mem_map.1 hm
      exact enc_len r
    · show ∀ w, _
      intro w hB
      exact digitsOf_ok d w d0 d1 d2 d3 d4 d5 d6 d7 d8 d9 hd h0 hB hv hR
  · have he : d = ⟨#[]⟩ := by
      apply ByteArray.ext
      apply Array.eq_empty_of_size_eq_zero
      have : d.data.size = d.size := rfl
      omega
    subst he
    refine ⟨48, 49, 50, 51, 52, 53, 54, 55, 56, 57, by decide, ?_, Or.inl rfl, (by intro p hp; cases hp), ?_⟩
    · intro c hc
      exact dig_of_none c hc
    · show ∀ w, _
      intro w _
      exact digitsOf_none w
theorem digits_wrong (d : ByteArray) (hd : d.size ≤ 100000) (h : Pn.digitsOkB d.data.toList = false) (w : World) (hB : Base w) :
    Calls Tryz.prog 51 #[.string d] w fun e w' => e = .returned (.tuple #[.agg #[.int .i32 0, .int .i32 0, .int .i32 0, .int .i32 0, .int .i32 0, .int .i32 0, .int .i32 0, .int .i32 0, .int .i32 0, .int .i32 0], .bool false]) ∧ Below w.heap.size w w' := by
  have h0 : 0 < d.size := by
    rcases Nat.eq_zero_or_pos d.size with h0 | h0
    · exfalso
      rw [Lib.size_eq] at h0
      have := List.length_eq_zero_iff.1 h0
      rw [this] at h
      exact absurd h (by decide)
    · exact h0
  have hne : d.data.toList.isEmpty = false := by have := ne_nil d h0; rw [Lib.toList_data] at this; exact this
  cases hv : Lib.validD d.data.toList with
  | false => exact digitsOf_bad d w hd h0 hB hv
  | true =>
    refine digitsOf_count d w hd h0 hB hv ?_
    have hlen := (Pn.valid_len d.data.toList).1 hv
    rw [Pn.digitsOkB, hne, Bool.false_or, beq_iff_eq.2 hlen, Bool.true_and, beq_eq_false_iff_ne, Pn.valid_runes _ hv, List.length_map, ← Pn.count_eq] at h
    rw [bne_iff_ne]
    omega
theorem new_refuses (mi po g : Int) (f n : Nat) (d : ByteArray) (hd : d.size ≤ 100000) (hk : Pn.knownB mi po g f n d.data.toList = false) (w : World) (hB : Base w) :
    Calls Tryz.prog 39 #[.agg #[.slice none 0 0, .slice none 0 0, .int .i32 mi, .int .i32 po, .int .i32 g, .int .u8 f, .int .u8 n, .string d]] w fun e w' => e = .returned (.tuple #[.agg #[.int .i32 0, .int .i32 0, .int .i32 0, .int .i64 0, .int .i64 0, .int .i32 0, .int .i32 0, .int .i32 0, .int .i32 0, .int .i32 0, .int .i32 0, .int .i32 0, .int .i32 0, .int .i32 0, .int .i32 0], .iface 30 (.int .i64 8)]) ∧ Below w.heap.size w w' := by
  cases hg : Pn.digitsOkB d.data.toList with
  | false => exact new_no1 _ _ _ _ _ _ _ _ _ _ _ _ w (show Hid _ from fun w hB => digits_wrong d hd hg w hB) hB
  | true =>
    obtain ⟨d0, d1, d2, d3, d4, d5, d6, d7, d8, d9, _, _, _, _, hdig⟩ := digits_good d hd hg
    cases hs : Pn.signsB mi po g with
    | false => exact new_no2 _ _ _ _ _ _ _ _ _ _ _ _ d0 d1 d2 d3 d4 d5 d6 d7 d8 d9 w hdig hB hs
    | true =>
      rw [Pn.known_yes mi po g f n _ hs hg] at hk
      by_cases hf : f ≤ 9
      · rw [decide_eq_true hf, Bool.true_and, decide_eq_false_iff_not] at hk
        exact new_no4 _ _ _ _ _ _ _ _ _ _ _ _ d0 d1 d2 d3 d4 d5 d6 d7 d8 d9 w hdig (show Hid _ from rules_nil mi po g f n d w) hB hs (by omega) (by omega)
      · exact new_no3 _ _ _ _ _ _ _ _ _ _ _ _ d0 d1 d2 d3 d4 d5 d6 d7 d8 d9 w hdig (show Hid _ from rules_nil mi po g f n d w) hB hs (by omega)
end Go.Proofs.YtbdljbnboahekaaGreatDoor
