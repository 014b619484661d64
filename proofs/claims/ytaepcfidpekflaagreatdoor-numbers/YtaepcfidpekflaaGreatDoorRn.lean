/-
  PLAIN LEAN: the code points of a text, as the document's answer takes them, against the decoder. By the verifier.
-/
import Derived.Test.YtaepcfidpekflaaGreatDoorPn
import Derived.Lib.MapLaws
import Derived.Lib.ValidLaws
import Derived.Lib.RuneCount
namespace Go.Proofs.YtaepcfidpekflaaGreatDoor.Pn

def v2 (b0 b1 : Nat) : Int := 64 * ((b0 : Int) - 192) + b1 - 128
def v3 (b0 b1 b2 : Nat) : Int := 64 * (64 * ((b0 : Int) - 224) + b1 - 128) + b2 - 128
def v4 (b0 b1 b2 b3 : Nat) : Int := 64 * (64 * (64 * ((b0 : Int) - 240) + b1 - 128) + b2 - 128) + b3 - 128
abbrev okP (v least : Int) : Prop := least ≤ v ∧ v ≤ 1114111 ∧ (v < 55296 ∨ 57343 < v)
abbrev contP (b : Nat) : Prop := 128 ≤ b ∧ b ≤ 191
/-- How many bytes the code point takes that so many bytes begin with; 0: they begin with none. -/
def szN (n b0 b1 b2 b3 : Nat) : Nat :=
  if b0 < 128 then 1
  else if b0 < 192 then 0
  else if b0 < 224 then (if 2 ≤ n ∧ contP b1 ∧ okP (v2 b0 b1) 128 then 2 else 0)
  else if b0 < 240 then (if 3 ≤ n ∧ contP b1 ∧ contP b2 ∧ okP (v3 b0 b1 b2) 2048 then 3 else 0)
  else if b0 < 248 then (if 4 ≤ n ∧ contP b1 ∧ contP b2 ∧ contP b3 ∧ okP (v4 b0 b1 b2 b3) 65536 then 4 else 0)
  else 0

theorem sz_fin {n b0 b1 b2 b3 k r t : Nat} (hS : szN n b0 b1 b2 b3 = k) (hD : Lib.decodeN n b0 b1 b2 b3 = (r, t)) (h : k = if r = 65533 ∧ t = 1 then 0 else t) :
    szN n b0 b1 b2 b3 = if (Lib.decodeN n b0 b1 b2 b3).1 = 65533 ∧ (Lib.decodeN n b0 b1 b2 b3).2 = 1 then 0 else (Lib.decodeN n b0 b1 b2 b3).2 := by
  rw [hS, hD]; exact h
set_option maxHeartbeats 4000000 in
theorem szN_dec (n b0 b1 b2 b3 : Nat) (h1 : b1 < 256) (h2 : b2 < 256) (h3 : b3 < 256) :
    szN n b0 b1 b2 b3 = if (Lib.decodeN n b0 b1 b2 b3).1 = 65533 ∧ (Lib.decodeN n b0 b1 b2 b3).2 = 1 then 0 else (Lib.decodeN n b0 b1 b2 b3).2 := by
  by_cases c0 : b0 < 128
  · exact sz_fin (k := 1) (r := b0) (t := 1) (by unfold szN; rw [if_pos c0]) (by unfold Lib.decodeN; rw [if_pos c0]) (by rw [if_neg (by omega)])
  by_cases c1 : b0 < 192
  · exact sz_fin (k := 0) (r := 65533) (t := 1) (by unfold szN; rw [if_neg c0, if_pos c1]) (by unfold Lib.decodeN; rw [if_neg c0, if_neg (by omega), if_neg (by omega), if_neg (by omega)]) rfl
  by_cases c2 : b0 < 224
  · by_cases d : 1 < n ∧ b1 / 64 = 2
    · by_cases e : b0 % 32 * 64 + b1 % 64 ≥ 128
      · exact sz_fin (k := 2) (t := 2) (by unfold szN contP okP v2; rw [if_neg c0, if_neg c1, if_pos c2, if_pos (by omega)]) (by unfold Lib.decodeN; rw [if_neg c0, if_pos (by omega), if_pos e]) (by rw [if_neg (by omega)])
      · exact sz_fin (k := 0) (r := 65533) (t := 1) (by unfold szN contP okP v2; rw [if_neg c0, if_neg c1, if_pos c2, if_neg (by omega)]) (by unfold Lib.decodeN; rw [if_neg c0, if_pos (by omega), if_neg e]) rfl
    · exact sz_fin (k := 0) (r := 65533) (t := 1) (by unfold szN contP okP v2; rw [if_neg c0, if_neg c1, if_pos c2, if_neg (by omega)]) (by unfold Lib.decodeN; rw [if_neg c0, if_neg (by omega), if_neg (by omega), if_neg (by omega)]) rfl
  by_cases c3 : b0 < 240
  · by_cases d : (1 < n ∧ b1 / 64 = 2) ∧ (2 < n ∧ b2 / 64 = 2)
    · by_cases e : b0 % 16 * 4096 + b1 % 64 * 64 + b2 % 64 ≥ 2048 ∧ (b0 % 16 * 4096 + b1 % 64 * 64 + b2 % 64 < 55296 ∨ (57344 ≤ b0 % 16 * 4096 + b1 % 64 * 64 + b2 % 64 ∧ b0 % 16 * 4096 + b1 % 64 * 64 + b2 % 64 ≤ 1114111))
      · exact sz_fin (k := 3) (t := 3) (by unfold szN contP okP v3; rw [if_neg c0, if_neg c1, if_neg c2, if_pos c3, if_pos (by omega)]) (by unfold Lib.decodeN; rw [if_neg c0, if_neg (by omega), if_pos (by omega), if_pos e]) (by rw [if_neg (by omega)])
      · exact sz_fin (k := 0) (r := 65533) (t := 1) (by unfold szN contP okP v3; rw [if_neg c0, if_neg c1, if_neg c2, if_pos c3, if_neg (by omega)]) (by unfold Lib.decodeN; rw [if_neg c0, if_neg (by omega), if_pos (by omega), if_neg e]) rfl
    · exact sz_fin (k := 0) (r := 65533) (t := 1) (by unfold szN contP okP v3; rw [if_neg c0, if_neg c1, if_neg c2, if_pos c3, if_neg (by omega)]) (by unfold Lib.decodeN; rw [if_neg c0, if_neg (by omega), if_neg (by omega), if_neg (by omega)]) rfl
  by_cases c4 : b0 < 248
  · by_cases d : (1 < n ∧ b1 / 64 = 2) ∧ (2 < n ∧ b2 / 64 = 2) ∧ (3 < n ∧ b3 / 64 = 2)
    · by_cases e : b0 % 8 * 262144 + b1 % 64 * 4096 + b2 % 64 * 64 + b3 % 64 ≥ 65536 ∧ (b0 % 8 * 262144 + b1 % 64 * 4096 + b2 % 64 * 64 + b3 % 64 < 55296 ∨ (57344 ≤ b0 % 8 * 262144 + b1 % 64 * 4096 + b2 % 64 * 64 + b3 % 64 ∧ b0 % 8 * 262144 + b1 % 64 * 4096 + b2 % 64 * 64 + b3 % 64 ≤ 1114111))
      · exact sz_fin (k := 4) (t := 4) (by unfold szN contP okP v4; rw [if_neg c0, if_neg c1, if_neg c2, if_neg c3, if_pos c4, if_pos (by omega)]) (by unfold Lib.decodeN; rw [if_neg c0, if_neg (by omega), if_neg (by omega), if_pos (by omega), if_pos e]) (by rw [if_neg (by omega)])
      · exact sz_fin (k := 0) (r := 65533) (t := 1) (by unfold szN contP okP v4; rw [if_neg c0, if_neg c1, if_neg c2, if_neg c3, if_pos c4, if_neg (by omega)]) (by unfold Lib.decodeN; rw [if_neg c0, if_neg (by omega), if_neg (by omega), if_pos (by omega), if_neg e]) rfl
    · exact sz_fin (k := 0) (r := 65533) (t := 1) (by unfold szN contP okP v4; rw [if_neg c0, if_neg c1, if_neg c2, if_neg c3, if_pos c4, if_neg (by omega)]) (by unfold Lib.decodeN; rw [if_neg c0, if_neg (by omega), if_neg (by omega), if_neg (by omega)]) rfl
  · exact sz_fin (k := 0) (r := 65533) (t := 1) (by unfold szN; rw [if_neg c0, if_neg c1, if_neg c2, if_neg c3, if_neg c4]) (by unfold Lib.decodeN; rw [if_neg c0, if_neg (by omega), if_neg (by omega), if_neg (by omega)]) rfl

theorem sz2_yes (n b0 b1 b2 b3 : Nat) (h : 192 ≤ b0 ∧ b0 < 224) (hy : 2 ≤ n ∧ contP b1 ∧ okP (v2 b0 b1) 128) : szN n b0 b1 b2 b3 = 2 := by
  unfold szN; rw [if_neg (by omega), if_neg (by omega), if_pos h.2, if_pos hy]
theorem sz2_no (n b0 b1 b2 b3 : Nat) (h : 192 ≤ b0 ∧ b0 < 224) (hy : ¬ (2 ≤ n ∧ contP b1 ∧ okP (v2 b0 b1) 128)) : szN n b0 b1 b2 b3 = 0 := by
  unfold szN; rw [if_neg (by omega), if_neg (by omega), if_pos h.2, if_neg hy]
theorem sz3_yes (n b0 b1 b2 b3 : Nat) (h : 224 ≤ b0 ∧ b0 < 240) (hy : 3 ≤ n ∧ contP b1 ∧ contP b2 ∧ okP (v3 b0 b1 b2) 2048) : szN n b0 b1 b2 b3 = 3 := by
  unfold szN; rw [if_neg (by omega), if_neg (by omega), if_neg (by omega), if_pos h.2, if_pos hy]
theorem sz3_no (n b0 b1 b2 b3 : Nat) (h : 224 ≤ b0 ∧ b0 < 240) (hy : ¬ (3 ≤ n ∧ contP b1 ∧ contP b2 ∧ okP (v3 b0 b1 b2) 2048)) : szN n b0 b1 b2 b3 = 0 := by
  unfold szN; rw [if_neg (by omega), if_neg (by omega), if_neg (by omega), if_pos h.2, if_neg hy]
theorem sz4_yes (n b0 b1 b2 b3 : Nat) (h : 240 ≤ b0 ∧ b0 < 248) (hy : 4 ≤ n ∧ contP b1 ∧ contP b2 ∧ contP b3 ∧ okP (v4 b0 b1 b2 b3) 65536) : szN n b0 b1 b2 b3 = 4 := by
  unfold szN; rw [if_neg (by omega), if_neg (by omega), if_neg (by omega), if_neg (by omega), if_pos h.2, if_pos hy]
theorem sz4_no (n b0 b1 b2 b3 : Nat) (h : 240 ≤ b0 ∧ b0 < 248) (hy : ¬ (4 ≤ n ∧ contP b1 ∧ contP b2 ∧ contP b3 ∧ okP (v4 b0 b1 b2 b3) 65536)) : szN n b0 b1 b2 b3 = 0 := by
  unfold szN; rw [if_neg (by omega), if_neg (by omega), if_neg (by omega), if_neg (by omega), if_pos h.2, if_neg hy]
theorem sz_bad (n b0 b1 b2 b3 : Nat) (h : (128 ≤ b0 ∧ b0 < 192) ∨ 248 ≤ b0) : szN n b0 b1 b2 b3 = 0 := by
  unfold szN
  rw [if_neg (by omega)]
  rcases h with h | h
  · rw [if_pos h.2]
  · rw [if_neg (by omega), if_neg (by omega), if_neg (by omega), if_neg (by omega)]

/-- The same of a text. -/
def szL (l : List UInt8) : Nat := szN l.length (l.getD 0 0).toNat (l.getD 1 0).toNat (l.getD 2 0).toNat (l.getD 3 0).toNat
theorem szL_dec (l : List UInt8) : szL l = if (Lib.decodeL l).1 = 65533 ∧ (Lib.decodeL l).2 = 1 then 0 else (Lib.decodeL l).2 := by
  rw [szL, szN_dec _ _ _ _ _ (UInt8.toNat_lt _) (UInt8.toNat_lt _) (UInt8.toNat_lt _), ← Lib.decodeL_N]
theorem szL_le (l : List UInt8) (h : l ≠ []) : szL l ≤ l.length := by
  rw [szL_dec]
  split
  · omega
  · exact Lib.decodeL_le l h

/-- A text's code points, each as its bytes; at most n of them. -/
def ptsN : Nat → List UInt8 → List (List UInt8)
  | 0, _ => []
  | n + 1, l => if l = [] then [] else if szL l = 0 then [] else l.take (szL l) :: ptsN n (l.drop (szL l))
/-- How many bytes they are. -/
def lenN : Nat → List UInt8 → Nat
  | 0, _ => 0
  | n + 1, l => if l = [] then 0 else if szL l = 0 then 0 else szL l + lenN n (l.drop (szL l))
def pts (l : List UInt8) : List (List UInt8) := ptsN l.length l
def ptsLen (l : List UInt8) : Nat := lenN l.length l
/-- The runes of a text, as the decoder gives them. -/
def runesN : Nat → List UInt8 → List Int
  | 0, _ => []
  | n + 1, l => if l = [] then [] else ((Lib.decodeL l).1 : Int) :: runesN n (l.drop (Lib.decodeL l).2)
def runes (l : List UInt8) : List Int := runesN l.length l

theorem lenN_le : ∀ (n : Nat) (l : List UInt8), lenN n l ≤ l.length
  | 0, _ => by simp [lenN]
  | n + 1, l => by
    rw [lenN]
    split
    · omega
    · split
      · omega
      · rename_i h1 h2
        have := lenN_le n (l.drop (szL l))
        have := szL_le l h1
        simp at *
        omega
/-- It is UTF-8 just if its code points are all of it; then they are the runes' bytes. -/
theorem valid_pts : ∀ (n : Nat) (l : List UInt8), l.length ≤ n → (Lib.validD l = true ↔ lenN n l = l.length) ∧ (Lib.validD l = true → ptsN n l = (runesN n l).map Lib.encodeRune)
  | 0, l, h => by
    have : l = [] := List.eq_nil_of_length_eq_zero (by omega)
    subst this
    simp [lenN, ptsN, runesN, Lib.validD, Lib.validGoD]
  | n + 1, l, h => by
    by_cases hl : l = []
    · subst hl; simp [lenN, ptsN, runesN, Lib.validD, Lib.validGoD]
    · have hpos : 0 < l.length := List.length_pos_iff.2 hl
      rw [lenN, ptsN, runesN, if_neg hl, if_neg hl, if_neg hl, Lib.validD_step l hl]
      by_cases hv : (Lib.decodeL l).1 = 65533 ∧ (Lib.decodeL l).2 = 1
      · have hz : szL l = 0 := by rw [szL_dec, if_pos hv]
        rw [if_pos hv, if_pos hz, if_pos hz]
        simp
        omega
      · have hz : szL l = (Lib.decodeL l).2 := by rw [szL_dec, if_neg hv]
        have hw := Lib.decodeL_width l
        have hle := Lib.decodeL_le l hl
        rw [if_neg hv, if_neg (by omega), if_neg (by omega), hz]
        have ih := valid_pts n (l.drop (Lib.decodeL l).2) (by simp; omega)
        refine ⟨?_, fun h2 => ?_⟩
        · rw [ih.1]
          simp
          omega
        · rw [ih.2 h2, List.map_cons, Lib.encode_decode l hl hv]
theorem valid_len (l : List UInt8) : Lib.validD l = true ↔ ptsLen l = l.length := (valid_pts l.length l (Nat.le_refl _)).1
theorem valid_runes (l : List UInt8) (h : Lib.validD l = true) : pts l = (runes l).map Lib.encodeRune := (valid_pts l.length l (Nat.le_refl _)).2 h
theorem count_runes (s : ByteArray) : ∀ (n pos : Nat), s.data.toList.length ≤ pos + n → Lib.runeCountFrom s n pos = (runesN n (s.data.toList.drop pos)).length
  | 0, _, _ => rfl
  | n + 1, pos, h => by
    rw [Lib.runeCountFrom, runesN]
    by_cases hp : pos < s.size
    · have hne : s.data.toList.drop pos ≠ [] := by
        intro e
        have := congrArg List.length e
        rw [List.length_drop, ← Lib.size_eq] at this
        simp at this
        omega
      rw [if_pos hp, if_neg hne, List.length_cons, Lib.decodeL_drop, List.drop_drop, count_runes s n (pos + (Utf8.decode s pos).2) ?_]
      · omega
      · have := Lib.decodeL_width (s.data.toList.drop pos)
        rw [Lib.decodeL_drop] at this
        omega
    · rw [if_neg hp, List.drop_eq_nil_of_le (by rw [← Lib.size_eq]; omega)]
      simp
theorem count_eq (s : ByteArray) : Lib.runeCount s = (runes s.data.toList).length := by
  rw [Lib.runeCount, Lib.size_eq, count_runes s _ 0 (by omega)]
  rfl
end Go.Proofs.YtaepcfidpekflaaGreatDoor.Pn
