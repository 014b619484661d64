/-
  Ruled of no rules, shown (digits as a locale has them) by their contracts. By the verifier.
-/
import Derived.Test.YtaepcfidpekflaaGreatDoorRd
import Derived.Test.YtaepcfidpekflaaGreatDoorRm
import Derived.Laws.OwnMore
namespace Go.Proofs.YtaepcfidpekflaaGreatDoor
open Go.RowKit

set_option maxHeartbeats 400000 in
theorem ruled_none (w : World) : Calls Tryz.prog 33 #[.slice none 0 0] w fun e w' => e = .returned (.bool true) ∧ Below w.heap.size w w' := by
  go_enter Tryz.func33, Tryz.ntmps33
  go_wp2
  go_loop [5] (fun i => i = .int .i64 0) (fun _ => 0)
  case atStart => rfl
  case round =>
    obtain rfl := hrel
    go_wp2
    go_ret
    exact ⟨rfl, (Below.refl _ _).alloc (Nat.le_refl _) _⟩

/-- Digits as code points, each by its bytes, stand for them; of none: themselves. -/
def dshow (ps : List (List UInt8)) (l : List UInt8) : List UInt8 := if ps = [] then l else l.flatMap fun c => ps.getD (c.toNat - 48) []
theorem str_at (ps : List (List UInt8)) (k : Nat) (h : k < ps.length) : (strs ps)[k]? = some (.string ⟨(ps.getD k []).toArray⟩) := by
  rw [strs, List.getElem?_map, List.getElem?_eq_getElem h, List.getD_eq_getElem?_getD, List.getElem?_eq_getElem h]; rfl
theorem cat_str (a b : List UInt8) : (⟨a.toArray⟩ : ByteArray) ++ ⟨b.toArray⟩ = ⟨(a ++ b).toArray⟩ := by
  apply ByteArray.ext
  simp [ByteArray.data_append]

set_option maxHeartbeats 1000000 in
theorem shown_any (mi po g : Int) (f n : Nat) (d s : ByteArray) (w : World) (hd : d.size ≤ 100000) (hs : s.size ≤ 60) (hdig : ∀ c ∈ s.data.toList, Pn.isDig c = true)
    (hp : Pn.pts d.data.toList = [] ∨ (Pn.pts d.data.toList).length = 10) (h4 : ∀ p ∈ Pn.pts d.data.toList, p.length ≤ 4) :
    Calls Tryz.prog 52 #[.string s, .agg #[.slice none 0 0, .slice none 0 0, .int .i32 mi, .int .i32 po, .int .i32 g, .int .u8 f, .int .u8 n, .string d]] w fun e w' => e = .returned (.string ⟨(dshow (Pn.pts d.data.toList) s.data.toList).toArray⟩) ∧ Below w.heap.size w w' := by
  obtain ⟨ps, HPS⟩ : ∃ ps, Hid (Pn.pts d.data.toList = ps) := ⟨_, rfl⟩
  rw [HPS.out] at hp h4
  have HD : Hid (∀ c ∈ s.data.toList, Pn.isDig c = true) := hdig
  have H4 : Hid (∀ p ∈ ps, p.length ≤ 4) := h4
  have HP : Hid (ps = [] ∨ ps.length = 10) := hp
  clear hdig h4 hp
  have hw0 := (Below.refl w.heap.size w).alloc (Nat.le_refl _) (.cells #[.slice none 0 0, .slice none 0 0, .int .i32 mi, .int .i32 po, .int .i32 g, .int .u8 f, .int .u8 n, .string d] 25)
  go_enter Tryz.func52, Tryz.ntmps52
  go_wp2_with fail
  refine (points_any d _ (by omega)).mono ?_
  rintro e w1 ⟨ao, cv, rfl, hown, hb1⟩
  have hw := below_of hw0 hb1
  clear hw0 hb1
  rw [HPS.out] at hown
  rw [HPS.out]
  generalize (Pn.ptsLen d.data.toList : Nat) = pl
  rcases HP.out with h0 | h10
  · subst h0
    go_wp2
    go_ret
    exact ⟨by rw [HPS.out, dshow, if_pos rfl, Lib.mk_data]; rfl, hw⟩
  · have hl0 : ((ps.length : Int) == 0) = false := by rw [beq_eq_false_iff_ne]; omega
    have hl1 : (10 : Int) ≤ ps.length := by omega
    have HE : Hid (¬ ps = []) := by intro e; rw [e] at h10; simp at h10
    obtain ⟨gb, rfl⟩ : ∃ gb, ao = some ⟨gb, 0, none⟩ := by
      rcases hown.2 with ⟨_, h⟩ | ⟨gb, cap, _, h, _⟩
      · omega
      · refine ⟨gb, ?_⟩
        injection h
    have HC : Hid (∀ k, k < 10 → w1.cell? ⟨gb, k, none⟩ = some (.string ⟨(ps.getD k []).toArray⟩)) := fun k hk => (hown.cellAt k (by omega)).trans (str_at ps k (by omega))
    clear hown
    have H10 : Hid (ps.length = 10) := h10
    clear h10
    go_wp2_with fail
    go_loop [7, 8] (fun t i => ∃ k : Nat, k ≤ s.size ∧ i = .int .i64 k ∧ t = .string ⟨((s.data.toList.take k).flatMap fun c => ps.getD (c.toNat - 48) []).toArray⟩ ∧ ((s.data.toList.take k).flatMap fun c => ps.getD (c.toNat - 48) []).length ≤ 4 * k) (fun _ i => s.size - (intOf i).toNat)
    case atStart => exact ⟨0, Nat.zero_le _, rfl, rfl, by simp⟩
    case round =>
      obtain ⟨k, hk, rfl, rfl, hal⟩ := hrel
      by_cases hlt : k < s.size
      · have hlt' : k < s.data.toList.length := by rw [← Lib.size_eq]; exact hlt
        have hgk : s.data.toList[k] = s[k] := rfl
        have hc := (Pn.isDig_iff _).1 (HD.out s[k] (by rw [← hgk]; exact List.getElem_mem _))
        have hc1 : (48 : Int) ≤ s[k].toNat := by omega
        have hc2 : (s[k].toNat : Int) ≤ 57 := by omega
        have q := HC.out (s[k].toNat - 48) (by omega)
        have hx : (ps.getD (s[k].toNat - 48) []).length ≤ 4 := by
          have hl : s[k].toNat - 48 < ps.length := by rw [H10.out]; omega
          rw [List.getD_eq_getElem?_getD, List.getElem?_eq_getElem hl]
          exact H4.out _ (List.getElem_mem _)
        have HT : Hid (((s.data.toList.take (k + 1)).flatMap fun c => ps.getD (c.toNat - 48) []) = ((s.data.toList.take k).flatMap fun c => ps.getD (c.toNat - 48) []) ++ ps.getD (s[k].toNat - 48) []) := by
          show _ = _
          rw [List.take_succ_eq_append_getElem hlt', List.flatMap_append, hgk]
          simp
        clear hc hgk
        generalize ((s.data.toList.take k).flatMap fun c => ps.getD (c.toNat - 48) []) = acc at hal HT ⊢
        generalize ps.getD (s[k].toNat - 48) [] = x at q hx HT
        go_wp2
        go_round
        case rel => exact ⟨k + 1, hlt, by go_num, by rw [HT.out, cat_str], by rw [HT.out]; simp; omega⟩
        case measure => simp [intOf]; omega
      · have HF : Hid (((s.data.toList.take k).flatMap fun c => ps.getD (c.toNat - 48) []) = dshow ps s.data.toList) := by
          show _ = _
          rw [dshow, if_neg HE.out, List.take_of_length_le (by rw [← Lib.size_eq]; omega)]
        rw [HF.out]
        go_wp2
        go_ret
        exact ⟨by rw [HPS.out]; rfl, hw⟩
end Go.Proofs.YtaepcfidpekflaaGreatDoor
