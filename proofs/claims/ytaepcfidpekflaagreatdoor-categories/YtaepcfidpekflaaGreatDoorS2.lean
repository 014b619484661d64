/-
  Several texts in one (Sf, Sg, Si). By the verifier.
-/
import Derived.Test.YtaepcfidpekflaaGreatDoorS1
import Derived.Test.YtaepcfidpekflaaGreatDoorPt
namespace Go.Proofs.YtaepcfidpekflaaGreatDoor
open Go.RowKit

/-- A slice of texts: nil, or texts in a row. -/
def SlV (w : World) (v : Value) (l : List Pr.T) : Prop := (v = .slice none 0 0 ∧ l = []) ∨
  ∃ blk off c, v = .slice (some ⟨blk, off, none⟩) l.length c ∧ l.length ≤ c ∧ blk < w.heap.size ∧ ∀ j, j < l.length → w.cell? ⟨blk, off + j, none⟩ = some (strV (l.getD j []))
theorem SlV.keep {w w' : World} {v : Value} {l : List Pr.T} (h : SlV w v l) (hb : Below w.heap.size w w') : SlV w' v l := by
  rcases h with h | ⟨blk, off, c, h1, h2, h3, h4⟩
  · exact .inl h
  · exact .inr ⟨blk, off, c, h1, h2, Nat.lt_of_lt_of_le h3 hb.size, fun j hj => (hb.cell (p := ⟨blk, off + j, none⟩) h3).trans (h4 j hj)⟩
/-- Rows of texts in a row of the call's own. -/
def RowsV (w : World) (B : Nat) (v : Value) (ps : List (List Pr.T)) : Prop := ∃ vs : List Value, vs.length = ps.length ∧ w.ownsRow B 35 1 v ps.length vs ∧ ∀ j, j < ps.length → SlV w (vs.getD j undef) (ps.getD j [])
theorem info_rows : (Tryz.prog.info? 35).map (fun i => (i.zero, i.size, i.bytes)) = some (some (.slice none 0 0), 1, 24) := by kernel_rfl
theorem drop_seg (l : List Pr.T) (fr k : Nat) (h : fr ≤ k) (hk : k < l.length) : l.drop fr = (l.drop fr).take (k - fr) ++ l.getD k [] :: l.drop (k + 1) := by
  conv => lhs; rw [← List.take_append_drop (k - fr) (l.drop fr)]
  rw [List.drop_drop, show fr + (k - fr) = k by omega, List.drop_eq_getElem_cons hk]
  simp [List.getD_eq_getElem?_getD, List.getElem?_eq_getElem hk]
theorem seg_mem (l : List Pr.T) (fr n : Nat) (t : Pr.T) (h : ∀ j, fr ≤ j → j < fr + n → j < l.length → l.getD j [] ≠ t) : ∀ u ∈ (l.drop fr).take n, u ≠ t := by
  intro u hu
  obtain ⟨j, hj, rfl⟩ := List.getElem_of_mem hu
  simp only [List.length_take, List.length_drop] at hj
  have := h (fr + j) (by omega) (by omega) (by omega)
  rw [List.getD_eq_getElem?_getD, List.getElem?_eq_getElem (by omega)] at this
  simpa using this
theorem parts_hit (l : List Pr.T) (fr k : Nat) (t : Pr.T) (h : fr ≤ k) (hk : k < l.length) (ht : l.getD k [] = t) (hn : ∀ j, fr ≤ j → j < k → l.getD j [] ≠ t) : Pr.partsAt t (l.drop fr) = (l.drop fr).take (k - fr) :: Pr.partsAt t (l.drop (k + 1)) := by
  conv => lhs; rw [drop_seg l fr k h hk, ht]
  exact Pr.parts_app t _ _ (seg_mem l fr (k - fr) t (fun j h1 h2 _ => hn j h1 (by omega)))
theorem parts_last (l : List Pr.T) (fr : Nat) (t : Pr.T) (hn : ∀ j, fr ≤ j → j < l.length → l.getD j [] ≠ t) : Pr.partsAt t (l.drop fr) = [l.drop fr] := by
  refine Pr.parts_end t _ fun u hu => ?_
  have := seg_mem l fr l.length t (fun j h1 _ h3 => hn j h1 h3) u
  rw [List.take_of_length_le (by simp)] at this
  exact this hu
theorem seg_slv (w : World) (blk off c : Nat) (l : List Pr.T) (fr k : Nat) (h : fr ≤ k) (hk : k ≤ l.length) (hc : l.length ≤ c) (hb : blk < w.heap.size) (hcell : ∀ j, j < l.length → w.cell? ⟨blk, off + j, none⟩ = some (strV (l.getD j []))) :
    SlV w (.slice (some ⟨blk, off + fr, none⟩) (k - fr) (c - fr)) ((l.drop fr).take (k - fr)) := by
  have hlen : ((l.drop fr).take (k - fr)).length = k - fr := by simp; omega
  refine .inr ⟨blk, off + fr, c - fr, by rw [hlen], by rw [hlen]; omega, hb, fun j hj => ?_⟩
  rw [hlen] at hj
  have := hcell (fr + j) (by omega)
  rw [show off + fr + j = off + (fr + j) by omega, this]
  congr 2
  simp only [List.getD_eq_getElem?_getD]
  rw [List.getElem?_take_of_lt (by omega), List.getElem?_drop]
theorem seg_empty (w : World) (blk off : Nat) (hb : blk < w.heap.size) : SlV w (.slice (some ⟨blk, off, none⟩) 0 0) [] := .inr ⟨blk, off, 0, rfl, Nat.le_refl _, hb, fun _ hj => absurd hj (Nat.not_lt_zero _)⟩
/-- Rows of texts (of the world w) in a row of the call's own. -/
def RowsW (w wr : World) (v : Value) (ps : List (List Pr.T)) : Prop := ∃ vs : List Value, vs.length = ps.length ∧ wr.ownsRow w.heap.size 35 1 v ps.length vs ∧ ∀ j, j < ps.length → SlV w (vs.getD j undef) (ps.getD j [])
theorem rows_snoc {w : World} {vs : List Value} {ps : List (List Pr.T)} {x : Value} {p : List Pr.T} (hl : vs.length = ps.length) (h : ∀ j, j < ps.length → SlV w (vs.getD j undef) (ps.getD j [])) (hx : SlV w x p) : ∀ j, j < (ps ++ [p]).length → SlV w ((vs ++ [x]).getD j undef) ((ps ++ [p]).getD j []) := by
  intro j hj
  simp only [List.length_append, List.length_singleton] at hj
  by_cases e : j < ps.length
  · have := h j e
    simp only [List.getD_eq_getElem?_getD] at this ⊢
    rw [List.getElem?_append_left (by omega), List.getElem?_append_left e]
    exact this
  · have : j = ps.length := by omega
    subst this
    simp only [List.getD_eq_getElem?_getD]
    rw [List.getElem?_append_right (by omega), List.getElem?_append_right (by omega), hl]
    simpa using hx

set_option maxHeartbeats 1600000 in
set_option maxRecDepth 100000 in
theorem parts_some (w : World) (blk off c : Nat) (l : List Pr.T) (t : Pr.T) (hl : l.length ≤ 1000) (hc : l.length ≤ c) (hb : blk < w.heap.size) (hcell : ∀ j, j < l.length → w.cell? ⟨blk, off + j, none⟩ = some (strV (l.getD j []))) :
    Calls Tryz.prog 89 #[.slice (some ⟨blk, off, none⟩) l.length c, .string ⟨t.toArray⟩] w fun e w' => (∃ v, e = .returned v ∧ RowsW w w' v (Pr.partsAt t l)) ∧ Below w.heap.size w w' := by
  obtain ⟨i0, hi0, hz0, hz1, hz2⟩ := info_parts info_rows
  have HI : Hid (Tryz.prog.info? 35 = some i0 ∧ i0.zero = some (.slice none 0 0) ∧ i0.size = 1 ∧ i0.bytes = 24) := ⟨hi0, hz0, hz1, hz2⟩
  have HC : Hid (∀ j, j < l.length → w.cell? ⟨blk, off + j, none⟩ = some (strV (l.getD j []))) := hcell
  clear hi0 hz0 hz1 hz2 hcell
  go_enter Tryz.func89, Tryz.ntmps89
  go_wp2_with fail
  go_loopw [5, 6, 7] (fun v f i wr => ∃ (k fr : Nat) (ps : List (List Pr.T)), k ≤ l.length + 1 ∧ fr ≤ k ∧ f = .int .i64 fr ∧ i = .int .i64 k ∧ ps.length ≤ k ∧ RowsW w wr v ps ∧ Below w.heap.size w wr ∧ Hid (k ≤ l.length → (∀ j, fr ≤ j → j < k → l.getD j [] ≠ t) ∧ Pr.partsAt t l = ps ++ Pr.partsAt t (l.drop fr)) ∧ Hid (l.length < k → Pr.partsAt t l = ps)) (fun _ _ i _ => l.length + 1 - (intOf i).toNat)
  case atStart => exact ⟨0, 0, [], Nat.zero_le _, Nat.le_refl _, rfl, rfl, Nat.le_refl _, ⟨[], rfl, World.ownsRow_nil _ _ _ _, fun j hj => absurd hj (Nat.not_lt_zero _)⟩, Below.refl _ _, fun _ => ⟨fun j _ h => absurd h (Nat.not_lt_zero _), by simp⟩, fun h => absurd h (Nat.not_lt_zero _)⟩
  case round =>
    obtain ⟨k, fr, ps, hk, hfk, rfl, rfl, hpk, ⟨vs, hvl, hown, hsl⟩, hbw, HA, HZ⟩ := hrel
    have HSl : Hid (∀ j, j < ps.length → SlV w (vs.getD j undef) (ps.getD j [])) := hsl
    clear hsl
    by_cases hle : k ≤ l.length
    · have hle' : (k : Int) ≤ l.length := by omega
      obtain ⟨HN, HP⟩ := HA.out hle
      have HNh : Hid (∀ j, fr ≤ j → j < k → l.getD j [] ≠ t) := HN
      have HPh : Hid (Pr.partsAt t l = ps ++ Pr.partsAt t (l.drop fr)) := HP
      clear HN HP HA HZ
      have happ : ∀ (x : Value) (p : List Pr.T) (v' : Value) (w2 : World) (o : Obj), SlV w x p → w2.ownsRow w.heap.size 35 1 v' (ps.length + 1) (vs ++ [x]) → (wr.alloc o).grownBy w2 u5.ownBlock → RowsW w w2 v' (ps ++ [p]) ∧ Below w.heap.size w w2 := fun x p v' w2 o hx ho hg =>
        ⟨⟨vs ++ [x], by simp [hvl], by simpa using ho, rows_snoc hvl HSl.out hx⟩, (hbw.alloc hbw.size o).grown hg (by have := hbw.size; simp; omega) fun j hj => (World.ownsRow.lt hown j hj).1⟩
      by_cases hend : k = l.length
      · subst hend
        have HL : Hid (Pr.partsAt t l = ps ++ [(l.drop fr).take (l.length - fr)]) := by
          show _ = _
          rw [HPh.out, parts_last l fr t (fun j h1 h2 => HNh.out j h1 h2), List.take_of_length_le (by simp)]
        by_cases hcf : c = fr
        · have hs0 : Hid (SlV w (.slice (some ⟨blk, off, none⟩) 0 0) ((l.drop fr).take (l.length - fr))) := by
            have : (l.drop fr).take (l.length - fr) = [] := by rw [show l.length - fr = 0 by omega]; simp
            rw [this]
            exact seg_empty w blk off hb
          clear HNh HPh
          have hlf : fr = l.length := by omega
          subst hlf
          subst hcf
          go_wp2_with (at_builtin; refine wpList_append_own _ rfl _ _ 167 rfl w.heap.size 35 i0 (.slice none 0 0) 1 24 Tryz.underlying167 HI.out.1 HI.out.2.1 HI.out.2.2.1 HI.out.2.2.2 rfl (by decide) _ _ _ rfl (World.ownsRow.alloc hown _) ⟨wr.heap.size, 0, none⟩ 1 1 [.slice (some ⟨blk, off, none⟩) 0 0] rfl rfl ?c1 ?c2 ?c3 ?c4 ?c5 ?_)
          case c1 =>
            intro j u hj
            match j, hj with
            | 0, hj => simp at hj; subst hj; simp [Addr.add]
          case c2 => intro u hu; simp at hu; subst hu; rfl
          case c3 => unfold maxLen; omega
          case c4 => omega
          case c5 => have := hbw.size; simp; omega
          · intro v' w2 hown' hgrow _
            obtain ⟨g1, g2⟩ := happ _ _ v' w2 _ hs0.out hown' hgrow
            clear hown' hgrow happ hown
            go_wp2
            go_roundw
            case rel => exact ⟨l.length + 1, l.length + 1, _, Nat.le_refl _, Nat.le_refl _, by go_num, by go_num, by simp; omega, g1, g2, fun h => absurd h (by omega), fun _ => HL.out⟩
            case measure => simp [intOf] <;> omega
        · have hs0 : Hid (SlV w (.slice (some ⟨blk, off + fr, none⟩) (l.length - fr) (c - fr)) ((l.drop fr).take (l.length - fr))) := seg_slv w blk off c l fr l.length hfk (Nat.le_refl _) hc hb HC.out
          clear HNh HPh
          go_wp2_with (at_builtin; refine wpList_append_own _ rfl _ _ 167 rfl w.heap.size 35 i0 (.slice none 0 0) 1 24 Tryz.underlying167 HI.out.1 HI.out.2.1 HI.out.2.2.1 HI.out.2.2.2 rfl (by decide) _ _ _ rfl (World.ownsRow.alloc hown _) ⟨wr.heap.size, 0, none⟩ 1 1 [.slice (some ⟨blk, off + fr, none⟩) (l.length - fr) (c - fr)] rfl rfl ?c1 ?c2 ?c3 ?c4 ?c5 ?_)
          case c1 =>
            intro j u hj
            match j, hj with
            | 0, hj => simp at hj; subst hj; simp [Addr.add]
          case c2 => intro u hu; simp at hu; subst hu; rfl
          case c3 => unfold maxLen; omega
          case c4 => omega
          case c5 => have := hbw.size; simp; omega
          · intro v' w2 hown' hgrow _
            obtain ⟨g1, g2⟩ := happ _ _ v' w2 _ hs0.out hown' hgrow
            clear hown' hgrow happ hown
            go_wp2
            go_roundw
            case rel => exact ⟨l.length + 1, l.length + 1, ps ++ [(l.drop fr).take (l.length - fr)], Nat.le_refl _, Nat.le_refl _, by go_num, by go_num, by simp; omega, g1, g2, fun h => absurd h (by omega), fun _ => HL.out⟩
            case measure => simp [intOf] <;> omega
      · have hend' : ((k : Int) == l.length) = false := by rw [beq_eq_false_iff_ne]; omega
        have hkl : k < l.length := by omega
        have hkl' : (k : Int) < l.length := by omega
        have hce : wr.cell? ⟨blk, off + k, none⟩ = some (.string ⟨(l.getD k []).toArray⟩) := (hbw.cell (p := ⟨blk, off + k, none⟩) hb).trans (HC.out k hkl)
        obtain ⟨u, hu⟩ : ∃ u, Hid (l.getD k [] = u) := ⟨_, rfl⟩
        rw [hu.out] at hce
        by_cases hut : u = t
        · have hut' : (u == t) = true := by rw [beq_iff_eq]; exact hut
          have hcf : ¬ c = fr := by omega
          have HL : Hid (Pr.partsAt t l = ps ++ [(l.drop fr).take (k - fr)] ++ Pr.partsAt t (l.drop (k + 1))) := by
            show _ = _
            rw [HPh.out, parts_hit l fr k t hfk hkl (hu.out.trans hut) HNh.out]
            simp
          have hs0 : Hid (SlV w (.slice (some ⟨blk, off + fr, none⟩) (k - fr) (c - fr)) ((l.drop fr).take (k - fr))) := seg_slv w blk off c l fr k hfk hle hc hb HC.out
          clear HNh HPh hend hut
          go_wp2_with (at_builtin; refine wpList_append_own _ rfl _ _ 167 rfl w.heap.size 35 i0 (.slice none 0 0) 1 24 Tryz.underlying167 HI.out.1 HI.out.2.1 HI.out.2.2.1 HI.out.2.2.2 rfl (by decide) _ _ _ rfl (World.ownsRow.alloc hown _) ⟨wr.heap.size, 0, none⟩ 1 1 [.slice (some ⟨blk, off + fr, none⟩) (k - fr) (c - fr)] rfl rfl ?c1 ?c2 ?c3 ?c4 ?c5 ?_)
          case c1 =>
            intro j u hj
            match j, hj with
            | 0, hj => simp at hj; subst hj; simp [Addr.add]
          case c2 => intro u hu; simp at hu; subst hu; rfl
          case c3 => unfold maxLen; omega
          case c4 => omega
          case c5 => have := hbw.size; simp; omega
          · intro v' w2 hown' hgrow _
            obtain ⟨g1, g2⟩ := happ _ _ v' w2 _ hs0.out hown' hgrow
            clear hown' hgrow happ hown
            go_wp2
            go_roundw
            case rel => exact ⟨k + 1, k + 1, ps ++ [(l.drop fr).take (k - fr)], by omega, Nat.le_refl _, by go_num, by go_num, by simp; omega, g1, g2, fun _ => ⟨fun j h1 h2 => absurd h1 (by omega), HL.out⟩, fun h => absurd h (by omega)⟩
            case measure => simp [intOf] <;> omega
        · have hut' : (u == t) = false := by rw [beq_eq_false_iff_ne]; exact hut
          have HN2 : Hid (∀ j, fr ≤ j → j < k + 1 → l.getD j [] ≠ t) := fun j h1 h2 => by
            by_cases e : j = k
            · subst e; rw [hu.out]; exact hut
            · exact HNh.out j h1 (by omega)
          have hrows : RowsW w wr u5 ps := ⟨vs, hvl, hown, HSl.out⟩
          clear hut hend HNh happ
          go_wp2
          go_roundw
          case rel => exact ⟨k + 1, fr, ps, by omega, by omega, rfl, by go_num, by omega, hrows, hbw, fun _ => ⟨HN2.out, HPh.out⟩, fun h => absurd h (by omega)⟩
          case measure => simp [intOf]; omega
    · have hle' : ¬ (k : Int) ≤ l.length := by omega
      have hE : Hid (Pr.partsAt t l = ps) := HZ.out (by omega)
      have hrows : RowsW w wr u5 ps := ⟨vs, hvl, hown, HSl.out⟩
      clear HA HZ
      go_wp2
      go_ret
      exact ⟨⟨_, rfl, by rw [hE.out]; exact hrows⟩, hbw⟩
end Go.Proofs.YtaepcfidpekflaaGreatDoor
namespace Go.Proofs.YtaepcfidpekflaaGreatDoor
open Go.RowKit

set_option maxHeartbeats 800000 in
set_option maxRecDepth 100000 in
theorem parts_nil (w : World) (t : Pr.T) : Calls Tryz.prog 89 #[.slice none 0 0, .string ⟨t.toArray⟩] w fun e w' => (∃ v, e = .returned v ∧ RowsW w w' v (Pr.partsAt t [])) ∧ Below w.heap.size w w' := by
  obtain ⟨i0, hi0, hz0, hz1, hz2⟩ := info_parts info_rows
  have HI : Hid (Tryz.prog.info? 35 = some i0 ∧ i0.zero = some (.slice none 0 0) ∧ i0.size = 1 ∧ i0.bytes = 24) := ⟨hi0, hz0, hz1, hz2⟩
  clear hi0 hz0 hz1 hz2
  go_enter Tryz.func89, Tryz.ntmps89
  go_wp2_with fail
  refine wp_loop_rounds 2 ?_
  rw [rounds_succ]
  go_wp2_with (at_builtin; refine wpList_append_own _ rfl _ _ 167 rfl w.heap.size 35 i0 (.slice none 0 0) 1 24 Tryz.underlying167 HI.out.1 HI.out.2.1 HI.out.2.2.1 HI.out.2.2.2 rfl (by decide) _ _ _ rfl (World.ownsRow.alloc (World.ownsRow_nil w w.heap.size 35 1) _) ⟨w.heap.size, 0, none⟩ 1 1 [.slice none 0 0] rfl rfl ?c1 ?c2 ?c3 ?c4 ?c5 ?_)
  case c1 =>
    intro j u hj
    match j, hj with
    | 0, hj => simp at hj; subst hj; simp [Addr.add]
  case c2 => intro u hu; simp at hu; subst hu; rfl
  case c3 => decide
  case c4 => decide
  case c5 => simp
  · intro v' w2 hown' hgrow _
    have g2 : Below w.heap.size w w2 := ((Below.refl w.heap.size w).alloc (Nat.le_refl _) _).grown hgrow (by simp) (fun j hj => by cases hj)
    have g1 : RowsW w w2 v' (Pr.partsAt t []) := ⟨[.slice none 0 0], rfl, hown', fun j hj => by
      have : j = 0 := by simpa [Pr.partsAt] using hj
      subst this
      exact .inl ⟨rfl, rfl⟩⟩
    clear hown' hgrow
    go_wp2_with fail
    rw [rounds_succ]
    go_wp2
    go_ret
    exact ⟨⟨_, rfl, g1⟩, g2⟩
theorem parts_any (w : World) (v : Value) (l : List Pr.T) (t : Pr.T) (hl : l.length ≤ 1000) (h : SlV w v l) : Calls Tryz.prog 89 #[v, .string ⟨t.toArray⟩] w fun e w' => (∃ v', e = .returned v' ∧ RowsW w w' v' (Pr.partsAt t l)) ∧ Below w.heap.size w w' := by
  rcases h with ⟨rfl, rfl⟩ | ⟨blk, off, c, rfl, h2, h3, h4⟩
  · exact parts_nil w t
  · exact parts_some w blk off c l t hl h2 h3 h4

/-- Is it denied; are broken numbers spoken of; must one number follow; how many words say so. -/
def mannerS (t u : Pr.T) : Bool × Bool × Bool × Nat :=
  if t = [61] ∨ t = [105, 110] then (false, false, false, 1)
  else if t = [33, 61] then (true, false, false, 1)
  else if t = [119, 105, 116, 104, 105, 110] then (false, true, false, 1)
  else if t = [105, 115] ∧ u = [110, 111, 116] then (true, false, true, 2)
  else if t = [105, 115] then (false, false, true, 1)
  else if t = [110, 111, 116] ∧ u = [105, 110] then (true, false, false, 2)
  else if t = [110, 111, 116] ∧ u = [119, 105, 116, 104, 105, 110] then (true, true, false, 2)
  else (false, false, false, 0)
set_option maxHeartbeats 1600000 in
theorem manner_two (blk off c : Nat) (t : Pr.T) (r : List Pr.T) (w : World) (h0 : w.cell? ⟨blk, off, none⟩ = some (.string ⟨t.toArray⟩)) (u : Pr.T) (h1 : w.cell? ⟨blk, off + 1, none⟩ = some (.string ⟨u.toArray⟩)) (hr : 1 ≤ r.length) (hl : r.length ≤ 1000) :
    Calls Tryz.prog 121 #[.slice (some ⟨blk, off, none⟩) (r.length + 1) c] w fun e w' => e = .returned (.tuple #[.bool (mannerS t u).1, .bool (mannerS t u).2.1, .bool (mannerS t u).2.2.1, .int .i64 (mannerS t u).2.2.2]) ∧ Below w.heap.size w w' := by
  obtain ⟨R, hR⟩ : ∃ R, Hid (mannerS t u = R) := ⟨_, rfl⟩
  rw [hR.out]
  have hg : (1 : Int) < r.length + 1 := by omega
  by_cases e_eqt : t = [61]
  · have hF : Hid (R = (false, false, false, 1)) := by show _ = _; rw [← hR.out]; simp [mannerS, e_eqt]
    have b_eqt : (t == [61]) = true := by rw [e_eqt]; rfl
    clear hR e_eqt
    go_enter Tryz.func121, Tryz.ntmps121
    go_wp2
    first
      | (refine bodyPost_ret (v := .tuple #[.bool false, .bool false, .bool false, .int .i64 1]) (by simp [results, Tryz.results121, go_sem]) rfl ⟨by rw [hF.out]; rfl, Below.refl _ _⟩)
  by_cases e_int : t = [105, 110]
  · have hF : Hid (R = (false, false, false, 1)) := by show _ = _; rw [← hR.out]; simp [mannerS, e_int]
    have b_int : (t == [105, 110]) = true := by rw [e_int]; rfl
    have b_eqt : (t == [61]) = false := by rw [beq_eq_false_iff_ne]; exact e_eqt
    clear hR e_eqt e_int
    go_enter Tryz.func121, Tryz.ntmps121
    go_wp2
    first
      | (refine bodyPost_ret (v := .tuple #[.bool false, .bool false, .bool false, .int .i64 1]) (by simp [results, Tryz.results121, go_sem]) rfl ⟨by rw [hF.out]; rfl, Below.refl _ _⟩)
  by_cases e_net : t = [33, 61]
  · have hF : Hid (R = (true, false, false, 1)) := by show _ = _; rw [← hR.out]; simp [mannerS, e_net]
    have b_net : (t == [33, 61]) = true := by rw [e_net]; rfl
    have b_eqt : (t == [61]) = false := by rw [beq_eq_false_iff_ne]; exact e_eqt
    have b_int : (t == [105, 110]) = false := by rw [beq_eq_false_iff_ne]; exact e_int
    clear hR e_eqt e_int e_net
    go_enter Tryz.func121, Tryz.ntmps121
    go_wp2
    first
      | (refine bodyPost_ret (v := .tuple #[.bool true, .bool false, .bool false, .int .i64 1]) (by simp [results, Tryz.results121, go_sem]) rfl ⟨by rw [hF.out]; rfl, Below.refl _ _⟩)
  by_cases e_withint : t = [119, 105, 116, 104, 105, 110]
  · have hF : Hid (R = (false, true, false, 1)) := by show _ = _; rw [← hR.out]; simp [mannerS, e_withint]
    have b_withint : (t == [119, 105, 116, 104, 105, 110]) = true := by rw [e_withint]; rfl
    have b_eqt : (t == [61]) = false := by rw [beq_eq_false_iff_ne]; exact e_eqt
    have b_int : (t == [105, 110]) = false := by rw [beq_eq_false_iff_ne]; exact e_int
    have b_net : (t == [33, 61]) = false := by rw [beq_eq_false_iff_ne]; exact e_net
    clear hR e_eqt e_int e_net e_withint
    go_enter Tryz.func121, Tryz.ntmps121
    go_wp2
    first
      | (refine bodyPost_ret (v := .tuple #[.bool false, .bool true, .bool false, .int .i64 1]) (by simp [results, Tryz.results121, go_sem]) rfl ⟨by rw [hF.out]; rfl, Below.refl _ _⟩)
  by_cases e_ist : t = [105, 115]
  · by_cases e_notu : u = [110, 111, 116]
    · have hF : Hid (R = (true, false, true, 2)) := by show _ = _; rw [← hR.out]; simp [mannerS, e_ist, e_notu]
      have b_eqt : (t == [61]) = false := by rw [beq_eq_false_iff_ne]; exact e_eqt
      have b_int : (t == [105, 110]) = false := by rw [beq_eq_false_iff_ne]; exact e_int
      have b_net : (t == [33, 61]) = false := by rw [beq_eq_false_iff_ne]; exact e_net
      have b_withint : (t == [119, 105, 116, 104, 105, 110]) = false := by rw [beq_eq_false_iff_ne]; exact e_withint
      have b_ist : (t == [105, 115]) = true := by rw [e_ist]; rfl
      have b_notu : (u == [110, 111, 116]) = true := by rw [e_notu]; rfl
      clear hR e_eqt e_int e_net e_withint e_ist e_notu
      go_enter Tryz.func121, Tryz.ntmps121
      go_wp2
      first
        | (refine bodyPost_ret (v := .tuple #[.bool true, .bool false, .bool true, .int .i64 2]) (by simp [results, Tryz.results121, go_sem]) rfl ⟨by rw [hF.out]; rfl, Below.refl _ _⟩)
    · have hF : Hid (R = (false, false, true, 1)) := by show _ = _; rw [← hR.out]; simp [mannerS, e_ist, e_notu]
      have b_eqt : (t == [61]) = false := by rw [beq_eq_false_iff_ne]; exact e_eqt
      have b_int : (t == [105, 110]) = false := by rw [beq_eq_false_iff_ne]; exact e_int
      have b_net : (t == [33, 61]) = false := by rw [beq_eq_false_iff_ne]; exact e_net
      have b_withint : (t == [119, 105, 116, 104, 105, 110]) = false := by rw [beq_eq_false_iff_ne]; exact e_withint
      have b_ist : (t == [105, 115]) = true := by rw [e_ist]; rfl
      have b_notu : (u == [110, 111, 116]) = false := by rw [beq_eq_false_iff_ne]; exact e_notu
      clear hR e_eqt e_int e_net e_withint e_ist e_notu
      go_enter Tryz.func121, Tryz.ntmps121
      go_wp2
      first
        | (refine bodyPost_ret (v := .tuple #[.bool false, .bool false, .bool true, .int .i64 1]) (by simp [results, Tryz.results121, go_sem]) rfl ⟨by rw [hF.out]; rfl, Below.refl _ _⟩)
  by_cases e_nott : t = [110, 111, 116]
  · by_cases e_inu : u = [105, 110]
    · have hF : Hid (R = (true, false, false, 2)) := by show _ = _; rw [← hR.out]; simp [mannerS, e_nott, e_inu]
      have b_eqt : (t == [61]) = false := by rw [beq_eq_false_iff_ne]; exact e_eqt
      have b_int : (t == [105, 110]) = false := by rw [beq_eq_false_iff_ne]; exact e_int
      have b_net : (t == [33, 61]) = false := by rw [beq_eq_false_iff_ne]; exact e_net
      have b_withint : (t == [119, 105, 116, 104, 105, 110]) = false := by rw [beq_eq_false_iff_ne]; exact e_withint
      have b_ist : (t == [105, 115]) = false := by rw [beq_eq_false_iff_ne]; exact e_ist
      have b_nott : (t == [110, 111, 116]) = true := by rw [e_nott]; rfl
      have b_inu : (u == [105, 110]) = true := by rw [e_inu]; rfl
      clear hR e_eqt e_int e_net e_withint e_ist e_nott e_inu
      go_enter Tryz.func121, Tryz.ntmps121
      go_wp2
      first
        | (refine bodyPost_ret (v := .tuple #[.bool true, .bool false, .bool false, .int .i64 2]) (by simp [results, Tryz.results121, go_sem]) rfl ⟨by rw [hF.out]; rfl, Below.refl _ _⟩)
    by_cases e_withinu : u = [119, 105, 116, 104, 105, 110]
    · have hF : Hid (R = (true, true, false, 2)) := by show _ = _; rw [← hR.out]; simp [mannerS, e_nott, e_withinu]
      have b_eqt : (t == [61]) = false := by rw [beq_eq_false_iff_ne]; exact e_eqt
      have b_int : (t == [105, 110]) = false := by rw [beq_eq_false_iff_ne]; exact e_int
      have b_net : (t == [33, 61]) = false := by rw [beq_eq_false_iff_ne]; exact e_net
      have b_withint : (t == [119, 105, 116, 104, 105, 110]) = false := by rw [beq_eq_false_iff_ne]; exact e_withint
      have b_ist : (t == [105, 115]) = false := by rw [beq_eq_false_iff_ne]; exact e_ist
      have b_nott : (t == [110, 111, 116]) = true := by rw [e_nott]; rfl
      have b_inu : (u == [105, 110]) = false := by rw [beq_eq_false_iff_ne]; exact e_inu
      have b_withinu : (u == [119, 105, 116, 104, 105, 110]) = true := by rw [e_withinu]; rfl
      clear hR e_eqt e_int e_net e_withint e_ist e_nott e_inu e_withinu
      go_enter Tryz.func121, Tryz.ntmps121
      go_wp2
      first
        | (refine bodyPost_ret (v := .tuple #[.bool true, .bool true, .bool false, .int .i64 2]) (by simp [results, Tryz.results121, go_sem]) rfl ⟨by rw [hF.out]; rfl, Below.refl _ _⟩)
    · have hF : Hid (R = (false, false, false, 0)) := by show _ = _; rw [← hR.out]; simp [mannerS, e_nott, e_inu, e_withinu]
      have b_eqt : (t == [61]) = false := by rw [beq_eq_false_iff_ne]; exact e_eqt
      have b_int : (t == [105, 110]) = false := by rw [beq_eq_false_iff_ne]; exact e_int
      have b_net : (t == [33, 61]) = false := by rw [beq_eq_false_iff_ne]; exact e_net
      have b_withint : (t == [119, 105, 116, 104, 105, 110]) = false := by rw [beq_eq_false_iff_ne]; exact e_withint
      have b_ist : (t == [105, 115]) = false := by rw [beq_eq_false_iff_ne]; exact e_ist
      have b_nott : (t == [110, 111, 116]) = true := by rw [e_nott]; rfl
      have b_inu : (u == [105, 110]) = false := by rw [beq_eq_false_iff_ne]; exact e_inu
      have b_withinu : (u == [119, 105, 116, 104, 105, 110]) = false := by rw [beq_eq_false_iff_ne]; exact e_withinu
      clear hR e_eqt e_int e_net e_withint e_ist e_nott e_inu e_withinu
      go_enter Tryz.func121, Tryz.ntmps121
      go_wp2
      first
        | (refine bodyPost_ret (v := .tuple #[.bool false, .bool false, .bool false, .int .i64 0]) (by simp [results, Tryz.results121, go_sem]) rfl ⟨by rw [hF.out]; rfl, Below.refl _ _⟩)
  have hF : Hid (R = (false, false, false, 0)) := by show _ = _; rw [← hR.out]; simp [mannerS, e_eqt, e_int, e_net, e_withint, e_ist, e_nott]
  have b_eqt : (t == [61]) = false := by rw [beq_eq_false_iff_ne]; exact e_eqt
  have b_int : (t == [105, 110]) = false := by rw [beq_eq_false_iff_ne]; exact e_int
  have b_net : (t == [33, 61]) = false := by rw [beq_eq_false_iff_ne]; exact e_net
  have b_withint : (t == [119, 105, 116, 104, 105, 110]) = false := by rw [beq_eq_false_iff_ne]; exact e_withint
  have b_ist : (t == [105, 115]) = false := by rw [beq_eq_false_iff_ne]; exact e_ist
  have b_nott : (t == [110, 111, 116]) = false := by rw [beq_eq_false_iff_ne]; exact e_nott
  clear hR e_eqt e_int e_net e_withint e_ist e_nott
  go_enter Tryz.func121, Tryz.ntmps121
  go_wp2
  first
    | (refine bodyPost_ret (v := .tuple #[.bool false, .bool false, .bool false, .int .i64 0]) (by simp [results, Tryz.results121, go_sem]) rfl ⟨by rw [hF.out]; rfl, Below.refl _ _⟩)
set_option maxHeartbeats 1600000 in
theorem manner_one (blk off c : Nat) (t : Pr.T) (r : List Pr.T) (w : World) (h0 : w.cell? ⟨blk, off, none⟩ = some (.string ⟨t.toArray⟩)) (hr : r.length = 0) (_hl : r.length ≤ 1000) :
    Calls Tryz.prog 121 #[.slice (some ⟨blk, off, none⟩) (r.length + 1) c] w fun e w' => e = .returned (.tuple #[.bool (mannerS t []).1, .bool (mannerS t []).2.1, .bool (mannerS t []).2.2.1, .int .i64 (mannerS t []).2.2.2]) ∧ Below w.heap.size w w' := by
  obtain ⟨R, hR⟩ : ∃ R, Hid (mannerS t [] = R) := ⟨_, rfl⟩
  rw [hR.out]
  have hg : ¬ (1 : Int) < r.length + 1 := by omega
  by_cases e_eqt : t = [61]
  · have hF : Hid (R = (false, false, false, 1)) := by show _ = _; rw [← hR.out]; simp [mannerS, e_eqt]
    have b_eqt : (t == [61]) = true := by rw [e_eqt]; rfl
    clear hR e_eqt
    go_enter Tryz.func121, Tryz.ntmps121
    go_wp2
    first
      | (refine bodyPost_ret (v := .tuple #[.bool false, .bool false, .bool false, .int .i64 1]) (by simp [results, Tryz.results121, go_sem]) rfl ⟨by rw [hF.out]; rfl, Below.refl _ _⟩)
  by_cases e_int : t = [105, 110]
  · have hF : Hid (R = (false, false, false, 1)) := by show _ = _; rw [← hR.out]; simp [mannerS, e_int]
    have b_int : (t == [105, 110]) = true := by rw [e_int]; rfl
    have b_eqt : (t == [61]) = false := by rw [beq_eq_false_iff_ne]; exact e_eqt
    clear hR e_eqt e_int
    go_enter Tryz.func121, Tryz.ntmps121
    go_wp2
    first
      | (refine bodyPost_ret (v := .tuple #[.bool false, .bool false, .bool false, .int .i64 1]) (by simp [results, Tryz.results121, go_sem]) rfl ⟨by rw [hF.out]; rfl, Below.refl _ _⟩)
  by_cases e_net : t = [33, 61]
  · have hF : Hid (R = (true, false, false, 1)) := by show _ = _; rw [← hR.out]; simp [mannerS, e_net]
    have b_net : (t == [33, 61]) = true := by rw [e_net]; rfl
    have b_eqt : (t == [61]) = false := by rw [beq_eq_false_iff_ne]; exact e_eqt
    have b_int : (t == [105, 110]) = false := by rw [beq_eq_false_iff_ne]; exact e_int
    clear hR e_eqt e_int e_net
    go_enter Tryz.func121, Tryz.ntmps121
    go_wp2
    first
      | (refine bodyPost_ret (v := .tuple #[.bool true, .bool false, .bool false, .int .i64 1]) (by simp [results, Tryz.results121, go_sem]) rfl ⟨by rw [hF.out]; rfl, Below.refl _ _⟩)
  by_cases e_withint : t = [119, 105, 116, 104, 105, 110]
  · have hF : Hid (R = (false, true, false, 1)) := by show _ = _; rw [← hR.out]; simp [mannerS, e_withint]
    have b_withint : (t == [119, 105, 116, 104, 105, 110]) = true := by rw [e_withint]; rfl
    have b_eqt : (t == [61]) = false := by rw [beq_eq_false_iff_ne]; exact e_eqt
    have b_int : (t == [105, 110]) = false := by rw [beq_eq_false_iff_ne]; exact e_int
    have b_net : (t == [33, 61]) = false := by rw [beq_eq_false_iff_ne]; exact e_net
    clear hR e_eqt e_int e_net e_withint
    go_enter Tryz.func121, Tryz.ntmps121
    go_wp2
    first
      | (refine bodyPost_ret (v := .tuple #[.bool false, .bool true, .bool false, .int .i64 1]) (by simp [results, Tryz.results121, go_sem]) rfl ⟨by rw [hF.out]; rfl, Below.refl _ _⟩)
  by_cases e_ist : t = [105, 115]
  · have hF : Hid (R = (false, false, true, 1)) := by show _ = _; rw [← hR.out]; simp [mannerS, e_ist]
    have b_eqt : (t == [61]) = false := by rw [beq_eq_false_iff_ne]; exact e_eqt
    have b_int : (t == [105, 110]) = false := by rw [beq_eq_false_iff_ne]; exact e_int
    have b_net : (t == [33, 61]) = false := by rw [beq_eq_false_iff_ne]; exact e_net
    have b_withint : (t == [119, 105, 116, 104, 105, 110]) = false := by rw [beq_eq_false_iff_ne]; exact e_withint
    have b_ist : (t == [105, 115]) = true := by rw [e_ist]; rfl
    clear hR e_eqt e_int e_net e_withint e_ist
    go_enter Tryz.func121, Tryz.ntmps121
    go_wp2
    first
      | (refine bodyPost_ret (v := .tuple #[.bool false, .bool false, .bool true, .int .i64 1]) (by simp [results, Tryz.results121, go_sem]) rfl ⟨by rw [hF.out]; rfl, Below.refl _ _⟩)
  by_cases e_nott : t = [110, 111, 116]
  · have hF : Hid (R = (false, false, false, 0)) := by show _ = _; rw [← hR.out]; simp [mannerS, e_nott]
    have b_eqt : (t == [61]) = false := by rw [beq_eq_false_iff_ne]; exact e_eqt
    have b_int : (t == [105, 110]) = false := by rw [beq_eq_false_iff_ne]; exact e_int
    have b_net : (t == [33, 61]) = false := by rw [beq_eq_false_iff_ne]; exact e_net
    have b_withint : (t == [119, 105, 116, 104, 105, 110]) = false := by rw [beq_eq_false_iff_ne]; exact e_withint
    have b_ist : (t == [105, 115]) = false := by rw [beq_eq_false_iff_ne]; exact e_ist
    have b_nott : (t == [110, 111, 116]) = true := by rw [e_nott]; rfl
    clear hR e_eqt e_int e_net e_withint e_ist e_nott
    go_enter Tryz.func121, Tryz.ntmps121
    go_wp2
    first
      | (refine bodyPost_ret (v := .tuple #[.bool false, .bool false, .bool false, .int .i64 0]) (by simp [results, Tryz.results121, go_sem]) rfl ⟨by rw [hF.out]; rfl, Below.refl _ _⟩)
  have hF : Hid (R = (false, false, false, 0)) := by show _ = _; rw [← hR.out]; simp [mannerS, e_eqt, e_int, e_net, e_withint, e_ist, e_nott]
  have b_eqt : (t == [61]) = false := by rw [beq_eq_false_iff_ne]; exact e_eqt
  have b_int : (t == [105, 110]) = false := by rw [beq_eq_false_iff_ne]; exact e_int
  have b_net : (t == [33, 61]) = false := by rw [beq_eq_false_iff_ne]; exact e_net
  have b_withint : (t == [119, 105, 116, 104, 105, 110]) = false := by rw [beq_eq_false_iff_ne]; exact e_withint
  have b_ist : (t == [105, 115]) = false := by rw [beq_eq_false_iff_ne]; exact e_ist
  have b_nott : (t == [110, 111, 116]) = false := by rw [beq_eq_false_iff_ne]; exact e_nott
  clear hR e_eqt e_int e_net e_withint e_ist e_nott
  go_enter Tryz.func121, Tryz.ntmps121
  go_wp2
  first
    | (refine bodyPost_ret (v := .tuple #[.bool false, .bool false, .bool false, .int .i64 0]) (by simp [results, Tryz.results121, go_sem]) rfl ⟨by rw [hF.out]; rfl, Below.refl _ _⟩)
end Go.Proofs.YtaepcfidpekflaaGreatDoor
namespace Go.Proofs.YtaepcfidpekflaaGreatDoor
open Go.RowKit

/-- Does an amount (A, broken: br) lie from lo to hi? -/
def inB (A : Nat) (br wi : Bool) (lo hi : Nat) : Bool := decide (lo ≤ A) && (decide (A < hi) || decide (A = hi) && !br) && (wi || !br)
/-- One part of a list. -/
def itemB (A : Nat) (br wi : Bool) : List Pr.T → Option Bool
  | [x] => match Pr.fig x with
    | none => none
    | some v => some (inB A br wi v v)
  | [x, d, y] => if d = [46, 46] then match Pr.fig x, Pr.fig y with
      | some lo, some hi => if hi < lo then none else some (inB A br wi lo hi)
      | _, _ => none
    else none
  | _ => none
def listGo (A : Nat) (br wi : Bool) : Bool → List (List Pr.T) → Bool × Bool
  | b, [] => (b, true)
  | b, p :: ps => match itemB A br wi p with
    | none => (false, false)
    | some c => listGo A br wi (b || c) ps
/-- Is one number alone asked for, and not there? -/
def oneBad (one : Bool) (ps : List (List Pr.T)) : Bool := one && (decide (ps.length ≠ 1) || decide ((ps.headD []).length ≠ 1))
def listedS (A : Nat) (br wi one : Bool) (ps : List (List Pr.T)) : Bool × Bool := if oneBad one ps then (false, false) else listGo A br wi false ps
theorem inB_span (o : Pr.Opd) (wi : Bool) (lo hi : Nat) (a b : Pr.T) : Pr.inS o wi lo hi a b = inB (o a b).1 (o a b).2 wi lo hi := by
  unfold Pr.inS inB
  cases wi with
  | true => simp [Pr.stretchS]
  | false =>
    simp only [Pr.spanS, Bool.false_eq_true, if_false]
    cases (o a b).2 with
    | true => simp
    | false =>
      simp
      by_cases h1 : lo ≤ (o a b).1
      · simp [h1]
        by_cases h2 : (o a b).1 ≤ hi
        · simp [h2]; omega
        · simp [h2]; omega
      · simp [h1]
/-- The program's item and the document's part. -/
theorem item_part (o : Pr.Opd) (wi : Bool) (p : List Pr.T) (a b : Pr.T) : (Pr.whole (Pr.itemP o wi) p).map (fun f => f a b) = itemB (o a b).1 (o a b).2 wi p := by
  cases p with
  | nil => rfl
  | cons x p =>
    cases hx : Pr.fig x with
    | none =>
      have h1 : Pr.itemP o wi (x :: p) = none := by simp [Pr.itemP, Pr.valueP, Pr.value, hx]
      rw [Pr.whole, h1]
      match p with
      | [] => simp [itemB, hx]
      | [_] => rfl
      | [d, y] => simp [itemB, hx]
      | _ :: _ :: _ :: _ => rfl
    | some lo =>
      match p with
      | [] => simp [Pr.whole, Pr.itemP, Pr.valueP, Pr.value, hx, Pr.itemK, itemB, inB_span o wi lo lo]
      | [d] =>
        by_cases hd : d = [46, 46]
        · subst hd
          simp [Pr.whole, Pr.itemP, Pr.valueP, Pr.value, hx, Pr.itemK, itemB]
        · simp [Pr.whole, Pr.itemP, Pr.valueP, Pr.value, hx, Pr.itemK, itemB, hd]
      | [d, y] =>
        by_cases hd : d = [46, 46]
        · subst hd
          cases hy : Pr.fig y with
          | none => simp [Pr.whole, Pr.itemP, Pr.valueP, Pr.value, hx, Pr.itemK, itemB, hy]
          | some hi =>
            by_cases hlt : hi < lo
            · simp [Pr.whole, Pr.itemP, Pr.valueP, Pr.value, hx, Pr.itemK, itemB, hy, hlt]
            · simp [Pr.whole, Pr.itemP, Pr.valueP, Pr.value, hx, Pr.itemK, itemB, hy, hlt, inB_span o wi lo hi]
        · simp [Pr.whole, Pr.itemP, Pr.valueP, Pr.value, hx, Pr.itemK, itemB, hd]
      | d :: y :: z :: r =>
        by_cases hd : d = [46, 46]
        · subst hd
          cases hy : Pr.fig y with
          | none => simp [Pr.whole, Pr.itemP, Pr.valueP, Pr.value, hx, Pr.itemK, itemB, hy]
          | some hi =>
            by_cases hlt : hi < lo
            · simp [Pr.whole, Pr.itemP, Pr.valueP, Pr.value, hx, Pr.itemK, itemB, hy, hlt]
            · simp [Pr.whole, Pr.itemP, Pr.valueP, Pr.value, hx, Pr.itemK, itemB, hy, hlt]
        · simp [Pr.whole, Pr.itemP, Pr.valueP, Pr.value, hx, Pr.itemK, itemB, hd]
/-- The program's list and the document's. -/
theorem list_go (o : Pr.Opd) (wi : Bool) (a b : Pr.T) : ∀ (ps : List (List Pr.T)) (f : Pr.Sem), (match Pr.foldFrom (Pr.whole (Pr.itemP o wi)) Pr.orS f ps with
    | none => (false, false)
    | some g => (g a b, true)) = listGo (o a b).1 (o a b).2 wi (f a b) ps := by
  intro ps
  induction ps with
  | nil => intro f; rfl
  | cons p ps ih =>
    intro f
    have hp := item_part o wi p a b
    cases hw : Pr.whole (Pr.itemP o wi) p with
    | none =>
      rw [hw] at hp
      simp [Pr.foldFrom, hw, listGo, ← hp]
    | some g =>
      rw [hw] at hp
      simp only [Option.map_some] at hp
      simp only [Pr.foldFrom, hw, listGo, ← hp]
      exact ih (Pr.orS f g)
theorem list_fold (o : Pr.Opd) (wi : Bool) (a b : Pr.T) (ps : List (List Pr.T)) (hne : ps ≠ []) : (match Pr.foldB (Pr.whole (Pr.itemP o wi)) Pr.orS ps with
    | none => (false, false)
    | some g => (g a b, true)) = listGo (o a b).1 (o a b).2 wi false ps := by
  cases ps with
  | nil => exact absurd rfl hne
  | cons p ps =>
    have hp := item_part o wi p a b
    cases hw : Pr.whole (Pr.itemP o wi) p with
    | none =>
      rw [hw] at hp
      simp [Pr.foldB, hw, listGo, ← hp]
    | some g =>
      rw [hw] at hp
      simp only [Option.map_some] at hp
      simp only [Pr.foldB, hw, listGo, ← hp, Bool.false_or]
      exact list_go o wi a b ps g
end Go.Proofs.YtaepcfidpekflaaGreatDoor
