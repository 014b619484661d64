/-
  Several texts in one (Se, Sf, Sr). By the verifier.
-/
import Derived.Test.YtaepcfidpekflaaGreatDoorU34
import Derived.Test.YtaepcfidpekflaaGreatDoorU15
namespace Go.Proofs.YtaepcfidpekflaaGreatDoor
open Go.RowKit

theorem short_snoc (l : Pr.T) : Pr.shortR (l ++ [48]) = Pr.shortR l := by
  unfold Pr.shortR
  rw [List.reverse_append]
  simp
theorem short_stop (l : Pr.T) (c : UInt8) (h : c ≠ 48) : Pr.shortR (l ++ [c]) = l ++ [c] := by
  unfold Pr.shortR
  rw [List.reverse_append]
  simp [h]
theorem last_at (l : Pr.T) (c : UInt8) (h : l.length < (⟨(l ++ [c]).toArray⟩ : ByteArray).size) : (⟨(l ++ [c]).toArray⟩ : ByteArray)[l.length] = c := by
  show (l ++ [c]).toArray[l.length] = c
  simp
/-- What operand answers of a number's digits. -/
def opA (t : Pr.T) (a b : Pr.T) : Pr.T :=
  if t = [110] then a else if t = [105] then a else if t = [118] then Lib.decDigits b.length else if t = [119] then Lib.decDigits (Pr.shortR b).length else if t = [102] then plainD b else if t = [116] then plainD (Pr.shortR b) else []
def opF (t : Pr.T) (b : Pr.T) : Pr.T := if t = [110] then b else []
def opOk (t : Pr.T) : Bool := (Pr.opd t).isSome
set_option maxHeartbeats 1600000 in
theorem operand_any (m : Bool) (a b t : Pr.T) (_ha : Digs a) (hb : Digs b) (w : World) :
    Calls Tryz.prog 116 #[.agg #[.bool m, .string ⟨a.toArray⟩, .string ⟨b.toArray⟩], .string ⟨t.toArray⟩] w fun e w' => e = .returned (.tuple #[.string ⟨(opA t a b).toArray⟩, .string ⟨(opF t b).toArray⟩, .bool (opOk t)]) ∧ Below w.heap.size w w' := by
  have hw := (Below.refl w.heap.size w).alloc (Nat.le_refl _) (.cells #[.bool m, .string ⟨a.toArray⟩, .string ⟨b.toArray⟩] 62)
  have h30 := hb.2
  obtain ⟨A, hA⟩ : ∃ A, Hid (opA t a b = A) := ⟨_, rfl⟩
  obtain ⟨F, hF⟩ : ∃ F, Hid (opF t b = F) := ⟨_, rfl⟩
  obtain ⟨O, hO⟩ : ∃ O, Hid (opOk t = O) := ⟨_, rfl⟩
  rw [hA.out, hF.out, hO.out]
  have q0 := (row_at w #[.bool m, .string ⟨a.toArray⟩, .string ⟨b.toArray⟩] 62).2.1
  go_enter Tryz.func116, Tryz.ntmps116
  go_upto_block 0 with fail
  go_cut [7] (fun x wc => x = .string ⟨(Pr.shortR b).toArray⟩ ∧ wc = w.alloc (.cells #[.bool m, .string ⟨a.toArray⟩, .string ⟨b.toArray⟩] 62))
  case first =>
    go_wp2
    go_loop [7] (fun x => ∃ u : Pr.T, x = .string ⟨u.toArray⟩ ∧ u.length ≤ 30 ∧ Hid (Pr.shortR u = Pr.shortR b)) (fun x => match x with | .string s => s.size | _ => 0)
    case atStart => exact ⟨b, rfl, h30, rfl⟩
    case round =>
      obtain ⟨u, rfl, hu, HU⟩ := hrel
      rcases List.eq_nil_or_concat u with rfl | ⟨l, c, rfl⟩
      · have hE : Hid (Pr.shortR b = []) := HU.out.symm
        clear HU
        go_wp2
        go_meet
        case rel => exact ⟨by rw [hE.out], rfl⟩
      · simp only [List.concat_eq_append, List.length_append, List.length_singleton] at hu HU ⊢
        have hlast := last_at l c
        have hex := ex_take (l ++ [c]) l.length
        rw [List.take_left] at hex
        have hw1 : IntKind.i64.wrap ((l.length : Int) + 1 - 1) = l.length := by rw [IntKind.wrap_i64]; omega
        by_cases hc : c = 48
        · have hc' : ((c.toNat : Int) == 48) = true := by rw [hc]; rfl
          have HU2 : Hid (Pr.shortR l = Pr.shortR b) := by show _ = _; rw [← HU.out, hc, short_snoc]
          clear HU hc
          go_wp2
          go_round
          case rel => exact ⟨l, rfl, by omega, HU2⟩
          case measure =>
            show l.toArray.size < (l ++ [c]).toArray.size
            simp
        · have hc' : ((c.toNat : Int) == 48) = false := by
            rw [beq_eq_false_iff_ne]
            intro e
            exact hc (UInt8.toNat_inj.1 (by show c.toNat = 48; omega))
          have hE : Hid (Pr.shortR b = l ++ [c]) := by show _ = _; rw [← HU.out, short_stop l c hc]
          clear HU hc
          go_wp2
          go_meet
          case rel => exact ⟨by rw [hE.out], rfl⟩
  case rest =>
    obtain ⟨rfl, rfl⟩ := hcut
    have h2 := (short_digs b hb).2
    by_cases h110 : t = [110]
    · have eA : Hid (A = a) := by show _ = _; rw [← hA.out]; simp [opA, h110]
      have eF : Hid (F = b) := by show _ = _; rw [← hF.out]; simp [opF, h110]
      have eO : Hid (O = true) := by show _ = _; rw [← hO.out]; simp [opOk, Pr.opd, h110]
      have y : (t == [110]) = true := by rw [h110]; rfl
      clear hA hF hO h110
      go_wp2
      go_quiet (fail)
      go_wp2
      go_ret3
      exact ⟨by rw [eA.out, eF.out, eO.out]; rfl, below_of hw (drewB _ _)⟩
    by_cases h105 : t = [105]
    · have eA : Hid (A = a) := by show _ = _; rw [← hA.out]; simp [opA, h105]
      have eF : Hid (F = []) := by show _ = _; rw [← hF.out]; simp [opF, h105]
      have eO : Hid (O = true) := by show _ = _; rw [← hO.out]; simp [opOk, Pr.opd, h105]
      have y : (t == [105]) = true := by rw [h105]; rfl
      have n110 : (t == [110]) = false := by rw [beq_eq_false_iff_ne]; exact h110
      clear hA hF hO h110 h105
      go_wp2
      go_ret3
      exact ⟨by rw [eA.out, eF.out, eO.out]; rfl, hw⟩
    by_cases h118 : t = [118]
    · have eA : Hid (A = Lib.decDigits b.length) := by show _ = _; rw [← hA.out]; simp [opA, h118]
      have eF : Hid (F = []) := by show _ = _; rw [← hF.out]; simp [opF, h118]
      have eO : Hid (O = true) := by show _ = _; rw [← hO.out]; simp [opOk, Pr.opd, h118]
      have y : (t == [118]) = true := by rw [h118]; rfl
      have n110 : (t == [110]) = false := by rw [beq_eq_false_iff_ne]; exact h110
      have n105 : (t == [105]) = false := by rw [beq_eq_false_iff_ne]; exact h105
      clear hA hF hO h110 h105 h118
      go_wp2_with (go_at_call 120; refine (decimal_any b.length _ (by omega)).mono ?_; rintro e w1 ⟨rfl, hb1⟩)
      go_ret3
      exact ⟨by rw [eA.out, eF.out, eO.out]; rfl, below_of hw hb1⟩
    by_cases h119 : t = [119]
    · have eA : Hid (A = Lib.decDigits (Pr.shortR b).length) := by show _ = _; rw [← hA.out]; simp [opA, h119]
      have eF : Hid (F = []) := by show _ = _; rw [← hF.out]; simp [opF, h119]
      have eO : Hid (O = true) := by show _ = _; rw [← hO.out]; simp [opOk, Pr.opd, h119]
      have y : (t == [119]) = true := by rw [h119]; rfl
      have n110 : (t == [110]) = false := by rw [beq_eq_false_iff_ne]; exact h110
      have n105 : (t == [105]) = false := by rw [beq_eq_false_iff_ne]; exact h105
      have n118 : (t == [118]) = false := by rw [beq_eq_false_iff_ne]; exact h118
      clear hA hF hO h110 h105 h118 h119
      go_wp2_with (go_at_call 120; refine (decimal_any (Pr.shortR b).length _ (by omega)).mono ?_; rintro e w1 ⟨rfl, hb1⟩)
      go_ret3
      exact ⟨by rw [eA.out, eF.out, eO.out]; rfl, below_of hw hb1⟩
    by_cases h102 : t = [102]
    · have eA : Hid (A = plainD b) := by show _ = _; rw [← hA.out]; simp [opA, h102]
      have eF : Hid (F = []) := by show _ = _; rw [← hF.out]; simp [opF, h102]
      have eO : Hid (O = true) := by show _ = _; rw [← hO.out]; simp [opOk, Pr.opd, h102]
      have y : (t == [102]) = true := by rw [h102]; rfl
      have n110 : (t == [110]) = false := by rw [beq_eq_false_iff_ne]; exact h110
      have n105 : (t == [105]) = false := by rw [beq_eq_false_iff_ne]; exact h105
      have n118 : (t == [118]) = false := by rw [beq_eq_false_iff_ne]; exact h118
      have n119 : (t == [119]) = false := by rw [beq_eq_false_iff_ne]; exact h119
      clear hA hF hO h110 h105 h118 h119 h102
      go_wp2_with (go_at_call 152; refine (plain_any b (by omega) _).mono ?_; rintro e w1 ⟨rfl, rfl⟩)
      go_ret3
      exact ⟨by rw [eA.out, eF.out, eO.out]; rfl, hw⟩
    by_cases h116 : t = [116]
    · have eA : Hid (A = plainD (Pr.shortR b)) := by show _ = _; rw [← hA.out]; simp [opA, h116]
      have eF : Hid (F = []) := by show _ = _; rw [← hF.out]; simp [opF, h116]
      have eO : Hid (O = true) := by show _ = _; rw [← hO.out]; simp [opOk, Pr.opd, h116]
      have y : (t == [116]) = true := by rw [h116]; rfl
      have n110 : (t == [110]) = false := by rw [beq_eq_false_iff_ne]; exact h110
      have n105 : (t == [105]) = false := by rw [beq_eq_false_iff_ne]; exact h105
      have n118 : (t == [118]) = false := by rw [beq_eq_false_iff_ne]; exact h118
      have n119 : (t == [119]) = false := by rw [beq_eq_false_iff_ne]; exact h119
      have n102 : (t == [102]) = false := by rw [beq_eq_false_iff_ne]; exact h102
      clear hA hF hO h110 h105 h118 h119 h102 h116
      go_wp2_with (go_at_call 152; refine (plain_any (Pr.shortR b) (by omega) _).mono ?_; rintro e w1 ⟨rfl, rfl⟩)
      go_ret3
      exact ⟨by rw [eA.out, eF.out, eO.out]; rfl, hw⟩
    have eA : Hid (A = []) := by show _ = _; rw [← hA.out]; simp only [opA, h110, h105, h118, h119, h102, h116, if_false]
    have eF : Hid (F = []) := by show _ = _; rw [← hF.out]; simp only [opF, h110, if_false]
    have eO : Hid (O = false) := by show _ = _; rw [← hO.out]; simp only [opOk, Pr.opd, h110, h105, h118, h119, h102, h116, if_false]; rfl
    have n110 : (t == [110]) = false := by rw [beq_eq_false_iff_ne]; exact h110
    have n105 : (t == [105]) = false := by rw [beq_eq_false_iff_ne]; exact h105
    have n118 : (t == [118]) = false := by rw [beq_eq_false_iff_ne]; exact h118
    have n119 : (t == [119]) = false := by rw [beq_eq_false_iff_ne]; exact h119
    have n102 : (t == [102]) = false := by rw [beq_eq_false_iff_ne]; exact h102
    have n116 : (t == [116]) = false := by rw [beq_eq_false_iff_ne]; exact h116
    clear hA hF hO h110 h105 h118 h119 h102 h116
    go_wp2
    go_ret3
    exact ⟨by rw [eA.out, eF.out, eO.out]; rfl, hw⟩
end Go.Proofs.YtaepcfidpekflaaGreatDoor
namespace Go.Proofs.YtaepcfidpekflaaGreatDoor
open Go.RowKit

/-- A slice of texts: nil, or texts in a row. -/
def SlV (w : World) (v : Value) (l : List Pr.T) : Prop := (v = .slice none 0 0 ∧ l = []) ∨
  ∃ blk off c, v = .slice (some ⟨blk, off, none⟩) l.length c ∧ l.length ≤ c ∧ blk < w.heap.size ∧ ∀ j, j < l.length → w.cell? ⟨blk, off + j, none⟩ = some (strV (l.getD j []))
theorem SlV.keep {w w' : World} {v : Value} {l : List Pr.T} (h : SlV w v l) (hb : Below w.heap.size w w') : SlV w' v l := by
  rcases h with h | ⟨blk, off, c, h1, h2, h3, h4⟩
  · exact .inl h
  · exact .inr ⟨blk, off, c, h1, h2, Nat.lt_of_lt_of_le h3 hb.size, fun j hj => (hb.cell (p := ⟨blk, off + j, none⟩) h3).trans (h4 j hj)⟩
/-- Rows of texts in a row of the call's own. -/
def RowsV (w : World) (B : Nat) (v : Value) (ps : List (List Pr.T)) : Prop := ∃ vs : List Value, vs.length = ps.length ∧ w.ownsRow B 35 1 v ps.length vs ∧ ∀ j, j < ps.length → SlV w (vs.getD j undef) (ps.getD j [])
theorem info_rows : (Tryz.prog.info? 35).map (fun i => (i.zero, i.size, i.bytes)) = some (some (.slice none 0 0), 1, 24) := by kernel_rfl
theorem drop_seg (l : List Pr.T) (fr k : Nat) (h : fr ≤ k) (hk : k < l.length) : l.drop fr = (l.drop fr).take (k - fr) ++ l.getD k [] :: l.drop (k + 1) := by
  conv => lhs; rw [← List.take_append_drop (k - fr) (l.drop fr)]
  rw [List.drop_drop, show fr + (k - fr) = k by omega, List.drop_eq_getElem_cons hk]
  simp [List.getD_eq_getElem?_getD, List.getElem?_eq_getElem hk]
theorem seg_mem (l : List Pr.T) (fr n : Nat) (t : Pr.T) (h : ∀ j, fr ≤ j → j < fr + n → j < l.length → l.getD j [] ≠ t) : ∀ u ∈ (l.drop fr).take n, u ≠ t := by
  intro u hu
  obtain ⟨j, hj, rfl⟩ := List.getElem_of_mem hu
  simp only [List.length_take, List.length_drop] at hj
  have := h (fr + j) (by omega) (by omega) (by omega)
  rw [List.getD_eq_getElem?_getD, List.getElem?_eq_getElem (by omega)] at this
  simpa using this
theorem parts_hit (l : List Pr.T) (fr k : Nat) (t : Pr.T) (h : fr ≤ k) (hk : k < l.length) (ht : l.getD k [] = t) (hn : ∀ j, fr ≤ j → j < k → l.getD j [] ≠ t) : Pr.partsAt t (l.drop fr) = (l.drop fr).take (k - fr) :: Pr.partsAt t (l.drop (k + 1)) := by
  conv => lhs; rw [drop_seg l fr k h hk, ht]
  exact Pr.parts_app t _ _ (seg_mem l fr (k - fr) t (fun j h1 h2 _ => hn j h1 (by omega)))
theorem parts_last (l : List Pr.T) (fr : Nat) (t : Pr.T) (hn : ∀ j, fr ≤ j → j < l.length → l.getD j [] ≠ t) : Pr.partsAt t (l.drop fr) = [l.drop fr] := by
  refine Pr.parts_end t _ fun u hu => ?_
  have := seg_mem l fr l.length t (fun j h1 _ h3 => hn j h1 h3) u
  rw [List.take_of_length_le (by simp)] at this
  exact this hu
theorem seg_slv (w : World) (blk off c : Nat) (l : List Pr.T) (fr k : Nat) (h : fr ≤ k) (hk : k ≤ l.length) (hc : l.length ≤ c) (hb : blk < w.heap.size) (hcell : ∀ j, j < l.length → w.cell? ⟨blk, off + j, none⟩ = some (strV (l.getD j []))) :
    SlV w (.slice (some ⟨blk, off + fr, none⟩) (k - fr) (c - fr)) ((l.drop fr).take (k - fr)) := by
  have hlen : ((l.drop fr).take (k - fr)).length = k - fr := by simp; omega
  refine .inr ⟨blk, off + fr, c - fr, by rw [hlen], by rw [hlen]; omega, hb, fun j hj => ?_⟩
  rw [hlen] at hj
  have := hcell (fr + j) (by omega)
  rw [show off + fr + j = off + (fr + j) by omega, this]
  congr 2
  simp only [List.getD_eq_getElem?_getD]
  rw [List.getElem?_take_of_lt (by omega), List.getElem?_drop]
theorem seg_empty (w : World) (blk off : Nat) (hb : blk < w.heap.size) : SlV w (.slice (some ⟨blk, off, none⟩) 0 0) [] := .inr ⟨blk, off, 0, rfl, Nat.le_refl _, hb, fun _ hj => absurd hj (Nat.not_lt_zero _)⟩
/-- Rows of texts (of the world w) in a row of the call's own. -/
def RowsW (w wr : World) (v : Value) (ps : List (List Pr.T)) : Prop := ∃ vs : List Value, vs.length = ps.length ∧ wr.ownsRow w.heap.size 35 1 v ps.length vs ∧ ∀ j, j < ps.length → SlV w (vs.getD j undef) (ps.getD j [])
theorem rows_snoc {w : World} {vs : List Value} {ps : List (List Pr.T)} {x : Value} {p : List Pr.T} (hl : vs.length = ps.length) (h : ∀ j, j < ps.length → SlV w (vs.getD j undef) (ps.getD j [])) (hx : SlV w x p) : ∀ j, j < (ps ++ [p]).length → SlV w ((vs ++ [x]).getD j undef) ((ps ++ [p]).getD j []) := by
  intro j hj
  simp only [List.length_append, List.length_singleton] at hj
  by_cases e : j < ps.length
  · have := h j e
    simp only [List.getD_eq_getElem?_getD] at this ⊢
    rw [List.getElem?_append_left (by omega), List.getElem?_append_left e]
    exact this
  · have : j = ps.length := by omega
    subst this
    simp only [List.getD_eq_getElem?_getD]
    rw [List.getElem?_append_right (by omega), List.getElem?_append_right (by omega), hl]
    simpa using hx

set_option maxHeartbeats 1600000 in
set_option maxRecDepth 100000 in
theorem parts_some (w : World) (blk off c : Nat) (l : List Pr.T) (t : Pr.T) (hl : l.length ≤ 1000) (hc : l.length ≤ c) (hb : blk < w.heap.size) (hcell : ∀ j, j < l.length → w.cell? ⟨blk, off + j, none⟩ = some (strV (l.getD j []))) :
    Calls Tryz.prog 89 #[.slice (some ⟨blk, off, none⟩) l.length c, .string ⟨t.toArray⟩] w fun e w' => (∃ v, e = .returned v ∧ RowsW w w' v (Pr.partsAt t l)) ∧ Below w.heap.size w w' := by
  obtain ⟨i0, hi0, hz0, hz1, hz2⟩ := info_parts info_rows
  have HI : Hid (Tryz.prog.info? 35 = some i0 ∧ i0.zero = some (.slice none 0 0) ∧ i0.size = 1 ∧ i0.bytes = 24) := ⟨hi0, hz0, hz1, hz2⟩
  have HC : Hid (∀ j, j < l.length → w.cell? ⟨blk, off + j, none⟩ = some (strV (l.getD j []))) := hcell
  clear hi0 hz0 hz1 hz2 hcell
  go_enter Tryz.func89, Tryz.ntmps89
  go_wp2_with fail
  go_loopw [5, 6, 7] (fun v f i wr => ∃ (k fr : Nat) (ps : List (List Pr.T)), k ≤ l.length + 1 ∧ fr ≤ k ∧ f = .int .i64 fr ∧ i = .int .i64 k ∧ ps.length ≤ k ∧ RowsW w wr v ps ∧ Below w.heap.size w wr ∧ Hid (k ≤ l.length → (∀ j, fr ≤ j → j < k → l.getD j [] ≠ t) ∧ Pr.partsAt t l = ps ++ Pr.partsAt t (l.drop fr)) ∧ Hid (l.length < k → Pr.partsAt t l = ps)) (fun _ _ i _ => l.length + 1 - (intOf i).toNat)
  case atStart => exact ⟨0, 0, [], Nat.zero_le _, Nat.le_refl _, rfl, rfl, Nat.le_refl _, ⟨[], rfl, World.ownsRow_nil _ _ _ _, fun j hj => absurd hj (Nat.not_lt_zero _)⟩, Below.refl _ _, fun _ => ⟨fun j _ h => absurd h (Nat.not_lt_zero _), by simp⟩, fun h => absurd h (Nat.not_lt_zero _)⟩
  case round =>
    obtain ⟨k, fr, ps, hk, hfk, rfl, rfl, hpk, ⟨vs, hvl, hown, hsl⟩, hbw, HA, HZ⟩ := hrel
    have HSl : Hid (∀ j, j < ps.length → SlV w (vs.getD j undef) (ps.getD j [])) := hsl
    clear hsl
    by_cases hle : k ≤ l.length
    · have hle' : (k : Int) ≤ l.length := by omega
      obtain ⟨HN, HP⟩ := HA.out hle
      have HNh : Hid (∀ j, fr ≤ j → j < k → l.getD j [] ≠ t) := HN
      have HPh : Hid (Pr.partsAt t l = ps ++ Pr.partsAt t (l.drop fr)) := HP
      clear HN HP HA HZ
      have happ : ∀ (x : Value) (p : List Pr.T) (v' : Value) (w2 : World) (o : Obj), SlV w x p → w2.ownsRow w.heap.size 35 1 v' (ps.length + 1) (vs ++ [x]) → (wr.alloc o).grownBy w2 u5.ownBlock → RowsW w w2 v' (ps ++ [p]) ∧ Below w.heap.size w w2 := fun x p v' w2 o hx ho hg =>
        ⟨⟨vs ++ [x], by simp [hvl], by simpa using ho, rows_snoc hvl HSl.out hx⟩, (hbw.alloc hbw.size o).grown hg (by have := hbw.size; simp; omega) fun j hj => (World.ownsRow.lt hown j hj).1⟩
      by_cases hend : k = l.length
      · subst hend
        have HL : Hid (Pr.partsAt t l = ps ++ [(l.drop fr).take (l.length - fr)]) := by
          show _ = _
          rw [HPh.out, parts_last l fr t (fun j h1 h2 => HNh.out j h1 h2), List.take_of_length_le (by simp)]
        by_cases hcf : c = fr
        · have hs0 : Hid (SlV w (.slice (some ⟨blk, off, none⟩) 0 0) ((l.drop fr).take (l.length - fr))) := by
            have : (l.drop fr).take (l.length - fr) = [] := by rw [show l.length - fr = 0 by omega]; simp
            rw [this]
            exact seg_empty w blk off hb
          clear HNh HPh
          have hlf : fr = l.length := by omega
          subst hlf
          subst hcf
          go_wp2_with (at_builtin; refine wpList_append_own _ rfl _ _ 167 rfl w.heap.size 35 i0 (.slice none 0 0) 1 24 Tryz.underlying167 HI.out.1 HI.out.2.1 HI.out.2.2.1 HI.out.2.2.2 rfl (by decide) _ _ _ rfl (World.ownsRow.alloc hown _) ⟨wr.heap.size, 0, none⟩ 1 1 [.slice (some ⟨blk, off, none⟩) 0 0] rfl rfl ?c1 ?c2 ?c3 ?c4 ?c5 ?_)
          case c1 =>
            intro j u hj
            match j, hj with
            | 0, hj => simp at hj; subst hj; simp [Addr.add]
          case c2 => intro u hu; simp at hu; subst hu; rfl
          case c3 => unfold maxLen; omega
          case c4 => omega
          case c5 => have := hbw.size; simp; omega
          · intro v' w2 hown' hgrow _
            obtain ⟨g1, g2⟩ := happ _ _ v' w2 _ hs0.out hown' hgrow
            clear hown' hgrow happ hown
            go_wp2
            go_roundw
            case rel => exact ⟨l.length + 1, l.length + 1, _, Nat.le_refl _, Nat.le_refl _, by go_num, by go_num, by simp; omega, g1, g2, fun h => absurd h (by omega), fun _ => HL.out⟩
            case measure => simp [intOf] <;> omega
        · have hs0 : Hid (SlV w (.slice (some ⟨blk, off + fr, none⟩) (l.length - fr) (c - fr)) ((l.drop fr).take (l.length - fr))) := seg_slv w blk off c l fr l.length hfk (Nat.le_refl _) hc hb HC.out
          clear HNh HPh
          go_wp2_with (at_builtin; refine wpList_append_own _ rfl _ _ 167 rfl w.heap.size 35 i0 (.slice none 0 0) 1 24 Tryz.underlying167 HI.out.1 HI.out.2.1 HI.out.2.2.1 HI.out.2.2.2 rfl (by decide) _ _ _ rfl (World.ownsRow.alloc hown _) ⟨wr.heap.size, 0, none⟩ 1 1 [.slice (some ⟨blk, off + fr, none⟩) (l.length - fr) (c - fr)] rfl rfl ?c1 ?c2 ?c3 ?c4 ?c5 ?_)
          case c1 =>
            intro j u hj
            match j, hj with
            | 0, hj => simp at hj; subst hj; simp [Addr.add]
          case c2 => intro u hu; simp at hu; subst hu; rfl
          case c3 => unfold maxLen; omega
          case c4 => omega
          case c5 => have := hbw.size; simp; omega
          · intro v' w2 hown' hgrow _
            obtain ⟨g1, g2⟩ := happ _ _ v' w2 _ hs0.out hown' hgrow
            clear hown' hgrow happ hown
            go_wp2
            go_roundw
            case rel => exact ⟨l.length + 1, l.length + 1, ps ++ [(l.drop fr).take (l.length - fr)], Nat.le_refl _, Nat.le_refl _, by go_num, by go_num, by simp; omega, g1, g2, fun h => absurd h (by omega), fun _ => HL.out⟩
            case measure => simp [intOf] <;> omega
      · have hend' : ((k : Int) == l.length) = false := by rw [beq_eq_false_iff_ne]; omega
        have hkl : k < l.length := by omega
        have hkl' : (k : Int) < l.length := by omega
        have hce : wr.cell? ⟨blk, off + k, none⟩ = some (.string ⟨(l.getD k []).toArray⟩) := (hbw.cell (p := ⟨blk, off + k, none⟩) hb).trans (HC.out k hkl)
        obtain ⟨u, hu⟩ : ∃ u, Hid (l.getD k [] = u) := ⟨_, rfl⟩
        rw [hu.out] at hce
        by_cases hut : u = t
        · have hut' : (u == t) = true := by rw [beq_iff_eq]; exact hut
          have hcf : ¬ c = fr := by omega
          have HL : Hid (Pr.partsAt t l = ps ++ [(l.drop fr).take (k - fr)] ++ Pr.partsAt t (l.drop (k + 1))) := by
            show _ = _
            rw [HPh.out, parts_hit l fr k t hfk hkl (hu.out.trans hut) HNh.out]
            simp
          have hs0 : Hid (SlV w (.slice (some ⟨blk, off + fr, none⟩) (k - fr) (c - fr)) ((l.drop fr).take (k - fr))) := seg_slv w blk off c l fr k hfk hle hc hb HC.out
          clear HNh HPh hend hut
          go_wp2_with (at_builtin; refine wpList_append_own _ rfl _ _ 167 rfl w.heap.size 35 i0 (.slice none 0 0) 1 24 Tryz.underlying167 HI.out.1 HI.out.2.1 HI.out.2.2.1 HI.out.2.2.2 rfl (by decide) _ _ _ rfl (World.ownsRow.alloc hown _) ⟨wr.heap.size, 0, none⟩ 1 1 [.slice (some ⟨blk, off + fr, none⟩) (k - fr) (c - fr)] rfl rfl ?c1 ?c2 ?c3 ?c4 ?c5 ?_)
          case c1 =>
            intro j u hj
            match j, hj with
            | 0, hj => simp at hj; subst hj; simp [Addr.add]
          case c2 => intro u hu; simp at hu; subst hu; rfl
          case c3 => unfold maxLen; omega
          case c4 => omega
          case c5 => have := hbw.size; simp; omega
          · intro v' w2 hown' hgrow _
            obtain ⟨g1, g2⟩ := happ _ _ v' w2 _ hs0.out hown' hgrow
            clear hown' hgrow happ hown
            go_wp2
            go_roundw
            case rel => exact ⟨k + 1, k + 1, ps ++ [(l.drop fr).take (k - fr)], by omega, Nat.le_refl _, by go_num, by go_num, by simp; omega, g1, g2, fun _ => ⟨fun j h1 h2 => absurd h1 (by omega), HL.out⟩, fun h => absurd h (by omega)⟩
            case measure => simp [intOf] <;> omega
        · have hut' : (u == t) = false := by rw [beq_eq_false_iff_ne]; exact hut
          have HN2 : Hid (∀ j, fr ≤ j → j < k + 1 → l.getD j [] ≠ t) := fun j h1 h2 => by
            by_cases e : j = k
            · subst e; rw [hu.out]; exact hut
            · exact HNh.out j h1 (by omega)
          have hrows : RowsW w wr u5 ps := ⟨vs, hvl, hown, HSl.out⟩
          clear hut hend HNh happ
          go_wp2
          go_roundw
          case rel => exact ⟨k + 1, fr, ps, by omega, by omega, rfl, by go_num, by omega, hrows, hbw, fun _ => ⟨HN2.out, HPh.out⟩, fun h => absurd h (by omega)⟩
          case measure => simp [intOf]; omega
    · have hle' : ¬ (k : Int) ≤ l.length := by omega
      have hE : Hid (Pr.partsAt t l = ps) := HZ.out (by omega)
      have hrows : RowsW w wr u5 ps := ⟨vs, hvl, hown, HSl.out⟩
      clear HA HZ
      go_wp2
      go_ret
      exact ⟨⟨_, rfl, by rw [hE.out]; exact hrows⟩, hbw⟩
end Go.Proofs.YtaepcfidpekflaaGreatDoor
namespace Go.Proofs.YtaepcfidpekflaaGreatDoor
open Go.RowKit

theorem mem_at {l : List Pr.T} {k : Nat} (hk : k < l.length) : l.getD k [] ∈ l := by
  rw [List.getD_eq_getElem?_getD, List.getElem?_eq_getElem hk]
  exact List.getElem_mem hk
theorem mem_not {l : List Pr.T} {t : Pr.T} (h : ∀ j, j < l.length → l.getD j [] ≠ t) : t ∉ l := by
  intro hm
  obtain ⟨j, hj, rfl⟩ := List.getElem_of_mem hm
  exact h j hj (by rw [List.getD_eq_getElem?_getD, List.getElem?_eq_getElem hj]; rfl)
def PlaceSaid (l : List Pr.T) (t : Pr.T) (e : Ending) : Prop := ∃ k : Int, e = .returned (.int .i64 k) ∧ (0 ≤ k ↔ t ∈ l)
set_option maxHeartbeats 800000 in
theorem place_any (w : World) (v : Value) (l : List Pr.T) (t : Pr.T) (hl : l.length ≤ 1000000) (hv : SlV w v l) :
    Calls Tryz.prog 58 #[v, .string ⟨t.toArray⟩] w fun e w' => PlaceSaid l t e ∧ w' = w := by
  rcases hv with ⟨rfl, rfl⟩ | ⟨blk, off, c, rfl, hc, hb, hcell⟩
  · go_enter Tryz.func58, Tryz.ntmps58
    go_wp2_with fail
    refine wp_loop_rounds 1 ?_
    rw [rounds_succ]
    go_wp2
    go_ret
    exact ⟨⟨-1, rfl, by simp⟩, rfl⟩
  · have HC : Hid (∀ j, j < l.length → w.cell? ⟨blk, off + j, none⟩ = some (strV (l.getD j []))) := hcell
    clear hcell
    go_enter Tryz.func58, Tryz.ntmps58
    go_wp2_with fail
    go_loop [5] (fun i => ∃ k : Nat, k ≤ l.length ∧ i = .int .i64 k ∧ Hid (∀ j, j < k → l.getD j [] ≠ t)) (fun i => l.length - (intOf i).toNat)
    case atStart => exact ⟨0, Nat.zero_le _, rfl, fun j h => absurd h (Nat.not_lt_zero _)⟩
    case round =>
      obtain ⟨k, hk, rfl, HK⟩ := hrel
      by_cases hlt : k < l.length
      · have hlt' : (k : Int) < l.length := by omega
        have ck := HC.out k hlt
        have hm := mem_at hlt
        unfold strV at ck
        generalize hu : l.getD k [] = u at *
        by_cases hut : u = t
        · have hut' : (u == t) = true := by rw [beq_iff_eq]; exact hut
          have HM : Hid (t ∈ l) := by show _ ∈ _; rw [← hut]; exact hm
          clear hut hm hu HK
          go_wp2
          go_ret
          exact ⟨⟨k, rfl, by constructor; (exact fun _ => HM.out); (intro _; omega)⟩, rfl⟩
        · have hut' : (u == t) = false := by rw [beq_eq_false_iff_ne]; exact hut
          have HK2 : Hid (∀ j, j < k + 1 → l.getD j [] ≠ t) := by
            intro j hj
            by_cases e : j = k
            · rw [e, hu]; exact hut
            · exact HK.out j (by omega)
          clear hut hm hu HK
          go_wp2
          go_round
          case rel => exact ⟨k + 1, hlt, by go_num, HK2⟩
          case measure => simp [intOf]; omega
      · have hlt' : ¬ (k : Int) < l.length := by omega
        have HM : Hid (t ∉ l) := mem_not (fun j hj => HK.out j (by omega))
        clear HK
        go_wp2
        go_ret
        exact ⟨⟨-1, rfl, by constructor; (intro h; omega); (exact fun h => absurd h HM.out)⟩, rfl⟩

def cats : List Pr.T := [[122, 101, 114, 111], [111, 110, 101], [116, 119, 111], [102, 101, 119], [109, 97, 110, 121], [111, 116, 104, 101, 114]]
set_option maxHeartbeats 400000 in
theorem categories_any (w : World) : Calls Tryz.prog 57 #[] w fun e w' => e = .returned (.slice (some ⟨w.heap.size, 0, none⟩) 6 6) ∧ Below w.heap.size w w' ∧ w.heap.size < w'.heap.size ∧ ∀ j, j < 6 → w'.cell? ⟨w.heap.size, j, none⟩ = some (strV (cats.getD j [])) := by
  have h := row_at w #[.string ⟨#[122, 101, 114, 111]⟩, .string ⟨#[111, 110, 101]⟩, .string ⟨#[116, 119, 111]⟩, .string ⟨#[102, 101, 119]⟩, .string ⟨#[109, 97, 110, 121]⟩, .string ⟨#[111, 116, 104, 101, 114]⟩] 9
  have hb := (Below.refl w.heap.size w).alloc (Nat.le_refl _) (.cells #[.string ⟨#[122, 101, 114, 111]⟩, .string ⟨#[111, 110, 101]⟩, .string ⟨#[116, 119, 111]⟩, .string ⟨#[102, 101, 119]⟩, .string ⟨#[109, 97, 110, 121]⟩, .string ⟨#[111, 116, 104, 101, 114]⟩] 9)
  have H : Hid (∀ j, j < 6 → (w.alloc (.cells #[.string ⟨#[122, 101, 114, 111]⟩, .string ⟨#[111, 110, 101]⟩, .string ⟨#[116, 119, 111]⟩, .string ⟨#[102, 101, 119]⟩, .string ⟨#[109, 97, 110, 121]⟩, .string ⟨#[111, 116, 104, 101, 114]⟩] 9)).cell? ⟨w.heap.size, j, none⟩ = some (strV (cats.getD j []))) := by
    intro j hj
    rw [h.2.1 j]
    match j, hj with
    | 0, _ => rfl
    | 1, _ => rfl
    | 2, _ => rfl
    | 3, _ => rfl
    | 4, _ => rfl
    | 5, _ => rfl
  have H2 : Hid (w.heap.size < (w.alloc (.cells #[.string ⟨#[122, 101, 114, 111]⟩, .string ⟨#[111, 110, 101]⟩, .string ⟨#[116, 119, 111]⟩, .string ⟨#[102, 101, 119]⟩, .string ⟨#[109, 97, 110, 121]⟩, .string ⟨#[111, 116, 104, 101, 114]⟩] 9)).heap.size) := h.1
  clear h
  go_enter Tryz.func57, Tryz.ntmps57
  go_wp2
  go_ret
  exact ⟨rfl, hb, H2.out, H.out⟩
end Go.Proofs.YtaepcfidpekflaaGreatDoor
