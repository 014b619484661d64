/-
  Several texts in one (Kh, Ki, Kj, Kk). By the verifier.
-/
import Derived.Test.YtaepcfidpekflaaGreatDoorU21
import Derived.Maps.AppendAt
import Derived.Deep.RegionLaw
namespace Go.Proofs.YtaepcfidpekflaaGreatDoor
open Go.RowKit
variable {ms : List (Nat × Array Value)}

theorem marksCells_len (l : List Dk.Mark) : (marksCells l).length = l.length * 6 := by
  induction l with
  | nil => rfl
  | cons m r ih => simp [marksCells, mCells, ih]; omega
theorem marksCells_app (l r : List Dk.Mark) : marksCells (l ++ r) = marksCells l ++ marksCells r := by
  induction l with
  | nil => rfl
  | cons m l ih => simp [marksCells, ih]
theorem marksCells_snoc (l : List Dk.Mark) (m : Dk.Mark) : marksCells (l ++ [m]) = marksCells l ++ mCells m := by
  rw [marksCells_app]
  simp [marksCells]
theorem marksCells_last (l : List Dk.Mark) (m : Dk.Mark) (j : Nat) (hj : j < 6) : (marksCells (l ++ [m]))[l.length * 6 + j]? = (mCells m)[j]? := by
  rw [marksCells_snoc, List.getElem?_append_right (by rw [marksCells_len]; omega), marksCells_len]
  congr 1
  omega
theorem info_mark : (Tryz.prog.info? 130).map (fun i => (i.zero, i.size, i.bytes)) = some (some (.agg #[.int .u8 0, .string ⟨#[]⟩, .string ⟨#[]⟩, .string ⟨#[]⟩, .string ⟨#[]⟩, .int .i64 0]), 6, 80) := by kernel_rfl
theorem Row.grown {w w2 : World} {b : Nat} {cs : Array Value} {row : Option Nat} (h : Row w b cs) (hg : w.grownBy w2 row) (hne : row ≠ some b) : Row w2 b cs := by
  have hb := hg.block b h.1 (fun e => hne e.symm)
  exact ⟨Nat.lt_of_lt_of_le h.1 hg.size, fun j => (World.cell?_of_block (w := w) (a := ⟨b, j, none⟩) hb).trans (h.2.1 j), fun j => (World.frozen?_of_block (w := w) (a := ⟨b, j, none⟩) hb).trans (h.2.2 j)⟩
/-- A mark more, behind an append and the field's store. -/
theorem ScanAt.put {w w2 : World} {B b : Nat} {s : Pr.T} {x : Dk.Sc} {ov pv v' : Value} {m : Dk.Mark} {o : Obj}
    (h1 : Row w b #[.string ⟨s.toArray⟩, .int .i64 x.i, ov, pv, .int .i64 x.err, .int .i64 x.place]) (h2 : B ≤ b) (h4 : w.ownsRow B 4 1 pv x.opens.length (x.opens.map .bool))
    (h5 : ov.ownBlock ≠ some b) (h6 : pv.ownBlock ≠ some b) (h7 : ∀ g, ov.ownBlock = some g → pv.ownBlock ≠ some g) (h3 : w.ownsRow B 130 6 ov x.out.length (marksCells x.out)) (h8 : ∀ q ∈ ms, Row w q.1 q.2 ∧ q.1 ≠ b ∧ ov.ownBlock ≠ some q.1 ∧ pv.ownBlock ≠ some q.1)
    (hown : w2.ownsRow B 130 6 v' (x.out.length + 1) (marksCells x.out ++ mCells m)) (hg : (w.alloc o).grownBy w2 ov.ownBlock) (hat : v'.ownBlock = ov.ownBlock ∨ v'.ownBlock = some (w.alloc o).heap.size) :
    ScanAt ms (w2.setCell ⟨b, 2, none⟩ v') B b s (x.put m) ∧ Below B w (w2.setCell ⟨b, 2, none⟩ v') := by
  have hbl := h1.1
  have hB : B ≤ w.heap.size := by omega
  have hr : Row w2 b #[.string ⟨s.toArray⟩, .int .i64 x.i, ov, pv, .int .i64 x.err, .int .i64 x.place] := (h1.alloc o).grown hg h5
  have hv : v'.ownBlock ≠ some b := by
    rcases hat with h | h
    · rw [h]; exact h5
    · rw [h]; simp; omega
  have hp : w2.ownsRow B 4 1 pv x.opens.length (x.opens.map .bool) := by
    refine World.ownsRow.kept (h4.alloc o) hg ?_
    cases e : pv.ownBlock with
    | none => exact .inl rfl
    | some g => exact .inr (fun e2 => h7 g e2.symm e)
  refine ⟨⟨v', pv, hr.setC 2 _ (by simp), h2, ?_, ownsRow_setCell_other hp h6 _, hv, h6, fun g hg2 => ?_, fun q hq => ?_⟩, ?_⟩
  · have := ownsRow_setCell_other hown (a := ⟨b, 2, none⟩) hv v'
    simp only [Dk.Sc.put, List.length_append, List.length_singleton, marksCells_snoc]
    exact this
  · rcases hat with h | h
    · exact h7 g (by rw [← h]; exact hg2)
    · rw [h] at hg2
      simp at hg2
      intro e
      have := (World.ownsRow.lt h4 g e).2
      omega
  · obtain ⟨r1, r2, r3, r4⟩ := h8 q hq
    refine ⟨((r1.alloc o).grown hg r3).other r2 _, r2, ?_, r4⟩
    rcases hat with h | h
    · rw [h]; exact r3
    · rw [h]
      have := r1.1
      simp
      omega
  · refine Below.setCell (((Below.refl B w).alloc hB o).grown hg (by simp; omega) fun k hk => (World.ownsRow.lt h3 k hk).1) (p := ⟨b, 2, none⟩) h2 _
end Go.Proofs.YtaepcfidpekflaaGreatDoor
namespace Go.Proofs.YtaepcfidpekflaaGreatDoor
open Go.RowKit
variable {ms : List (Nat × Array Value)}

theorem owns_form {w : World} {B : Nat} {e : TypeId} {z n : Nat} {v : Value} {xs : List Value} (h : w.ownsRow B e z v n xs) : ∃ a n c, v = .slice a n c := by
  rcases h.2 with ⟨rfl, _⟩ | ⟨g, cap, cur, rfl, _⟩
  · exact ⟨_, _, _, rfl⟩
  · exact ⟨_, _, _, rfl⟩
theorem mcells_at (m : Dk.Mark) (w : World) (T : TypeId) : ∀ j u, (mCells m)[j]? = some u → (w.alloc (.cells #[.int .u8 m.kind.toNat, strV m.text, strV m.name, strV m.how, strV m.offset, .int .i64 m.at_] T)).cell? ((⟨w.heap.size, 0, none⟩ : Addr).add j) = some u := by
  intro j u hj
  match j, hj with
  | 0, hj => simp [mCells] at hj; subst hj; simp [Addr.add]
  | 1, hj => simp [mCells] at hj; subst hj; simp [Addr.add]
  | 2, hj => simp [mCells] at hj; subst hj; simp [Addr.add]
  | 3, hj => simp [mCells] at hj; subst hj; simp [Addr.add]
  | 4, hj => simp [mCells] at hj; subst hj; simp [Addr.add]
  | 5, hj => simp [mCells] at hj; subst hj; simp [Addr.add]
  | j + 6, hj => simp [mCells] at hj
theorem mcells_one (m : Dk.Mark) : ∀ u ∈ mCells m, u.oneCell' = true := by
  intro u hu
  simp only [mCells, List.mem_cons, List.not_mem_nil, or_false] at hu
  rcases hu with rfl | rfl | rfl | rfl | rfl | rfl <;> rfl

set_option maxHeartbeats 3200000 in
set_option maxRecDepth 100000 in
theorem ksay_new (w : World) (B b : Nat) (s : Pr.T) (x : Dk.Sc) (t : Pr.T) (hx : ScanAt ms w B b s x) (ho : x.out.length ≤ 100000) (ht : t ≠ []) (hk : ∀ l m, x.out = l ++ [m] → m.kind ≠ 116) :
    Calls Tryz.prog 139 #[.pointer (some ⟨b, 0, none⟩), .string ⟨t.toArray⟩] w fun en w' => en = .returned (.tuple #[]) ∧ ScanAt ms w' B b s (x.put { kind := 116, text := t }) ∧ Below B w w' := by
  obtain ⟨i0, hi0, hz0, hz1, hz2⟩ := info_parts info_mark
  have HI : Hid (Tryz.prog.info? 130 = some i0 ∧ i0.zero = some (.agg #[.int .u8 0, .string ⟨#[]⟩, .string ⟨#[]⟩, .string ⟨#[]⟩, .string ⟨#[]⟩, .int .i64 0]) ∧ i0.size = 6 ∧ i0.bytes = 80) := ⟨hi0, hz0, hz1, hz2⟩
  clear hi0 hz0 hz1 hz2
  have hB := hx.base
  obtain ⟨ov, pv, h1, h2, h3, h4, h5, h6, h7, h8⟩ := hx
  have q0 := h1.2.1
  have q1 := h1.2.2
  have HP : Hid (∀ w2 v' o, w2.ownsRow B 130 6 v' (x.out.length + 1) (marksCells x.out ++ mCells { kind := 116, text := t }) → (w.alloc o).grownBy w2 ov.ownBlock → (v'.ownBlock = ov.ownBlock ∨ v'.ownBlock = some (w.heap.size + 1)) → (Row w2 b #[.string ⟨s.toArray⟩, .int .i64 x.i, ov, pv, .int .i64 x.err, .int .i64 x.place]) ∧ ScanAt ms (w2.setCell ⟨b, 2, none⟩ v') B b s (x.put { kind := 116, text := t }) ∧ Below B w (w2.setCell ⟨b, 2, none⟩ v')) := fun w2 v' o a1 a2 a3 => ⟨(h1.alloc o).grown a2 h5, ScanAt.put h1 h2 h4 h5 h6 h7 h3 h8 a1 a2 (by simpa using a3)⟩
  have ht' : (t == []) = false := by rw [beq_eq_false_iff_ne]; exact ht
  have hcells := mcells_at { kind := 116, text := t } w 130
  have hone := mcells_one { kind := 116, text := t }
  clear h1 h4 h5 h6 h7 h8 ht
  rcases List.eq_nil_or_concat x.out with h0 | ⟨l, m, h0⟩
  · have hform : ∃ a cc, ov = .slice a 0 cc := by
      rw [h0] at h3
      rcases h3.2 with ⟨rfl, _⟩ | ⟨g, cap, cur, rfl, _⟩
      · exact ⟨_, _, rfl⟩
      · exact ⟨_, _, rfl⟩
    obtain ⟨a, cc, rfl⟩ := hform
    clear hk h0
    go_enter Tryz.func139, Tryz.ntmps139
    go_wp2_with (at_builtin; refine wpList_append_own_at _ rfl _ _ 92 rfl B 130 i0 (.agg #[.int .u8 0, .string ⟨#[]⟩, .string ⟨#[]⟩, .string ⟨#[]⟩, .string ⟨#[]⟩, .int .i64 0]) 6 80 Tryz.underlying92 HI.out.1 HI.out.2.1 HI.out.2.2.1 HI.out.2.2.2 rfl (by decide) _ x.out.length (marksCells x.out) rfl (World.ownsRow.alloc h3 _) ⟨w.heap.size, 0, none⟩ 1 1 (mCells { kind := 116, text := t }) rfl rfl hcells hone (by unfold maxLen; omega) (by omega) (by simp; omega) ?_)
    · intro v' w2 hown' hgrow _ hat
      obtain ⟨r2, g1, g2⟩ := HP.out w2 v' _ hown' hgrow hat
      obtain ⟨a2, n2, c2, rfl⟩ := owns_form hown'
      have q2 := r2.2.1
      have q3 := r2.2.2
      clear hown' hgrow hat h3 q0 q1 hcells
      go_wp2
      go_end0
      exact ⟨rfl, g1, g2⟩
  · simp only [List.concat_eq_append] at h0
    have hkm := hk l m h0
    have hm116 : ((m.kind.toNat : Int) == 116) = false := byte_ne (n := 116) (by decide) hkm
    have hlen : x.out.length = l.length + 1 := by rw [h0]; simp
    rcases h3.2 with ⟨_, hz⟩ | ⟨g, cap, cur, rfl, _⟩
    · omega
    have ck := h3.cellAt (l.length * 6) (by omega)
    have ck2 : w.cell? ⟨g, l.length * 6, none⟩ = some (.int .u8 m.kind.toNat) := by
      rw [ck, h0]
      have := marksCells_last l m 0 (by omega)
      rw [Nat.add_zero] at this
      rw [this]; rfl
    have hw2 : IntKind.i64.wrap ((l.length : Int) + 1 - 1) = l.length := by rw [IntKind.wrap_i64]; omega
    have hw3 : IntKind.i64.wrap (l.length : Int) = l.length := by rw [IntKind.wrap_i64]; omega
    have hlt3 : (l.length : Int) < l.length + 1 := by omega
    rw [hlen] at q0 h3 HP ho
    clear hk ck hkm h0
    go_enter Tryz.func139, Tryz.ntmps139
    go_wp2_with (at_builtin; refine wpList_append_own_at _ rfl _ _ 92 rfl B 130 i0 (.agg #[.int .u8 0, .string ⟨#[]⟩, .string ⟨#[]⟩, .string ⟨#[]⟩, .string ⟨#[]⟩, .int .i64 0]) 6 80 Tryz.underlying92 HI.out.1 HI.out.2.1 HI.out.2.2.1 HI.out.2.2.2 rfl (by decide) _ (l.length + 1) (marksCells x.out) rfl (World.ownsRow.alloc h3 _) ⟨w.heap.size, 0, none⟩ 1 1 (mCells { kind := 116, text := t }) rfl rfl hcells hone (by unfold maxLen; omega) (by omega) (by simp; omega) ?_)
    · intro v' w2 hown' hgrow _ hat
      obtain ⟨r2, g1, g2⟩ := HP.out w2 v' _ hown' hgrow hat
      obtain ⟨a2, n2, c2, rfl⟩ := owns_form hown'
      have q2 := r2.2.1
      have q3 := r2.2.2
      clear hown' hgrow hat h3 q0 q1 hcells
      go_wp2
      go_end0
      exact ⟨rfl, g1, g2⟩
end Go.Proofs.YtaepcfidpekflaaGreatDoor
namespace Go.Proofs.YtaepcfidpekflaaGreatDoor
open Go.RowKit
variable {ms : List (Nat × Array Value)}

theorem set_text (l : List Dk.Mark) (m : Dk.Mark) (t : Pr.T) : (marksCells (l ++ [m])).set (l.length * 6 + 1) (strV t) = marksCells (l ++ [{ m with text := t }]) := by
  rw [marksCells_snoc, marksCells_snoc, List.set_append_right _ _ (by rw [marksCells_len]; omega), marksCells_len]
  congr 1
  rw [show l.length * 6 + 1 - l.length * 6 = 1 by omega]
  rfl
theorem ScanAt.join {w W : World} {B b g cap : Nat} {s : Pr.T} {x : Dk.Sc} {pv : Value} {l : List Dk.Mark} {m : Dk.Mark} (t : Pr.T) (hW : Below w.heap.size w W) (hx : x.out = l ++ [m])
    (h1 : Row w b #[.string ⟨s.toArray⟩, .int .i64 x.i, .slice (some ⟨g, 0, none⟩) x.out.length cap, pv, .int .i64 x.err, .int .i64 x.place]) (h2 : B ≤ b) (h3 : w.ownsRow B 130 6 (.slice (some ⟨g, 0, none⟩) x.out.length cap) x.out.length (marksCells x.out)) (h4 : w.ownsRow B 4 1 pv x.opens.length (x.opens.map .bool))
    (h5 : g ≠ b) (h6 : pv.ownBlock ≠ some b) (h7 : pv.ownBlock ≠ some g) (h8 : ∀ q ∈ ms, Row w q.1 q.2 ∧ q.1 ≠ b ∧ (Value.slice (some ⟨g, 0, none⟩) x.out.length cap).ownBlock ≠ some q.1 ∧ pv.ownBlock ≠ some q.1) :
    ScanAt ms (W.setCell ⟨g, l.length * 6 + 1, none⟩ (strV t)) B b s { x with out := l ++ [{ m with text := t }] } ∧ Below B w (W.setCell ⟨g, l.length * 6 + 1, none⟩ (strV t)) := by
  have kp : ∀ {e : TypeId} {z n : Nat} {v : Value} {xs : List Value}, w.ownsRow B e z v n xs → W.ownsRow B e z v n xs := fun {e z n v xs} h => by
    refine World.ownsRow.kept (row := none) h ⟨hW.os, hW.tape, hW.output, hW.size, fun k hk _ => hW.block k hk⟩ ?_
    cases e : v.ownBlock with
    | none => exact .inl rfl
    | some _ => exact .inr (by simp)
  have hlen : x.out.length = l.length + 1 := by rw [hx]; simp
  obtain ⟨s1, _⟩ := (kp h3).stored (l.length * 6 + 1) (strV t)
  rw [hx, set_text] at s1
  have hBg := (World.ownsRow.lt h3 g rfl).1
  refine ⟨⟨.slice (some ⟨g, 0, none⟩) x.out.length cap, pv, (h1.keep hW).other (fun e => h5 e.symm) _, h2, ?_, ownsRow_setCell_other (kp h4) h7 _, ?_, h6, ?_, fun q hq => ⟨((h8 q hq).1.keep hW).other (fun e => (h8 q hq).2.2.1 (by rw [e]; rfl)) _, (h8 q hq).2⟩⟩, ?_⟩
  · rw [hlen]
    simpa using s1
  · show some g ≠ some b
    simpa using h5
  · intro g' hg'
    have : g' = g := by simpa [Value.ownBlock] using hg'.symm
    rw [this]
    exact h7
  · exact (hW.mono (by have := h1.1; omega)).setCell (p := ⟨g, l.length * 6 + 1, none⟩) hBg _

set_option maxHeartbeats 3200000 in
set_option maxRecDepth 100000 in
theorem ksay_join (w : World) (B b : Nat) (s : Pr.T) (x : Dk.Sc) (t : Pr.T) (hx : ScanAt ms w B b s x) (ho : x.out.length ≤ 100000) (ht : t ≠ []) (l : List Dk.Mark) (m : Dk.Mark) (hl : x.out = l ++ [m]) (hk : m.kind = 116) (hml : m.text.length ≤ 1000000) (htl : t.length ≤ 1000000) :
    Calls Tryz.prog 139 #[.pointer (some ⟨b, 0, none⟩), .string ⟨t.toArray⟩] w fun en w' => en = .returned (.tuple #[]) ∧ ScanAt ms w' B b s { x with out := l ++ [{ m with text := m.text ++ t }] } ∧ Below B w w' := by
  obtain ⟨ov, pv, h1, h2, h3, h4, h5, h6, h7, h8⟩ := hx
  have hm116 : ((m.kind.toNat : Int) == 116) = true := by rw [hk]; rfl
  have ht' : (t == []) = false := by rw [beq_eq_false_iff_ne]; exact ht
  have hlen : x.out.length = l.length + 1 := by rw [hl]; simp
  rcases h3.2 with ⟨_, hz⟩ | ⟨g, cap, cur, rfl, _⟩
  · omega
  have hgb : g ≠ b := fun e => h5 (by rw [e]; rfl)
  have HJ : Hid (∀ W, Below w.heap.size w W → ScanAt ms (W.setCell ⟨g, l.length * 6 + 1, none⟩ (strV (m.text ++ t))) B b s { x with out := l ++ [{ m with text := m.text ++ t }] } ∧ Below B w (W.setCell ⟨g, l.length * 6 + 1, none⟩ (strV (m.text ++ t)))) := fun W h => ScanAt.join (m.text ++ t) h hl h1 h2 h3 h4 hgb h6 (h7 g rfl) h8
  have q0 := h1.2.1
  have q1 := h1.2.2
  rw [hlen] at q0
  have ck : w.cell? ⟨g, l.length * 6, none⟩ = some (.int .u8 m.kind.toNat) := by
    rw [h3.cellAt (l.length * 6) (by omega), hl]
    have := marksCells_last l m 0 (by omega)
    rw [Nat.add_zero] at this
    rw [this]; rfl
  have ck1 : w.cell? ⟨g, l.length * 6 + 1, none⟩ = some (.string ⟨m.text.toArray⟩) := by
    rw [h3.cellAt (l.length * 6 + 1) (by omega), hl, marksCells_last l m 1 (by omega)]; rfl
  have fz := h3.frozenAt (l.length * 6 + 1)
  have hcat : (⟨m.text.toArray⟩ : ByteArray) ++ ⟨t.toArray⟩ = ⟨(m.text ++ t).toArray⟩ := by apply ByteArray.ext; simp
  have hw2 : IntKind.i64.wrap ((l.length : Int) + 1 - 1) = l.length := by rw [IntKind.wrap_i64]; omega
  have hw3 : IntKind.i64.wrap (l.length : Int) = l.length := by rw [IntKind.wrap_i64]; omega
  have hlt3 : (l.length : Int) < l.length + 1 := by omega
  clear h1 h3 h4 h5 h6 h7 h8 ht hl
  go_enter Tryz.func139, Tryz.ntmps139
  go_wp2
  go_region_with (fail)
  all_goals go_wp2
  all_goals refine bodyPost_ret (results_none rfl _ _ _) rfl ?_
  all_goals
    obtain ⟨z1, z2⟩ := HJ.out w (Below.refl _ _)
    first
    | exact ⟨rfl, z1.keep (Below.refl _ _).drew, z2.drew⟩
    | exact ⟨rfl, z1, z2⟩
set_option maxHeartbeats 400000 in
theorem ksay_nil (w : World) (B b : Nat) (s : Pr.T) (x : Dk.Sc) (hx : ScanAt ms w B b s x) :
    Calls Tryz.prog 139 #[.pointer (some ⟨b, 0, none⟩), .string ⟨#[]⟩] w fun en w' => en = .returned (.tuple #[]) ∧ ScanAt ms w' B b s x ∧ Below B w w' := by
  have HX : Hid (ScanAt ms w B b s x) := hx
  obtain ⟨ov, pv, h1, h2, h3, _⟩ := hx
  have q0 := h1.2.1
  obtain ⟨a, n, c, rfl⟩ := owns_form h3
  clear h1 h3
  go_enter Tryz.func139, Tryz.ntmps139
  go_wp2
  refine bodyPost_ret (results_none rfl _ _ _) rfl ?_
  exact ⟨rfl, HX.out, Below.refl _ _⟩
/-- Texts are short. -/
def Short (x : Dk.Sc) : Prop := x.out.length ≤ 100000 ∧ ∀ m ∈ x.out, m.text.length ≤ 1000000
theorem ksay_any (w : World) (B b : Nat) (s : Pr.T) (x : Dk.Sc) (t : Pr.T) (hx : ScanAt ms w B b s x) (hsh : Short x) (htl : t.length ≤ 1000000) :
    Calls Tryz.prog 139 #[.pointer (some ⟨b, 0, none⟩), .string ⟨t.toArray⟩] w fun en w' => en = .returned (.tuple #[]) ∧ ScanAt ms w' B b s (x.say t) ∧ Below B w w' := by
  by_cases ht : t = []
  · subst ht
    rw [show x.say [] = x from rfl]
    exact ksay_nil w B b s x hx
  · rw [Dk.Sc.say, if_neg ht]
    rcases List.eq_nil_or_concat x.out with h0 | ⟨l, m, h0⟩
    · have e : Dk.addText x.out t = x.out ++ [{ kind := 116, text := t }] := by rw [h0]; rfl
      rw [e]
      exact ksay_new w B b s x t hx hsh.1 ht (fun l m h => by rw [h0] at h; simp at h)
    · simp only [List.concat_eq_append] at h0
      by_cases hk : m.kind = 116
      · have e : Dk.addText x.out t = l ++ [{ m with text := m.text ++ t }] := by rw [h0]; simp [Dk.addText, hk]
        rw [e]
        exact ksay_join w B b s x t hx hsh.1 ht l m h0 hk (hsh.2 m (by rw [h0]; simp)) htl
      · have e : Dk.addText x.out t = x.out ++ [{ kind := 116, text := t }] := by rw [h0]; simp [Dk.addText, hk]
        rw [e]
        refine ksay_new w B b s x t hx hsh.1 ht (fun l' m' h => ?_)
        rw [h0] at h
        have := (List.append_inj' h rfl).2
        simp at this
        rw [← this]
        exact hk
end Go.Proofs.YtaepcfidpekflaaGreatDoor
namespace Go.Proofs.YtaepcfidpekflaaGreatDoor
open Go.RowKit

theorem ScanAt.box {w : World} {B b : Nat} {s : Pr.T} {x : Dk.Sc} (h : ScanAt [] w B b s x) (cs : Array Value) (T : TypeId) : ScanAt [(w.heap.size, cs)] (w.alloc (.cells cs T)) B b s x := by
  have h' := h.keep (((Below.refl w.heap.size w).alloc (Nat.le_refl _)) (.cells cs T))
  obtain ⟨ov, pv, h1, h2, h3, h4, h5, h6, h7, _⟩ := h'
  have hb := h.base.2
  obtain ⟨ov0, pv0, k1, k2, k3, k4, _⟩ := h
  have e1 : ov0 = ov := by
    have a := k1.2.1 2
    have c := h1.2.1 2
    rw [World.cell?_alloc_lt w _ ⟨b, 2, none⟩ hb, a] at c
    simpa using c
  have e2 : pv0 = pv := by
    have a := k1.2.1 3
    have c := h1.2.1 3
    rw [World.cell?_alloc_lt w _ ⟨b, 3, none⟩ hb, a] at c
    simpa using c
  subst e1
  subst e2
  refine ⟨ov0, pv0, h1, h2, h3, h4, h5, h6, h7, fun q hq => ?_⟩
  simp only [List.mem_singleton] at hq
  subst hq
  refine ⟨row_at w cs T, by simp only; omega, fun e => ?_, fun e => ?_⟩
  · exact absurd (World.ownsRow.lt k3 _ e).2 (by omega)
  · exact absurd (World.ownsRow.lt k4 _ e).2 (by omega)
theorem ScanAt.rowOf {w : World} {B b mb : Nat} {s : Pr.T} {x : Dk.Sc} {cs : Array Value} (h : ScanAt [(mb, cs)] w B b s x) : Row w mb cs := by
  obtain ⟨ov, pv, h1, h2, h3, h4, h5, h6, h7, h8⟩ := h
  exact (h8 (mb, cs) (by simp)).1
theorem ScanAt.setBox {w : World} {B b mb : Nat} {s : Pr.T} {x : Dk.Sc} {cs : Array Value} (h : ScanAt [(mb, cs)] w B b s x) (k : Nat) (u : Value) (hk : k < cs.size) : ScanAt [(mb, cs.setIfInBounds k u)] (w.setCell ⟨mb, k, none⟩ u) B b s x := by
  obtain ⟨ov, pv, h1, h2, h3, h4, h5, h6, h7, h8⟩ := h
  obtain ⟨r1, r2, r3, r4⟩ := h8 (mb, cs) (by simp)
  refine ⟨ov, pv, h1.other (fun e => r2 e.symm) _, h2, ownsRow_setCell_other h3 r3 _, ownsRow_setCell_other h4 r4 _, h5, h6, h7, fun q hq => ?_⟩
  simp only [List.mem_singleton] at hq
  subst hq
  exact ⟨r1.setC k u hk, r2, r3, r4⟩
theorem ScanAt.unbox {w : World} {B b : Nat} {s : Pr.T} {x : Dk.Sc} {ms : List (Nat × Array Value)} (h : ScanAt ms w B b s x) : ScanAt [] w B b s x := by
  obtain ⟨ov, pv, h1, h2, h3, h4, h5, h6, h7, _⟩ := h
  exact ⟨ov, pv, h1, h2, h3, h4, h5, h6, h7, fun q hq => by cases hq⟩
variable {ms : List (Nat × Array Value)}
/-- An argument more that is open, behind an append and the field's store. -/
theorem ScanAt.push {w w2 : World} {B b : Nat} {s : Pr.T} {x : Dk.Sc} {ov pv v' : Value} {num : Bool} {o : Obj}
    (h1 : Row w b #[.string ⟨s.toArray⟩, .int .i64 x.i, ov, pv, .int .i64 x.err, .int .i64 x.place]) (h2 : B ≤ b) (h4 : w.ownsRow B 4 1 pv x.opens.length (x.opens.map .bool))
    (h5 : ov.ownBlock ≠ some b) (h6 : pv.ownBlock ≠ some b) (h7 : ∀ g, ov.ownBlock = some g → pv.ownBlock ≠ some g) (h3 : w.ownsRow B 130 6 ov x.out.length (marksCells x.out)) (h8 : ∀ q ∈ ms, Row w q.1 q.2 ∧ q.1 ≠ b ∧ ov.ownBlock ≠ some q.1 ∧ pv.ownBlock ≠ some q.1)
    (hown : w2.ownsRow B 4 1 v' (x.opens.length + 1) (x.opens.map .bool ++ [.bool num])) (hg : (w.alloc o).grownBy w2 pv.ownBlock) (hat : v'.ownBlock = pv.ownBlock ∨ v'.ownBlock = some (w.alloc o).heap.size) :
    ScanAt ms (w2.setCell ⟨b, 3, none⟩ v') B b s { x with opens := x.opens ++ [num] } ∧ Below B w (w2.setCell ⟨b, 3, none⟩ v') := by
  have hbl := h1.1
  have hB : B ≤ w.heap.size := by omega
  have hr : Row w2 b #[.string ⟨s.toArray⟩, .int .i64 x.i, ov, pv, .int .i64 x.err, .int .i64 x.place] := (h1.alloc o).grown hg h6
  have hv : v'.ownBlock ≠ some b := by
    rcases hat with h | h
    · rw [h]; exact h6
    · rw [h]; simp; omega
  have hp : w2.ownsRow B 130 6 ov x.out.length (marksCells x.out) := by
    refine World.ownsRow.kept (h3.alloc o) hg ?_
    cases e : ov.ownBlock with
    | none => exact .inl rfl
    | some g => exact .inr (fun e2 => h7 g e e2.symm)
  refine ⟨⟨ov, v', hr.setC 3 _ (by simp), h2, ownsRow_setCell_other hp h5 _, ?_, h5, hv, fun g hg2 => ?_, fun q hq => ?_⟩, ?_⟩
  · have := ownsRow_setCell_other hown (a := ⟨b, 3, none⟩) hv v'
    simp only [List.length_append, List.length_singleton, List.map_append, List.map_cons, List.map_nil]
    exact this
  · rcases hat with h | h
    · rw [h]; exact h7 g hg2
    · rw [h]
      have := (World.ownsRow.lt h3 g hg2).2
      simp
      omega
  · obtain ⟨r1, r2, r3, r4⟩ := h8 q hq
    refine ⟨((r1.alloc o).grown hg r4).other r2 _, r2, r3, ?_⟩
    rcases hat with h | h
    · rw [h]; exact r4
    · rw [h]
      have := r1.1
      simp
      omega
  · refine Below.setCell (((Below.refl B w).alloc hB o).grown hg (by simp; omega) fun k hk => (World.ownsRow.lt h4 k hk).1) (p := ⟨b, 3, none⟩) h2 _
theorem info_bool : (Tryz.prog.info? 4).map (fun i => (i.zero, i.size, i.bytes)) = some (some (.bool false), 1, 1) := by kernel_rfl
theorem step_append_at {P : Program} {ops : Array Oper} {o : Oper} {a : Act} {w : World} {K : Act → World → Prop} {Q : Exit → Act → World → Prop} {E : Prop} (hg : o.guard = none) (s x : Operand) (t : TypeId)
    (ho : o.op = .call { callee := .builtin .append, args := #[s, x], argTypes := #[t, t] })
    (base : Nat) (e : TypeId) (i : TypeInfo) (z : Value) (size bytes : Nat) (ht : P.underlying t = some (.slice e)) (hi : P.info? e = some i) (hz : i.zero = some z)
    (hsize : i.size = size) (hby : i.bytes = bytes) (hzs : z.cells.size = size) (hsz : 0 < size)
    (v : Value) (n : Nat) (xs : List Value) (hs : a.eval s = v) (hown : w.ownsRow base e size v n xs)
    (ad : Addr) (m c : Nat) (news : List Value) (hx : a.eval x = .slice (some ad) m c) (hl : news.length = m * size) (hnews : ∀ j u, news[j]? = some u → w.cell? (ad.add j) = some u) (h1 : ∀ u ∈ news, u.oneCell' = true)
    (h63 : n + m ≤ maxLen) (hbytes : (n + m) * bytes ≤ 140737488355328) (hbase : base ≤ w.heap.size)
    (h : ∀ v' w', w'.ownsRow base e size v' (n + m) (xs ++ news) → w.grownBy w' v.ownBlock → (v'.ownBlock = v.ownBlock ∨ v'.ownBlock = some w.heap.size) → K (a.put o.dst v') w') :
    if Region.wanted o (yielded ops a.tmps) = true then Oper.wp P o a w K Q else E := by
  have hw : Region.wanted o (yielded ops a.tmps) = true := by simp [Region.wanted, hg]
  rw [if_pos hw]
  obtain ⟨v', w', hr, h2, h3, h4, h5⟩ := run_append_own_at (P := P) w base t o.type e i z size bytes ht hi hz hsize hby hzs hsz v n xs hown ad m c news hl hnews h1 h63 hbytes hbase
  unfold Oper.wp execOp
  simp only [ho, resolve, invoke, builtin, Sem.run_bind, Sem.run_pure, Result.andThen_ok, List.map_toArray, List.map_cons, List.map_nil, hs, hx, hr]
  exact h v' w' h2 h3 h5
end Go.Proofs.YtaepcfidpekflaaGreatDoor
