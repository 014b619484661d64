/-
  Several texts in one (Ji). By the verifier.
-/
import Derived.Test.YtaepcfidpekflaaGreatDoorU41
import Derived.Test.YtaepcfidpekflaaGreatDoorU42
namespace Go.Proofs.YtaepcfidpekflaaGreatDoor
open Go.RowKit

/-- What the scan hands back. -/
def MarksSaid (w w' : World) (X : Dk.Sc) (e : Ending) : Prop := ∃ ov, e = .returned (.tuple #[ov, .int .i64 X.err, .int .i64 X.place]) ∧ w'.ownsRow w.heap.size 130 6 ov X.out.length (marksCells X.out) ∧ Below w.heap.size w w'
theorem Below.ownsRowN {w : World} {B e k n : Nat} {v : Value} {l : List Value} (h : w.ownsRow B e k v n l) (m : Nat) : (w.drewN m).ownsRow B e k v n l := by
  induction m generalizing w with
  | zero => exact h
  | succ m ih => exact ih (World.ownsRow.drew h)
def sc0 : Dk.Sc := { i := 0, out := [], opens := [], err := 0, place := 0 }
theorem scan0 (w : World) (s : Pr.T) (T : TypeId) : ScanAt [] (w.alloc (.cells #[.string ⟨s.toArray⟩, .int .i64 0, .slice none 0 0, .slice none 0 0, .int .i64 0, .int .i64 0] T)) w.heap.size w.heap.size s sc0 :=
  ⟨.slice none 0 0, .slice none 0 0, row_at w _ T, Nat.le_refl _, World.ownsRow_nil _ _ _ _, World.ownsRow_nil _ _ _ _, by simp [Value.ownBlock], by simp [Value.ownBlock], by simp [Value.ownBlock], fun q hq => by cases hq⟩
set_option maxHeartbeats 1600000 in
set_option maxRecDepth 100000 in
theorem kmarks_any (w : World) (s : Pr.T) (hs : s.length ≤ 1000) :
    Calls Tryz.prog 70 #[.string ⟨s.toArray⟩] w fun e w' => MarksSaid w w' (Dk.marks s) e := by
  obtain ⟨X, hX⟩ : ∃ X, Hid (Dk.marks s = X) := ⟨_, rfl⟩
  rw [hX.out]
  obtain ⟨Z, hZ⟩ : ∃ Z, Hid (Dk.marksGo s s.length sc0 = Z) := ⟨_, rfl⟩
  have HX : Hid ((if Z.err = 0 ∧ Z.opens ≠ [] then Z.fault 3 s.length else Z) = X) := by
    show _ = _
    rw [← hX.out, ← hZ.out]
    rfl
  clear hX
  have s0 := scan0 w s 199
  have b0 : Below w.heap.size w (w.alloc (.cells #[.string ⟨s.toArray⟩, .int .i64 0, .slice none 0 0, .slice none 0 0, .int .i64 0, .int .i64 0] 199)) := (Below.refl _ _).alloc (Nat.le_refl _) _
  go_enter Tryz.func70, Tryz.ntmps70
  go_upto_block 0 with fail
  go_cut [5] (fun p wd => p = .pointer (some ⟨w.heap.size, 0, none⟩) ∧ ScanAt [] wd w.heap.size w.heap.size s Z ∧ Below w.heap.size w wd)
  case first =>
    clear HX
    go_wp2_with fail
    go_loopg [] s.length (fun g wr => ∃ z : Dk.Sc, Hid (ScanAt [] wr w.heap.size w.heap.size s z) ∧ Below w.heap.size w wr ∧ Hid (Dk.marksGo s g z = Z) ∧ (z.err ≠ 0 ∨ s.length ≤ z.i + g) ∧ Hid (Dk.Sz (3 * z.i + 16) z) ∧ z.opens.length + g ≤ s.length)
    case atStart => exact ⟨sc0, s0, b0, hZ, .inr (by simp [sc0]), ⟨by simp [sc0], by simp [sc0]⟩, by simp [sc0]⟩
    case round =>
      obtain ⟨z, HS, hb1, HG, hg, HZ, hop⟩ := hrel
      obtain ⟨a1, n1, c1, a2, c2, q1, f1⟩ := HS.out.cells
      clear s0 b0 hZ
      by_cases he : z.err = 0
      · have he' : ((z.err : Int) == 0) = true := by rw [he]; rfl
        by_cases hi : z.i < s.length
        · have hi' : (z.i : Int) < s.length := by omega
          have hgk : 0 < gk := by rcases hg with h | h; exact absurd he h; omega
          have ko := kone_any wr w.heap.size w.heap.size s z HS.out hs hi HZ.out (by omega)
          have HG2 : Hid (Dk.marksGo s (gk - 1) (z.one s) = Z) := by
            show _ = _
            rw [← HG.out]
            obtain ⟨k, rfl⟩ : ∃ k, gk = k + 1 := ⟨gk - 1, by omega⟩
            rw [Dk.marksGo, if_pos ⟨he, hi⟩]
            rfl
          have hg2 : (z.one s).err ≠ 0 ∨ s.length ≤ (z.one s).i + (gk - 1) := by
            rcases Pg.one_adv s z he hi with h | h
            · exact .inl h
            · rcases hg with h' | h'
              · exact absurd he h'
              · exact .inr (by omega)
          have HZ2 : Hid (Dk.Sz (3 * (z.one s).i + 16) (z.one s)) := Dk.one_sz s z 16 (Nat.le_refl _) HZ.out
          have hop2 : (z.one s).opens.length + (gk - 1) ≤ s.length := by have := Dk.one_op s z; omega
          clear HS HG hg HZ hop
          generalize z.one s = z2 at *
          go_wp2_with fail
          refine ko.mono ?_
          rintro e w2 ⟨rfl, hs2, hb2⟩
          have hb3 := hb1.trans hb2
          clear ko q1 f1
          have HS2 : Hid (ScanAt [] w2 w.heap.size w.heap.size s z2) := hs2
          clear hs2
          go_wp2
          go_roundg (gk - 1)
          case measure => omega
          case rel => exact ⟨z2, HS2, hb3, HG2, hg2, HZ2, hop2⟩
        · have hi' : ¬ (z.i : Int) < s.length := by omega
          have HE : Hid (z = Z) := by show _ = _; rw [← HG.out, Pg.marksGo_stop s gk z (.inr (by omega))]
          clear HG hg HZ hop
          go_wp2
          go_meet
          case rel => exact ⟨rfl, by rw [← HE.out]; exact HS.out, hb1⟩
      · have he' : ((z.err : Int) == 0) = false := by rw [beq_eq_false_iff_ne]; omega
        have HE : Hid (z = Z) := by show _ = _; rw [← HG.out, Pg.marksGo_stop s gk z (.inl he)]
        clear HG hg HZ hop
        go_wp2
        go_meet
        case rel => exact ⟨rfl, by rw [← HE.out]; exact HS.out, hb1⟩
  case rest =>
    obtain ⟨rfl, hsZ, hb1⟩ := hcut
    clear s0 b0 hZ
    obtain ⟨a1, n1, c1, a2, c2, q1, f1⟩ := hsZ.cells
    by_cases he : Z.err = 0
    · have he' : ((Z.err : Int) == 0) = true := by rw [he]; rfl
      by_cases ho : Z.opens = []
      · have ho' : ¬ ((0 : Int) < Z.opens.length) := by rw [ho]; simp
        have ho2 : ¬ (0 < Z.opens.length) := by rw [ho]; simp
        have e : Z = X := by have := HX.out; rw [if_neg (fun h => h.2 ho)] at this; exact this
        have hsX : Hid (ScanAt [] wc w.heap.size w.heap.size s X) := by rw [← e]; exact hsZ
        have HBX : Hid (∀ n, Below w.heap.size w (wc.drewN n)) := fun n => below_of hb1 (drewB wc n)
        clear HX hsZ hb1 he ho e
        go_upto_region 6 with fail
        clear q1 f1
        obtain ⟨ov, pv, h1, _, h3, _⟩ := hsX.out
        obtain ⟨oa, on, oc, rfl⟩ := owns_form h3
        have q2 := h1.2.1
        clear h1 hsX
        go_wp2
        go_quiet (fail)
        go_wp2
        refine bodyPost_ret (v := .tuple #[.slice oa on oc, .int .i64 X.err, .int .i64 X.place]) (by simp [results, Tryz.results70, go_sem]) rfl ?_
        exact ⟨_, rfl, Below.ownsRowN h3 _, HBX.out _⟩
      · have ho' : (0 : Int) < Z.opens.length := by have := List.length_pos_iff.2 ho; omega
        have ho2 : 0 < Z.opens.length := List.length_pos_iff.2 ho
        have kf := kfault_any (ms := []) wc w.heap.size w.heap.size s Z 3 s.length hsZ
        have e : Z.fault 3 s.length = X := by have := HX.out; rw [if_pos ⟨he, ho⟩] at this; exact this
        rw [e] at kf
        clear HX hsZ he ho e
        go_wp2_with fail
        refine kf.mono ?_
        rintro e w2 ⟨rfl, hs2, hb2⟩
        have hsX : Hid (ScanAt [] w2 w.heap.size w.heap.size s X) := hs2
        have HBX : Hid (∀ n, Below w.heap.size w (w2.drewN n)) := fun n => below_of (hb1.trans hb2) (drewB w2 n)
        clear kf hs2 hb1 hb2 q1 f1
        obtain ⟨ov, pv, h1, _, h3, _⟩ := hsX.out
        obtain ⟨oa, on, oc, rfl⟩ := owns_form h3
        have q2 := h1.2.1
        clear h1 hsX
        go_wp2
        go_quiet (fail)
        go_wp2
        refine bodyPost_ret (v := .tuple #[.slice oa on oc, .int .i64 X.err, .int .i64 X.place]) (by simp [results, Tryz.results70, go_sem]) rfl ?_
        exact ⟨_, rfl, Below.ownsRowN h3 _, HBX.out _⟩
    · have he' : ((Z.err : Int) == 0) = false := by rw [beq_eq_false_iff_ne]; omega
      have e : Z = X := by have := HX.out; rw [if_neg (fun h => he h.1)] at this; exact this
      have hsX : Hid (ScanAt [] wc w.heap.size w.heap.size s X) := by rw [← e]; exact hsZ
      have HBX : Hid (∀ n, Below w.heap.size w (wc.drewN n)) := fun n => below_of hb1 (drewB wc n)
      clear HX hsZ hb1 he e
      go_upto_region 6 with fail
      clear q1 f1
      obtain ⟨ov, pv, h1, _, h3, _⟩ := hsX.out
      obtain ⟨oa, on, oc, rfl⟩ := owns_form h3
      have q2 := h1.2.1
      clear h1 hsX
      go_wp2
      go_quiet (fail)
      go_wp2
      refine bodyPost_ret (v := .tuple #[.slice oa on oc, .int .i64 X.err, .int .i64 X.place]) (by simp [results, Tryz.results70, go_sem]) rfl ?_
      exact ⟨_, rfl, Below.ownsRowN h3 _, HBX.out _⟩
end Go.Proofs.YtaepcfidpekflaaGreatDoor
