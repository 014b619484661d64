/-
  Several texts in one (Kl). By the verifier.
-/
import Derived.Test.YtaepcfidpekflaaGreatDoorU22
import Derived.Test.YtaepcfidpekflaaGreatDoorU35
namespace Go.Proofs.YtaepcfidpekflaaGreatDoor
open Go.RowKit
variable {ms : List (Nat × Array Value)}

theorem name_i (s : Pr.T) (x : Dk.Sc) (hi : x.i ≤ s.length) : (x.name s).i ≤ s.length ∧ (x.name s).opens = x.opens ∧ (x.name s).out = x.out := by
  have h := (named_le (s.drop x.i)).1
  simp only [List.length_drop] at h
  unfold Dk.Sc.name Dk.Sc.go Dk.Sc.fault
  split
  · split <;> exact ⟨by simp only; omega, rfl, rfl⟩
  · exact ⟨by simp only; omega, rfl, rfl⟩
theorem whole_i (s : Pr.T) (x : Dk.Sc) (hi : x.i ≤ s.length) : (x.whole s).i ≤ s.length ∧ (x.whole s).opens = x.opens ∧ (x.whole s).out = x.out := by
  have h := (whole_le (s.drop x.i)).1
  simp only [List.length_drop] at h
  unfold Dk.Sc.whole Dk.Sc.go Dk.Sc.fault
  split
  · split <;> exact ⟨by simp only; omega, rfl, rfl⟩
  · exact ⟨by simp only; omega, rfl, rfl⟩
theorem blanks_i (s : Pr.T) (x : Dk.Sc) (hi : x.i ≤ s.length) : (x.blanks s).i ≤ s.length ∧ (x.blanks s).opens = x.opens ∧ (x.blanks s).out = x.out := by
  have h : ((s.drop x.i).takeWhile Dk.isBlk).length ≤ (s.drop x.i).length := (List.takeWhile_prefix _).length_le
  simp only [List.length_drop] at h
  exact ⟨by simp only [Dk.Sc.blanks, Dk.Sc.go]; omega, rfl, rfl⟩
theorem fault_i (x : Dk.Sc) (e p : Nat) : (x.fault e p).i = x.i ∧ (x.fault e p).opens = x.opens ∧ (x.fault e p).out = x.out := by
  unfold Dk.Sc.fault
  split <;> exact ⟨rfl, rfl, rfl⟩
theorem needs_i (s : Pr.T) (x : Dk.Sc) (c : UInt8) (hi : x.i ≤ s.length) : (x.needs s c).i ≤ s.length ∧ (x.needs s c).opens = x.opens ∧ (x.needs s c).out = x.out := by
  unfold Dk.Sc.needs
  split
  · rename_i h
    have : x.i < s.length := by
      rcases Nat.lt_or_ge x.i s.length with h' | h'
      · exact h'
      · rw [List.getElem?_eq_none h'] at h; cases h
    exact ⟨by simp only [Dk.Sc.go]; omega, rfl, rfl⟩
  · obtain ⟨a, b, c⟩ := fault_i x 3 x.i
    exact ⟨by rw [a]; exact hi, b, c⟩
theorem isCat_mem (t : Pr.T) : t ∈ cats ↔ Dk.isCat t = true := by
  unfold cats Dk.isCat Pr.catB
  simp [or_assoc]
theorem ScanAt.cells {w : World} {B b : Nat} {s : Pr.T} {x : Dk.Sc} (h : ScanAt ms w B b s x) : ∃ a1 n1 c1 a2 c2, (∀ j, w.cell? ⟨b, j, none⟩ = #[.string ⟨s.toArray⟩, .int .i64 x.i, .slice a1 n1 c1, .slice a2 x.opens.length c2, .int .i64 x.err, .int .i64 x.place][j]?) ∧ ∀ j, w.frozen? ⟨b, j, none⟩ = false := by
  obtain ⟨ov, pv, h1, _, h3, h4, _⟩ := h
  obtain ⟨a1, n1, c1, rfl⟩ := owns_form h3
  have : ∃ a2 c2, pv = .slice a2 x.opens.length c2 := by
    rcases h4.2 with ⟨rfl, hz⟩ | ⟨g, cap, cur, rfl, _⟩
    · exact ⟨none, 0, by rw [hz]⟩
    · exact ⟨_, _, rfl⟩
  obtain ⟨a2, c2, rfl⟩ := this
  exact ⟨a1, n1, c1, a2, c2, h1.2.1, h1.2.2⟩
def brCells (t : Pr.T) (i : Nat) : Array Value := #[.int .u8 91, .string ⟨t.toArray⟩, .string ⟨#[]⟩, .string ⟨#[]⟩, .string ⟨#[]⟩, .int .i64 i]
/-- Behind the selector. -/
def BrCut (w wd : World) (B b : Nat) (s : Pr.T) (x : Dk.Sc) (num : Bool) (Y : Dk.Sc) : Prop := ∃ (y : Dk.Sc) (t : Pr.T), ScanAt [(w.heap.size, brCells t x.i)] wd B b s y ∧ Below B w wd ∧ y.i ≤ s.length ∧ y.opens = x.opens ∧ y.out = x.out ∧ y.opened s num { kind := 91, text := t, at_ := x.i } = Y

set_option maxHeartbeats 6400000 in
set_option maxRecDepth 100000 in
theorem kbranch_go (w : World) (B b : Nat) (s : Pr.T) (x : Dk.Sc) (num : Bool) (hx : ScanAt [] w B b s x) (hs : s.length ≤ 100000) (hi : x.i ≤ s.length) (ho : x.out.length ≤ 100000) (hop : x.opens.length ≤ 100000) (he : x.err = 0) :
    Calls Tryz.prog 175 #[.pointer (some ⟨b, 0, none⟩), .bool num] w fun en w' => en = .returned (.tuple #[]) ∧ ScanAt [] w' B b s (x.branch s num) ∧ Below B w w' := by
  have hB := hx.base
  obtain ⟨Y, hY⟩ : ∃ Y, Hid (x.branch s num = Y) := ⟨_, rfl⟩
  rw [hY.out]
  have hx1 := hx.box (brCells [] x.i) 130
  have hw1 := (Below.refl w.heap.size w).alloc (Nat.le_refl _) (.cells (brCells [] x.i) 130)
  obtain ⟨a1, n1, c1, a2, c2, q0, _⟩ := hx.cells
  have he' : ((x.err : Int) != 0) = false := by rw [he]; rfl
  obtain ⟨E, hE⟩ : ∃ E : Bool, Hid ((num && (s[x.i]? == some 61)) = E) := ⟨_, rfl⟩
  have HY1 : Hid (E = true → ((x.go 1).whole s).opened s num { kind := 91, text := 61 :: (x.go 1).wholeT s, at_ := x.i } = Y) := fun h => by
    rw [h] at hE
    have := hE.out
    rw [Bool.and_eq_true, beq_iff_eq] at this
    rw [← hY.out, Dk.Sc.branch, if_neg (by simp [he]), if_pos this]
  have HY2 : Hid (E = false → (if num = true ∧ Dk.isCat (x.nameT s) = false then (x.name s).fault 3 x.i else x.name s).opened s num { kind := 91, text := x.nameT s, at_ := x.i } = Y) := fun h => by
    rw [h] at hE
    have := hE.out
    have hneg : ¬ (num = true ∧ s[x.i]? = some 61) := fun e => by
      rw [e.1, e.2] at this
      exact absurd this (by decide)
    rw [← hY.out]
    unfold Dk.Sc.branch
    rw [if_neg (show ¬ x.err ≠ 0 by simp [he]), if_neg hneg]
  have HX1 : Hid (ScanAt [(w.heap.size, brCells [] x.i)] (w.alloc (.cells (brCells [] x.i) 130)) B b s x) := hx1
  clear hx hx1 hY
  go_enter Tryz.func175, Tryz.ntmps175
  go_upto_region 2 with fail
  go_cut [42] (fun z wd => z = .bool E ∧ Below w.heap.size w wd ∧ ScanAt [(w.heap.size, brCells [] x.i)] wd B b s x)
  case first =>
    have HF : Hid (∀ n, Below w.heap.size w ((w.alloc (.cells (brCells [] x.i) 130)).drewN n) ∧ ScanAt [(w.heap.size, brCells [] x.i)] ((w.alloc (.cells (brCells [] x.i) 130)).drewN n) B b s x) := fun n => ⟨below_of hw1 (drewB _ _), HX1.out.keep (drewB _ _)⟩
    obtain ⟨a3, n3, c3, a4, c4, qA, _⟩ := HX1.out.cells
    clear HY1 HY2 HX1 hw1 q0
    unfold brCells at qA HF
    cases num with
    | false =>
      have hF : Hid (E = false) := hE.out.symm
      clear hE
      go_wp2
      go_quiet (fail)
      go_wp2
      go_meet
      case rel => exact ⟨by rw [hF.out], (HF.out _).1, (HF.out _).2⟩
    | true =>
      cases hd : s.drop x.i with
      | nil =>
        have hge : s.length ≤ x.i := List.drop_eq_nil_iff.1 hd
        have hkn : ¬ x.i < s.length := by omega
        have hk' : ((x.i : Int) < s.length) = False := eq_false (by omega)
        have hF : Hid (E = false) := by show _ = _; rw [← hE.out, List.getElem?_eq_none hge]; rfl
        clear hE hd
        go_wp2
        go_quiet (fail)
        go_wp2
        go_meet
        case rel => exact ⟨by rw [hF.out], (HF.out _).1, (HF.out _).2⟩
      | cons c r =>
        obtain ⟨hkl, _, hgc⟩ := at_drop hd
        have hkl' : (x.i : Int) < s.length := by omega
        have hg : s[x.i]? = some c := by
          have := congrArg List.head? hd
          rw [List.head?_drop] at this
          simpa using this
        by_cases hc : c = 61
        · have hc' : ((c.toNat : Int) == 61) = true := by rw [hc]; rfl
          have hF : Hid (E = true) := by show _ = _; rw [← hE.out, hg, hc]; rfl
          clear hE hd hg hc
          go_wp2
          go_quiet (fail)
          go_wp2
          go_meet
          case rel => exact ⟨by rw [hF.out], (HF.out _).1, (HF.out _).2⟩
        · have hc' : ((c.toNat : Int) == 61) = false := byte_ne (n := 61) (by decide) hc
          have hF : Hid (E = false) := by show _ = _; rw [← hE.out, hg]; simpa using hc
          clear hE hd hg hc
          go_wp2
          go_quiet (fail)
          go_wp2
          go_meet
          case rel => exact ⟨by rw [hF.out], (HF.out _).1, (HF.out _).2⟩
  case rest =>
    obtain ⟨rfl, hbc, hx2⟩ := hcut
    clear HX1 q0
    go_upto_if 42 with fail
    go_cut [4] (fun p wd => p = .pointer (some ⟨w.heap.size, 0, none⟩) ∧ BrCut w wd B b s x num Y)
    case first =>
      obtain ⟨a5, n5, c5, a6, c6, q5, f5⟩ := hx2.cells
      cases E with
      | true =>
        have hlt : x.i < s.length := by
          have := hE.out
          rw [Bool.and_eq_true, beq_iff_eq] at this
          rcases Nat.lt_or_ge x.i s.length with h' | h'
          · exact h'
          · rw [List.getElem?_eq_none h'] at this; exact absurd this.2 (by simp)
        have hYe := HY1.out rfl
        have hx3 := hx2.setI (x.i + 1)
        have hb3 : Below B w (wc.setCell ⟨b, 1, none⟩ (.int .i64 ((x.i + 1 : Nat) : Int))) := (hbc.mono (by omega)).setCell (p := ⟨b, 1, none⟩) hB.1 _
        have kw := kwhole_any (ms := [(w.heap.size, brCells [] x.i)]) _ B b s (x.go 1) hx3 (by omega) (by show x.i + 1 ≤ _; omega)
        have hw1 : IntKind.i64.wrap ((x.i : Int) + 1) = ((x.i + 1 : Nat) : Int) := by rw [IntKind.wrap_i64]; omega
        obtain ⟨wi1, wi2, wi3⟩ := whole_i s (x.go 1) (by show x.i + 1 ≤ _; omega)
        have HYe : Hid (((x.go 1).whole s).opened s num { kind := 91, text := 61 :: (x.go 1).wholeT s, at_ := x.i } = Y) := hYe
        clear HY1 HY2 hE hYe hx2 hx3
        have hTl : ((x.go 1).wholeT s).length ≤ 9 := by
          have := (whole_le (s.drop (x.go 1).i)).2
          simp only [Dk.Sc.wholeT, Dk.Sc.next, List.length_take]
          omega
        generalize (x.go 1).wholeT s = T at *
        have hcat : (⟨#[61]⟩ : ByteArray) ++ ⟨T.toArray⟩ = ⟨(61 :: T).toArray⟩ := by apply ByteArray.ext; simp
        go_wp2_with fail
        refine kw.mono ?_
        rintro e w4 ⟨rfl, hs4, hb4⟩
        clear kw q5 f5
        have r4 := hs4.rowOf
        have m4 := r4.2.1
        have g4 := r4.2.2
        have HB : Hid (BrCut w ((w4.setCell ⟨w.heap.size, 1, none⟩ (.string ⟨T.toArray⟩)).setCell ⟨w.heap.size, 1, none⟩ (.string ⟨(61 :: T).toArray⟩)) B b s x num Y) := by
          refine ⟨(x.go 1).whole s, 61 :: T, ?_, ?_, wi1, wi2, wi3, HYe.out⟩
          · have := (hs4.setBox 1 (.string ⟨T.toArray⟩) (by simp [brCells])).setBox 1 (.string ⟨(61 :: T).toArray⟩) (by simp [brCells])
            simpa [brCells] using this
          · exact ((hb3.trans hb4).setCell (p := ⟨w.heap.size, 1, none⟩) (by have := hB.2; show B ≤ w.heap.size; omega) _).setCell (p := ⟨w.heap.size, 1, none⟩) (by have := hB.2; show B ≤ w.heap.size; omega) _
        clear r4 hs4 hb4 hb3 HYe wi1 wi2 wi3
        unfold brCells at m4
        go_wp2
        go_meet
        case rel => exact ⟨rfl, HB.out⟩
      | false =>
        have hYe := HY2.out rfl
        have kn := kname_any (ms := [(w.heap.size, brCells [] x.i)]) _ B b s x hx2 (by omega) hi
        obtain ⟨wi1, wi2, wi3⟩ := name_i s x hi
        have hTl : (x.nameT s).length ≤ 16 := by
          have := (named_le (s.drop x.i)).2
          simp only [Dk.Sc.nameT, Dk.Sc.next, List.length_take]
          omega
        have HYe : Hid ((if num = true ∧ Dk.isCat (x.nameT s) = false then (x.name s).fault 3 x.i else x.name s).opened s num { kind := 91, text := x.nameT s, at_ := x.i } = Y) := hYe
        clear HY1 HY2 hE hYe hx2
        generalize x.nameT s = T at *
        go_wp2_with fail
        refine kn.mono ?_
        rintro e w4 ⟨rfl, hs4, hb4⟩
        clear kn q5 f5
        have hb4' : Below B w w4 := (hbc.mono (by omega)).trans hb4
        have r4 := hs4.rowOf
        have m4 := r4.2.1
        have g4 := r4.2.2
        have hs5 := hs4.setBox 1 (.string ⟨T.toArray⟩) (by simp [brCells])
        have hb5 : Below B w (w4.setCell ⟨w.heap.size, 1, none⟩ (.string ⟨T.toArray⟩)) := hb4'.setCell (p := ⟨w.heap.size, 1, none⟩) (by have := hB.2; show B ≤ w.heap.size; omega) _
        clear r4 hs4 hb4 hb4'
        unfold brCells at m4 hs5
        simp only [Array.setIfInBounds, List.size_toArray, List.length_cons, List.length_nil] at hs5
        go_wp2_with fail
        refine (categories_any _).mono ?_
        rintro e w6 ⟨rfl, hb6, hlt6, hcat6⟩
        clear m4 g4
        have hs6 := hs5.keep hb6
        have hz6 := hs5.base.2
        have hb7 : Below B w w6 := hb5.trans (hb6.mono (by have := hs5.base; omega))
        have r6 := hs6.rowOf
        have m6 := r6.2.1
        have hsz : (w4.setCell ⟨w.heap.size, 1, none⟩ (.string ⟨T.toArray⟩)).heap.size = w4.heap.size := by simp
        rw [hsz] at hlt6 hcat6
        have pl := place_any w6 (.slice (some ⟨w4.heap.size, 0, none⟩) 6 6) cats T (by decide) (.inr ⟨_, 0, 6, rfl, by decide, hlt6, fun j hj => by rw [Nat.zero_add]; exact hcat6 j hj⟩)
        clear hs5 hb5 r6 hb6 hcat6 hsz hz6
        go_wp2_with fail
        refine pl.mono ?_
        rintro e w8 ⟨⟨k, rfl, hk⟩, rfl⟩
        clear pl
        have HB : Hid (∀ y wz, ScanAt [(w.heap.size, brCells T x.i)] wz B b s y → Below B w8 wz → y.i = (x.name s).i → y.opens = (x.name s).opens → y.out = (x.name s).out → y.opened s num { kind := 91, text := T, at_ := x.i } = Y → BrCut w wz B b s x num Y) := fun y wz h1 h2 h3 h4 h5 h6 => ⟨y, T, h1, hb7.trans h2, by rw [h3]; exact wi1, by rw [h4]; exact wi2, by rw [h5]; exact wi3, h6⟩
        cases num with
        | false =>
          have HZ : Hid (BrCut w w8 B b s x false Y) := HB.out (x.name s) w8 hs6 (Below.refl _ _) rfl rfl rfl (by rw [← HYe.out, if_neg (by simp)])
          clear HB HYe hk m6 hs6
          go_wp2
          go_meet
          case rel => exact ⟨rfl, HZ.out⟩
        | true =>
          cases hc : Dk.isCat T with
          | true =>
            have hk0 : ¬ k < 0 := by have := hk.2 ((isCat_mem T).2 hc); omega
            have HZ : Hid (BrCut w w8 B b s x true Y) := HB.out (x.name s) w8 hs6 (Below.refl _ _) rfl rfl rfl (by rw [← HYe.out, if_neg (by simp [hc])])
            clear HB HYe hk m6 hs6 hc
            go_wp2
            go_meet
            case rel => exact ⟨rfl, HZ.out⟩
          | false =>
            have hk0 : k < 0 := by
              rcases Int.lt_or_le k 0 with h | h
              · exact h
              · have := (isCat_mem T).1 (hk.1 h)
                rw [hc] at this
                cases this
            have kf := kfault_any (ms := [(w.heap.size, brCells T x.i)]) w8 B b s (x.name s) 3 x.i hs6
            obtain ⟨fi1, fi2, fi3⟩ := fault_i (x.name s) 3 x.i
            have HYf : Hid (((x.name s).fault 3 x.i).opened s true { kind := 91, text := T, at_ := x.i } = Y) := by show _ = _; rw [← HYe.out, if_pos ⟨rfl, hc⟩]
            clear HYe hk hs6 hc
            go_wp2_with fail
            refine kf.mono ?_
            rintro e w9 ⟨rfl, hs9, hb9⟩
            have HZ : Hid (BrCut w w9 B b s x true Y) := HB.out _ w9 hs9 hb9 fi1 fi2 fi3 HYf.out
            clear HB kf m6 hs9
            go_wp2
            go_meet
            case rel => exact ⟨rfl, HZ.out⟩
    case rest =>
      obtain ⟨rfl, y, t, hy, hbd, hyi, hyo, hyout, hYe⟩ := hcut
      have HYe : Hid (y.opened s num { kind := 91, text := t, at_ := x.i } = Y) := hYe
      have kb := kblanks_any (ms := [(w.heap.size, brCells t x.i)]) wc B b s y hy (by omega) hyi
      obtain ⟨bi1, bi2, bi3⟩ := blanks_i s y hyi
      clear hYe hy HY1 HY2 hE hx2
      go_wp2_with fail
      refine kb.mono ?_
      rintro e w3 ⟨rfl, hs3, hb3⟩
      clear kb
      obtain ⟨a7, n7, c7, a8, c8, q3, f3⟩ := hs3.cells
      have kn := kneeds_any (ms := [(w.heap.size, brCells t x.i)]) w3 B b s (y.blanks s) 123 hs3 (by omega) bi1
      obtain ⟨ni1, ni2, ni3⟩ := needs_i s (y.blanks s) 123 bi1
      clear hs3
      go_wp2_with fail
      refine kn.mono ?_
      rintro e w4 ⟨rfl, hs4, hb4⟩
      clear kn q3 f3
      obtain ⟨a9, n9, c9, a10, c10, q4, f4⟩ := hs4.cells
      have hb4' : Below B w w4 := (hbd.trans hb3).trans hb4
      have hno : ((y.blanks s).needs s 123).opens.length = x.opens.length := by rw [ni2, bi2, hyo]
      have hnu : ((y.blanks s).needs s 123).out.length = x.out.length := by rw [ni3, bi3, hyout]
      have HYf : Hid ((if 6 < x.opens.length + 2 then { ((y.blanks s).needs s 123).fault 4 (y.blanks s).i with opens := (((y.blanks s).needs s 123).fault 4 (y.blanks s).i).opens ++ [num], out := (((y.blanks s).needs s 123).fault 4 (y.blanks s).i).out ++ [{ kind := 91, text := t, at_ := x.i }] } else { (y.blanks s).needs s 123 with opens := ((y.blanks s).needs s 123).opens ++ [num], out := ((y.blanks s).needs s 123).out ++ [{ kind := 91, text := t, at_ := x.i }] }) = Y) := by
        show _ = _
        rw [← HYe.out, ← hno]
        unfold Dk.Sc.opened
        simp only
        split <;> rfl
      rw [hno] at q4
      have hwo : IntKind.i64.wrap ((x.opens.length : Int) + 2) = (x.opens.length : Int) + 2 := by rw [IntKind.wrap_i64]; omega
      obtain ⟨i1, hi0, hz0, hz1, hz2⟩ := info_parts info_bool
      have HI1 : Hid (Tryz.prog.info? 4 = some i1 ∧ i1.zero = some (.bool false) ∧ i1.size = 1 ∧ i1.bytes = 1) := ⟨hi0, hz0, hz1, hz2⟩
      obtain ⟨i2, hi0, hz0, hz1, hz2⟩ := info_parts info_mark
      have HI2 : Hid (Tryz.prog.info? 130 = some i2 ∧ i2.zero = some (.agg #[.int .u8 0, .string ⟨#[]⟩, .string ⟨#[]⟩, .string ⟨#[]⟩, .string ⟨#[]⟩, .int .i64 0]) ∧ i2.size = 6 ∧ i2.bytes = 80) := ⟨hi0, hz0, hz1, hz2⟩
      clear hi0 hz0 hz1 hz2 HYe hb3 hb4 hbd hyo hyout bi1 bi2 bi3 ni1 ni2 ni3
      generalize (y.blanks s).needs s 123 = z at *
      generalize (y.blanks s).i = yi at *
      by_cases hd : 6 < x.opens.length + 2
      · have hd' : (6 : Int) < (x.opens.length : Int) + 2 := by omega
        have kf := kfault_any (ms := [(w.heap.size, brCells t x.i)]) w4 B b s z 4 yi hs4
        obtain ⟨fi1, fi2, fi3⟩ := fault_i z 4 yi
        have HYg : Hid ({ z.fault 4 yi with opens := (z.fault 4 yi).opens ++ [num], out := (z.fault 4 yi).out ++ [{ kind := 91, text := t, at_ := x.i }] } = Y) := by show _ = _; rw [← HYf.out, if_pos hd]
        have hno2 : (z.fault 4 yi).opens.length = x.opens.length := by rw [fi2, hno]
        have hnu2 : (z.fault 4 yi).out.length = x.out.length := by rw [fi3, hnu]
        clear HYf hs4 fi1 fi2 fi3 hno hnu
        go_wp2_with fail
        refine kf.mono ?_
        rintro e w5 ⟨rfl, hs5, hb5⟩
        have hB5 := hs5.base
        have hb5' : Below B w w5 := hb4'.trans hb5
        clear kf q4 f4 hb5 hb4'
        generalize z.fault 4 yi = z5 at *
        obtain ⟨ov, pv, h1, h2, h3, h4, h5, h6, h7, h8⟩ := id hs5
        have q5 := h1.2.1
        have f5 := h1.2.2
        obtain ⟨oa, on, oc, rfl⟩ := owns_form h3
        obtain ⟨pa, pn, pc, rfl⟩ := owns_form h4
        have HP : Hid (∀ w2 v' o, w2.ownsRow B 4 1 v' ((z5).opens.length + 1) ((z5).opens.map .bool ++ [.bool num]) → (w5.alloc o).grownBy w2 (Value.slice pa pn pc).ownBlock → (v'.ownBlock = (Value.slice pa pn pc).ownBlock ∨ v'.ownBlock = some (w5.heap.size + 1)) → Row w2 b #[.string ⟨s.toArray⟩, .int .i64 (z5).i, .slice oa on oc, .slice pa pn pc, .int .i64 (z5).err, .int .i64 (z5).place] ∧ ScanAt [(w.heap.size, brCells t x.i)] (w2.setCell ⟨b, 3, none⟩ v') B b s { (z5) with opens := (z5).opens ++ [num] } ∧ Below B w5 (w2.setCell ⟨b, 3, none⟩ v')) := fun w2 v' o a1 a2 a3 => ⟨(h1.alloc o).grown a2 h6, ScanAt.push h1 h2 h4 h5 h6 h7 h3 h8 a1 a2 (by simpa using a3)⟩
        clear h1 h5 h6 h7 h8 h3 hs5
        go_wp2_with (at_builtin; refine wpList_append_own_at _ rfl _ _ 128 rfl B 4 i1 (.bool false) 1 1 Tryz.underlying128 HI1.out.1 HI1.out.2.1 HI1.out.2.2.1 HI1.out.2.2.2 rfl (by decide) _ (z5).opens.length ((z5).opens.map .bool) rfl (World.ownsRow.alloc h4 _) ⟨w5.heap.size, 0, none⟩ 1 1 [.bool num] rfl rfl (by
            intro j u hj
            match j, hj with
            | 0, hj => simp at hj; subst hj; simp [Addr.add]) (by intro u hu; simp at hu; subst hu; rfl) (by unfold maxLen; omega) (by omega) (by have := hB5; simp; omega) ?_)
        intro v' w6 hown' hgrow _ hat
        obtain ⟨r6, g1, g2⟩ := HP.out w6 v' _ (by rw [hno2]; exact hown') hgrow hat
        obtain ⟨va, vn, vc, rfl⟩ := owns_form hown'
        have q6 := r6.2.1
        have f6 := r6.2.2
        clear hown' hgrow hat HP q5 f5 h4 r6
        have hb7' : Below B w _ := hb5'.trans g2
        go_wp2
        generalize w6.setCell ⟨b, 3, none⟩ (.slice va vn vc) = w7 at *
        obtain ⟨ov2, pv2, k1, k2, k3, k4, k5, k6, k7, k8⟩ := g1
        have q7 := k1.2.1
        have f7 := k1.2.2
        have m7 := (k8 (w.heap.size, brCells t x.i) (by simp)).1.2.1
        obtain ⟨oa2, on2, oc2, rfl⟩ := owns_form k3
        have hB7 : B ≤ w7.heap.size := by have := k1.1; omega
        have qA := fun j => (World.cell?_alloc_lt w7 (.cells #[.int .u8 91, .string ⟨t.toArray⟩, .string ⟨#[]⟩, .string ⟨#[]⟩, .string ⟨#[]⟩, .int .i64 x.i] 130) ⟨b, j, none⟩ k1.1).trans (q7 j)
        have HP2 : Hid (∀ w8 v' o, w8.ownsRow B 130 6 v' (z5.out.length + 1) (marksCells z5.out ++ mCells { kind := 91, text := t, at_ := x.i }) → (w7.alloc o).grownBy w8 (Value.slice oa2 on2 oc2).ownBlock → (v'.ownBlock = (Value.slice oa2 on2 oc2).ownBlock ∨ v'.ownBlock = some (w7.heap.size + 1)) → Row w8 b #[.string ⟨s.toArray⟩, .int .i64 z5.i, .slice oa2 on2 oc2, pv2, .int .i64 z5.err, .int .i64 z5.place] ∧ ScanAt [] (w8.setCell ⟨b, 2, none⟩ v') B b s Y ∧ Below B w (w8.setCell ⟨b, 2, none⟩ v')) := by
          intro w8 v' o a1 a2 a3
          obtain ⟨p1, p2⟩ := ScanAt.put (x := { z5 with opens := z5.opens ++ [num] }) (m := { kind := 91, text := t, at_ := x.i }) k1 k2 k4 k5 k6 k7 k3 k8 a1 a2 (by simpa using a3)
          refine ⟨(k1.alloc o).grown a2 k5, ?_, hb7'.trans p2⟩
          rw [← HYg.out]
          exact p1.unbox
        have k3' : w7.ownsRow B 130 6 (.slice oa2 on2 oc2) z5.out.length (marksCells z5.out) := k3
        clear k1 k4 k5 k6 k7 k8 k3 q6 f6
        unfold brCells at m7
        go_region_law (refine step_append_at rfl (.tmp 106) (.tmp 108) 92 rfl B 130 i2 (.agg #[.int .u8 0, .string ⟨#[]⟩, .string ⟨#[]⟩, .string ⟨#[]⟩, .string ⟨#[]⟩, .int .i64 0]) 6 80 Tryz.underlying92 HI2.out.1 HI2.out.2.1 HI2.out.2.2.1 HI2.out.2.2.2 rfl (by decide) (.slice oa2 on2 oc2) z5.out.length (marksCells z5.out) (by simp [Act.eval]) (by first | exact World.ownsRow.alloc k3' _ | exact World.ownsRow.alloc (World.ownsRow.drew k3') _) ⟨w7.heap.size, 0, none⟩ 1 1 (mCells { kind := 91, text := t, at_ := x.i }) (by simp [Act.eval]) rfl (by first | exact mcells_at { kind := 91, text := t, at_ := x.i } w7 _ | exact mcells_at { kind := 91, text := t, at_ := x.i } w7.drew _) (mcells_one _) (by unfold maxLen; omega) (by omega) (by simp; omega) ?_; intro v8 w8 hown8 hgrow8 hat8; obtain ⟨r8, e8, b8⟩ := HP2.out w8 v8 (.cells #[.int .u8 91, .string ⟨t.toArray⟩, .string ⟨#[]⟩, .string ⟨#[]⟩, .string ⟨#[]⟩, .int .i64 x.i] 130) hown8 ⟨hgrow8.os, hgrow8.tape, hgrow8.output, hgrow8.size, hgrow8.block⟩ (by simpa using hat8); obtain ⟨va8, vn8, vc8, rfl⟩ := owns_form hown8; have q8 := r8.2.1; have f8 := r8.2.2; clear hown8 hgrow8 hat8 r8)
        all_goals go_end0
        all_goals exact ⟨rfl, e8, b8⟩
      · have hd' : ¬ (6 : Int) < (x.opens.length : Int) + 2 := by omega
        have HYg : Hid ({ z with opens := z.opens ++ [num], out := z.out ++ [{ kind := 91, text := t, at_ := x.i }] } = Y) := by show _ = _; rw [← HYf.out, if_neg hd]
        have hno2 := hno
        have hnu2 := hnu
        have hB5 := hs4.base
        have hb4x := hb4'
        go_upto_region 16 with fail
        clear HYf q4 f4 hno hnu hb4'
        obtain ⟨ov, pv, h1, h2, h3, h4, h5, h6, h7, h8⟩ := id hs4
        have q5 := h1.2.1
        have f5 := h1.2.2
        obtain ⟨oa, on, oc, rfl⟩ := owns_form h3
        obtain ⟨pa, pn, pc, rfl⟩ := owns_form h4
        have HP : Hid (∀ w2 v' o, w2.ownsRow B 4 1 v' ((z).opens.length + 1) ((z).opens.map .bool ++ [.bool num]) → (w4.alloc o).grownBy w2 (Value.slice pa pn pc).ownBlock → (v'.ownBlock = (Value.slice pa pn pc).ownBlock ∨ v'.ownBlock = some (w4.heap.size + 1)) → Row w2 b #[.string ⟨s.toArray⟩, .int .i64 (z).i, .slice oa on oc, .slice pa pn pc, .int .i64 (z).err, .int .i64 (z).place] ∧ ScanAt [(w.heap.size, brCells t x.i)] (w2.setCell ⟨b, 3, none⟩ v') B b s { (z) with opens := (z).opens ++ [num] } ∧ Below B w4 (w2.setCell ⟨b, 3, none⟩ v')) := fun w2 v' o a1 a2 a3 => ⟨(h1.alloc o).grown a2 h6, ScanAt.push h1 h2 h4 h5 h6 h7 h3 h8 a1 a2 (by simpa using a3)⟩
        clear h1 h5 h6 h7 h8 h3 hs4
        go_wp2_with (at_builtin; refine wpList_append_own_at _ rfl _ _ 128 rfl B 4 i1 (.bool false) 1 1 Tryz.underlying128 HI1.out.1 HI1.out.2.1 HI1.out.2.2.1 HI1.out.2.2.2 rfl (by decide) _ (z).opens.length ((z).opens.map .bool) rfl (World.ownsRow.alloc h4 _) ⟨w4.heap.size, 0, none⟩ 1 1 [.bool num] rfl rfl (by
            intro j u hj
            match j, hj with
            | 0, hj => simp at hj; subst hj; simp [Addr.add]) (by intro u hu; simp at hu; subst hu; rfl) (by unfold maxLen; omega) (by omega) (by have := hB5; simp; omega) ?_)
        intro v' w6 hown' hgrow _ hat
        obtain ⟨r6, g1, g2⟩ := HP.out w6 v' _ (by rw [hno2]; exact hown') hgrow hat
        obtain ⟨va, vn, vc, rfl⟩ := owns_form hown'
        have q6 := r6.2.1
        have f6 := r6.2.2
        clear hown' hgrow hat HP q5 f5 h4 r6
        have hb7' : Below B w _ := hb4x.trans g2
        go_wp2
        generalize w6.setCell ⟨b, 3, none⟩ (.slice va vn vc) = w7 at *
        obtain ⟨ov2, pv2, k1, k2, k3, k4, k5, k6, k7, k8⟩ := g1
        have q7 := k1.2.1
        have f7 := k1.2.2
        have m7 := (k8 (w.heap.size, brCells t x.i) (by simp)).1.2.1
        obtain ⟨oa2, on2, oc2, rfl⟩ := owns_form k3
        have hB7 : B ≤ w7.heap.size := by have := k1.1; omega
        have qA := fun j => (World.cell?_alloc_lt w7 (.cells #[.int .u8 91, .string ⟨t.toArray⟩, .string ⟨#[]⟩, .string ⟨#[]⟩, .string ⟨#[]⟩, .int .i64 x.i] 130) ⟨b, j, none⟩ k1.1).trans (q7 j)
        have HP2 : Hid (∀ w8 v' o, w8.ownsRow B 130 6 v' (z.out.length + 1) (marksCells z.out ++ mCells { kind := 91, text := t, at_ := x.i }) → (w7.alloc o).grownBy w8 (Value.slice oa2 on2 oc2).ownBlock → (v'.ownBlock = (Value.slice oa2 on2 oc2).ownBlock ∨ v'.ownBlock = some (w7.heap.size + 1)) → Row w8 b #[.string ⟨s.toArray⟩, .int .i64 z.i, .slice oa2 on2 oc2, pv2, .int .i64 z.err, .int .i64 z.place] ∧ ScanAt [] (w8.setCell ⟨b, 2, none⟩ v') B b s Y ∧ Below B w (w8.setCell ⟨b, 2, none⟩ v')) := by
          intro w8 v' o a1 a2 a3
          obtain ⟨p1, p2⟩ := ScanAt.put (x := { z with opens := z.opens ++ [num] }) (m := { kind := 91, text := t, at_ := x.i }) k1 k2 k4 k5 k6 k7 k3 k8 a1 a2 (by simpa using a3)
          refine ⟨(k1.alloc o).grown a2 k5, ?_, hb7'.trans p2⟩
          rw [← HYg.out]
          exact p1.unbox
        have k3' : w7.ownsRow B 130 6 (.slice oa2 on2 oc2) z.out.length (marksCells z.out) := k3
        clear k1 k4 k5 k6 k7 k8 k3 q6 f6
        unfold brCells at m7
        go_region_law (refine step_append_at rfl (.tmp 106) (.tmp 108) 92 rfl B 130 i2 (.agg #[.int .u8 0, .string ⟨#[]⟩, .string ⟨#[]⟩, .string ⟨#[]⟩, .string ⟨#[]⟩, .int .i64 0]) 6 80 Tryz.underlying92 HI2.out.1 HI2.out.2.1 HI2.out.2.2.1 HI2.out.2.2.2 rfl (by decide) (.slice oa2 on2 oc2) z.out.length (marksCells z.out) (by simp [Act.eval]) (by first | exact World.ownsRow.alloc k3' _ | exact World.ownsRow.alloc (World.ownsRow.drew k3') _) ⟨w7.heap.size, 0, none⟩ 1 1 (mCells { kind := 91, text := t, at_ := x.i }) (by simp [Act.eval]) rfl (by first | exact mcells_at { kind := 91, text := t, at_ := x.i } w7 _ | exact mcells_at { kind := 91, text := t, at_ := x.i } w7.drew _) (mcells_one _) (by unfold maxLen; omega) (by omega) (by simp; omega) ?_; intro v8 w8 hown8 hgrow8 hat8; obtain ⟨r8, e8, b8⟩ := HP2.out w8 v8 (.cells #[.int .u8 91, .string ⟨t.toArray⟩, .string ⟨#[]⟩, .string ⟨#[]⟩, .string ⟨#[]⟩, .int .i64 x.i] 130) hown8 ⟨hgrow8.os, hgrow8.tape, hgrow8.output, hgrow8.size, hgrow8.block⟩ (by simpa using hat8); obtain ⟨va8, vn8, vc8, rfl⟩ := owns_form hown8; have q8 := r8.2.1; have f8 := r8.2.2; clear hown8 hgrow8 hat8 r8)
        all_goals go_end0
        all_goals exact ⟨rfl, e8, b8⟩
end Go.Proofs.YtaepcfidpekflaaGreatDoor
