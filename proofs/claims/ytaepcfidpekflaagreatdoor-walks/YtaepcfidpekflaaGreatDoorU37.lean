/-
  Several texts in one (Km, Ss, Kn). By the verifier.
-/
import Derived.Test.YtaepcfidpekflaaGreatDoorU36
import Derived.Test.YtaepcfidpekflaaGreatDoorU15
import Derived.Test.YtaepcfidpekflaaGreatDoorU05
namespace Go.Proofs.YtaepcfidpekflaaGreatDoor
open Go.RowKit

set_option maxHeartbeats 400000 in
theorem kbranch_any (w : World) (B b : Nat) (s : Pr.T) (x : Dk.Sc) (num : Bool) (hx : ScanAt [] w B b s x) (hs : s.length ≤ 100000) (hi : x.i ≤ s.length) (ho : x.out.length ≤ 100000) (hop : x.opens.length ≤ 100000) :
    Calls Tryz.prog 175 #[.pointer (some ⟨b, 0, none⟩), .bool num] w fun en w' => en = .returned (.tuple #[]) ∧ ScanAt [] w' B b s (x.branch s num) ∧ Below B w w' := by
  by_cases he : x.err = 0
  · exact kbranch_go w B b s x num hx hs hi ho hop he
  · have e : x.branch s num = x := by unfold Dk.Sc.branch; rw [if_pos he]
    rw [e]
    obtain ⟨a1, n1, c1, a2, c2, q0, f0⟩ := hx.cells
    have HX : Hid (ScanAt [] w B b s x) := hx
    have he' : ((x.err : Int) != 0) = true := by rw [bne_iff_ne]; omega
    clear hx e
    go_enter Tryz.func175, Tryz.ntmps175
    go_wp2
    refine bodyPost_ret (results_none rfl _ _ _) rfl ?_
    exact ⟨rfl, HX.out, Below.refl _ _⟩
theorem ownsRow_pop {w : World} {base g cap n : Nat} {e : TypeId} {xs : List Value} {u : Value} (h : w.ownsRow base e 1 (.slice (some ⟨g, 0, none⟩) (n + 1) cap) (n + 1) (xs ++ [u])) : w.ownsRow base e 1 (.slice (some ⟨g, 0, none⟩) n cap) n xs := by
  have hl : xs.length = n := by have := h.1; simp at this; omega
  rcases h.2 with ⟨h', _⟩ | ⟨g', cap', cur, h', hb, hg, hnc, hcm, hcs, htake⟩
  · simp at h'
  · simp only [Value.slice.injEq, Option.some.injEq, Addr.mk.injEq, and_true, true_and] at h'
    obtain ⟨rfl, rfl⟩ := h'
    refine ⟨by simpa using hl, .inr ⟨g, cap, cur, rfl, hb, hg, by omega, hcm, hcs, ?_⟩⟩
    have := congrArg (List.take n) htake
    rw [List.take_take, Nat.min_eq_left (by omega), List.take_left' hl] at this
    rw [Nat.mul_one]
    exact this
theorem ScanAt.pop {w W : World} {B b g cap : Nat} {s : Pr.T} {x : Dk.Sc} {ov : Value} {l : List Bool} {c : Bool} (hW : Below w.heap.size w W) (hx : x.opens = l ++ [c])
    (h1 : Row w b #[.string ⟨s.toArray⟩, .int .i64 x.i, ov, .slice (some ⟨g, 0, none⟩) (l.length + 1) cap, .int .i64 x.err, .int .i64 x.place]) (h2 : B ≤ b) (h3 : w.ownsRow B 130 6 ov x.out.length (marksCells x.out)) (h4 : w.ownsRow B 4 1 (.slice (some ⟨g, 0, none⟩) (l.length + 1) cap) (l.length + 1) (x.opens.map .bool))
    (h5 : ov.ownBlock ≠ some b) (h6 : g ≠ b) (h7 : ov.ownBlock ≠ some g) :
    ScanAt [] (W.setCell ⟨b, 3, none⟩ (.slice (some ⟨g, 0, none⟩) l.length cap)) B b s { x with opens := l } ∧ Below B w (W.setCell ⟨b, 3, none⟩ (.slice (some ⟨g, 0, none⟩) l.length cap)) := by
  have kp : ∀ {e : TypeId} {z n : Nat} {v : Value} {xs : List Value}, w.ownsRow B e z v n xs → W.ownsRow B e z v n xs := fun {e z n v xs} h => by
    refine World.ownsRow.kept (row := none) h ⟨hW.os, hW.tape, hW.output, hW.size, fun k hk _ => hW.block k hk⟩ ?_
    cases e : v.ownBlock with
    | none => exact .inl rfl
    | some _ => exact .inr (by simp)
  rw [hx, List.map_append] at h4
  have hp := ownsRow_pop (kp h4)
  have hgb : (Value.slice (some ⟨g, 0, none⟩) l.length cap).ownBlock ≠ some b := by show some g ≠ some b; simpa using h6
  refine ⟨⟨ov, .slice (some ⟨g, 0, none⟩) l.length cap, (h1.keep hW).setC 3 _ (by simp), h2, ownsRow_setCell_other (kp h3) h5 _, ownsRow_setCell_other hp hgb _, h5, hgb, ?_, fun q hq => by cases hq⟩, ?_⟩
  · intro g' hg' e
    have : g' = g := by simpa [Value.ownBlock] using e.symm
    rw [this] at hg'
    exact h7 hg'
  · exact (hW.mono (by have := h1.1; omega)).setCell (p := ⟨b, 3, none⟩) h2 _
set_option maxHeartbeats 3200000 in
set_option maxRecDepth 100000 in
theorem kbehind_any (w : World) (B b : Nat) (s : Pr.T) (x : Dk.Sc) (l : List Bool) (c : Bool) (hx : ScanAt [] w B b s x) (hs : s.length ≤ 100000) (hi : x.i ≤ s.length) (ho : x.out.length ≤ 90000) (hop : x.opens.length ≤ 100000) (hl : x.opens = l ++ [c]) :
    Calls Tryz.prog 138 #[.pointer (some ⟨b, 0, none⟩)] w fun en w' => en = .returned (.tuple #[]) ∧ ScanAt [] w' B b s (x.behind s) ∧ Below B w w' := by
  have hB := hx.base
  obtain ⟨Y, hY⟩ : ∃ Y, Hid (x.behind s = Y) := ⟨_, rfl⟩
  rw [hY.out]
  have kb := kbyNumber_any (ms := []) w B b s x hx (by omega)
  have hbn : x.byNumber = c := by rw [Dk.Sc.byNumber, hl]; simp
  rw [hbn] at kb
  have hlen : x.opens.length = l.length + 1 := by rw [hl]; simp
  obtain ⟨ov, pv, h1, h2, h3, h4, h5, h6, h7, h8⟩ := hx
  obtain ⟨g, cap, rfl⟩ : ∃ g cap, pv = .slice (some ⟨g, 0, none⟩) (l.length + 1) cap := by
    rcases h4.2 with ⟨_, hz⟩ | ⟨g, cap, cur, rfl, _⟩
    · omega
    · exact ⟨g, cap, by rw [hlen]⟩
  rw [hlen] at h4
  obtain ⟨oa, on, oc, rfl⟩ := owns_form h3
  have HP : Hid (∀ W, Below w.heap.size w W → ScanAt [] (W.setCell ⟨b, 3, none⟩ (.slice (some ⟨g, 0, none⟩) l.length cap)) B b s { x with opens := l } ∧ Below B w (W.setCell ⟨b, 3, none⟩ (.slice (some ⟨g, 0, none⟩) l.length cap))) := fun W hW => ScanAt.pop hW hl h1 h2 h3 h4 h5 (fun e => h6 (by rw [e]; rfl)) (fun e => h7 g e rfl)
  have R1 : Hid (Row w b #[.string ⟨s.toArray⟩, .int .i64 x.i, .slice oa on oc, .slice (some ⟨g, 0, none⟩) (l.length + 1) cap, .int .i64 x.err, .int .i64 x.place]) := h1
  have hcl : l.length + 1 ≤ cap := by
    rcases h4.2 with ⟨h', _⟩ | ⟨g', cap', cur, h', hb, hg, hnc, _⟩
    · simp at h'
    · simp only [Value.slice.injEq, Option.some.injEq, Addr.mk.injEq, and_true, true_and] at h'
      obtain ⟨rfl, rfl⟩ := h'
      exact hnc
  have hw2 : IntKind.i64.wrap ((l.length : Int) + 1 - 1) = l.length := by rw [IntKind.wrap_i64]; omega
  have hw3 : IntKind.i64.wrap (l.length : Int) = l.length := by rw [IntKind.wrap_i64]; omega
  have hlc : (l.length : Int) ≤ cap := by omega
  clear h1 h2 h3 h4 h5 h6 h7 h8
  go_enter Tryz.func138, Tryz.ntmps138
  go_wp2_with fail
  refine kb.mono ?_
  rintro e w1 ⟨rfl, hb1⟩
  clear kb
  have r1 := R1.out.keep hb1
  have q1 := r1.2.1
  have f1 := r1.2.2
  clear r1
  go_upto_region 1 with fail
  go_cut [2] (fun z wd => z = .bool c ∧ ScanAt [] wd B b s { x with opens := l } ∧ Below B w wd)
  case first =>
    go_region_with (fail)
    all_goals go_wp2
    all_goals go_meet
    all_goals
      obtain ⟨z1, z2⟩ := HP.out w1 hb1
      first
      | exact ⟨rfl, z1.keep (Below.refl _ _).drew, z2.drew⟩
      | exact ⟨rfl, z1, z2⟩
  case rest =>
    obtain ⟨rfl, hx2, hb2⟩ := hcut
    have HY : Hid ((if s[(Dk.Sc.blanks s { x with opens := l }).i]? = some 125 then ((Dk.Sc.blanks s { x with opens := l }).put { kind := 41, at_ := (Dk.Sc.blanks s { x with opens := l }).i }).go 1 else (Dk.Sc.blanks s { x with opens := l }).branch s c) = Y) := by
      show _ = _
      rw [← hY.out]
      unfold Dk.Sc.behind
      rw [hbn, hl]
      simp
    have kl := kblanks_any (ms := []) wc B b s { x with opens := l } hx2 (by omega) hi
    obtain ⟨bi1, bi2, bi3⟩ := blanks_i s { x with opens := l } hi
    simp only at bi2 bi3
    clear HP R1 hx2 hY hbn q1 f1
    generalize Dk.Sc.blanks s { x with opens := l } = y at *
    go_wp2_with fail
    refine kl.mono ?_
    rintro e w3 ⟨rfl, hs3, hb3⟩
    clear kl
    have hb3' : Below B w w3 := hb2.trans hb3
    have hB3 := hs3.base
    obtain ⟨a7, n7, c7, a8, c8, q3, f3⟩ := hs3.cells
    have HS3 : Hid (ScanAt [] w3 B b s y) := hs3
    clear hs3
    have hbr := fun W (h : Below w3.heap.size w3 W) => kbranch_any W B b s y c (HS3.out.keep h) hs bi1 (by rw [bi3]; omega) (by rw [bi2]; omega)
    cases hd : s.drop y.i with
    | nil =>
      have hge : s.length ≤ y.i := List.drop_eq_nil_iff.1 hd
      have hkn : ¬ y.i < s.length := by omega
      have hk' : ((y.i : Int) < s.length) = False := eq_false (by omega)
      have hF : Hid (y.branch s c = Y) := by show _ = _; rw [← HY.out, if_neg (by rw [List.getElem?_eq_none hge]; simp)]
      clear HY hd
      go_wp2
      go_quiet (fail)
      go_wp2_with (go_at_call 175; refine (hbr _ (drewB _ _)).mono ?_; rintro e w4 ⟨rfl, hs4, hb4⟩)
      go_end0
      exact ⟨rfl, by rw [← hF.out]; exact hs4, hb3'.trans (below_to hB3.2 (drewB _ _) hb4)⟩
    | cons d r =>
      obtain ⟨hkl, _, hgc⟩ := at_drop hd
      have hkl' : (y.i : Int) < s.length := by omega
      have hg : s[y.i]? = some d := by
        have := congrArg List.head? hd
        rw [List.head?_drop] at this
        simpa using this
      by_cases hc : d = 125
      · have hc' : ((d.toNat : Int) == 125) = true := by rw [hc]; rfl
        have hF : Hid ((y.put { kind := 41, at_ := y.i }).go 1 = Y) := by show _ = _; rw [← HY.out, if_pos (by rw [hg, hc])]
        clear HY hd hg hc hbr
        go_wp2
        go_quiet (fail)
        go_wp2
        have hs7 := HS3.out.keep (drewB w3 nq)
        have hb7 := hb3'.trans (below_to hB3.2 (drewB w3 nq) (Below.refl _ _))
        generalize w3.drewN nq = w7 at *
        obtain ⟨i2, hi0, hz0, hz1, hz2⟩ := info_parts info_mark
        have HI2 : Hid (Tryz.prog.info? 130 = some i2 ∧ i2.zero = some (.agg #[.int .u8 0, .string ⟨#[]⟩, .string ⟨#[]⟩, .string ⟨#[]⟩, .string ⟨#[]⟩, .int .i64 0]) ∧ i2.size = 6 ∧ i2.bytes = 80) := ⟨hi0, hz0, hz1, hz2⟩
        clear hi0 hz0 hz1 hz2 q3 f3 HS3
        obtain ⟨ov2, pv2, k1, k2, k3, k4, k5, k6, k7, k8⟩ := hs7
        have q7 := k1.2.1
        have f7 := k1.2.2
        obtain ⟨oa2, on2, oc2, rfl⟩ := owns_form k3
        obtain ⟨pa2, pn2, pc2, rfl⟩ := owns_form k4
        have hB7 : B ≤ w7.heap.size := by have := k1.1; omega
        have hyo : y.out.length ≤ 90000 := by rw [bi3]; omega
        have qA := fun j => (World.cell?_alloc_lt w7 (.cells #[.int .u8 41, .string ⟨#[]⟩, .string ⟨#[]⟩, .string ⟨#[]⟩, .string ⟨#[]⟩, .int .i64 y.i] 130) ⟨b, j, none⟩ k1.1).trans (q7 j)
        have HP2 : Hid (∀ w8 v' o, w8.ownsRow B 130 6 v' (y.out.length + 1) (marksCells y.out ++ mCells { kind := 41, at_ := y.i }) → (w7.alloc o).grownBy w8 (Value.slice oa2 on2 oc2).ownBlock → (v'.ownBlock = (Value.slice oa2 on2 oc2).ownBlock ∨ v'.ownBlock = some (w7.heap.size + 1)) → Row w8 b #[.string ⟨s.toArray⟩, .int .i64 y.i, .slice oa2 on2 oc2, .slice pa2 pn2 pc2, .int .i64 y.err, .int .i64 y.place] ∧ ScanAt [] (w8.setCell ⟨b, 2, none⟩ v') B b s (y.put { kind := 41, at_ := y.i }) ∧ Below B w (w8.setCell ⟨b, 2, none⟩ v')) := by
          intro w8 v' o a1 a2 a3
          obtain ⟨p1, p2⟩ := ScanAt.put (m := { kind := 41, at_ := y.i }) k1 k2 k4 k5 k6 k7 k3 k8 a1 a2 (by simpa using a3)
          exact ⟨(k1.alloc o).grown a2 k5, p1, hb7.trans p2⟩
        have k3' : w7.ownsRow B 130 6 (.slice oa2 on2 oc2) y.out.length (marksCells y.out) := k3
        have hwi : IntKind.i64.wrap ((y.i : Int) + 1) = ((y.i + 1 : Nat) : Int) := by rw [IntKind.wrap_i64]; omega
        clear k1 k4 k5 k6 k7 k8 k3
        go_region_law (refine step_append_at rfl (.tmp 47) (.tmp 53) 92 rfl B 130 i2 (.agg #[.int .u8 0, .string ⟨#[]⟩, .string ⟨#[]⟩, .string ⟨#[]⟩, .string ⟨#[]⟩, .int .i64 0]) 6 80 Tryz.underlying92 HI2.out.1 HI2.out.2.1 HI2.out.2.2.1 HI2.out.2.2.2 rfl (by decide) (.slice oa2 on2 oc2) y.out.length (marksCells y.out) (by simp [Act.eval]) (by first | exact World.ownsRow.alloc k3' _ | exact World.ownsRow.alloc (World.ownsRow.drew k3') _) ⟨w7.heap.size, 0, none⟩ 1 1 (mCells { kind := 41, at_ := y.i }) (by simp [Act.eval]) rfl (by first | exact mcells_at { kind := 41, at_ := y.i } w7 _ | exact mcells_at { kind := 41, at_ := y.i } w7.drew _) (mcells_one _) (by unfold maxLen; omega) (by omega) (by simp; omega) ?_; intro v8 w8 hown8 hgrow8 hat8; obtain ⟨r8, e8, b8⟩ := HP2.out w8 v8 (.cells #[.int .u8 41, .string ⟨#[]⟩, .string ⟨#[]⟩, .string ⟨#[]⟩, .string ⟨#[]⟩, .int .i64 y.i] 130) hown8 ⟨hgrow8.os, hgrow8.tape, hgrow8.output, hgrow8.size, hgrow8.block⟩ (by simpa using hat8); obtain ⟨va8, vn8, vc8, rfl⟩ := owns_form hown8; have q8 := r8.2.1; have f8 := r8.2.2; clear hown8 hgrow8 hat8 r8)
        all_goals
          generalize w8.setCell ⟨b, 2, none⟩ (.slice va8 vn8 vc8) = w9 at *
          obtain ⟨a5, n5, c5, a6, c6, q9, f9⟩ := e8.cells
          have HZ : Hid (ScanAt [] (w9.setCell ⟨b, 1, none⟩ (.int .i64 ((y.i + 1 : Nat) : Int))) B b s Y ∧ Below B w (w9.setCell ⟨b, 1, none⟩ (.int .i64 ((y.i + 1 : Nat) : Int)))) := ⟨by rw [← hF.out]; exact e8.setI (y.i + 1), b8.setCell (p := ⟨b, 1, none⟩) hB3.1 _⟩
          simp only [Dk.Sc.put] at q9
          clear e8 b8 q8 f8 q7 f7 qA HP2
          go_wp2
          refine bodyPost_ret (results_none rfl _ _ _) rfl ?_
          exact ⟨rfl, HZ.out⟩
      · have hc' : ((d.toNat : Int) == 125) = false := byte_ne (n := 125) (by decide) hc
        have hF : Hid (y.branch s c = Y) := by show _ = _; rw [← HY.out, if_neg (by rw [hg]; simpa using hc)]
        clear HY hd hg hc
        go_wp2
        go_quiet (fail)
        go_wp2_with (go_at_call 175; refine (hbr _ (drewB _ _)).mono ?_; rintro e w4 ⟨rfl, hs4, hb4⟩)
        go_end0
        exact ⟨rfl, by rw [← hF.out]; exact hs4, hb3'.trans (below_to hB3.2 (drewB _ _) hb4)⟩
end Go.Proofs.YtaepcfidpekflaaGreatDoor
namespace Go.Proofs.YtaepcfidpekflaaGreatDoor
open Go.RowKit

theorem ret_cut39 {l a b : List UInt8} {s t : ByteArray} {p q : Bool} (h : Lib.cut l [39] = (a, b, p)) (hs : s = ⟨a.toArray⟩) (ht : t = ⟨b.toArray⟩) (hq : q = p) :
    Ending.returned (.tuple #[.string s, .string t, .bool q]) = .returned (.tuple #[.string ⟨(Lib.cut l [39]).1.toArray⟩, .string ⟨(Lib.cut l [39]).2.1.toArray⟩, .bool (Lib.cut l [39]).2.2]) := by
  rw [h, hs, ht, hq]

set_option maxHeartbeats 400000 in
theorem rcut_quote (s : ByteArray) (w : World) (hs : s.size ≤ 1000000) :
    Calls Tryz.prog 49 #[.string s, .int .u8 39] w fun e w' => e = .returned (.tuple #[.string ⟨(Lib.cut s.data.toList [39]).1.toArray⟩, .string ⟨(Lib.cut s.data.toList [39]).2.1.toArray⟩, .bool (Lib.cut s.data.toList [39]).2.2]) ∧ Below w.heap.size w w' := by
  go_enter Tryz.func49, Tryz.ntmps49
  go_wp2
  go_loop [7] (fun t => ∃ k : Nat, k ≤ s.size ∧ t = .int .i64 k ∧ Hid (∀ j (hj : j < s.data.toList.length), j < k → s.data.toList[j] ≠ 39)) (fun t => s.size - (intOf t).toNat)
  case atStart => exact ⟨0, Nat.zero_le _, rfl, fun j _ h => by omega⟩
  case round =>
    obtain ⟨k, hk, rfl, HK⟩ := hrel
    by_cases hlt : k < s.size
    · have hlt' : k < s.data.toList.length := by rw [← Lib.size_eq]; exact hlt
      have hgk : s.data.toList[k] = s[k] := rfl
      by_cases hc : s[k].toNat = 39
      · have hc' : ((s[k].toNat : Int) == 39) = true := by simp; omega
        have HX : Hid (Lib.cut s.data.toList [39] = (s.data.toList.take k, s.data.toList.drop (k + 1), true)) := cut_at39 _ k hlt' HK.out (by rw [hgk]; exact UInt8.toNat_inj.1 hc)
        clear hc hgk
        go_wp2
        go_quiet (fail)
        go_wp2
        go_ret3
        exact ⟨ret_cut39 HX.out (by rw [Lib.extract_upto]) (by rw [Lib.extract_from]) rfl, drewB _ _⟩
      · have hc' : ((s[k].toNat : Int) == 39) = false := by simp; omega
        have HK2 : Hid (∀ j (hj : j < s.data.toList.length), j < k + 1 → s.data.toList[j] ≠ 39) := by
          intro j hj h
          by_cases e : j = k
          · subst e; intro h39; rw [hgk] at h39; exact hc (by rw [h39]; rfl)
          · exact HK.out j hj (by omega)
        clear hc hgk
        go_wp2
        go_round
        case rel => exact ⟨k + 1, hlt, by go_num, HK2⟩
        case measure => simp [intOf]; omega
    · have HX : Hid (Lib.cut s.data.toList [39] = (s.data.toList, [], false)) := cut_end39 _ (fun j hj => HK.out j hj (by rw [← Lib.size_eq] at hj; omega))
      go_wp2
      go_ret3
      exact ⟨ret_cut39 HX.out (by rw [Lib.mk_data]) rfl rfl, Below.refl _ _⟩

end Go.Proofs.YtaepcfidpekflaaGreatDoor
namespace Go.Proofs.YtaepcfidpekflaaGreatDoor
open Go.RowKit

/-- So many marks, and texts so long, at most. -/
def Sized (n : Nat) (x : Dk.Sc) : Prop := x.out.length ≤ n ∧ ∀ m ∈ x.out, m.text.length ≤ n
theorem Sized.short {n : Nat} {x : Dk.Sc} (h : Sized n x) (hn : n ≤ 100000) : Short x := ⟨Nat.le_trans h.1 hn, fun m hm => by have := h.2 m hm; omega⟩
theorem Sized.mono {n k : Nat} {x : Dk.Sc} (h : Sized n x) (hn : n ≤ k) : Sized k x := ⟨Nat.le_trans h.1 hn, fun m hm => Nat.le_trans (h.2 m hm) hn⟩
theorem Sized.go {n k : Nat} {x : Dk.Sc} (h : Sized n x) : Sized n (x.go k) := h
theorem Sized.put {n : Nat} {x : Dk.Sc} {m : Dk.Mark} (h : Sized n x) (hm : m.text.length ≤ n + 1) : Sized (n + 1) (x.put m) := by
  refine ⟨by simp only [Dk.Sc.put, List.length_append, List.length_singleton]; have := h.1; omega, fun q hq => ?_⟩
  rcases List.mem_append.1 hq with hq | hq
  · have := h.2 q hq; omega
  · rw [List.mem_singleton] at hq
    rw [hq]; exact hm
theorem Sized.say {n : Nat} {x : Dk.Sc} {t : Pr.T} (h : Sized n x) : Sized (n + t.length + 1) (x.say t) := by
  unfold Dk.Sc.say
  split
  · exact h.mono (by omega)
  · rcases List.eq_nil_or_concat x.out with h0 | ⟨l, m, h0⟩
    · refine ⟨by simp [Dk.addText, h0], fun q hq => ?_⟩
      simp only [Dk.addText, h0, List.getLast?_nil, List.mem_singleton] at hq
      rw [hq]
      show t.length ≤ _
      omega
    · simp only [List.concat_eq_append] at h0
      have h1 := h.1
      have h2 := h.2
      rw [h0] at h1 h2
      simp only [List.length_append, List.length_singleton] at h1
      by_cases hk : m.kind = 116
      · have e : Dk.addText x.out t = l ++ [{ m with text := m.text ++ t }] := by rw [h0]; simp [Dk.addText, hk]
        refine ⟨by show (Dk.addText x.out t).length ≤ _; rw [e]; simp; omega, fun q hq => ?_⟩
        have hq' : q ∈ Dk.addText x.out t := hq
        rw [e] at hq'
        rcases List.mem_append.1 hq' with hq | hq
        · have := h2 q (List.mem_append_left _ hq); omega
        · rw [List.mem_singleton] at hq
          have := h2 m (by simp)
          rw [hq]
          simp
          omega
      · have e : Dk.addText x.out t = x.out ++ [{ kind := 116, text := t }] := by rw [h0]; simp [Dk.addText, hk]
        refine ⟨by show (Dk.addText x.out t).length ≤ _; rw [e, h0]; simp; omega, fun q hq => ?_⟩
        have hq' : q ∈ Dk.addText x.out t := hq
        rw [e] at hq'
        rcases List.mem_append.1 hq' with hq | hq
        · have := h.2 q hq; omega
        · rw [List.mem_singleton] at hq
          rw [hq]
          show t.length ≤ _
          omega
end Go.Proofs.YtaepcfidpekflaaGreatDoor
