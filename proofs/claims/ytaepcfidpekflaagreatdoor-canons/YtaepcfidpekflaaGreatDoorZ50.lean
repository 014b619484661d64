/-
  Several texts in one (Rd, Jq). By the verifier.
-/
import Derived.Test.YtaepcfidpekflaaGreatDoorZ49
import Derived.BigCall
import Derived.Maps.AppendAt
import Derived.Test.YtaepcfidpekflaaGreatDoorZ48
import Derived.Test.YtaepcfidpekflaaGreatDoorZ47
import Derived.Test.YtaepcfidpekflaaGreatDoorZ31
import Derived.Test.YtaepcfidpekflaaGreatDoorZ13
namespace Go.Proofs.YtaepcfidpekflaaGreatDoor
open Go.RowKit

theorem info_str : (Tryz.prog.info? 9).map (fun i => (i.zero, i.size, i.bytes)) = some (some (.string ByteArray.empty), 1, 16) := by kernel_rfl
/-- Texts as values. -/
def strs (ps : List (List UInt8)) : List Value := ps.map fun p => Value.string ⟨p.toArray⟩
theorem strs_len (ps : List (List UInt8)) : (strs ps).length = ps.length := by simp [strs]
theorem strs_cat (ps : List (List UInt8)) (p : List UInt8) : strs (ps ++ [p]) = strs ps ++ [Value.string ⟨p.toArray⟩] := by simp [strs]
theorem ext_drop (s : ByteArray) (k : Nat) : (s.extract k s.size).data.toList = s.data.toList.drop k := by rw [Lib.extract_from]
theorem ext_take (s : ByteArray) (pos z : Nat) : s.extract pos (pos + z) = ⟨((s.data.toList.drop pos).take z).toArray⟩ := by
  rw [Lib.extract_eq, show pos + z - pos = z by omega]
theorem ret_pts {v : Value} {a b : Int} (h : a = b) : Ending.returned (.tuple #[v, .int .i64 a]) = .returned (.tuple #[v, .int .i64 b]) := by rw [h]

set_option maxHeartbeats 2000000 in
theorem points_any (s : ByteArray) (w : World) (hs : s.size ≤ 100000) :
    Calls Tryz.prog 48 #[.string s] w fun e w' => ∃ ao cv, e = .returned (.tuple #[.slice ao (Pn.pts s.data.toList).length cv, .int .i64 (Pn.ptsLen s.data.toList : Nat)]) ∧ w'.ownsRow w.heap.size 9 1 (.slice ao (Pn.pts s.data.toList).length cv) (Pn.pts s.data.toList).length (strs (Pn.pts s.data.toList)) ∧ Below w.heap.size w w' := by
  obtain ⟨i0, hi, hz0, hz1, hz2⟩ := info_parts info_str
  go_enter Tryz.func48, Tryz.ntmps48
  go_wp2
  go_loopw [4, 5] (fun v i wr => ∃ (pos fuel : Nat) (ps : List (List UInt8)) (ao : Option Addr) (cv : Nat), pos ≤ s.size ∧ i = .int .i64 pos ∧ v = .slice ao ps.length cv ∧ wr.ownsRow w.heap.size 9 1 v ps.length (strs ps) ∧ Below w.heap.size w wr ∧ Hid (ps ++ Pn.ptsN fuel (s.data.toList.drop pos) = Pn.pts s.data.toList) ∧ Hid (pos + Pn.lenN fuel (s.data.toList.drop pos) = Pn.ptsLen s.data.toList) ∧ s.size ≤ pos + fuel ∧ ps.length ≤ pos)
    (fun _ i _ => s.size - (intOf i).toNat)
  case atStart => exact ⟨0, s.size, [], none, 0, Nat.zero_le _, rfl, rfl, World.ownsRow_nil _ _ _ _, Below.refl _ _, by show _ = _; rw [Lib.size_eq]; rfl, by show _ = _; rw [Lib.size_eq]; simp [Pn.ptsLen], by omega, by simp⟩
  case round =>
    obtain ⟨pos, fuel, ps, ao, cv, hpos, rfl, rfl, hown, hnx, HP, HL, hfu, hpl⟩ := hrel
    have hsize := hnx.size
    by_cases hlt : pos < s.size
    · have hne : s.data.toList.drop pos ≠ [] := by
        intro e
        have := congrArg List.length e
        rw [List.length_drop, ← Lib.size_eq] at this
        simp at this
        omega
      have hzl := Pn.szL_le (s.data.toList.drop pos) hne
      rw [List.length_drop, ← Lib.size_eq] at hzl
      obtain ⟨f, rfl⟩ : ∃ f, fuel = f + 1 := ⟨fuel - 1, by omega⟩
      have HN : Hid (s.data.toList.drop pos ≠ []) := hne
      clear hne
      go_wp2_with fail
      refine (size_any _ _ (by simp; omega) (by simp; omega)).mono ?_
      rintro e w' ⟨rfl, rfl⟩
      rw [ext_drop]
      by_cases hz : Pn.szL (s.data.toList.drop pos) = 0
      · have HP2 : Hid (ps = Pn.pts s.data.toList) := by
          show _ = _
          rw [← HP.out, Pn.ptsN, if_neg HN.out, if_pos hz, List.append_nil]
        have HL2 : Hid (pos = Pn.ptsLen s.data.toList) := by
          show _ = _
          rw [← HL.out, Pn.lenN, if_neg HN.out, if_pos hz]; rfl
        rw [hz]
        clear hz HP HL hzl
        go_wp2
        go_ret2
        refine ⟨ao, cv, ?_, ?_, hnx⟩
        · rw [← HP2.out, ← HL2.out]; rfl
        · rw [← HP2.out]; exact hown
      · have hz1' : 1 ≤ Pn.szL (s.data.toList.drop pos) := by omega
        have HP2 : Hid ((ps ++ [(s.data.toList.drop pos).take (Pn.szL (s.data.toList.drop pos))]) ++ Pn.ptsN f (s.data.toList.drop (pos + Pn.szL (s.data.toList.drop pos))) = Pn.pts s.data.toList) := by
          show _ = _
          rw [← HP.out, Pn.ptsN, if_neg HN.out, if_neg hz, List.drop_drop]
          simp
        have HL2 : Hid ((pos + Pn.szL (s.data.toList.drop pos)) + Pn.lenN f (s.data.toList.drop (pos + Pn.szL (s.data.toList.drop pos))) = Pn.ptsLen s.data.toList) := by
          show _ = _
          rw [← HL.out, Pn.lenN, if_neg HN.out, if_neg hz, List.drop_drop]
          omega
        have HX : Hid (s.extract pos (pos + Pn.szL (s.data.toList.drop pos)) = ⟨((s.data.toList.drop pos).take (Pn.szL (s.data.toList.drop pos))).toArray⟩) := by
          exact ext_take s pos _
        clear hz HP HL HN
        generalize Pn.szL (s.data.toList.drop pos) = z at hzl hz1' HP2 HL2 HX ⊢
        have hzb : ((z : Int) == 0) = false := by simp; omega
        go_wp2_with (first | (at_builtin; refine wpList_append_own _ rfl _ _ 35 rfl w.heap.size 9 i0 (.string ByteArray.empty) 1 16 Tryz.underlying35 hi hz0 hz1 hz2 rfl (by decide) _ _ _ rfl (hown.alloc _) ⟨w'.heap.size, 0, none⟩ 1 1 [.string (s.extract pos (pos + z))] rfl rfl (cell_one_new _ _ _) (fun x hx => by simp at hx; subst hx; rfl) (by unfold maxLen; omega) (by omega) (by simp; omega) ?_; intro v' w3 hown' hgrow3 hnil3))
        go_wp2
        go_roundw
        case rel =>
          obtain ⟨g3, cap3, hv3⟩ : ∃ g3 cap3, v' = .slice (some ⟨g3, 0, none⟩) (ps.length + 1) cap3 := by
            rcases hown'.2 with ⟨_, h⟩ | ⟨g3, cap3, _, h, _⟩
            · omega
            · exact ⟨g3, cap3, h⟩
          have R : pos + z ≤ s.size ∧ Value.int .i64 ((pos : Int) + z) = .int .i64 ((pos + z : Nat) : Int) ∧ v' = .slice (some ⟨g3, 0, none⟩) (ps ++ [(s.data.toList.drop pos).take z]).length cap3 ∧ w3.ownsRow w.heap.size 9 1 v' (ps ++ [(s.data.toList.drop pos).take z]).length (strs (ps ++ [(s.data.toList.drop pos).take z])) ∧ Below w.heap.size w w3 ∧ Hid ((ps ++ [(s.data.toList.drop pos).take z]) ++ Pn.ptsN f (s.data.toList.drop (pos + z)) = Pn.pts s.data.toList) ∧ Hid ((pos + z) + Pn.lenN f (s.data.toList.drop (pos + z)) = Pn.ptsLen s.data.toList) ∧ s.size ≤ (pos + z) + f ∧ (ps ++ [(s.data.toList.drop pos).take z]).length ≤ pos + z :=
            ⟨by omega, by go_num, by rw [hv3]; simp, by rw [strs_cat, List.length_append, ← HX.out]; exact hown', (hnx.alloc hsize _).grown hgrow3 (by simp; omega) (fun q hq => (hown.lt q hq).1), HP2, HL2, by omega, by simp; omega⟩
          first
            | exact ⟨pos + z, f, _, some ⟨g3, 0, none⟩, cap3, R⟩
            | ((repeat apply Exists.intro); exact ⟨⟨pos + z, f, _, some ⟨g3, 0, none⟩, cap3, R⟩, rfl⟩)
        case measure => simp [intOf]; omega
    · have hd : s.data.toList.drop pos = [] := List.drop_eq_nil_of_le (by rw [← Lib.size_eq]; omega)
      have HP2 : Hid (ps = Pn.pts s.data.toList) := by
        show _ = _
        rw [← HP.out, hd]
        cases fuel <;> simp [Pn.ptsN]
      have HL2 : Hid (pos = Pn.ptsLen s.data.toList) := by
        show _ = _
        rw [← HL.out, hd]
        cases fuel <;> simp [Pn.lenN]
      clear hd HP HL
      go_wp2
      go_ret2
      refine ⟨ao, cv, ?_, ?_, hnx⟩
      · rw [← HP2.out, ← HL2.out]; rfl
      · rw [← HP2.out]; exact hown
end Go.Proofs.YtaepcfidpekflaaGreatDoor
namespace Go.Proofs.YtaepcfidpekflaaGreatDoor
open Go.RowKit

theorem MkAt.nil (w : World) (a : Option Addr) : MkAt w a [] := fun i m h => by simp at h
/-- What Read answers. -/
def ReadSaid (w w' : World) (r : List Dk.Mark × Nat × Nat) (e : Ending) : Prop := ∃ a c, e = .returned (.tuple #[.slice a r.1.length c, .int .i64 (r.2.1 : Nat), .int .i64 (r.2.2 : Nat)]) ∧ MkAt w' a r.1 ∧ Below w.heap.size w w'
set_option maxHeartbeats 3200000 in
set_option maxRecDepth 100000 in
theorem kread_any (w : World) (s : Pr.T) (hs : s.length ≤ 1000000) (HO : Hid (Dk.ReadOk s)) :
    Calls Tryz.prog 46 #[.string ⟨s.toArray⟩] w fun e w' => ReadSaid w w' (Dk.readS s) e := by
  obtain ⟨R, HR⟩ : ∃ R, Hid (Dk.readS s = R) := ⟨_, rfl⟩
  rw [HR.out]
  have hsz : (⟨s.toArray⟩ : ByteArray).size = s.length := by simp [ByteArray.size]
  go_enter Tryz.func46, Tryz.ntmps46
  by_cases hl : 1000 < s.length
  · have hl' : (1000 : Int) < s.length := by omega
    have HX : Hid (R = ([], 1, 0)) := by
      show _ = _
      rw [← HR.out, Dk.readS, if_pos hl]
    clear HR HO
    go_wp2
    refine bodyPost_ret (v := .tuple #[.slice none 0 0, .int .i64 1, .int .i64 0]) (by simp [results, Tryz.results46, go_sem]) rfl ?_
    rw [HX.out]
    exact ⟨none, 0, rfl, MkAt.nil _ _, Below.refl _ _⟩
  · have hl' : ¬ ((1000 : Int) < s.length) := by omega
    have kp := points_any ⟨s.toArray⟩ w (by rw [hsz]; omega)
    obtain ⟨PL, HPL⟩ : ∃ PL, Hid (Pn.ptsLen s = PL) := ⟨_, rfl⟩
    obtain ⟨PN, HPN⟩ : ∃ PN, Hid ((Pn.pts s).length = PN) := ⟨_, rfl⟩
    have HPle : PL ≤ s.length := by rw [← HPL.out]; exact Pn.lenN_le _ _
    rw [show (⟨s.toArray⟩ : ByteArray).data.toList = s from rfl, HPN.out, HPL.out] at kp
    go_wp2_with fail
    refine kp.mono ?_
    rintro e w1 ⟨ao, cv, rfl, _, hb1⟩
    clear kp
    have HB1 : Hid (Below w.heap.size w w1) := hb1
    clear hb1
    by_cases hp : PL < s.length
    · have hp' : (PL : Int) < s.length := by omega
      have HX : Hid (R = ([], 2, PN)) := by
        show _ = _
        rw [← HR.out, Dk.readS, if_neg hl, if_pos (by rw [HPL.out]; exact hp), HPN.out]
      clear HR HO HPL HPN
      go_wp2
      refine bodyPost_ret (v := .tuple #[.slice none 0 0, .int .i64 2, .int .i64 PN]) (by simp [results, Tryz.results46, go_sem]) rfl ?_
      rw [HX.out]
      exact ⟨none, 0, rfl, MkAt.nil _ _, HB1.out⟩
    · have hp' : ¬ ((PL : Int) < s.length) := by omega
      have km := kmarks_any w1 s (by omega)
      obtain ⟨X, HX⟩ : ∃ X, Hid (Dk.marks s = X) := ⟨_, rfl⟩
      rw [HX.out] at km
      have HOK := HO.out (by omega) (by rw [HPL.out]; omega)
      rw [HX.out] at HOK
      have HR2 : Hid ((if X.err ≠ 0 then (([], X.err, (Pn.pts (s.take X.place)).length) : List Dk.Mark × Nat × Nat) else if (Dk.faults X.out).1 ≠ 0 then ([], (Dk.faults X.out).1, (Pn.pts (s.take (Dk.faults X.out).2)).length) else (X.out, 0, 0)) = R) := by
        show _ = _
        have h := HR.out
        unfold Dk.readS at h
        rw [if_neg hl, if_neg (by rw [HPL.out]; exact hp), HX.out] at h
        exact h
      clear HR HO HX HPL HPN
      go_wp2_with fail
      refine km.mono ?_
      rintro e w2 ⟨ov, rfl, hown2, hb2⟩
      obtain ⟨a, c, rfl, hM⟩ := MkAt.of hown2
      have HM : Hid (MkAt w2 a X.out) := hM
      have HB2 : Hid (Below w.heap.size w w2) := below_of HB1.out hb2
      clear km hown2 hM HB1 hb2
      by_cases he : X.err = 0
      · have he' : ((X.err : Int) == 0) = true := by rw [he]; rfl
        obtain ⟨hp1, h2⟩ := HOK
        obtain ⟨h3, h4, h5⟩ := h2 he
        have kf := kfaults_any w2 a X.out c (by omega) HM h4
        obtain ⟨F1, HF1⟩ : ∃ F1, Hid ((Dk.faults X.out).1 = F1) := ⟨_, rfl⟩
        obtain ⟨F2, HF2⟩ : ∃ F2, Hid ((Dk.faults X.out).2 = F2) := ⟨_, rfl⟩
        rw [HF1.out, HF2.out] at kf
        rw [HF2.out] at h5
        have HR3 : Hid ((if F1 ≠ 0 then (([], F1, (Pn.pts (s.take F2)).length) : List Dk.Mark × Nat × Nat) else (X.out, 0, 0)) = R) := by
          show _ = _
          have := HR2.out
          rw [if_neg (fun h => h he), HF1.out, HF2.out] at this
          exact this
        clear HR2 h2 h4 HF1 HF2
        go_wp2_with fail
        refine kf.mono ?_
        rintro e w3 ⟨rfl, hb3⟩
        have HB3 : Hid (Below w.heap.size w w3) := below_of HB2.out hb3
        have HM3 : Hid (MkAt w3 a X.out) := HM.out.keep hb3
        clear kf hb3 HM HB2
        by_cases hf : F1 = 0
        · have hf' : ((F1 : Int) == 0) = true := by rw [hf]; rfl
          have HX : Hid (R = (X.out, 0, 0)) := by
            show _ = _
            rw [← HR3.out, if_neg (fun h => h hf)]
          clear HR3
          go_wp2
          refine bodyPost_ret (v := .tuple #[.slice a X.out.length c, .int .i64 0, .int .i64 0]) (by simp [results, Tryz.results46, go_sem]) rfl ?_
          rw [HX.out]
          exact ⟨a, c, rfl, HM3.out, HB3.out⟩
        · have hf' : ((F1 : Int) == 0) = false := by rw [beq_eq_false_iff_ne]; omega
          have kq := points_any ⟨(s.take F2).toArray⟩ w3 (by simp [ByteArray.size]; omega)
          rw [show (⟨(s.take F2).toArray⟩ : ByteArray).data.toList = s.take F2 from rfl] at kq
          obtain ⟨QN, HQN⟩ : ∃ QN, Hid ((Pn.pts (s.take F2)).length = QN) := ⟨_, rfl⟩
          rw [HQN.out] at kq
          have HX : Hid (R = ([], F1, QN)) := by
            show _ = _
            rw [← HR3.out, if_pos hf, HQN.out]
          have ex := ex_take s F2
          have h5' : (F2 : Int) ≤ s.length := by omega
          clear HR3 HQN
          go_wp2_with fail
          refine kq.mono ?_
          rintro e w4 ⟨ao, cv, rfl, _, hb4⟩
          have HB4 : Hid (Below w.heap.size w w4) := below_of HB3.out hb4
          clear kq hb4
          go_wp2
          refine bodyPost_ret (v := .tuple #[.slice none 0 0, .int .i64 F1, .int .i64 QN]) (by simp [results, Tryz.results46, go_sem]) rfl ?_
          rw [HX.out]
          exact ⟨none, 0, rfl, MkAt.nil _ _, HB4.out⟩
      · have he' : ((X.err : Int) == 0) = false := by rw [beq_eq_false_iff_ne]; omega
        obtain ⟨hp1, _⟩ := HOK
        have kq := points_any ⟨(s.take X.place).toArray⟩ w2 (by simp [ByteArray.size]; omega)
        rw [show (⟨(s.take X.place).toArray⟩ : ByteArray).data.toList = s.take X.place from rfl] at kq
        obtain ⟨QN, HQN⟩ : ∃ QN, Hid ((Pn.pts (s.take X.place)).length = QN) := ⟨_, rfl⟩
        rw [HQN.out] at kq
        have HX : Hid (R = ([], X.err, QN)) := by
          show _ = _
          rw [← HR2.out, if_pos he, HQN.out]
        have ex := ex_take s X.place
        have h5' : (X.place : Int) ≤ s.length := by omega
        clear HR2 HQN
        go_wp2_with fail
        refine kq.mono ?_
        rintro e w4 ⟨ao, cv, rfl, _, hb4⟩
        have HB4 : Hid (Below w.heap.size w w4) := below_of HB2.out hb4
        clear kq hb4
        go_wp2
        refine bodyPost_ret (v := .tuple #[.slice none 0 0, .int .i64 X.err, .int .i64 QN]) (by simp [results, Tryz.results46, go_sem]) rfl ?_
        rw [HX.out]
        exact ⟨none, 0, rfl, MkAt.nil _ _, HB4.out⟩
end Go.Proofs.YtaepcfidpekflaaGreatDoor
