/-
  Several texts in one (Rd, Jq, Jr, Js, Jv, Iy). By the verifier.
-/
import Derived.Test.YtaepcfidpekflaaGreatDoorU47
import Derived.BigCall
import Derived.Maps.AppendAt
import Derived.Test.YtaepcfidpekflaaGreatDoorU45
import Derived.Test.YtaepcfidpekflaaGreatDoorU43
import Derived.Test.YtaepcfidpekflaaGreatDoorU46
import Derived.Test.YtaepcfidpekflaaGreatDoorU14
import Derived.Test.YtaepcfidpekflaaGreatDoorU33
import Derived.Test.YtaepcfidpekflaaGreatDoorU34
namespace Go.Proofs.YtaepcfidpekflaaGreatDoor
open Go.RowKit

theorem info_str : (Tryz.prog.info? 9).map (fun i => (i.zero, i.size, i.bytes)) = some (some (.string ByteArray.empty), 1, 16) := by kernel_rfl
/-- Texts as values. -/
def strs (ps : List (List UInt8)) : List Value := ps.map fun p => Value.string ⟨p.toArray⟩
theorem strs_len (ps : List (List UInt8)) : (strs ps).length = ps.length := by simp [strs]
theorem strs_cat (ps : List (List UInt8)) (p : List UInt8) : strs (ps ++ [p]) = strs ps ++ [Value.string ⟨p.toArray⟩] := by simp [strs]
theorem ext_drop (s : ByteArray) (k : Nat) : (s.extract k s.size).data.toList = s.data.toList.drop k := by rw [Lib.extract_from]
theorem ext_take (s : ByteArray) (pos z : Nat) : s.extract pos (pos + z) = ⟨((s.data.toList.drop pos).take z).toArray⟩ := by
  rw [Lib.extract_eq, show pos + z - pos = z by omega]
theorem ret_pts {v : Value} {a b : Int} (h : a = b) : Ending.returned (.tuple #[v, .int .i64 a]) = .returned (.tuple #[v, .int .i64 b]) := by rw [h]

set_option maxHeartbeats 2000000 in
theorem points_any (s : ByteArray) (w : World) (hs : s.size ≤ 100000) :
    Calls Tryz.prog 48 #[.string s] w fun e w' => ∃ ao cv, e = .returned (.tuple #[.slice ao (Pn.pts s.data.toList).length cv, .int .i64 (Pn.ptsLen s.data.toList : Nat)]) ∧ w'.ownsRow w.heap.size 9 1 (.slice ao (Pn.pts s.data.toList).length cv) (Pn.pts s.data.toList).length (strs (Pn.pts s.data.toList)) ∧ Below w.heap.size w w' := by
  obtain ⟨i0, hi, hz0, hz1, hz2⟩ := info_parts info_str
  go_enter Tryz.func48, Tryz.ntmps48
  go_wp2
  go_loopw [4, 5] (fun v i wr => ∃ (pos fuel : Nat) (ps : List (List UInt8)) (ao : Option Addr) (cv : Nat), pos ≤ s.size ∧ i = .int .i64 pos ∧ v = .slice ao ps.length cv ∧ wr.ownsRow w.heap.size 9 1 v ps.length (strs ps) ∧ Below w.heap.size w wr ∧ Hid (ps ++ Pn.ptsN fuel (s.data.toList.drop pos) = Pn.pts s.data.toList) ∧ Hid (pos + Pn.lenN fuel (s.data.toList.drop pos) = Pn.ptsLen s.data.toList) ∧ s.size ≤ pos + fuel ∧ ps.length ≤ pos)
    (fun _ i _ => s.size - (intOf i).toNat)
  case atStart => exact ⟨0, s.size, [], none, 0, Nat.zero_le _, rfl, rfl, World.ownsRow_nil _ _ _ _, Below.refl _ _, by show _ = _; rw [Lib.size_eq]; rfl, by show _ = _; rw [Lib.size_eq]; simp [Pn.ptsLen], by omega, by simp⟩
  case round =>
    obtain ⟨pos, fuel, ps, ao, cv, hpos, rfl, rfl, hown, hnx, HP, HL, hfu, hpl⟩ := hrel
    have hsize := hnx.size
    by_cases hlt : pos < s.size
    · have hne : s.data.toList.drop pos ≠ [] := by
        intro e
        have := congrArg List.length e
        rw [List.length_drop, ← Lib.size_eq] at this
        simp at this
        omega
      have hzl := Pn.szL_le (s.data.toList.drop pos) hne
      rw [List.length_drop, ← Lib.size_eq] at hzl
      obtain ⟨f, rfl⟩ : ∃ f, fuel = f + 1 := ⟨fuel - 1, by omega⟩
      have HN : Hid (s.data.toList.drop pos ≠ []) := hne
      clear hne
      go_wp2_with fail
      refine (size_any _ _ (by simp; omega) (by simp; omega)).mono ?_
      rintro e w' ⟨rfl, rfl⟩
      rw [ext_drop]
      by_cases hz : Pn.szL (s.data.toList.drop pos) = 0
      · have HP2 : Hid (ps = Pn.pts s.data.toList) := by
          show _ = _
          rw [← HP.out, Pn.ptsN, if_neg HN.out, if_pos hz, List.append_nil]
        have HL2 : Hid (pos = Pn.ptsLen s.data.toList) := by
          show _ = _
          rw [← HL.out, Pn.lenN, if_neg HN.out, if_pos hz]; rfl
        rw [hz]
        clear hz HP HL hzl
        go_wp2
        go_ret2
        refine ⟨ao, cv, ?_, ?_, hnx⟩
        · rw [← HP2.out, ← HL2.out]; rfl
        · rw [← HP2.out]; exact hown
      · have hz1' : 1 ≤ Pn.szL (s.data.toList.drop pos) := by omega
        have HP2 : Hid ((ps ++ [(s.data.toList.drop pos).take (Pn.szL (s.data.toList.drop pos))]) ++ Pn.ptsN f (s.data.toList.drop (pos + Pn.szL (s.data.toList.drop pos))) = Pn.pts s.data.toList) := by
          show _ = _
          rw [← HP.out, Pn.ptsN, if_neg HN.out, if_neg hz, List.drop_drop]
          simp
        have HL2 : Hid ((pos + Pn.szL (s.data.toList.drop pos)) + Pn.lenN f (s.data.toList.drop (pos + Pn.szL (s.data.toList.drop pos))) = Pn.ptsLen s.data.toList) := by
          show _ = _
          rw [← HL.out, Pn.lenN, if_neg HN.out, if_neg hz, List.drop_drop]
          omega
        have HX : Hid (s.extract pos (pos + Pn.szL (s.data.toList.drop pos)) = ⟨((s.data.toList.drop pos).take (Pn.szL (s.data.toList.drop pos))).toArray⟩) := by
          exact ext_take s pos _
        clear hz HP HL HN
        generalize Pn.szL (s.data.toList.drop pos) = z at hzl hz1' HP2 HL2 HX ⊢
        have hzb : ((z : Int) == 0) = false := by simp; omega
        go_wp2_with (first | (at_builtin; refine wpList_append_own _ rfl _ _ 35 rfl w.heap.size 9 i0 (.string ByteArray.empty) 1 16 Tryz.underlying35 hi hz0 hz1 hz2 rfl (by decide) _ _ _ rfl (hown.alloc _) ⟨w'.heap.size, 0, none⟩ 1 1 [.string (s.extract pos (pos + z))] rfl rfl (cell_one_new _ _ _) (fun x hx => by simp at hx; subst hx; rfl) (by unfold maxLen; omega) (by omega) (by simp; omega) ?_; intro v' w3 hown' hgrow3 hnil3))
        go_wp2
        go_roundw
        case rel =>
          obtain ⟨g3, cap3, hv3⟩ : ∃ g3 cap3, v' = .slice (some ⟨g3, 0, none⟩) (ps.length + 1) cap3 := by
            rcases hown'.2 with ⟨_, h⟩ | ⟨g3, cap3, _, h, _⟩
            · omega
            · exact ⟨g3, cap3, h⟩
          have R : pos + z ≤ s.size ∧ Value.int .i64 ((pos : Int) + z) = .int .i64 ((pos + z : Nat) : Int) ∧ v' = .slice (some ⟨g3, 0, none⟩) (ps ++ [(s.data.toList.drop pos).take z]).length cap3 ∧ w3.ownsRow w.heap.size 9 1 v' (ps ++ [(s.data.toList.drop pos).take z]).length (strs (ps ++ [(s.data.toList.drop pos).take z])) ∧ Below w.heap.size w w3 ∧ Hid ((ps ++ [(s.data.toList.drop pos).take z]) ++ Pn.ptsN f (s.data.toList.drop (pos + z)) = Pn.pts s.data.toList) ∧ Hid ((pos + z) + Pn.lenN f (s.data.toList.drop (pos + z)) = Pn.ptsLen s.data.toList) ∧ s.size ≤ (pos + z) + f ∧ (ps ++ [(s.data.toList.drop pos).take z]).length ≤ pos + z :=
            ⟨by omega, by go_num, by rw [hv3]; simp, by rw [strs_cat, List.length_append, ← HX.out]; exact hown', (hnx.alloc hsize _).grown hgrow3 (by simp; omega) (fun q hq => (hown.lt q hq).1), HP2, HL2, by omega, by simp; omega⟩
          first
            | exact ⟨pos + z, f, _, some ⟨g3, 0, none⟩, cap3, R⟩
            | ((repeat apply Exists.intro); exact ⟨⟨pos + z, f, _, some ⟨g3, 0, none⟩, cap3, R⟩, rfl⟩)
        case measure => simp [intOf]; omega
    · have hd : s.data.toList.drop pos = [] := List.drop_eq_nil_of_le (by rw [← Lib.size_eq]; omega)
      have HP2 : Hid (ps = Pn.pts s.data.toList) := by
        show _ = _
        rw [← HP.out, hd]
        cases fuel <;> simp [Pn.ptsN]
      have HL2 : Hid (pos = Pn.ptsLen s.data.toList) := by
        show _ = _
        rw [← HL.out, hd]
        cases fuel <;> simp [Pn.lenN]
      clear hd HP HL
      go_wp2
      go_ret2
      refine ⟨ao, cv, ?_, ?_, hnx⟩
      · rw [← HP2.out, ← HL2.out]; rfl
      · rw [← HP2.out]; exact hown
end Go.Proofs.YtaepcfidpekflaaGreatDoor
namespace Go.Proofs.YtaepcfidpekflaaGreatDoor
open Go.RowKit

theorem MkAt.nil (w : World) (a : Option Addr) : MkAt w a [] := fun i m h => by simp at h
/-- What Read answers. -/
def ReadSaid (w w' : World) (r : List Dk.Mark × Nat × Nat) (e : Ending) : Prop := ∃ a c, e = .returned (.tuple #[.slice a r.1.length c, .int .i64 (r.2.1 : Nat), .int .i64 (r.2.2 : Nat)]) ∧ MkAt w' a r.1 ∧ Below w.heap.size w w'
set_option maxHeartbeats 3200000 in
set_option maxRecDepth 100000 in
theorem kread_any (w : World) (s : Pr.T) (hs : s.length ≤ 1000000) (HO : Hid (Dk.ReadOk s)) :
    Calls Tryz.prog 46 #[.string ⟨s.toArray⟩] w fun e w' => ReadSaid w w' (Dk.readS s) e := by
  obtain ⟨R, HR⟩ : ∃ R, Hid (Dk.readS s = R) := ⟨_, rfl⟩
  rw [HR.out]
  have hsz : (⟨s.toArray⟩ : ByteArray).size = s.length := by simp [ByteArray.size]
  go_enter Tryz.func46, Tryz.ntmps46
  by_cases hl : 1000 < s.length
  · have hl' : (1000 : Int) < s.length := by omega
    have HX : Hid (R = ([], 1, 0)) := by
      show _ = _
      rw [← HR.out, Dk.readS, if_pos hl]
    clear HR HO
    go_wp2
    refine bodyPost_ret (v := .tuple #[.slice none 0 0, .int .i64 1, .int .i64 0]) (by simp [results, Tryz.results46, go_sem]) rfl ?_
    rw [HX.out]
    exact ⟨none, 0, rfl, MkAt.nil _ _, Below.refl _ _⟩
  · have hl' : ¬ ((1000 : Int) < s.length) := by omega
    have kp := points_any ⟨s.toArray⟩ w (by rw [hsz]; omega)
    obtain ⟨PL, HPL⟩ : ∃ PL, Hid (Pn.ptsLen s = PL) := ⟨_, rfl⟩
    obtain ⟨PN, HPN⟩ : ∃ PN, Hid ((Pn.pts s).length = PN) := ⟨_, rfl⟩
    have HPle : PL ≤ s.length := by rw [← HPL.out]; exact Pn.lenN_le _ _
    rw [show (⟨s.toArray⟩ : ByteArray).data.toList = s from rfl, HPN.out, HPL.out] at kp
    go_wp2_with fail
    refine kp.mono ?_
    rintro e w1 ⟨ao, cv, rfl, _, hb1⟩
    clear kp
    have HB1 : Hid (Below w.heap.size w w1) := hb1
    clear hb1
    by_cases hp : PL < s.length
    · have hp' : (PL : Int) < s.length := by omega
      have HX : Hid (R = ([], 2, PN)) := by
        show _ = _
        rw [← HR.out, Dk.readS, if_neg hl, if_pos (by rw [HPL.out]; exact hp), HPN.out]
      clear HR HO HPL HPN
      go_wp2
      refine bodyPost_ret (v := .tuple #[.slice none 0 0, .int .i64 2, .int .i64 PN]) (by simp [results, Tryz.results46, go_sem]) rfl ?_
      rw [HX.out]
      exact ⟨none, 0, rfl, MkAt.nil _ _, HB1.out⟩
    · have hp' : ¬ ((PL : Int) < s.length) := by omega
      have km := kmarks_any w1 s (by omega)
      obtain ⟨X, HX⟩ : ∃ X, Hid (Dk.marks s = X) := ⟨_, rfl⟩
      rw [HX.out] at km
      have HOK := HO.out (by omega) (by rw [HPL.out]; omega)
      rw [HX.out] at HOK
      have HR2 : Hid ((if X.err ≠ 0 then (([], X.err, (Pn.pts (s.take X.place)).length) : List Dk.Mark × Nat × Nat) else if (Dk.faults X.out).1 ≠ 0 then ([], (Dk.faults X.out).1, (Pn.pts (s.take (Dk.faults X.out).2)).length) else (X.out, 0, 0)) = R) := by
        show _ = _
        have h := HR.out
        unfold Dk.readS at h
        rw [if_neg hl, if_neg (by rw [HPL.out]; exact hp), HX.out] at h
        exact h
      clear HR HO HX HPL HPN
      go_wp2_with fail
      refine km.mono ?_
      rintro e w2 ⟨ov, rfl, hown2, hb2⟩
      obtain ⟨a, c, rfl, hM⟩ := MkAt.of hown2
      have HM : Hid (MkAt w2 a X.out) := hM
      have HB2 : Hid (Below w.heap.size w w2) := below_of HB1.out hb2
      clear km hown2 hM HB1 hb2
      by_cases he : X.err = 0
      · have he' : ((X.err : Int) == 0) = true := by rw [he]; rfl
        obtain ⟨hp1, h2⟩ := HOK
        obtain ⟨h3, h4, h5⟩ := h2 he
        have kf := kfaults_any w2 a X.out c (by omega) HM h4
        obtain ⟨F1, HF1⟩ : ∃ F1, Hid ((Dk.faults X.out).1 = F1) := ⟨_, rfl⟩
        obtain ⟨F2, HF2⟩ : ∃ F2, Hid ((Dk.faults X.out).2 = F2) := ⟨_, rfl⟩
        rw [HF1.out, HF2.out] at kf
        rw [HF2.out] at h5
        have HR3 : Hid ((if F1 ≠ 0 then (([], F1, (Pn.pts (s.take F2)).length) : List Dk.Mark × Nat × Nat) else (X.out, 0, 0)) = R) := by
          show _ = _
          have := HR2.out
          rw [if_neg (fun h => h he), HF1.out, HF2.out] at this
          exact this
        clear HR2 h2 h4 HF1 HF2
        go_wp2_with fail
        refine kf.mono ?_
        rintro e w3 ⟨rfl, hb3⟩
        have HB3 : Hid (Below w.heap.size w w3) := below_of HB2.out hb3
        have HM3 : Hid (MkAt w3 a X.out) := HM.out.keep hb3
        clear kf hb3 HM HB2
        by_cases hf : F1 = 0
        · have hf' : ((F1 : Int) == 0) = true := by rw [hf]; rfl
          have HX : Hid (R = (X.out, 0, 0)) := by
            show _ = _
            rw [← HR3.out, if_neg (fun h => h hf)]
          clear HR3
          go_wp2
          refine bodyPost_ret (v := .tuple #[.slice a X.out.length c, .int .i64 0, .int .i64 0]) (by simp [results, Tryz.results46, go_sem]) rfl ?_
          rw [HX.out]
          exact ⟨a, c, rfl, HM3.out, HB3.out⟩
        · have hf' : ((F1 : Int) == 0) = false := by rw [beq_eq_false_iff_ne]; omega
          have kq := points_any ⟨(s.take F2).toArray⟩ w3 (by simp [ByteArray.size]; omega)
          rw [show (⟨(s.take F2).toArray⟩ : ByteArray).data.toList = s.take F2 from rfl] at kq
          obtain ⟨QN, HQN⟩ : ∃ QN, Hid ((Pn.pts (s.take F2)).length = QN) := ⟨_, rfl⟩
          rw [HQN.out] at kq
          have HX : Hid (R = ([], F1, QN)) := by
            show _ = _
            rw [← HR3.out, if_pos hf, HQN.out]
          have ex := ex_take s F2
          have h5' : (F2 : Int) ≤ s.length := by omega
          clear HR3 HQN
          go_wp2_with fail
          refine kq.mono ?_
          rintro e w4 ⟨ao, cv, rfl, _, hb4⟩
          have HB4 : Hid (Below w.heap.size w w4) := below_of HB3.out hb4
          clear kq hb4
          go_wp2
          refine bodyPost_ret (v := .tuple #[.slice none 0 0, .int .i64 F1, .int .i64 QN]) (by simp [results, Tryz.results46, go_sem]) rfl ?_
          rw [HX.out]
          exact ⟨none, 0, rfl, MkAt.nil _ _, HB4.out⟩
      · have he' : ((X.err : Int) == 0) = false := by rw [beq_eq_false_iff_ne]; omega
        obtain ⟨hp1, _⟩ := HOK
        have kq := points_any ⟨(s.take X.place).toArray⟩ w2 (by simp [ByteArray.size]; omega)
        rw [show (⟨(s.take X.place).toArray⟩ : ByteArray).data.toList = s.take X.place from rfl] at kq
        obtain ⟨QN, HQN⟩ : ∃ QN, Hid ((Pn.pts (s.take X.place)).length = QN) := ⟨_, rfl⟩
        rw [HQN.out] at kq
        have HX : Hid (R = ([], X.err, QN)) := by
          show _ = _
          rw [← HR2.out, if_pos he, HQN.out]
        have ex := ex_take s X.place
        have h5' : (X.place : Int) ≤ s.length := by omega
        clear HR2 HQN
        go_wp2_with fail
        refine kq.mono ?_
        rintro e w4 ⟨ao, cv, rfl, _, hb4⟩
        have HB4 : Hid (Below w.heap.size w w4) := below_of HB2.out hb4
        clear kq hb4
        go_wp2
        refine bodyPost_ret (v := .tuple #[.slice none 0 0, .int .i64 X.err, .int .i64 QN]) (by simp [results, Tryz.results46, go_sem]) rfl ?_
        rw [HX.out]
        exact ⟨none, 0, rfl, MkAt.nil _ _, HB4.out⟩
end Go.Proofs.YtaepcfidpekflaaGreatDoor
namespace Go.Proofs.YtaepcfidpekflaaGreatDoor.Pg
open Go.Proofs.YtaepcfidpekflaaGreatDoor

def Fk (P P' : List Dk.Mark) : Prop := ∀ n, Dk.firstK n P = Dk.firstK n P'
theorem firstK_app (n : T) (P Q : List Dk.Mark) : Dk.firstK n (P ++ Q) = if Dk.firstK n P = 0 then Dk.firstK n Q else Dk.firstK n P := by
  induction P with
  | nil => simp [Dk.firstK]
  | cons m P ih =>
    rw [List.cons_append, Dk.firstK, Dk.firstK]
    by_cases h : Dk.sortM m ≠ 0 ∧ m.name = n
    · rw [if_pos h, if_pos h, if_neg h.1]
    · rw [if_neg h, if_neg h, ih]
theorem Fk.app {P P' Q Q' : List Dk.Mark} (h : Fk P P') (h2 : Fk Q Q') : Fk (P ++ Q) (P' ++ Q') := fun n => by rw [firstK_app, firstK_app, h n, h2 n]
theorem Fk.one {m m' : Dk.Mark} (h : Dk.sortM m = Dk.sortM m') (h2 : m.name = m'.name) : Fk [m] [m'] := fun n => by simp only [Dk.firstK, h, h2]
theorem Fk.flat (o o' : Nat → Nat) : ∀ t : Tr, Fk (flat o t) (flat o' t) := by
  intro t
  induction t with
  | nil => exact fun n => rfl
  | text t r ih => exact Fk.app (Fk.one rfl rfl) ih
  | sign r ih => exact Fk.app (Fk.one rfl rfl) ih
  | simple n a r ih => exact Fk.app (Fk.one rfl rfl) ih
  | num n a r ih => exact Fk.app (Fk.one rfl rfl) ih
  | sel n a bs e r ih1 ih2 => exact Fk.app (Fk.one rfl rfl) (Fk.app ih1 (Fk.app (Fk.one rfl rfl) ih2))
  | plu n a ord off bs e r ih1 ih2 => exact Fk.app (Fk.one rfl rfl) (Fk.app ih1 (Fk.app (Fk.one rfl rfl) ih2))
  | br w a m r ih1 ih2 => exact Fk.app (P := [{ kind := 91, text := w, at_ := o a }]) (P' := [{ kind := 91, text := w, at_ := o' a }]) (Fk.one rfl rfl) (Fk.app ih1 (Fk.app (P := [{ kind := 93 }]) (P' := [{ kind := 93 }]) (Fk.one rfl rfl) ih2))
theorem kindBad_o {P P' : List Dk.Mark} {m m' : Dk.Mark} (h : Fk P P') (h1 : Dk.sortM m = Dk.sortM m') (h2 : m.name = m'.name) : kindBad P m ↔ kindBad P' m' := by
  rw [kindBad_iff, kindBad_iff]
  rw [h, h1, h2]
theorem ck_o (o o' : Nat → Nat) : ∀ (t : Tr) (P P' : List Dk.Mark) (seen : List T), Fk P P' → ck o P seen t = ck o' P' seen t := by
  intro t
  induction t with
  | nil => intro P P' seen h; rfl
  | text t r ih => intro P P' seen h; exact ih _ _ _ (h.app (Fk.one rfl rfl))
  | sign r ih => intro P P' seen h; exact ih _ _ _ (h.app (Fk.one rfl rfl))
  | simple n a r ih => intro P P' seen h; exact ih _ _ _ (h.app (Fk.one rfl rfl))
  | num n a r ih =>
    intro P P' seen h
    have hk := kindBad_o (m := nodeM o (.num n a r)) (m' := nodeM o' (.num n a r)) h rfl rfl
    have hr := ih _ _ seen (h.app (Fk.one (m := nodeM o (.num n a r)) (m' := nodeM o' (.num n a r)) rfl rfl))
    rw [ck, ck, hr]
    by_cases hb : kindBad P (nodeM o (.num n a r))
    · rw [if_pos hb, if_pos (hk.1 hb)]
    · rw [if_neg hb, if_neg (fun h => hb (hk.2 h))]
  | sel n a bs e r ih1 ih2 =>
    intro P P' seen h
    have hk := kindBad_o (m := nodeM o (.sel n a bs e r)) (m' := nodeM o' (.sel n a bs e r)) h rfl rfl
    have h1 := ih1 _ _ [] (h.app (Fk.one (m := nodeM o (.sel n a bs e r)) (m' := nodeM o' (.sel n a bs e r)) rfl rfl))
    have h2 := ih2 _ _ seen (h.app (Fk.flat o o' (.sel n a bs e .nil)))
    rw [ck, ck, h1, h2]
    by_cases hb : kindBad P (nodeM o (.sel n a bs e r))
    · rw [if_pos hb, if_pos (hk.1 hb)]
    · rw [if_neg hb, if_neg (fun h => hb (hk.2 h))]
  | plu n a ord off bs e r ih1 ih2 =>
    intro P P' seen h
    have hk := kindBad_o (m := nodeM o (.plu n a ord off bs e r)) (m' := nodeM o' (.plu n a ord off bs e r)) h rfl rfl
    have h1 := ih1 _ _ [] (h.app (Fk.one (m := nodeM o (.plu n a ord off bs e r)) (m' := nodeM o' (.plu n a ord off bs e r)) rfl rfl))
    have h2 := ih2 _ _ seen (h.app (Fk.flat o o' (.plu n a ord off bs e .nil)))
    rw [ck, ck, h1, h2]
    by_cases hb : kindBad P (nodeM o (.plu n a ord off bs e r))
    · rw [if_pos hb, if_pos (hk.1 hb)]
    · rw [if_neg hb, if_neg (fun h => hb (hk.2 h))]
  | br w a m r ih1 ih2 =>
    intro P P' seen h
    have h1 := ih1 (P ++ [{ kind := 91, text := w, at_ := o a }]) (P' ++ [{ kind := 91, text := w, at_ := o' a }]) [] (h.app (Fk.one rfl rfl))
    have h2 := ih2 _ _ (seen ++ [w]) (h.app (Fk.flat o o' (.br w a m .nil)))
    rw [ck, ck, h1, h2]
/-- Where a fault of a tree stands. -/
theorem ck_in {o : Nat → Nat} {N : Nat} (mono : ∀ a b, a < b → b < N → o a < o b) {t : Tr} (hw : Wf false t) (h : In 0 N t) {e a : Nat} (hk : ck o [] [] t = some (e, a)) : a < N ∧ e ≠ 0 := by
  have hl := ck_least mono t false [] [] 0 N (Nat.le_refl _) hw h
  rw [hk] at hl
  exact ⟨hl.2.2.1, hl.2.2.2.1⟩
/-- The tree of a text that is a pattern as far as its form goes. -/
theorem tree_marks {s : T} (h1 : Pn.ptsLen s = s.length) {t : Tr} (h2 : Whole (Pn.pts s) (.inr t)) :
    (Dk.marks s).err = 0 ∧ (Dk.marks s).place = 0 ∧ (Dk.marks s).out = flat (o (Pn.pts s)) t ∧ (flat (o (Pn.pts s)) t).length ≤ 3 * s.length + 16 ∧
    Dk.faults (flat (o (Pn.pts s)) t) = (match ck id [] [] t with | none => (0, 0) | some f => (f.1, o (Pn.pts s) f.2)) ∧ (∀ e a, ck id [] [] t = some (e, a) → a ≤ (Pn.pts s).length ∧ e ≠ 0) := by
  obtain ⟨hp, hf⟩ := pts_of s h1
  obtain ⟨w1, w2, w3, w4, w5, w6⟩ := whole_marks hp.cps h2
  have hm := marks_ok hp.cps w1 (List.getElem?_eq_none (Nat.le_refl _))
  rw [hf] at hm w2
  have hmono : ∀ a b, a < b → b < (Pn.pts s).length → o (Pn.pts s) a < o (Pn.pts s) b := fun a b h h' => o_mono hp.cps a b h (by omega)
  rw [hm]
  refine ⟨rfl, rfl, rfl, by rw [flat_len_o]; exact w2, ?_, ?_⟩
  · rw [faults_flat hmono t w3 w6, ck_o (o (Pn.pts s)) id t [] [] [] (fun n => rfl)]
    cases ck id [] [] t <;> rfl
  · intro e a hk
    rw [ck_o id (o (Pn.pts s)) t [] [] [] (fun n => rfl)] at hk
    have := ck_in hmono w3 w6 hk
    exact ⟨by omega, this.2⟩
theorem bad_marks {s : T} (h1 : Pn.ptsLen s = s.length) {e a : Nat} (h2 : Whole (Pn.pts s) (.inl (e, a))) : Bad (Dk.marks s) e (o (Pn.pts s) a) ∧ a ≤ (Pn.pts s).length := by
  obtain ⟨hp, hf⟩ := pts_of s h1
  cases h2 with
  | bad h =>
    have := marks_bad hp.cps h
    rw [hf] at this
    exact ⟨this, (fine_of h (Nat.zero_le _)).2⟩
  | brace h hq =>
    have := marks_brace hp.cps h hq
    rw [hf] at this
    refine ⟨this, ?_⟩
    rcases Nat.lt_or_ge a (Pn.pts s).length with h' | h'
    · omega
    · rw [List.getElem?_eq_none h'] at hq; cases hq
theorem ahead {s : T} (h1 : Pn.ptsLen s = s.length) {a : Nat} (ha : a ≤ (Pn.pts s).length) : (Pn.pts (s.take (o (Pn.pts s) a))).length = a := by
  obtain ⟨hp, hf⟩ := pts_of s h1
  have := pts_ahead hp a ha
  rw [hf] at this
  exact this
theorem read_ok {s : T} {r : Sum (Nat × Nat) Tr} (h : PatR s r) : Dk.ReadOk s := by
  intro hl hp
  obtain ⟨hpt, hf⟩ := pts_of s hp
  have hole : ∀ a, o (Pn.pts s) a ≤ s.length := fun a => by have := o_le (Pn.pts s) a; rw [hf] at this; exact this
  have tree : ∀ t, Whole (Pn.pts s) (.inr t) → (Dk.marks s).place ≤ s.length ∧ ((Dk.marks s).err = 0 → (Dk.marks s).out.length ≤ 3016 ∧ (∀ i m, (Dk.marks s).out[i]? = some m → m.kind = 40 → Dk.endAt (Dk.marks s).out i < (Dk.marks s).out.length) ∧ (Dk.faults (Dk.marks s).out).2 ≤ s.length) := by
    intro t ht
    obtain ⟨_, g2, g3, g4, g5, g6⟩ := tree_marks hp ht
    rw [g2, g3]
    refine ⟨Nat.zero_le _, fun _ => ⟨by omega, ends_flat t, ?_⟩⟩
    rw [g5]
    cases hk : ck id [] [] t with
    | none => exact Nat.zero_le _
    | some f => exact hole _
  cases h with
  | long h => omega
  | text h h1 => omega
  | bad h h1 h2 =>
    obtain ⟨⟨g1, g2, g3⟩, _⟩ := bad_marks h1 h2
    rw [g1, g2]
    exact ⟨hole _, fun h => absurd h g3⟩
  | chk h h1 h2 h3 => exact tree _ h2
  | ok h h1 h2 h3 => exact tree _ h2
theorem read_bad {s : T} {e a : Nat} (h : PatR s (.inl (e, a))) : Dk.readS s = ([], e, a) ∧ e ≠ 0 := by
  unfold Dk.readS
  cases h with
  | long h => rw [if_pos h]; exact ⟨rfl, by decide⟩
  | text h h1 => rw [if_neg (by omega), if_pos h1]; exact ⟨rfl, by decide⟩
  | bad h h1 h2 =>
    obtain ⟨⟨g1, g2, g3⟩, g4⟩ := bad_marks h1 h2
    rw [if_neg (by omega), if_neg (by omega), g1, g2, if_pos g3, ahead h1 g4]
    exact ⟨rfl, g3⟩
  | chk h h1 h2 h3 =>
    obtain ⟨g1, g2, g3, g4, g5, g6⟩ := tree_marks h1 h2
    obtain ⟨k1, k2⟩ := g6 _ _ h3
    rw [h3] at g5
    rw [if_neg (by omega), if_neg (by omega), g1, if_neg (by simp), g3, g5, if_pos k2, ahead h1 k1]
    exact ⟨rfl, k2⟩
theorem read_good {s : T} {t : Tr} (h : PatR s (.inr t)) : Dk.readS s = (flat (o (Pn.pts s)) t, 0, 0) := by
  unfold Dk.readS
  cases h with
  | ok h h1 h2 h3 =>
    obtain ⟨g1, g2, g3, g4, g5, g6⟩ := tree_marks h1 h2
    rw [h3] at g5
    rw [if_neg (by omega), if_neg (by omega), g1, if_neg (by simp), g3, g5, if_neg (by simp)]
end Go.Proofs.YtaepcfidpekflaaGreatDoor.Pg
namespace Go.Proofs.YtaepcfidpekflaaGreatDoor.Dk
/-- Sizes of a mark's parts. -/
def MOk (m : Mark) : Prop := m.text.length ≤ 3016 ∧ m.name.length ≤ 16 ∧ m.how.length ≤ 13 ∧ m.offset.length ≤ 9
def Bal : List Bool → List Mark → Prop
  | _, [] => True
  | st, m :: r => (m.kind = 41 → st ≠ []) ∧ Bal (stack st m) r
theorem dbl_len : ∀ s : T, (dbl s).length ≤ 2 * s.length := by
  intro s
  induction s with
  | nil => simp [dbl]
  | cons c r ih => rw [dbl]; split <;> simp <;> omega
theorem runW_len (r : T) : (runW r).length ≤ 2 * r.length + 2 := by
  unfold runW
  have := dbl_len r
  split
  · simp; omega
  · omega
theorem writtenGo_len (num : Bool) : ∀ (k : Nat) (s : T), (writtenGo num k s).length ≤ 4 * s.length := by
  intro k
  induction k with
  | zero => intro s; rw [writtenGo]; simp
  | succ k ih =>
    intro s
    cases s with
    | nil => simp [writtenGo]
    | cons c r =>
      rw [writtenGo]
      split
      · have := ih r; simp; omega
      · rename_i h
        have h1 := ih ((c :: r).dropWhile (inRun num))
        have h2 := runW_len ((c :: r).takeWhile (inRun num))
        have h3 : ((c :: r).takeWhile (inRun num)).length + ((c :: r).dropWhile (inRun num)).length = (c :: r).length := by rw [← List.length_append, List.takeWhile_append_dropWhile]
        have h4 : 1 ≤ ((c :: r).takeWhile (inRun num)).length := by
          rw [List.takeWhile_cons, if_pos (by simpa using h)]
          simp
        rw [List.length_append]
        omega
theorem written_len (num : Bool) (s : T) : (written num s).length ≤ 4 * s.length := writtenGo_len num _ s
theorem piece_len (st : List Bool) {m : Mark} (h : MOk m) : (piece st m).length ≤ 12200 := by
  obtain ⟨h1, h2, h3, h4⟩ := h
  unfold piece
  split
  · have := written_len (st.getLastD false) m.text; omega
  split
  · simp
  split
  · simp; omega
  split
  · simp; omega
  split
  · unfold offT; split <;> simp <;> omega
  split
  · simp; omega
  split
  · simp
  split
  · simp
  · simp
theorem stack_len (st : List Bool) (m : Mark) : (stack st m).length ≤ st.length + 1 := by
  unfold stack
  split
  · simp
  split
  · simp; omega
  · omega
end Go.Proofs.YtaepcfidpekflaaGreatDoor.Dk
namespace Go.Proofs.YtaepcfidpekflaaGreatDoor.Pg
open Go.Proofs.YtaepcfidpekflaaGreatDoor

theorem bal_flat {o : Nat → Nat} : ∀ (t : Tr) (st : List Bool) (R : List Dk.Mark), Dk.Bal st R → Dk.Bal st (flat o t ++ R) := by
  intro t
  induction t with
  | nil => intro st R h; exact h
  | text t r ih => intro st R h; exact ⟨by simp, ih st R h⟩
  | sign r ih => intro st R h; exact ⟨by simp, ih st R h⟩
  | simple n a r ih => intro st R h; exact ⟨by simp, ih st R h⟩
  | num n a r ih => intro st R h; exact ⟨by simp, ih st R h⟩
  | sel n a bs e r ih1 ih2 =>
    intro st R h
    have h2 : Dk.stack (st ++ [false]) { kind := 41, at_ := o e } = st := by simp [Dk.stack]
    refine ⟨by simp, ?_⟩
    rw [List.append_eq, List.append_assoc, show Dk.stack st { kind := 40, name := n, how := selectW, offset := [48], at_ := o a } = st ++ [false] by simp [Dk.stack]]
    refine ih1 _ _ ⟨by simp, ?_⟩
    rw [h2]
    exact ih2 _ _ h
  | plu n a ord off bs e r ih1 ih2 =>
    intro st R h
    have h2 : Dk.stack (st ++ [true]) { kind := 41, at_ := o e } = st := by simp [Dk.stack]
    refine ⟨by simp, ?_⟩
    rw [List.append_eq, List.append_assoc, show Dk.stack st { kind := 40, name := n, how := if ord then ordinalW else pluralW, offset := off, at_ := o a } = st ++ [true] by have := ord_ne ord; simp [Dk.stack, this]]
    refine ih1 _ _ ⟨by simp, ?_⟩
    rw [h2]
    exact ih2 _ _ h
  | br w a m r ih1 ih2 =>
    intro st R h
    refine ⟨by simp, ?_⟩
    rw [List.append_eq, List.append_assoc]
    refine ih1 st _ ⟨by simp, ih2 st _ h⟩
theorem mok_flat {o : Nat → Nat} : ∀ (t : Tr), Vd t → ∀ m ∈ flat o t, m.name.length ≤ 16 ∧ m.how.length ≤ 13 ∧ m.offset.length ≤ 9 := by
  intro t
  induction t with
  | nil => intro _ m hm; cases hm
  | text t r ih => intro h m hm; rcases List.mem_cons.1 hm with rfl | hm; simp; exact ih h m hm
  | sign r ih => intro h m hm; rcases List.mem_cons.1 hm with rfl | hm; simp; exact ih h m hm
  | simple n a r ih => intro h m hm; rcases List.mem_cons.1 hm with rfl | hm; exact ⟨h.1, by simp, by simp⟩; exact ih h.2 m hm
  | num n a r ih => intro h m hm; rcases List.mem_cons.1 hm with rfl | hm; exact ⟨h.1, by simp [numberW], by simp⟩; exact ih h.2 m hm
  | sel n a bs e r ih1 ih2 =>
    intro h m hm
    rcases List.mem_cons.1 hm with rfl | hm
    · exact ⟨h.1, by simp [selectW], by simp⟩
    rcases List.mem_append.1 hm with hm | hm
    · exact ih1 h.2.1 m hm
    rcases List.mem_cons.1 hm with rfl | hm
    · simp
    · exact ih2 h.2.2 m hm
  | plu n a ord off bs e r ih1 ih2 =>
    intro h m hm
    rcases List.mem_cons.1 hm with rfl | hm
    · exact ⟨h.1, by cases ord <;> simp [ordinalW, pluralW], h.2.1.2.2.1⟩
    rcases List.mem_append.1 hm with hm | hm
    · exact ih1 h.2.2.1 m hm
    rcases List.mem_cons.1 hm with rfl | hm
    · simp
    · exact ih2 h.2.2.2 m hm
  | br w a m r ih1 ih2 =>
    intro h x hx
    rcases List.mem_cons.1 hx with rfl | hx
    · simp
    rcases List.mem_append.1 hx with hx | hx
    · exact ih1 h.2.1 x hx
    rcases List.mem_cons.1 hx with rfl | hx
    · simp
    · exact ih2 h.2.2 x hx
/-- Sizes of the marks of a text that is a pattern as far as its form goes. -/
theorem tree_mok {s : T} (hl : s.length ≤ 1000) (h1 : Pn.ptsLen s = s.length) {t : Tr} (h2 : Whole (Pn.pts s) (.inr t)) : ∀ m ∈ flat (o (Pn.pts s)) t, Dk.MOk m := by
  obtain ⟨hp, hf⟩ := pts_of s h1
  obtain ⟨w1, w2, w3, w4, w5, w6⟩ := whole_marks hp.cps h2
  obtain ⟨g1, g2, g3, g4, g5, g6⟩ := tree_marks h1 h2
  intro m hm
  have hb := mok_flat t w4 m hm
  refine ⟨?_, hb⟩
  have hs := Dk.marksGo_sz s 16 (by omega) s.length { i := 0, out := [], opens := [], err := 0, place := 0 } ⟨by simp, by simp⟩
  have hi := marks_ok hp.cps w1 (List.getElem?_eq_none (Nat.le_refl _))
  rw [hf] at hi
  unfold Dk.marks at hi
  simp only at hi
  generalize Dk.marksGo s s.length { i := 0, out := [], opens := [], err := 0, place := 0 } = y at *
  have ho : y.out = flat (o (Pn.pts s)) t ∧ y.i = s.length := by
    split at hi
    · have e1 := congrArg Dk.Sc.out hi
      have e2 := congrArg Dk.Sc.i hi
      rw [Dk.fault_out] at e1
      rw [fault_i'] at e2
      exact ⟨e1, e2⟩
    · rw [hi]; exact ⟨rfl, rfl⟩
  have := hs.2 m (by rw [ho.1]; exact hm)
  rw [ho.2] at this
  omega
end Go.Proofs.YtaepcfidpekflaaGreatDoor.Pg
namespace Go.Proofs.YtaepcfidpekflaaGreatDoor.Dk
/-- Names, and places in code points. -/
def namesP (s : T) (l : List Mark) : List (T × Nat) := (namesGo l).map fun x => (x.1, (Pn.pts (s.take x.2)).length)
theorem namesP_skip (s : T) {m : Mark} (r : List Mark) (h : m.name = []) : namesP s (m :: r) = namesP s r := by
  unfold namesP
  rw [namesGo, if_neg (fun e => e h)]
theorem namesP_take (s : T) {m : Mark} (r : List Mark) (h : m.name ≠ []) : namesP s (m :: r) = (m.name, (Pn.pts (s.take m.at_)).length) :: namesP s r := by
  unfold namesP
  rw [namesGo, if_pos h, List.map_cons]
theorem namesP_len (s : T) : ∀ l : List Mark, (namesP s l).length ≤ l.length := by
  intro l
  induction l with
  | nil => simp [namesP, namesGo]
  | cons m r ih =>
    by_cases h : m.name = []
    · rw [namesP_skip s r h]; simp; omega
    · rw [namesP_take s r h]; simp; exact ih
end Go.Proofs.YtaepcfidpekflaaGreatDoor.Dk
namespace Go.Proofs.YtaepcfidpekflaaGreatDoor
open Go.RowKit

/-- Two rows beside one another: names and their places. -/
structure Two (w : World) (B : Nat) (v u : Value) (l : List (Pr.T × Nat)) : Prop where
  names : w.ownsRow B 9 1 v l.length (strs (l.map (·.1)))
  places : w.ownsRow B 3 1 u l.length (l.map fun x => ixV x.2)
  apart : ∀ g, v.ownBlock = some g → u.ownBlock ≠ some g
theorem Two.keep {w w' : World} {B : Nat} {v u : Value} {l : List (Pr.T × Nat)} (h : Two w B v u l) (hb : Below w.heap.size w w') : Two w' B v u l := by
  have kp : ∀ {e : TypeId} {z n : Nat} {v : Value} {xs : List Value}, w.ownsRow B e z v n xs → w'.ownsRow B e z v n xs := fun {e z n v xs} h => by
    refine World.ownsRow.kept (row := none) h ⟨hb.os, hb.tape, hb.output, hb.size, fun k hk _ => hb.block k hk⟩ ?_
    cases e : v.ownBlock with
    | none => exact .inl rfl
    | some _ => exact .inr (by simp)
  exact ⟨kp h.names, kp h.places, h.apart⟩
/-- What Names answers. -/
def NamesSaid (w w' : World) (l : List (Pr.T × Nat)) (er pl : Nat) (e : Ending) : Prop := ∃ v u B, e = .returned (.tuple #[v, u, .int .i64 (er : Nat), .int .i64 (pl : Nat)]) ∧ w.heap.size ≤ B ∧ Two w' B v u l ∧ Below w.heap.size w w'
/-- A name more, its place still to come. -/
theorem two_name {w w2 : World} {B : Nat} {v u v' : Value} {l : List (Pr.T × Nat)} {o : Obj} (h : Two w B v u l) (hg : (w.alloc o).grownBy w2 v.ownBlock) (hat : v'.ownBlock = v.ownBlock ∨ v'.ownBlock = some (w.heap.size + 1)) :
    w2.ownsRow B 3 1 u l.length (l.map fun x => ixV x.2) ∧ ∀ g, v'.ownBlock = some g → u.ownBlock ≠ some g := by
  have hu := h.places
  refine ⟨World.ownsRow.kept (hu.alloc o) hg ?_, fun g hg' e => ?_⟩
  · cases e : u.ownBlock with
    | none => exact .inl rfl
    | some k => exact .inr (fun e2 => h.apart k e2.symm e)
  · rcases hat with h1 | h1
    · exact h.apart g (by rw [← h1]; exact hg') e
    · rw [h1] at hg'
      injection hg' with hg'
      have := (hu.lt g e).2
      omega
/-- .. and its place. -/
theorem two_place {w w2 : World} {B : Nat} {v u u' : Value} {l : List (Pr.T × Nat)} {n : Pr.T} {k : Nat} {o : Obj} (h1 : w.ownsRow B 9 1 v (l.length + 1) (strs (l.map (·.1)) ++ [.string ⟨n.toArray⟩])) (hap : ∀ g, v.ownBlock = some g → u.ownBlock ≠ some g) (hown : w2.ownsRow B 3 1 u' (l.length + 1) ((l.map fun x => ixV x.2) ++ [.int .i64 (k : Int)])) (hg : (w.alloc o).grownBy w2 u.ownBlock) (hat : u'.ownBlock = u.ownBlock ∨ u'.ownBlock = some (w.heap.size + 1)) : Two w2 B v u' (l ++ [(n, k)]) := by
  refine ⟨?_, ?_, fun g hg' e => ?_⟩
  · have := World.ownsRow.kept (h1.alloc o) hg (by
      cases e : v.ownBlock with
      | none => exact .inl rfl
      | some g => exact .inr (fun e2 => hap g e e2.symm))
    rw [List.length_append, List.map_append, List.map_singleton, strs_cat]
    exact this
  · rw [List.length_append, List.map_append, List.map_singleton]
    exact hown
  · rcases hat with h2 | h2
    · exact hap g hg' (by rw [← h2]; exact e)
    · rw [h2] at e
      injection e with e
      have := (h1.lt g hg').2
      omega
set_option maxHeartbeats 3200000 in
set_option maxRecDepth 100000 in
theorem knames_any (w : World) (s : Pr.T) (hs : s.length ≤ 65536) (HO : Hid (Dk.ReadOk s)) (HL : (Dk.readS s).1.length ≤ 3016) (HA : Hid (∀ m ∈ (Dk.readS s).1, m.at_ ≤ s.length)) :
    Calls Tryz.prog 42 #[.string ⟨s.toArray⟩] w fun e w' => NamesSaid w w' (Dk.namesP s (Dk.readS s).1) (Dk.readS s).2.1 (Dk.readS s).2.2 e := by
  obtain ⟨i0, h01, h02, h03, h04⟩ := info_parts info_str
  have HI0 : Hid (Tryz.prog.info? 9 = some i0 ∧ i0.zero = some (.string ByteArray.empty) ∧ i0.size = 1 ∧ i0.bytes = 16) := ⟨h01, h02, h03, h04⟩
  obtain ⟨i1, h11, h12, h13, h14⟩ := info_parts info_int3
  have HI1 : Hid (Tryz.prog.info? 3 = some i1 ∧ i1.zero = some (.int .i64 0) ∧ i1.size = 1 ∧ i1.bytes = 8) := ⟨h11, h12, h13, h14⟩
  clear h01 h02 h03 h04 h11 h12 h13 h14
  have kr := kread_any w s (by omega) HO
  clear HO
  obtain ⟨⟨L, er, pl⟩, HR⟩ : ∃ R, Hid (Dk.readS s = R) := ⟨_, rfl⟩
  rw [HR.out] at kr HA HL ⊢
  clear HR
  simp only [] at HA HL ⊢
  obtain ⟨R, HRR⟩ : ∃ R, Hid (Dk.namesP s L = R) := ⟨_, rfl⟩
  rw [HRR.out]
  go_enter Tryz.func42, Tryz.ntmps42
  go_wp2_with fail
  refine kr.mono ?_
  rintro e w1 ⟨a, c, rfl, hM, hb1⟩
  simp only [] at hM
  have HB1 : Hid (Below w.heap.size w w1) := hb1
  have HM : Hid (MkAt w1 a L) := hM
  have hz1 := hb1.size
  clear kr hb1 hM
  go_wp2_with fail
  go_loopg [9, 10, 11] L.length (fun g v u i wr => ∃ (n : Nat) (done : List (Pr.T × Nat)) (na : Option Addr) (nn nc : Nat) (pa : Option Addr) (pn pc : Nat), v = .slice na nn nc ∧ u = .slice pa pn pc ∧ g + n = L.length ∧ i = .int .i64 n ∧ Hid (Two wr w1.heap.size (.slice na nn nc) (.slice pa pn pc) done) ∧ Below w1.heap.size w1 wr ∧ Hid (done ++ Dk.namesP s (L.drop n) = R) ∧ done.length ≤ n)
  case atStart => exact ⟨0, [], none, 0, 0, none, 0, 0, rfl, rfl, by omega, rfl, ⟨World.ownsRow_nil _ _ _ _, World.ownsRow_nil _ _ _ _, fun g h => by simp [Value.ownBlock] at h⟩, Below.refl _ _, HRR, by simp⟩
  case round =>
    obtain ⟨n, done, na, nn, nc, pa, pn, pc, rfl, rfl, hgn, rfl, HT, hb2, HD, hdn⟩ := hrel
    clear HRR
    have hz2 := hb2.size
    by_cases hlt : n < L.length
    · have hlt' : (n : Int) < L.length := by omega
      obtain ⟨m, hm⟩ : ∃ m, L[n]? = some m := ⟨L[n], List.getElem?_eq_getElem hlt⟩
      have hma := HA.out m (List.mem_of_getElem? hm)
      have hdr : L.drop n = m :: L.drop (n + 1) := by
        rw [List.drop_eq_getElem_cons hlt]
        rw [List.getElem?_eq_getElem hlt] at hm
        injection hm with hm
        rw [hm]
      obtain ⟨g, rfl, hg, c0, c1, c2, c3, c4, c5⟩ := (HM.out.keep hb2).six hm
      by_cases hne : m.name = []
      · have hem : List.isEmpty m.name = true := by rw [hne]; rfl
        have HD2 : Hid (done ++ Dk.namesP s (L.drop (n + 1)) = R) := by show _ = _; rw [← HD.out, hdr, Dk.namesP_skip s _ hne]
        clear hne hdr hm HD
        go_wp2
        go_roundg (gk - 1)
        case measure => omega
        case rel => exact ⟨n + 1, done, na, nn, nc, pa, pn, pc, rfl, rfl, by omega, by go_num, HT, hb2, HD2, by omega⟩
      · have hem : List.isEmpty m.name = false := by
          cases h : m.name with
          | nil => exact absurd h hne
          | cons => rfl
        obtain ⟨QN, HQN⟩ : ∃ QN, Hid ((Pn.pts (s.take m.at_)).length = QN) := ⟨_, rfl⟩
        have HD2 : Hid ((done ++ [(m.name, QN)]) ++ Dk.namesP s (L.drop (n + 1)) = R) := by show _ = _; rw [← HD.out, hdr, Dk.namesP_take s _ hne, HQN.out]; simp
        have hown := HT.out.names
        have ex := ex_take s m.at_
        have h5' : (m.at_ : Int) ≤ s.length := by omega
        have kq := fun W => points_any ⟨(s.take m.at_).toArray⟩ W (by simp [ByteArray.size]; omega)
        rw [show (⟨(s.take m.at_).toArray⟩ : ByteArray).data.toList = s.take m.at_ from rfl, HQN.out] at kq
        have hmm : Hid (L[n]? = some m) := hm
        clear hne hdr hm HD
        go_wp2_with (at_builtin; refine wpList_append_own_at _ rfl _ _ 35 rfl w1.heap.size 9 i0 (.string ByteArray.empty) 1 16 Tryz.underlying35 HI0.out.1 HI0.out.2.1 HI0.out.2.2.1 HI0.out.2.2.2 rfl (by decide) _ done.length (strs (done.map (·.1))) rfl (World.ownsRow.alloc hown _) ⟨wr.heap.size, 0, none⟩ 1 1 [.string ⟨m.name.toArray⟩] rfl rfl (cell_one_new _ _ _) (by intro u hu; simp at hu; subst hu; rfl) (by unfold maxLen; omega) (by omega) (by simp; omega) ?_)
        intro v3 w3 hown3 hgrow3 _ hat3
        obtain ⟨hpl3, hap3⟩ := two_name HT.out hgrow3 hat3
        have hb3 : Below w1.heap.size w1 w3 := (hb2.alloc hz2 _).grown hgrow3 (by simp; omega) (fun q hq => (hown.lt q hq).1)
        obtain ⟨va3, vn3, vc3, rfl⟩ := owns_form hown3
        have HN3 : Hid (w3.ownsRow w1.heap.size 9 1 (.slice va3 vn3 vc3) (done.length + 1) (strs (done.map (·.1)) ++ [.string ⟨m.name.toArray⟩])) := hown3
        have HP3 : Hid (w3.ownsRow w1.heap.size 3 1 (.slice pa pn pc) done.length (done.map fun x => ixV x.2)) := hpl3
        have HAP : Hid (∀ g, (Value.slice va3 vn3 vc3).ownBlock = some g → (Value.slice pa pn pc).ownBlock ≠ some g) := hap3
        have hz3 := hb3.size
        obtain ⟨g5, hg5, hgl5, _, _, _, _, _, d5⟩ := (HM.out.keep hb3).six hmm.out
        injection hg5 with hg5
        injection hg5 with hg5 _ _
        subst hg5
        clear hown hown3 hgrow3 hat3 hpl3 hap3 HT hb2 c0 c1 c2 c3 c4 c5
        go_wp2_with fail
        refine (kq w3).mono ?_
        rintro e w4 ⟨ao, cv, rfl, _, hb4⟩
        have hb5 : Below w1.heap.size w1 w4 := hb3.trans (hb4.mono hz3)
        have kp : ∀ {e : TypeId} {z n : Nat} {v : Value} {xs : List Value}, w3.ownsRow w1.heap.size e z v n xs → w4.ownsRow w1.heap.size e z v n xs := fun {e z n v xs} h => by
          refine World.ownsRow.kept (row := none) h ⟨hb4.os, hb4.tape, hb4.output, hb4.size, fun k hk _ => hb4.block k hk⟩ ?_
          cases e : v.ownBlock with
          | none => exact .inl rfl
          | some _ => exact .inr (by simp)
        have HN4 : Hid (w4.ownsRow w1.heap.size 9 1 (.slice va3 vn3 vc3) (done.length + 1) (strs (done.map (·.1)) ++ [.string ⟨m.name.toArray⟩])) := kp HN3.out
        have hown4 := kp HP3.out
        have hz4 := hb5.size
        clear kp kq hb4 HN3 HP3 hb3
        go_wp2_with (at_builtin; refine wpList_append_own_at _ rfl _ _ 22 rfl w1.heap.size 3 i1 (.int .i64 0) 1 8 Tryz.underlying22 HI1.out.1 HI1.out.2.1 HI1.out.2.2.1 HI1.out.2.2.2 rfl (by decide) _ done.length (done.map fun x => ixV x.2) rfl (World.ownsRow.alloc hown4 _) ⟨w4.heap.size, 0, none⟩ 1 1 [.int .i64 (QN : Int)] rfl rfl (cell_one_new _ _ _) (by intro u hu; simp at hu; subst hu; rfl) (by unfold maxLen; omega) (by omega) (by simp; omega) ?_)
        intro v6 w6 hown6 hgrow6 _ hat6
        have ht6 := two_place HN4.out HAP.out hown6 hgrow6 hat6
        have hb6 : Below w1.heap.size w1 w6 := (hb5.alloc hz4 _).grown hgrow6 (by simp; omega) (fun q hq => (hown4.lt q hq).1)
        obtain ⟨va6, vn6, vc6, rfl⟩ := owns_form hown6
        have HT6 : Hid (Two w6 w1.heap.size (.slice va3 vn3 vc3) (.slice va6 vn6 vc6) (done ++ [(m.name, QN)])) := ht6
        clear hown4 hown6 hgrow6 hat6 ht6 HN4 HAP hb5
        go_wp2
        go_roundg (gk - 1)
        case measure => omega
        case rel => exact ⟨n + 1, _, va3, vn3, vc3, va6, vn6, vc6, rfl, rfl, by omega, by go_num, HT6, hb6, HD2, by simp; omega⟩
    · have hlt' : ¬ ((n : Int) < L.length) := by omega
      have HF : Hid (done = R) := by
        show _ = _
        have := HD.out
        rw [List.drop_eq_nil_of_le (by omega)] at this
        simpa [Dk.namesP, Dk.namesGo] using this
      clear HD
      go_wp2
      refine bodyPost_ret (v := .tuple #[.slice na nn nc, .slice pa pn pc, .int .i64 er, .int .i64 pl]) (by simp [results, Tryz.results42, go_sem]) rfl ?_
      exact ⟨_, _, w1.heap.size, rfl, hz1, by rw [← HF.out]; exact HT.out, below_of HB1.out hb2⟩
end Go.Proofs.YtaepcfidpekflaaGreatDoor
namespace Go.Proofs.YtaepcfidpekflaaGreatDoor
open Go.RowKit Go.Maps Go.Shelf Pg

theorem ownsRow_same {W W' : World} {B k n : Nat} {e : TypeId} {v : Value} {xs : List Value} (h : W.ownsRow B e k v n xs) (hs : ∀ g, v.ownBlock = some g → W'.heap[g]? = W.heap[g]?) : W'.ownsRow B e k v n xs := by
  refine ⟨h.1, ?_⟩
  rcases h.2 with h2 | ⟨g, cap, cur, hv, hB, hg, h3⟩
  · exact .inl h2
  · exact .inr ⟨g, cap, cur, hv, hB, (hs g (by rw [hv]; rfl)).trans hg, h3⟩
theorem ownsRow_cells {W : World} {B k n : Nat} {e : TypeId} {v : Value} {xs : List Value} (h : W.ownsRow B e k v n xs) {g : Nat} (hg : v.ownBlock = some g) : B ≤ g ∧ ∃ c T f, W.heap[g]? = some (.cells c T f) := by
  rcases h.2 with ⟨h2, _⟩ | ⟨g', cap, cur, hv, hB, hg', h3⟩
  · rw [h2] at hg; cases hg
  · rw [hv] at hg
    injection hg with hg
    simp at hg
    subst hg
    exact ⟨hB, _, _, _, hg'⟩
/-- What the function has in hand: its three boxes (from b on), the rows. -/
def WkSt (b : Nat) (n : Int) (d : List Ar) (W : World) : Prop := ∃ v u, Boxed W (b + 1) 35 v ∧ Boxed W (b + 2) 22 u ∧ Boxed W b 3 (.int .i64 n) ∧ Two W (b + 3) v u d
def WkOwn (b : Nat) (W : World) (k : Nat) : Prop := k = b ∨ k = b + 1 ∨ k = b + 2 ∨ (∃ v, W.cell? ⟨b + 1, 0, none⟩ = some v ∧ v.ownBlock = some k) ∨ ∃ u, W.cell? ⟨b + 2, 0, none⟩ = some u ∧ u.ownBlock = some k
def WkGd (b : Nat) (W : World) : Prop := ∃ v u w, Boxed W (b + 1) 35 v ∧ Boxed W (b + 2) 22 u ∧ Boxed W b 3 w ∧ (∀ k, v.ownBlock = some k → k < W.heap.size) ∧ ∀ k, u.ownBlock = some k → k < W.heap.size
theorem wk_own_same {b : Nat} {W W' : World} (h1 : W'.cell? ⟨b + 1, 0, none⟩ = W.cell? ⟨b + 1, 0, none⟩) (h2 : W'.cell? ⟨b + 2, 0, none⟩ = W.cell? ⟨b + 2, 0, none⟩) (k : Nat) : WkOwn b W' k ↔ WkOwn b W k := by
  unfold WkOwn
  rw [h1, h2]
theorem WkSt.gd {b : Nat} {n : Int} {d : List Ar} {W : World} (h : WkSt b n d W) : WkGd b W := by
  obtain ⟨v, u, h1, h2, h3, h4⟩ := h
  exact ⟨v, u, _, h1, h2, h3, fun k hk => (h4.names.lt k hk).2, fun k hk => (h4.places.lt k hk).2⟩
theorem boxed_same {W W' : World} {B : Nat} {t : TypeId} {v : Value} (h : Boxed W B t v) (hs : W'.heap[B]? = W.heap[B]?) : Boxed W' B t v := hs.trans h
theorem cell_same {W W' : World} {B : Nat} (hs : W'.heap[B]? = W.heap[B]?) : W'.cell? ⟨B, 0, none⟩ = W.cell? ⟨B, 0, none⟩ := by simp [World.cell?, hs]
theorem wk_gw (b : Nat) : Gw (WkOwn b) (WkGd b) where
  old W k hg ho := by
    obtain ⟨v, u, x, h1, h2, h3, h4, h5⟩ := hg
    rcases ho with rfl | rfl | rfl | ⟨v', hv, hk⟩ | ⟨u', hu, hk⟩
    · exact h3.lt
    · exact h1.lt
    · exact h2.lt
    · rw [h1.cell] at hv; cases hv; exact h4 k hk
    · rw [h2.cell] at hu; cases hu; exact h5 k hk
  grows W W' hb hg := by
    obtain ⟨v, u, x, h1, h2, h3, h4, h5⟩ := hg
    have e1 := hb.block _ h1.lt
    have e2 := hb.block _ h2.lt
    have e3 := hb.block _ h3.lt
    exact ⟨⟨v, u, x, boxed_same h1 e1, boxed_same h2 e2, boxed_same h3 e3, fun k hk => Nat.lt_of_lt_of_le (h4 k hk) hb.size, fun k hk => Nat.lt_of_lt_of_le (h5 k hk) hb.size⟩, fun k => (wk_own_same (cell_same e1) (cell_same e2) k).1⟩
  turns W l o o' hl ho hg := by
    obtain ⟨v, u, x, h1, h2, h3, h4, h5⟩ := hg
    have ne : ∀ {B : Nat} {t : TypeId} {y : Value}, Boxed W B t y → (W.putObj l o').heap[B]? = W.heap[B]? := fun {B t y} h => World.putObj_heap_other (fun e => by subst e; rw [show W.heap[B]? = _ from h] at hl; cases hl; cases ho)
    exact ⟨⟨v, u, x, boxed_same h1 (ne h1), boxed_same h2 (ne h2), boxed_same h3 (ne h3), fun k hk => by simpa using h4 k hk, fun k hk => by simpa using h5 k hk⟩, fun k => (wk_own_same (cell_same (ne h1)) (cell_same (ne h2)) k).1⟩
theorem wk_keep (b : Nat) (n : Int) (d : List Ar) (W W' : World) (h : WkSt b n d W) (hs : ∀ k, WkOwn b W k → W'.heap[k]? = W.heap[k]?) : WkSt b n d W' ∧ ∀ k, WkOwn b W' k → WkOwn b W k := by
  obtain ⟨v, u, h1, h2, h3, h4⟩ := h
  have e1 := hs (b + 1) (.inr (.inl rfl))
  have e2 := hs (b + 2) (.inr (.inr (.inl rfl)))
  have e3 := hs b (.inl rfl)
  refine ⟨⟨v, u, boxed_same h1 e1, boxed_same h2 e2, boxed_same h3 e3, ⟨ownsRow_same h4.names fun g hg => hs g (.inr (.inr (.inr (.inl ⟨v, h1.cell, hg⟩)))), ownsRow_same h4.places fun g hg => hs g (.inr (.inr (.inr (.inr ⟨u, h2.cell, hg⟩)))), h4.apart⟩⟩, fun k => (wk_own_same (cell_same e1) (cell_same e2) k).1⟩
end Go.Proofs.YtaepcfidpekflaaGreatDoor
