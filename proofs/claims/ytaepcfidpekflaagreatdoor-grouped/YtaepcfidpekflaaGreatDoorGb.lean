/-
  Grouped (P4): the walk. By the verifier.
-/
import Derived.Test.YtaepcfidpekflaaGreatDoorGa
import Derived.Deep.DeepCutAuto
import Derived.Deep.CutBlock
namespace Go.Proofs.YtaepcfidpekflaaGreatDoor
open Go.RowKit

theorem grouped_long (s : ByteArray) (fi ne : Int) (w : World) (h : (60 : Int) < (s.size : Int)) :
    Calls Tryz.prog 4 #[.string s, .int .i64 fi, .int .i64 ne] w fun e w' => e = .returned (.bool true) ∧ Below w.heap.size w w' := by
  go_enter Tryz.func4, Tryz.ntmps4
  go_wp2
  go_ret
  exact ⟨rfl, Below.refl _ _⟩

set_option maxHeartbeats 4000000 in
theorem grouped_num (s : ByteArray) (fi ne : Int) (w : World) (hsz : s.size ≤ 60) (f0 : -9223372036854775808 ≤ fi) (f1 : fi ≤ 9223372036854775807) (g0 : -9223372036854775808 ≤ ne) (g1 : ne ≤ 9223372036854775807)
    (hB : Base w) (hN : Pn.isNum s.data.toList = false) :
    Calls Tryz.prog 4 #[.string s, .int .i64 fi, .int .i64 ne] w fun e w' => e = .returned (.bool true) ∧ Below w.heap.size w w' := by
  have HB : Hid (Base w) := hB
  have HN : Hid (Pn.isNum s.data.toList = false) := hN
  clear hB hN
  have hs0 : ¬ (60 : Int) < (s.size : Int) := by omega
  have hA := Pn.pick10_le fi
  have hBb := Pn.pick10_le ne
  go_enter Tryz.func4, Tryz.ntmps4
  go_wp2_with fail
  refine (english_any _ HB.out).mono ?_
  rintro e w1 ⟨⟨a0, a1, n0, c0, n1, c1, rfl, hro⟩, hb1⟩
  have hw := hb1
  clear hb1
  go_wp2_with fail
  refine (known_eng _ _ _ _ _ _ _ (rules_after hro _) ((HB.out.below hw).alloc _)).mono ?_
  clear hro
  rintro e w2 ⟨rfl, hb2⟩
  replace hw := below_of (hw.alloc hw.size _) hb2
  clear hb2
  go_wp2_with fail
  refine (pick_any fi _ f0 f1).mono ?_
  rintro e w3 ⟨rfl, rfl⟩
  go_wp2_with fail
  refine (pick_any ne _ g0 g1).mono ?_
  rintro e w4 ⟨rfl, rfl⟩
  generalize Pn.pick10 fi = A at *
  generalize Pn.pick10 ne = B at *
  go_wp2_with fail
  refine (bare_any _).mono ?_
  rintro e w5 ⟨rfl, hb5⟩
  replace hw := below_of hw hb5
  clear hb5
  go_wp2_with fail
  refine (bare_num s _ ((HB.out.below hw).alloc _) (by omega) HN.out).mono ?_
  rintro e w6 ⟨rfl, hb6⟩
  have r := (row_at w5 #[.slice none 0 0, .slice none 0 0, .int .i32 45, .int .i32 46, .int .i32 0, .int .u8 0, .int .u8 0, .string ⟨#[]⟩] 25).keep hb6
  have hw5 := hw.size
  replace hw := below_of (hw.alloc hw.size _) hb6
  clear hb6
  have q := r.2.1
  have p := r.2.2
  have hA' : (A : Int) ≤ 9 := by omega
  have hB' : (B : Int) ≤ 9 := by omega
  go_wp2_with fail
  have hw7 := ((hw.setCell (p := ⟨w5.heap.size, 4, none⟩) hw5 (.int .i32 44)).setCell (p := ⟨w5.heap.size, 5, none⟩) hw5 (.int .u8 A)).setCell (p := ⟨w5.heap.size, 6, none⟩) hw5 (.int .u8 B)
  clear q p r
  refine (grp_num s A B _ (HB.out.below hw7) hA hBb (by omega) HN.out).mono ?_
  rintro e w8 ⟨rfl, hb8⟩
  replace hw := below_of hw7 hb8
  clear hw7 hb8
  go_wp2
  go_ret
  exact ⟨rfl, hw⟩

theorem cat_one (U : ByteArray) (k : Nat) (h : k < U.data.toList.length) (a b : List UInt8) (e : b = a ++ [U.data.toList[k]]) : (⟨a.toArray⟩ : ByteArray) ++ U.extract k (k + 1) = ⟨b.toArray⟩ := by
  rw [Lib.extract_eq, e]
  have : (U.data.toList.drop k).take (k + 1 - k) = [U.data.toList[k]] := by
    rw [List.drop_eq_getElem_cons h, show k + 1 - k = 1 by omega]; rfl
  rw [this]
  apply ByteArray.ext
  simp [ByteArray.data_append]
theorem val_int {k : IntKind} {a b : Int} (h : a = b) : Value.int k a = .int k b := by rw [h]
theorem plain_count (a b : Nat) (ha : a ≤ 9) (hb : b ≤ 9) (l : List UInt8) (h : Pn.isNum l = true) : (Pn.plainB (Pn.firstOf 44 a) (Pn.nextOf 44 a b) l).count 44 = Pn.many (Pn.firstOf 44 a) (Pn.nextOf 44 a b) ((Pn.aOf l).length - 1) := by
  by_cases h0 : Pn.firstOf 44 a = 0
  · rw [h0]
    have e : Pn.many 0 (Pn.nextOf 44 a b) ((Pn.aOf l).length - 1) = 0 := by simp [Pn.many]
    rw [e]
    exact Pn.wAll_count0 _ l h
  · have h1 := first_next 44 a b h0
    have h2 := next_le 44 a b ha hb
    exact Pn.wAll_count _ _ (by omega) h2 l h

set_option maxHeartbeats 4000000 in
set_option maxRecDepth 100000 in
theorem grouped_yes (s : ByteArray) (fi ne : Int) (w : World) (hsz : s.size ≤ 60) (f0 : -9223372036854775808 ≤ fi) (f1 : fi ≤ 9223372036854775807) (g0 : -9223372036854775808 ≤ ne) (g1 : ne ≤ 9223372036854775807)
    (hB : Base w) (hN : Pn.isNum s.data.toList = true) :
    Calls Tryz.prog 4 #[.string s, .int .i64 fi, .int .i64 ne] w fun e w' => e = .returned (.bool true) ∧ Below w.heap.size w w' := by
  have HB : Hid (Base w) := hB
  have HN : Hid (Pn.isNum s.data.toList = true) := hN
  clear hB hN
  have hs0 : ¬ (60 : Int) < (s.size : Int) := by omega
  have hA := Pn.pick10_le fi
  have hBb := Pn.pick10_le ne
  go_enter Tryz.func4, Tryz.ntmps4
  go_wp2_with fail
  refine (english_any _ HB.out).mono ?_
  rintro e w1 ⟨⟨a0, a1, n0, c0, n1, c1, rfl, hro⟩, hb1⟩
  have hw := hb1
  clear hb1
  go_wp2_with fail
  refine (known_eng _ _ _ _ _ _ _ (rules_after hro _) ((HB.out.below hw).alloc _)).mono ?_
  clear hro
  rintro e w2 ⟨rfl, hb2⟩
  replace hw := below_of (hw.alloc hw.size _) hb2
  clear hb2
  go_wp2_with fail
  refine (pick_any fi _ f0 f1).mono ?_
  rintro e w3 ⟨rfl, rfl⟩
  go_wp2_with fail
  refine (pick_any ne _ g0 g1).mono ?_
  rintro e w4 ⟨rfl, rfl⟩
  generalize Pn.pick10 fi = A at *
  generalize Pn.pick10 ne = B at *
  go_wp2_with fail
  refine (bare_any _).mono ?_
  rintro e w5 ⟨rfl, hb5⟩
  replace hw := below_of hw hb5
  clear hb5
  go_wp2_with fail
  refine (bare_yes s _ ((HB.out.below hw).alloc _) (by omega) HN.out).mono ?_
  rintro e w6 ⟨rfl, hb6⟩
  have r := (row_at w5 #[.slice none 0 0, .slice none 0 0, .int .i32 45, .int .i32 46, .int .i32 0, .int .u8 0, .int .u8 0, .string ⟨#[]⟩] 25).keep hb6
  have hw5 := hw.size
  replace hw := below_of (hw.alloc hw.size _) hb6
  clear hb6
  have q := r.2.1
  have p := r.2.2
  have hA' : (A : Int) ≤ 9 := by omega
  have hB' : (B : Int) ≤ 9 := by omega
  go_wp2_with fail
  have hw7 := ((hw.setCell (p := ⟨w5.heap.size, 4, none⟩) hw5 (.int .i32 44)).setCell (p := ⟨w5.heap.size, 5, none⟩) hw5 (.int .u8 A)).setCell (p := ⟨w5.heap.size, 6, none⟩) hw5 (.int .u8 B)
  clear q p r
  refine (grp_yes s A B _ (HB.out.below hw7) hA hBb (by omega) HN.out).mono ?_
  rintro e w8 ⟨rfl, hb8⟩
  replace hw := below_of hw7 hb8
  clear hw7 hb8
  have HU1 : Hid ((⟨(Pn.plainB (Pn.firstOf 44 A) (Pn.nextOf 44 A B) s.data.toList).toArray⟩ : ByteArray).data.toList.filter (fun c => c != 44) = s.data.toList) := Pn.wAll_without _ _ _ HN.out
  have HU2 : Hid ((⟨(Pn.plainB (Pn.firstOf 44 A) (Pn.nextOf 44 A B) s.data.toList).toArray⟩ : ByteArray).data.toList.count 44 = Pn.many (Pn.firstOf 44 A) (Pn.nextOf 44 A B) ((Pn.aOf s.data.toList).length - 1)) := plain_count A B hA hBb _ HN.out
  have hul : (⟨(Pn.plainB (Pn.firstOf 44 A) (Pn.nextOf 44 A B) s.data.toList).toArray⟩ : ByteArray).size ≤ 200 := by rw [Lib.size_mk]; exact Pn.plain_len (Pn.firstOf 44 A) (Pn.nextOf 44 A B) s.data.toList HN.out
  have HM : Hid (Pn.many (Pn.firstOf 44 A) (Pn.nextOf 44 A B) ((Pn.aOf s.data.toList).length - 1) = if A = 0 ∨ (Pn.aOf s.data.toList).length ≤ A then 0 else 1 + ((Pn.aOf s.data.toList).length - A - 1) / (if B = 0 then A else B)) := Pn.many_eq A B _
  generalize (⟨(Pn.plainB (Pn.firstOf 44 A) (Pn.nextOf 44 A B) s.data.toList).toArray⟩ : ByteArray) = U at *
  generalize Pn.many (Pn.firstOf 44 A) (Pn.nextOf 44 A B) ((Pn.aOf s.data.toList).length - 1) = M at *
  go_upto_if 79 with fail
  go_cut [11] (fun t wc => t = .int .i64 ((if B = 0 then A else B : Nat)) ∧ wc = w8)
  case first =>
    by_cases hB0 : B = 0
    · have hb0 : ((B : Int) == 0) = true := by simp [hB0]
      have HE : Hid ((if B = 0 then A else B : Nat) = A) := if_pos hB0
      clear hB0
      go_wp2
      go_meet
      case rel => exact ⟨val_int (by rw [HE.out]), rfl⟩
    · have hb0 : ((B : Int) == 0) = false := by simp; omega
      have HE : Hid ((if B = 0 then A else B : Nat) = B) := if_neg hB0
      clear hB0
      go_wp2
      go_meet
      case rel => exact ⟨val_int (by rw [HE.out]), rfl⟩
  case rest =>
    obtain ⟨rfl, hwc⟩ := hcut
    subst hwc
    have hb9 : (if B = 0 then A else B : Nat) ≤ 9 := by split <;> omega
    have hb1 : A ≠ 0 → (if B = 0 then A else B : Nat) ≠ 0 := by intro h; split <;> omega
    generalize (if B = 0 then A else B : Nat) = b' at *
    have hup := Pn.upto_le s.data.toList
    rw [← Lib.size_eq] at hup
    have HP : Hid (Pn.upto s.data.toList = (if Pn.minusOf s.data.toList then 1 else 0) + (Pn.aOf s.data.toList).length) := Pn.upto_num _ HN.out
    have hpos : 0 < s.size := by rw [Lib.size_eq]; exact Pn.num_pos _ HN.out
    go_upto_block 0 with fail
    go_cut [17] (fun t wd => t = .int .i64 (Pn.upto s.data.toList : Nat) ∧ wd = wc)
    case first =>
      go_wp2_with fail
      go_loop [17] (fun t => ∃ k : Nat, k ≤ s.size ∧ t = .int .i64 k ∧ Hid (∀ j (hj : j < s.data.toList.length), j < k → s.data.toList[j] ≠ 46)) (fun t => s.size - (intOf t).toNat)
      case atStart => exact ⟨0, Nat.zero_le _, rfl, fun j _ h => by omega⟩
      case round =>
        obtain ⟨k, hk, rfl, HK⟩ := hrel
        by_cases hlt : k < s.size
        · have hlt' : k < s.data.toList.length := by rw [← Lib.size_eq]; exact hlt
          have hgk : s.data.toList[k] = s[k] := rfl
          by_cases hc : s[k].toNat = 46
          · have hc' : ((s[k].toNat : Int) != 46) = false := by simp; omega
            have HX : Hid (k = Pn.upto s.data.toList) := (Pn.upto_at _ k hlt' HK.out (by rw [hgk]; exact UInt8.toNat_inj.1 hc)).symm
            clear hc hgk
            go_wp2
            go_meet
            case rel => exact ⟨val_int (by rw [← HX.out]), rfl⟩
          · have hc' : ((s[k].toNat : Int) != 46) = true := by simp; omega
            have HK2 : Hid (∀ j (hj : j < s.data.toList.length), j < k + 1 → s.data.toList[j] ≠ 46) := by
              intro j hj h
              by_cases e : j = k
              · subst e; intro h46; rw [hgk] at h46; exact hc (by rw [h46]; rfl)
              · exact HK.out j hj (by omega)
            clear hc hgk
            go_wp2
            go_round
            case rel => exact ⟨k + 1, hlt, by go_num, HK2⟩
            case measure => simp [intOf]; omega
        · have HX : Hid (k = Pn.upto s.data.toList) := by
            show _ = _
            rw [Pn.upto_end _ (fun j hj => HK.out j hj (by rw [← Lib.size_eq] at hj; omega)), ← Lib.size_eq]
            omega
          go_wp2
          go_meet
          case rel => exact ⟨val_int (by rw [← HX.out]), rfl⟩
    case rest =>
      obtain ⟨rfl, hwd⟩ := hcut
      subst hwd
      go_upto_if 95 with fail
      go_cut [17] (fun t we => t = .int .i64 ((Pn.aOf s.data.toList).length : Nat) ∧ we = wc)
      case first =>
        have hh : s[0] = s.data.toList[0]'(by rw [← Lib.size_eq]; exact hpos) := rfl
        have hm := Pn.head_minus s.data.toList (by rw [← Lib.size_eq]; exact hpos)
        rw [← hh] at hm
        cases hmm : Pn.minusOf s.data.toList with
        | true =>
          have HP2 : Hid (Pn.upto s.data.toList = 1 + (Pn.aOf s.data.toList).length) := by
            show _ = _
            rw [HP.out, hmm]; rfl
          have h45 : ((s[0].toNat : Int) == 45) = true := by
            rw [hmm, beq_iff_eq] at hm
            rw [hm]; rfl
          have hup1 : 1 ≤ Pn.upto s.data.toList := by rw [HP2.out]; omega
          clear hh hm hmm HP
          go_wp2
          go_meet
          case rel => exact ⟨val_int (by rw [HP2.out]; omega), rfl⟩
        | false =>
          have HP2 : Hid (Pn.upto s.data.toList = (Pn.aOf s.data.toList).length) := by
            show _ = _
            rw [HP.out, hmm]; simp
          have h45 : ((s[0].toNat : Int) == 45) = false := by
            rw [hmm, beq_eq_false_iff_ne] at hm
            rw [beq_eq_false_iff_ne]
            intro e
            exact hm (UInt8.toNat_inj.1 (by rw [show (45 : UInt8).toNat = 45 from rfl]; omega))
          clear hh hm hmm HP
          go_wp2
          go_meet
          case rel => exact ⟨val_int (by rw [HP2.out]), rfl⟩
      case rest =>
        obtain ⟨rfl, hwe⟩ := hcut
        subst hwe
        have hDl := Pn.num_len s.data.toList HN.out
        generalize (Pn.aOf s.data.toList).length = D at *
        by_cases hA0 : A = 0
        · have hA1 : ¬ (0 : Int) < A := by omega
          have HM2 : Hid (M = 0) := by
            show _ = _
            rw [HM.out, if_pos (Or.inl hA0)]
          clear hA0 HM hb1
          go_wp2_with fail
          clear hup hpos
          go_loop [19, 20, 21] (fun t19 t20 t21 => ∃ k : Nat, k ≤ U.size ∧ t21 = .int .i64 k ∧ t20 = .int .i64 (Pn.seen U.data.toList k : Nat) ∧ t19 = .string ⟨(Pn.gone U.data.toList k).toArray⟩) (fun _ _ t21 => U.size - (intOf t21).toNat)
          case atStart => exact ⟨0, Nat.zero_le _, rfl, rfl, rfl⟩
          case round =>
            obtain ⟨k, hk, rfl, rfl, rfl⟩ := hrel
            have hsl := Pn.seen_le U.data.toList k
            have hgl : (Pn.gone U.data.toList k).length ≤ U.size := by rw [Lib.size_eq]; exact Pn.gone_le _ _
            rw [← Lib.size_eq] at hsl
            by_cases hlt : k < U.size
            · have hlt' : k < U.data.toList.length := by rw [← Lib.size_eq]; exact hlt
              have hgk : U.data.toList[k] = U[k] := rfl
              by_cases hc : U[k].toNat = 44
              · have hc' : ((U[k].toNat : Int) == 44) = true := by simp; omega
                have h44 : U.data.toList[k] = 44 := by rw [hgk]; exact UInt8.toNat_inj.1 hc
                have HG : Hid (Pn.gone U.data.toList (k + 1) = Pn.gone U.data.toList k) := Pn.gone_yes _ k hlt' h44
                have HS : Hid (Pn.seen U.data.toList (k + 1) = Pn.seen U.data.toList k + 1) := Pn.seen_yes _ k hlt' h44
                clear hc h44 hgk
                go_wp2
                go_round
                case rel => exact ⟨k + 1, hlt, by go_num, val_int (by rw [HS.out]; omega), by rw [HG.out]⟩
                case measure => simp [intOf]; omega
              · have hc' : ((U[k].toNat : Int) == 44) = false := by simp; omega
                have h44 : ¬ U.data.toList[k] = 44 := fun e => hc (by rw [← hgk, e]; rfl)
                have HG : Hid (Pn.gone U.data.toList (k + 1) = Pn.gone U.data.toList k ++ [U.data.toList[k]]) := Pn.gone_no _ k hlt' h44
                have HS : Hid (Pn.seen U.data.toList (k + 1) = Pn.seen U.data.toList k) := Pn.seen_no _ k hlt' h44
                have HX : Hid ((⟨(Pn.gone U.data.toList k).toArray⟩ : ByteArray) ++ U.extract k (k + 1) = ⟨(Pn.gone U.data.toList (k + 1)).toArray⟩) := cat_one U k hlt' _ _ HG.out
                clear hc h44 hgk
                go_wp2
                go_round
                case rel => exact ⟨k + 1, hlt, by go_num, val_int (by rw [HS.out]), by rw [HX.out]⟩
                case measure => simp [intOf]; omega
            · have hku : k = U.size := by omega
              have HG : Hid (Pn.gone U.data.toList k = s.data.toList) := by
                show _ = _
                rw [← HU1.out, Pn.gone, List.take_of_length_le (by rw [← Lib.size_eq]; omega)]
              have HS : Hid (Pn.seen U.data.toList k = M) := by
                show _ = _
                rw [← HU2.out, Pn.seen, List.take_of_length_le (by rw [← Lib.size_eq]; omega)]
              clear hku
              rw [HG.out, HS.out, Lib.mk_data]
              go_wp2
              go_ret
              exact ⟨ret_bool (by rw [HM2.out]; rfl), hw⟩
        · have hA1 : (0 : Int) < A := by omega
          by_cases hDA : D ≤ A
          · have hD1 : ¬ (A : Int) < D := by omega
            have HM2 : Hid (M = 0) := by
              show _ = _
              rw [HM.out, if_pos (Or.inr hDA)]
            clear hA0 HM hb1 hDA
            go_wp2_with fail
            clear hup hpos
            go_loop [19, 20, 21] (fun t19 t20 t21 => ∃ k : Nat, k ≤ U.size ∧ t21 = .int .i64 k ∧ t20 = .int .i64 (Pn.seen U.data.toList k : Nat) ∧ t19 = .string ⟨(Pn.gone U.data.toList k).toArray⟩) (fun _ _ t21 => U.size - (intOf t21).toNat)
            case atStart => exact ⟨0, Nat.zero_le _, rfl, rfl, rfl⟩
            case round =>
              obtain ⟨k, hk, rfl, rfl, rfl⟩ := hrel
              have hsl := Pn.seen_le U.data.toList k
              have hgl : (Pn.gone U.data.toList k).length ≤ U.size := by rw [Lib.size_eq]; exact Pn.gone_le _ _
              rw [← Lib.size_eq] at hsl
              by_cases hlt : k < U.size
              · have hlt' : k < U.data.toList.length := by rw [← Lib.size_eq]; exact hlt
                have hgk : U.data.toList[k] = U[k] := rfl
                by_cases hc : U[k].toNat = 44
                · have hc' : ((U[k].toNat : Int) == 44) = true := by simp; omega
                  have h44 : U.data.toList[k] = 44 := by rw [hgk]; exact UInt8.toNat_inj.1 hc
                  have HG : Hid (Pn.gone U.data.toList (k + 1) = Pn.gone U.data.toList k) := Pn.gone_yes _ k hlt' h44
                  have HS : Hid (Pn.seen U.data.toList (k + 1) = Pn.seen U.data.toList k + 1) := Pn.seen_yes _ k hlt' h44
                  clear hc h44 hgk
                  go_wp2
                  go_round
                  case rel => exact ⟨k + 1, hlt, by go_num, val_int (by rw [HS.out]; omega), by rw [HG.out]⟩
                  case measure => simp [intOf]; omega
                · have hc' : ((U[k].toNat : Int) == 44) = false := by simp; omega
                  have h44 : ¬ U.data.toList[k] = 44 := fun e => hc (by rw [← hgk, e]; rfl)
                  have HG : Hid (Pn.gone U.data.toList (k + 1) = Pn.gone U.data.toList k ++ [U.data.toList[k]]) := Pn.gone_no _ k hlt' h44
                  have HS : Hid (Pn.seen U.data.toList (k + 1) = Pn.seen U.data.toList k) := Pn.seen_no _ k hlt' h44
                  have HX : Hid ((⟨(Pn.gone U.data.toList k).toArray⟩ : ByteArray) ++ U.extract k (k + 1) = ⟨(Pn.gone U.data.toList (k + 1)).toArray⟩) := cat_one U k hlt' _ _ HG.out
                  clear hc h44 hgk
                  go_wp2
                  go_round
                  case rel => exact ⟨k + 1, hlt, by go_num, val_int (by rw [HS.out]), by rw [HX.out]⟩
                  case measure => simp [intOf]; omega
              · have hku : k = U.size := by omega
                have HG : Hid (Pn.gone U.data.toList k = s.data.toList) := by
                  show _ = _
                  rw [← HU1.out, Pn.gone, List.take_of_length_le (by rw [← Lib.size_eq]; omega)]
                have HS : Hid (Pn.seen U.data.toList k = M) := by
                  show _ = _
                  rw [← HU2.out, Pn.seen, List.take_of_length_le (by rw [← Lib.size_eq]; omega)]
                clear hku
                rw [HG.out, HS.out, Lib.mk_data]
                go_wp2
                go_ret
                exact ⟨ret_bool (by rw [HM2.out]; rfl), hw⟩
          · have hD1 : (A : Int) < D := by omega
            have hbp : (0 : Int) < b' := by have := hb1 hA0; omega
            have hq0 : 0 ≤ ((D : Int) - A - 1) / b' := Int.ediv_nonneg (by omega) (by omega)
            have hq1 : ((D : Int) - A - 1) / b' ≤ 30 := Int.le_trans (Int.ediv_le_self _ (by omega)) (by omega)
            have HM2 : Hid ((M : Int) = 1 + ((D : Int) - A - 1) / b') := by
              show _ = _
              rw [HM.out, if_neg (by omega)]
              have e : ((D - A - 1 : Nat) : Int) = (D : Int) - A - 1 := by omega
              rw [← e]
              simp
            clear hA0 HM hb1 hDA
            go_wp2_with fail
            clear hup hpos
            go_loop [19, 20, 21] (fun t19 t20 t21 => ∃ k : Nat, k ≤ U.size ∧ t21 = .int .i64 k ∧ t20 = .int .i64 (Pn.seen U.data.toList k : Nat) ∧ t19 = .string ⟨(Pn.gone U.data.toList k).toArray⟩) (fun _ _ t21 => U.size - (intOf t21).toNat)
            case atStart => exact ⟨0, Nat.zero_le _, rfl, rfl, rfl⟩
            case round =>
              obtain ⟨k, hk, rfl, rfl, rfl⟩ := hrel
              have hsl := Pn.seen_le U.data.toList k
              have hgl : (Pn.gone U.data.toList k).length ≤ U.size := by rw [Lib.size_eq]; exact Pn.gone_le _ _
              rw [← Lib.size_eq] at hsl
              by_cases hlt : k < U.size
              · have hlt' : k < U.data.toList.length := by rw [← Lib.size_eq]; exact hlt
                have hgk : U.data.toList[k] = U[k] := rfl
                by_cases hc : U[k].toNat = 44
                · have hc' : ((U[k].toNat : Int) == 44) = true := by simp; omega
                  have h44 : U.data.toList[k] = 44 := by rw [hgk]; exact UInt8.toNat_inj.1 hc
                  have HG : Hid (Pn.gone U.data.toList (k + 1) = Pn.gone U.data.toList k) := Pn.gone_yes _ k hlt' h44
                  have HS : Hid (Pn.seen U.data.toList (k + 1) = Pn.seen U.data.toList k + 1) := Pn.seen_yes _ k hlt' h44
                  clear hc h44 hgk
                  go_wp2
                  go_round
                  case rel => exact ⟨k + 1, hlt, by go_num, val_int (by rw [HS.out]; omega), by rw [HG.out]⟩
                  case measure => simp [intOf]; omega
                · have hc' : ((U[k].toNat : Int) == 44) = false := by simp; omega
                  have h44 : ¬ U.data.toList[k] = 44 := fun e => hc (by rw [← hgk, e]; rfl)
                  have HG : Hid (Pn.gone U.data.toList (k + 1) = Pn.gone U.data.toList k ++ [U.data.toList[k]]) := Pn.gone_no _ k hlt' h44
                  have HS : Hid (Pn.seen U.data.toList (k + 1) = Pn.seen U.data.toList k) := Pn.seen_no _ k hlt' h44
                  have HX : Hid ((⟨(Pn.gone U.data.toList k).toArray⟩ : ByteArray) ++ U.extract k (k + 1) = ⟨(Pn.gone U.data.toList (k + 1)).toArray⟩) := cat_one U k hlt' _ _ HG.out
                  clear hc h44 hgk
                  go_wp2
                  go_round
                  case rel => exact ⟨k + 1, hlt, by go_num, val_int (by rw [HS.out]), by rw [HX.out]⟩
                  case measure => simp [intOf]; omega
              · have hku : k = U.size := by omega
                have HG : Hid (Pn.gone U.data.toList k = s.data.toList) := by
                  show _ = _
                  rw [← HU1.out, Pn.gone, List.take_of_length_le (by rw [← Lib.size_eq]; omega)]
                have HS : Hid (Pn.seen U.data.toList k = M) := by
                  show _ = _
                  rw [← HU2.out, Pn.seen, List.take_of_length_le (by rw [← Lib.size_eq]; omega)]
                clear hku
                rw [HG.out, HS.out, Lib.mk_data]
                go_wp2
                go_ret
                exact ⟨ret_bool (by rw [HM2.out]; simp), hw⟩
end Go.Proofs.YtaepcfidpekflaaGreatDoor
