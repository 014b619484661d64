/-
  Several texts in one (Jl). By the verifier.
-/
import Derived.Test.YtaepcfidpekflaaGreatDoorZ47
import Derived.Test.YtaepcfidpekflaaGreatDoorZ09
namespace Go.Proofs.YtaepcfidpekflaaGreatDoor
open Go.RowKit

theorem cat_ll (A B : Pr.T) : (⟨A.toArray⟩ : ByteArray) ++ ⟨B.toArray⟩ = ⟨(A ++ B).toArray⟩ := by apply ByteArray.ext; simp
theorem dbl_app : ∀ (A B : Pr.T), Dk.dbl (A ++ B) = Dk.dbl A ++ Dk.dbl B := by
  intro A B
  induction A with
  | nil => rfl
  | cons c r ih =>
    rw [List.cons_append, Dk.dbl, Dk.dbl]
    split
    · rw [ih]; rfl
    · rw [ih]; rfl
theorem dbl_len : ∀ A : Pr.T, (Dk.dbl A).length ≤ 2 * A.length := by
  intro A
  induction A with
  | nil => exact Nat.le_refl _
  | cons c r ih =>
    rw [Dk.dbl]
    split
    · simp only [List.length_cons]; omega
    · simp only [List.length_cons]; omega
theorem take_more (S : Pr.T) (j : Nat) (hj : j < S.length) : S.take (j + 1) = S.take j ++ [S[j]] := by
  rw [List.take_add_one, List.getElem?_eq_getElem hj]
  rfl
def szOf : Value → Nat
  | .string b => b.size
  | _ => 0
/-- How far apostrophes and what must be quoted go. -/
def runN (num : Bool) (S : Pr.T) : Nat := (S.takeWhile (Dk.inRun num)).length
theorem runN_take (num : Bool) (S : Pr.T) : S.take (runN num S) = S.takeWhile (Dk.inRun num) := by
  unfold runN
  induction S with
  | nil => rfl
  | cons c r ih =>
    rw [List.takeWhile_cons]
    split
    · rw [List.length_cons, List.take_succ_cons, ih]
    · rfl
theorem runN_drop (num : Bool) (S : Pr.T) : S.drop (runN num S) = S.dropWhile (Dk.inRun num) := by
  unfold runN
  induction S with
  | nil => rfl
  | cons c r ih =>
    rw [List.takeWhile_cons, List.dropWhile_cons]
    split
    · rw [List.length_cons, List.drop_succ_cons, ih]
    · rfl
theorem runN_le (num : Bool) (S : Pr.T) : runN num S ≤ S.length := (List.takeWhile_prefix _).length_le
theorem runN_stop (num : Bool) (S : Pr.T) (j : Nat) (h : S.take j ++ (S.drop j).takeWhile (Dk.inRun num) = S.takeWhile (Dk.inRun num)) (hj : j ≤ S.length) (h2 : (S.drop j).takeWhile (Dk.inRun num) = []) : runN num S = j := by
  unfold runN
  rw [← h, h2, List.append_nil, List.length_take]
  omega
set_option maxHeartbeats 3200000 in
set_option maxRecDepth 100000 in
theorem kwritten_any (w : World) (s : Pr.T) (num : Bool) (hs : s.length ≤ 100000) :
    Calls Tryz.prog 65 #[.string ⟨s.toArray⟩, .bool num] w fun e w' => e = .returned (.string ⟨(Dk.written num s).toArray⟩) ∧ w' = w := by
  obtain ⟨R, hR⟩ : ∃ R, Hid (Dk.written num s = R) := ⟨_, rfl⟩
  rw [hR.out]
  have H0 : Hid ([] ++ Dk.writtenGo num s.length s = R) := hR
  clear hR
  go_enter Tryz.func65, Tryz.ntmps65
  go_wp2_with fail
  go_loop [0, 5] (fun x t => ∃ (S T : Pr.T) (k : Nat), x = .string ⟨S.toArray⟩ ∧ t = .string ⟨T.toArray⟩ ∧ Hid (T ++ Dk.writtenGo num k S = R) ∧ S.length ≤ k ∧ T.length + 4 * S.length ≤ 400000) (fun x _ => szOf x)
  case atStart => exact ⟨s, [], s.length, rfl, rfl, H0, Nat.le_refl _, by simp; omega⟩
  case round =>
    obtain ⟨S, T, k, rfl, rfl, HG, hk, hlen⟩ := hrel
    clear H0
    by_cases hS : S = []
    · have hS' : ¬ ((0 : Int) < S.length) := by rw [hS]; simp
      have hS2 : ¬ (0 < S.length) := by rw [hS]; simp
      have HF : Hid (R = T) := by
        show _ = _
        rw [← HG.out, hS]
        cases k <;> simp [Dk.writtenGo]
      clear HG hS
      go_wp2
      go_ret
      exact ⟨by rw [HF.out]; try rfl, rfl⟩
    · have hS2 : 0 < S.length := List.length_pos_iff.2 hS
      have hS' : (0 : Int) < S.length := by omega
      have hSl : S.length ≤ 100000 := by omega
      have hNl := runN_le num S
      obtain ⟨N, hN⟩ : ∃ N, Hid (runN num S = N) := ⟨_, rfl⟩
      obtain ⟨Q, hQ⟩ : ∃ Q : Bool, Hid ((S.take N).any (fun c => c != 39) = Q) := ⟨_, rfl⟩
      rw [hN.out] at hNl
      go_upto_block 2 with fail
      go_cut [6, 7] (fun n q wd => n = .int .i64 N ∧ q = .bool Q ∧ wd = w)
      case first =>
        clear HG
        go_wp2_with fail
        go_loop [6, 7] (fun n q => ∃ (j : Nat), n = .int .i64 j ∧ q = .bool ((S.take j).any (fun c => c != 39)) ∧ j ≤ S.length ∧ Hid (S.take j ++ (S.drop j).takeWhile (Dk.inRun num) = S.takeWhile (Dk.inRun num))) (fun n q => S.length - (intOf n).toNat)
        case atStart => exact ⟨0, rfl, by simp, Nat.zero_le _, by show _ = _; simp⟩
        case round =>
          obtain ⟨j, rfl, rfl, hj, HJ⟩ := hrel
          obtain ⟨q0, hq0⟩ : ∃ q0 : Bool, (S.take j).any (fun c => c != 39) = q0 := ⟨_, rfl⟩
          have HQ0 : Hid ((S.take j).any (fun c => c != 39) = q0) := hq0
          rw [hq0]
          clear hq0
          by_cases hlt : j < S.length
          · have hlt' : (j : Int) < S.length := by omega
            obtain ⟨d, hd⟩ : ∃ d, S[j] = d := ⟨_, rfl⟩
            have hgc : ∀ h, ((⟨S.toArray⟩ : ByteArray)[j]'h) = d := fun h => hd
            have HT : Hid (S.take (j + 1) = S.take j ++ [d]) := by show _ = _; rw [take_more S j hlt, hd]
            have HD : Hid (S.drop j = d :: S.drop (j + 1)) := by show _ = _; rw [List.drop_eq_getElem_cons hlt, hd]
            clear hd
            have HR1 : Hid (Dk.inRun num d = true → S.take (j + 1) ++ (S.drop (j + 1)).takeWhile (Dk.inRun num) = S.takeWhile (Dk.inRun num)) := fun h => by
              rw [← HJ.out, HD.out, HT.out, List.takeWhile_cons, if_pos h]
              simp
            have HR2 : Hid (Dk.inRun num d = false → j = N ∧ q0 = Q) := fun h => by
              have e : N = j := by
                rw [← hN.out]
                exact runN_stop num S j HJ.out hj (by rw [HD.out, List.takeWhile_cons, h]; rfl)
              rw [← hQ.out, ← HQ0.out, e]
              exact ⟨rfl, rfl⟩
            have HQ1 : Hid ((S.take (j + 1)).any (fun c => c != 39) = (q0 || (d != 39))) := by
              show _ = _
              rw [HT.out, List.any_append, HQ0.out]
              simp
            clear HT HD HJ HQ0 hN hQ
            by_cases h39 : d = 39
            · have t39 : ((d.toNat : Int) == 39) = true := by rw [h39]; rfl
              have t39' : ((d.toNat : Int) != 39) = false := by rw [h39]; rfl
              have hin : Dk.inRun num d = true := by rw [h39]; rfl
              have H1 : Hid (S.take (j + 1) ++ (S.drop (j + 1)).takeWhile (Dk.inRun num) = S.takeWhile (Dk.inRun num)) := HR1.out hin
              have hne : (d != 39) = false := by rw [h39]; rfl
              clear hin
              clear h39
              clear HR1 HR2
              rw [hne] at HQ1
              cases q0 with
              | true =>
                go_wp2
                go_round
                case rel => exact ⟨j + 1, by go_num, by rw [HQ1.out]; try rfl, hlt, H1⟩
                case measure => simp [intOf]; omega
              | false =>
                go_wp2
                go_round
                case rel => exact ⟨j + 1, by go_num, by rw [HQ1.out]; try rfl, hlt, H1⟩
                case measure => simp [intOf]; omega
            · have f39 : ((d.toNat : Int) == 39) = false := byte_ne (n := 39) (by decide) h39
              have f39' : ((d.toNat : Int) != 39) = true := by simpa using byte_ne (n := 39) (by decide) h39
              by_cases h123 : d = 123
              · have t123 : ((d.toNat : Int) == 123) = true := by rw [h123]; rfl
                have hin : Dk.inRun num d = true := by rw [h123]; rfl
                have H1 : Hid (S.take (j + 1) ++ (S.drop (j + 1)).takeWhile (Dk.inRun num) = S.takeWhile (Dk.inRun num)) := HR1.out hin
                have hne : (d != 39) = true := by simpa using h39
                clear hin
                clear h39 h123
                clear HR1 HR2
                rw [hne] at HQ1
                cases q0 with
                | true =>
                  go_wp2
                  go_round
                  case rel => exact ⟨j + 1, by go_num, by rw [HQ1.out]; try rfl, hlt, H1⟩
                  case measure => simp [intOf]; omega
                | false =>
                  go_wp2
                  go_round
                  case rel => exact ⟨j + 1, by go_num, by rw [HQ1.out]; try rfl, hlt, H1⟩
                  case measure => simp [intOf]; omega
              · have f123 : ((d.toNat : Int) == 123) = false := byte_ne (n := 123) (by decide) h123
                by_cases h125 : d = 125
                · have t125 : ((d.toNat : Int) == 125) = true := by rw [h125]; rfl
                  have hin : Dk.inRun num d = true := by rw [h125]; rfl
                  have H1 : Hid (S.take (j + 1) ++ (S.drop (j + 1)).takeWhile (Dk.inRun num) = S.takeWhile (Dk.inRun num)) := HR1.out hin
                  have hne : (d != 39) = true := by simpa using h39
                  clear hin
                  clear h39 h123 h125
                  clear HR1 HR2
                  rw [hne] at HQ1
                  cases q0 with
                  | true =>
                    go_wp2
                    go_round
                    case rel => exact ⟨j + 1, by go_num, by rw [HQ1.out]; try rfl, hlt, H1⟩
                    case measure => simp [intOf]; omega
                  | false =>
                    go_wp2
                    go_round
                    case rel => exact ⟨j + 1, by go_num, by rw [HQ1.out]; try rfl, hlt, H1⟩
                    case measure => simp [intOf]; omega
                · have f125 : ((d.toNat : Int) == 125) = false := byte_ne (n := 125) (by decide) h125
                  by_cases h35 : d = 35
                  · have t35 : ((d.toNat : Int) == 35) = true := by rw [h35]; rfl
                    cases num with
                    | true =>
                      have hin : Dk.inRun true d = true := by rw [h35]; rfl
                      have H1 : Hid (S.take (j + 1) ++ (S.drop (j + 1)).takeWhile (Dk.inRun true) = S.takeWhile (Dk.inRun true)) := HR1.out hin
                      have hne : (d != 39) = true := by simpa using h39
                      clear hin
                      clear h39 h123 h125 h35
                      clear HR1 HR2
                      rw [hne] at HQ1
                      cases q0 with
                      | true =>
                        go_wp2
                        go_round
                        case rel => exact ⟨j + 1, by go_num, by rw [HQ1.out]; try rfl, hlt, H1⟩
                        case measure => simp [intOf]; omega
                      | false =>
                        go_wp2
                        go_round
                        case rel => exact ⟨j + 1, by go_num, by rw [HQ1.out]; try rfl, hlt, H1⟩
                        case measure => simp [intOf]; omega
                    | false =>
                      have hin : Dk.inRun false d = false := by rw [h35]; rfl
                      clear h39 h123 h125 h35
                      have e := HR2.out hin
                      have He1 : Hid (j = N) := e.1
                      have He2 : Hid (q0 = Q) := e.2
                      clear HR1 HR2 HQ1 e hin
                      go_wp2
                      go_meet
                      case rel => exact ⟨by rw [He1.out], by rw [He2.out], rfl⟩
                  · have f35 : ((d.toNat : Int) == 35) = false := byte_ne (n := 35) (by decide) h35
                    have hin : Dk.inRun num d = false := by simp [Dk.inRun, h39, h123, h125, h35]
                    clear h39 h123 h125 h35
                    have e := HR2.out hin
                    have He1 : Hid (j = N) := e.1
                    have He2 : Hid (q0 = Q) := e.2
                    clear HR1 HR2 HQ1 e hin
                    go_wp2
                    go_meet
                    case rel => exact ⟨by rw [He1.out], by rw [He2.out], rfl⟩
          · have hlt' : ((j : Int) < S.length) = False := eq_false (by omega)
            have e : N = j := by
              rw [← hN.out]
              exact runN_stop num S j HJ.out hj (by rw [List.drop_eq_nil_of_le (by omega)]; rfl)
            have He1 : Hid (j = N) := e.symm
            have He2 : Hid (q0 = Q) := by show _ = _; rw [← hQ.out, ← HQ0.out, e]
            clear HJ HQ0 hN hQ e
            go_wp2
            go_meet
            case rel => exact ⟨by rw [He1.out], by rw [He2.out], rfl⟩
      case rest =>
        obtain ⟨rfl, rfl, hwc⟩ := hcut
        have hwc' := hwc.symm
        subst hwc'
        obtain ⟨c, r, hSc⟩ : ∃ c r, S = c :: r := by
          cases S with
          | nil => exact absurd rfl hS
          | cons c r => exact ⟨c, r, rfl⟩
        have HSc : Hid (S = c :: r) := hSc
        have HSr : Hid (S.length = r.length + 1) := by show _ = _; rw [hSc]; rfl
        have HK1 : Hid (k = k - 1 + 1) := by show _ = _; omega
        cases hin : Dk.inRun num c with
        | false =>
          have hN0 : N = 0 := by
            rw [← hN.out, hSc, runN, List.takeWhile_cons, hin]
            rfl
          have hn0 : ((N : Int) == 0) = true := by rw [hN0]; rfl
          have exA : (⟨S.toArray⟩ : ByteArray).extract 0 1 = ⟨#[c]⟩ := by rw [ex_take, hSc]; rfl
          have exB : (⟨S.toArray⟩ : ByteArray).extract 1 S.length = ⟨r.toArray⟩ := by rw [ex_drop, hSc]; rfl
          have b1 : (1 : Int) ≤ S.length := by omega
          have b2 : 1 ≤ S.length := by omega
          have hcat : (⟨T.toArray⟩ : ByteArray) ++ ⟨#[c]⟩ = ⟨(T ++ [c]).toArray⟩ := cat_ll T [c]
          have HG2 : Hid (T ++ [c] ++ Dk.writtenGo num (k - 1) r = R) := by
            show _ = _
            rw [← HG.out, hSc, HK1.out, Dk.writtenGo, if_pos hin]
            simp
          have hT1 : (T ++ [c]).length = T.length + 1 := by simp
          clear HG hN hQ hSc hin
          go_wp2
          go_round
          case rel => exact ⟨r, T ++ [c], k - 1, rfl, rfl, HG2, by have := HSr.out; omega, by have := HSr.out; omega⟩
          case measure => simp only [szOf]; show r.toArray.size < S.toArray.size; simp; have := HSr.out; omega
        | true =>
          have hNp : 0 < N := by
            rw [← hN.out, hSc, runN, List.takeWhile_cons, hin]
            simp
          have hn0 : ((N : Int) == 0) = false := by rw [beq_eq_false_iff_ne]; omega
          have HG2 : Hid (T ++ ((if Q = true then 39 :: (Dk.dbl (S.take N) ++ [39]) else Dk.dbl (S.take N)) ++ Dk.writtenGo num (k - 1) (S.drop N)) = R) := by
            show _ = _
            rw [← HG.out, ← hQ.out]
            have e1 : S.take N = S.takeWhile (Dk.inRun num) := by rw [← hN.out]; exact runN_take num S
            have e2 : S.drop N = S.dropWhile (Dk.inRun num) := by rw [← hN.out]; exact runN_drop num S
            rw [e1, e2, HK1.out]
            conv => rhs; rw [hSc, Dk.writtenGo, if_neg (by rw [hin]; decide)]
            rw [← hSc]
            rfl
          have hNL : (N : Int) ≤ S.length := by omega
          have exC := ex_drop S N
          have hdl : (S.drop N).length = S.length - N := by simp
          clear HG hN hQ hSc hin
          cases Q with
          | true =>
            have c0 : (⟨T.toArray⟩ : ByteArray) ++ ⟨#[39]⟩ = ⟨(T ++ [39]).toArray⟩ := cat_ll T [39]
            go_upto_block 4 with fail
            go_cut [5] (fun t wd => t = .string ⟨((T ++ [39]) ++ Dk.dbl (S.take N)).toArray⟩ ∧ wd = w)
            case first =>
              clear HG2 exC hdl
              have hjl : (T ++ [39]).length ≤ T.length + 1 := by simp
              generalize T ++ [39] = V at *
              go_wp2_with fail
              go_loop [5, 9] (fun t i => ∃ (j : Nat) (U : Pr.T), i = .int .i64 j ∧ j ≤ N ∧ t = .string ⟨U.toArray⟩ ∧ Hid (U = V ++ Dk.dbl (S.take j)) ∧ U.length ≤ T.length + 1 + 2 * j) (fun _ i => N - (intOf i).toNat)
              case atStart => exact ⟨0, V, rfl, Nat.zero_le _, rfl, by show _ = _; simp [Dk.dbl], by omega⟩
              case round =>
                obtain ⟨j, U, rfl, hj, rfl, HU, hUl⟩ := hrel
                by_cases hlt : j < N
                · have hlt' : (j : Int) < N := by omega
                  have hjS : j < S.length := by omega
                  have hjS' : (j : Int) < S.length := by omega
                  obtain ⟨d, hd⟩ : ∃ d, S[j] = d := ⟨_, rfl⟩
                  have hgc : ∀ h, ((⟨S.toArray⟩ : ByteArray)[j]'h) = d := fun h => hd
                  have HT : Hid (S.take (j + 1) = S.take j ++ [d]) := by show _ = _; rw [take_more S j hjS, hd]
                  have ex1 : (⟨S.toArray⟩ : ByteArray).extract j (j + 1) = ⟨#[d]⟩ := by
                    rw [ex_seg, List.drop_eq_getElem_cons hjS, hd]
                    rfl
                  clear hd
                  have hw1 : IntKind.i64.wrap ((j : Int) + 1) = (j : Int) + 1 := by rw [IntKind.wrap_i64]; omega
                  have d1 : (j : Int) ≤ (j : Int) + 1 := by omega
                  have d2 : (j : Int) + 1 ≤ S.length := by omega
                  have d3 : ((j : Int) + 1).toNat = j + 1 := by omega
                  have d4 : (j : Int) ≤ S.length := by omega
                  by_cases h39 : d = 39
                  · have t39 : ((d.toNat : Int) == 39) = true := by rw [h39]; rfl
                    have c1 : (⟨U.toArray⟩ : ByteArray) ++ ⟨#[39]⟩ = ⟨(U ++ [39]).toArray⟩ := cat_ll U [39]
                    have HU2 : Hid (U ++ [39] ++ [d] = V ++ Dk.dbl (S.take (j + 1))) := by
                      show _ = _
                      rw [HT.out, dbl_app, HU.out, h39]
                      simp [Dk.dbl]
                    have hl2 : (U ++ [39] ++ [d]).length ≤ T.length + 1 + 2 * (j + 1) := by simp; omega
                    have hl3 : (U ++ [39]).length = U.length + 1 := by simp
                    have c2 : (⟨(U ++ [39]).toArray⟩ : ByteArray) ++ ⟨#[d]⟩ = ⟨(U ++ [39] ++ [d]).toArray⟩ := cat_ll (U ++ [39]) [d]
                    clear HT HU h39
                    generalize U ++ [39] ++ [d] = U3 at *
                    generalize U ++ [39] = U2 at *
                    go_wp2
                    go_round
                    case rel => exact ⟨j + 1, U3, by go_num, hlt, rfl, HU2, hl2⟩
                    case measure => simp [intOf]; omega
                  · have f39 : ((d.toNat : Int) == 39) = false := byte_ne (n := 39) (by decide) h39
                    have c1 : (⟨U.toArray⟩ : ByteArray) ++ ⟨#[d]⟩ = ⟨(U ++ [d]).toArray⟩ := cat_ll U [d]
                    have HU2 : Hid (U ++ [d] = V ++ Dk.dbl (S.take (j + 1))) := by
                      show _ = _
                      rw [HT.out, dbl_app, HU.out]
                      simp [Dk.dbl, h39]
                    have hl2 : (U ++ [d]).length ≤ T.length + 1 + 2 * (j + 1) := by simp; omega
                    clear HT HU h39
                    generalize U ++ [d] = U2 at *
                    go_wp2
                    go_round
                    case rel => exact ⟨j + 1, U2, by go_num, hlt, rfl, HU2, hl2⟩
                    case measure => simp [intOf]; omega
                · have hlt' : ((j : Int) < N) = False := eq_false (by omega)
                  have e : j = N := by omega
                  have HU2 : Hid (U = V ++ Dk.dbl (S.take N)) := by show _ = _; rw [HU.out, e]
                  clear HU e
                  go_wp2
                  go_meet
                  case rel => exact ⟨by rw [HU2.out], rfl⟩
            case rest =>
              obtain ⟨rfl, hwc⟩ := hcut
              have hwc' := hwc.symm
              subst hwc'
              have hdb := dbl_len (S.take N)
              have htk : (S.take N).length = N := by simp; omega
              have HG3 : Hid ((T ++ [39]) ++ Dk.dbl (S.take N) ++ [39] ++ Dk.writtenGo num (k - 1) (S.drop N) = R) := by
                show _ = _
                rw [← HG2.out]
                simp
              have hVl : ((T ++ [39]) ++ Dk.dbl (S.take N)).length ≤ T.length + 1 + 2 * N := by simp; omega
              have c1 : (⟨((T ++ [39]) ++ Dk.dbl (S.take N)).toArray⟩ : ByteArray) ++ ⟨#[39]⟩ = ⟨((T ++ [39]) ++ Dk.dbl (S.take N) ++ [39]).toArray⟩ := cat_ll _ [39]
              have hVl2 : ((T ++ [39]) ++ Dk.dbl (S.take N) ++ [39]).length ≤ T.length + 2 + 2 * N := by simp; omega
              clear HG2
              generalize (T ++ [39]) ++ Dk.dbl (S.take N) = V at *
              go_wp2
              go_round
              case rel => exact ⟨S.drop N, V ++ [39], k - 1, rfl, rfl, HG3, by omega, by omega⟩
              case measure => simp only [szOf]; show (S.drop N).toArray.size < S.toArray.size; simp; omega
          | false =>
            have c0 : (⟨T.toArray⟩ : ByteArray) ++ ⟨#[]⟩ = ⟨T.toArray⟩ := by have := cat_ll T []; simpa using this
            go_upto_block 4 with fail
            go_cut [5] (fun t wd => t = .string ⟨(T ++ Dk.dbl (S.take N)).toArray⟩ ∧ wd = w)
            case first =>
              clear HG2 exC hdl
              go_wp2_with fail
              go_loop [5, 9] (fun t i => ∃ (j : Nat) (U : Pr.T), i = .int .i64 j ∧ j ≤ N ∧ t = .string ⟨U.toArray⟩ ∧ Hid (U = T ++ Dk.dbl (S.take j)) ∧ U.length ≤ T.length + 1 + 2 * j) (fun _ i => N - (intOf i).toNat)
              case atStart => exact ⟨0, T, rfl, Nat.zero_le _, rfl, by show _ = _; simp [Dk.dbl], by omega⟩
              case round =>
                obtain ⟨j, U, rfl, hj, rfl, HU, hUl⟩ := hrel
                by_cases hlt : j < N
                · have hlt' : (j : Int) < N := by omega
                  have hjS : j < S.length := by omega
                  have hjS' : (j : Int) < S.length := by omega
                  obtain ⟨d, hd⟩ : ∃ d, S[j] = d := ⟨_, rfl⟩
                  have hgc : ∀ h, ((⟨S.toArray⟩ : ByteArray)[j]'h) = d := fun h => hd
                  have HT : Hid (S.take (j + 1) = S.take j ++ [d]) := by show _ = _; rw [take_more S j hjS, hd]
                  have ex1 : (⟨S.toArray⟩ : ByteArray).extract j (j + 1) = ⟨#[d]⟩ := by
                    rw [ex_seg, List.drop_eq_getElem_cons hjS, hd]
                    rfl
                  clear hd
                  have hw1 : IntKind.i64.wrap ((j : Int) + 1) = (j : Int) + 1 := by rw [IntKind.wrap_i64]; omega
                  have d1 : (j : Int) ≤ (j : Int) + 1 := by omega
                  have d2 : (j : Int) + 1 ≤ S.length := by omega
                  have d3 : ((j : Int) + 1).toNat = j + 1 := by omega
                  have d4 : (j : Int) ≤ S.length := by omega
                  by_cases h39 : d = 39
                  · have t39 : ((d.toNat : Int) == 39) = true := by rw [h39]; rfl
                    have c1 : (⟨U.toArray⟩ : ByteArray) ++ ⟨#[39]⟩ = ⟨(U ++ [39]).toArray⟩ := cat_ll U [39]
                    have HU2 : Hid (U ++ [39] ++ [d] = T ++ Dk.dbl (S.take (j + 1))) := by
                      show _ = _
                      rw [HT.out, dbl_app, HU.out, h39]
                      simp [Dk.dbl]
                    have hl2 : (U ++ [39] ++ [d]).length ≤ T.length + 1 + 2 * (j + 1) := by simp; omega
                    have hl3 : (U ++ [39]).length = U.length + 1 := by simp
                    have c2 : (⟨(U ++ [39]).toArray⟩ : ByteArray) ++ ⟨#[d]⟩ = ⟨(U ++ [39] ++ [d]).toArray⟩ := cat_ll (U ++ [39]) [d]
                    clear HT HU h39
                    generalize U ++ [39] ++ [d] = U3 at *
                    generalize U ++ [39] = U2 at *
                    go_wp2
                    go_round
                    case rel => exact ⟨j + 1, U3, by go_num, hlt, rfl, HU2, hl2⟩
                    case measure => simp [intOf]; omega
                  · have f39 : ((d.toNat : Int) == 39) = false := byte_ne (n := 39) (by decide) h39
                    have c1 : (⟨U.toArray⟩ : ByteArray) ++ ⟨#[d]⟩ = ⟨(U ++ [d]).toArray⟩ := cat_ll U [d]
                    have HU2 : Hid (U ++ [d] = T ++ Dk.dbl (S.take (j + 1))) := by
                      show _ = _
                      rw [HT.out, dbl_app, HU.out]
                      simp [Dk.dbl, h39]
                    have hl2 : (U ++ [d]).length ≤ T.length + 1 + 2 * (j + 1) := by simp; omega
                    clear HT HU h39
                    generalize U ++ [d] = U2 at *
                    go_wp2
                    go_round
                    case rel => exact ⟨j + 1, U2, by go_num, hlt, rfl, HU2, hl2⟩
                    case measure => simp [intOf]; omega
                · have hlt' : ((j : Int) < N) = False := eq_false (by omega)
                  have e : j = N := by omega
                  have HU2 : Hid (U = T ++ Dk.dbl (S.take N)) := by show _ = _; rw [HU.out, e]
                  clear HU e
                  go_wp2
                  go_meet
                  case rel => exact ⟨by rw [HU2.out], rfl⟩
            case rest =>
              obtain ⟨rfl, hwc⟩ := hcut
              have hwc' := hwc.symm
              subst hwc'
              have hdb := dbl_len (S.take N)
              have htk : (S.take N).length = N := by simp; omega
              have HG3 : Hid (T ++ Dk.dbl (S.take N) ++ Dk.writtenGo num (k - 1) (S.drop N) = R) := by
                show _ = _
                rw [← HG2.out]
                simp
              have hVl : (T ++ Dk.dbl (S.take N)).length ≤ T.length + 1 + 2 * N := by simp; omega
              have c1 : (⟨(T ++ Dk.dbl (S.take N)).toArray⟩ : ByteArray) ++ ⟨#[]⟩ = ⟨(T ++ Dk.dbl (S.take N)).toArray⟩ := by have := cat_ll (T ++ Dk.dbl (S.take N)) []; simpa using this
              clear HG2
              generalize T ++ Dk.dbl (S.take N) = V at *
              go_wp2
              go_round
              case rel => exact ⟨S.drop N, V, k - 1, rfl, rfl, HG3, by omega, by omega⟩
              case measure => simp only [szOf]; show (S.drop N).toArray.size < S.toArray.size; simp; omega
end Go.Proofs.YtaepcfidpekflaaGreatDoor
