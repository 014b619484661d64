/-
  plain.Choose of any names (P7). By the verifier.
-/
import Derived.Test.YtaepcfidpekflaaGreatDoorQv
namespace Go.Proofs.YtaepcfidpekflaaGreatDoor
open Go.RowKit Go.Maps

theorem namesD_take (l : List Pr.T) (k : Nat) (h : k < l.length) : namesD (l.take (k + 1)) = (namesD (l.take k)).put (.string (l.getD k [])) (.lit (.int .i64 ((k + 1 : Nat) : Int))) := by
  have e : l.take (k + 1) = l.take k ++ [l.getD k []] := by
    rw [List.take_add_one, List.getElem?_eq_getElem h]
    simp [List.getD_eq_getElem?_getD, List.getElem?_eq_getElem h]
  rw [e, namesD_snoc, List.length_take, Nat.min_eq_left (by omega)]
theorem choose_cases (S : Pr.T × Nat) (l : List Pr.T) (h : S.2 = 0 ∨ S.2 = 9 ∨ S.2 = 10) : (chooseN S l).2 = 0 ∨ (chooseN S l).2 = 9 ∨ (chooseN S l).2 = 10 ∨ (chooseN S l).2 = 16 := by
  unfold chooseN
  split
  · simp only; omega
  · split
    · simp
    · split <;> simp
set_option maxHeartbeats 1600000 in
set_option maxRecDepth 100000 in
theorem pchoose_end (w : World) (a : Option Addr) (c : Nat) (v : Value) (l : List (Pr.T × Pr.T)) (s : ByteArray) (ns : List Pr.T) (hn : ns.length ≤ 1000000) (hsz : ∀ t ∈ ns, t.length < 1000000) (hs : s.size < 1000000) (hsm : (catOf l s.data.toList).1.length < 1000000) (hB : Base w) (hR : RulesIn w a l) (hv : SlE w v ns) :
    Calls Tryz.prog 35 #[.slice a l.length c, .string s, v] w fun e w' => e = .returned (.tuple #[.int .i64 (chooseN (catOf l s.data.toList) ns).1, .int .i64 (chooseN (catOf l s.data.toList) ns).2]) ∧ Below w.heap.size w w' := by
  have law := string_keyed Tryz.underlying9
  have hmm := @run_makeMap Tryz.prog
  have hm0 := World.ownsMap_made w Tryz.prog 9 intElem
  have hb0 := (Below.refl w.heap.size w).alloc (Nat.le_refl _) (.map #[] 0)
  have h3 := choose_cases (catOf l s.data.toList) ns (catOf_cases l s.data.toList)
  have CC : Hid (∀ W K, Below w.heap.size w W → W.ownsMap Tryz.prog 9 intElem w.heap.size K (namesD ns) → Calls Tryz.prog 61 #[.slice a l.length c, .string s, .map (some w.heap.size)] W fun e w' => e = .returned (.tuple #[.int .i64 (chooseN (catOf l s.data.toList) ns).1, errV (chooseN (catOf l s.data.toList) ns).2]) ∧ Below W.heap.size W w') := fun W K hb hm => choosei_any W a c w.heap.size K l s ns hs hsm (hB.below hb) (hR.keep hb) hm
  have HZ : Hid (∀ t ∈ ns, t.length < 1000000) := hsz
  have HV : Hid (SlE w v ns) := hv
  obtain ⟨X, hX⟩ : ∃ X, Hid (chooseN (catOf l s.data.toList) ns = X) := ⟨_, rfl⟩
  rw [hX.out] at CC h3 ⊢
  clear hX hR hsm hsz hv
  rcases HV.out with ⟨ad, cd, rfl, rfl⟩ | ⟨blk, off, cc, rfl, hc, hbl, hcell⟩
  · clear HV
    go_enter Tryz.func35, Tryz.ntmps35
    go_wp2_with fail
    refine wp_loop_rounds 1 ?_
    rw [rounds_succ]
    have cc := CC.out _ 0 hb0 hm0
    clear hm0
    go_wp2_with fail
    refine cc.mono ?_
    rintro e w3 ⟨rfl, hb3⟩
    clear cc
    replace hb3 := below_of hb0 hb3
    by_cases hk : X.2 = 0
    · unfold errV
      rw [if_pos hk]
      have hk' : Hid (X.2 = 0) := hk
      clear hk h3
      go_wp2_with fail
      refine (tell_nil _).mono ?_
      rintro e w4 ⟨rfl, hb4⟩
      go_wp2
      go_ret2
      exact ⟨by rw [hk'.out]; rfl, below_of hb3 hb4⟩
    · unfold errV
      rw [if_neg hk]
      go_wp2_with fail
      refine (tell_errno X.2 _ (hB.below hb3).1).mono ?_
      rintro e w4 ⟨rfl, hb4⟩
      go_wp2
      go_ret2
      exact ⟨rfl, below_of hb3 hb4⟩
  · have HC : Hid (∀ j, j < ns.length → w.cell? ⟨blk, off + j, none⟩ = some (strV (ns.getD j []))) := hcell
    clear HV hcell
    go_enter Tryz.func35, Tryz.ntmps35
    go_wp2_with fail
    go_loopw [18] (fun i wr => ∃ k : Nat, k ≤ ns.length ∧ i = .int .i64 k ∧ wr.ownsMap Tryz.prog 9 intElem w.heap.size k (namesD (ns.take k)) ∧ Below w.heap.size w wr) (fun i _ => ns.length - (intOf i).toNat)
    case atStart => exact ⟨0, Nat.zero_le _, rfl, hm0, hb0⟩
    case round =>
      obtain ⟨k, hk, rfl, hm, hb⟩ := hrel
      clear hm0 hb0
      by_cases hlt : k < ns.length
      · have hlt' : (k : Int) < ns.length := by omega
        have ck := (hb.cell (p := ⟨blk, off + k, none⟩) hbl).trans (HC.out k hlt)
        have hz : (ns.getD k []).length < 1000000 := HZ.out _ (by rw [List.getD_eq_getElem?_getD, List.getElem?_eq_getElem hlt]; exact List.getElem_mem hlt)
        have HD := namesD_take ns k hlt
        unfold strV at ck
        have hw1 : IntKind.i64.wrap ((k : Int) + 1) = k + 1 := by rw [IntKind.wrap_i64]; omega
        generalize ns.getD k [] = u at *
        have hkey : keyOf Tryz.prog 9 (.string ⟨u.toArray⟩) = some (.string u) := WideMaps.keyOf_string_mk Tryz.underlying9 (by show u.toArray.size ≤ maxLen; unfold maxLen; simp; omega)
        go_wp2_with (at_mapUpdate; refine wpList_mapUpdate_own _ rfl _ _ _ 121 rfl 9 3 law Tryz.underlying121 intElem w.heap.size k _ rfl hm (by unfold maxLen; omega) _ _ _ rfl rfl hkey _ [] (intElem_mk ((k + 1 : Nat) : Int)) ?_; intro w1 hm1 hg1)
        go_roundw
        case rel =>
          refine ⟨k + 1, hlt, by go_num, ?_, hb.grown hg1 hb.size (fun j hj => by cases hj; exact Nat.le_refl _)⟩
          rw [HD]
          exact hm1
        case measure => simp [intOf]; omega
      · have hlt' : ¬ (k : Int) < ns.length := by omega
        rw [List.take_of_length_le (by omega)] at hm
        have cc := CC.out _ k hb hm
        clear hm
        go_wp2_with fail
        refine cc.mono ?_
        rintro e w3 ⟨rfl, hb3⟩
        clear cc
        replace hb3 := below_of hb hb3
        by_cases hk0 : X.2 = 0
        · unfold errV
          rw [if_pos hk0]
          have hk' : Hid (X.2 = 0) := hk0
          clear hk0 h3
          go_wp2_with fail
          refine (tell_nil _).mono ?_
          rintro e w4 ⟨rfl, hb4⟩
          go_wp2
          go_ret2
          exact ⟨by rw [hk'.out]; rfl, below_of hb3 hb4⟩
        · unfold errV
          rw [if_neg hk0]
          go_wp2_with fail
          refine (tell_errno X.2 _ (hB.below hb3).1).mono ?_
          rintro e w4 ⟨rfl, hb4⟩
          go_wp2
          go_ret2
          exact ⟨rfl, below_of hb3 hb4⟩
end Go.Proofs.YtaepcfidpekflaaGreatDoor
