/-
  plain.Both of two names (P7). By the verifier.
-/
import Derived.Test.YtaepcfidpekflaaGreatDoorQt
namespace Go.Proofs.YtaepcfidpekflaaGreatDoor
open Go.RowKit Go.Maps

/-- What Both answers. -/
def bothT (S : Pr.T × Nat) : Pr.T := if S.2 ≠ 0 then [] else if S.1 = few then few else other
def bothK (S : Pr.T × Nat) : Int := if S.2 ≠ 0 then 0 else if S.1 = few then 1 else 0
theorem choice_eq (S : Pr.T × Nat) : choice S = pairV (bothT S) (bothK S) := by
  unfold choice bothT bothK
  split
  · rfl
  · split <;> rfl
set_option maxHeartbeats 1600000 in
set_option maxRecDepth 100000 in
theorem both_names (w : World) (a : Option Addr) (c N : Nat) (l : List (Pr.T × Pr.T)) (s : ByteArray) (hs : s.size < 1000000) (hsm : (catOf l s.data.toList).1.length < 1000000) (hB : Base w) (hR : RulesIn w a l) (hN : Row w N #[.string ⟨#[111, 116, 104, 101, 114]⟩, .string ⟨#[102, 101, 119]⟩]) :
    Calls Tryz.prog 22 #[.slice a l.length c, .string s, .slice (some ⟨N, 0, none⟩) 2 2] w fun e w' => e = .returned (.tuple #[.string ⟨(bothT (catOf l s.data.toList)).toArray⟩, .int .i64 (bothK (catOf l s.data.toList)), .int .i64 (catOf l s.data.toList).2]) ∧ Below w.heap.size w w' := by
  obtain ⟨S, hS⟩ : ∃ S, Hid (catOf l s.data.toList = S) := ⟨_, rfl⟩
  rw [hS.out]
  have law := string_keyed Tryz.underlying9
  have hmm := @run_makeMap Tryz.prog
  have hkey1 : keyOf Tryz.prog 9 (.string ⟨#[111, 116, 104, 101, 114]⟩) = some (.string other) := WideMaps.keyOf_string_mk Tryz.underlying9 (by decide)
  have hkey2 : keyOf Tryz.prog 9 (.string ⟨#[102, 101, 119]⟩) = some (.string few) := WideMaps.keyOf_string_mk Tryz.underlying9 (by decide)
  have q0 := fun o => (hN.alloc o).2.1
  have hm0 := World.ownsMap_made w Tryz.prog 9 pairElem
  have hb0 := (Below.refl w.heap.size w).alloc (Nat.le_refl _) (.map #[] 0)
  have hNlt := hN.1
  go_enter Tryz.func22, Tryz.ntmps22
  go_wp2_with fail
  refine wp_loop_rounds 3 ?_
  rw [rounds_succ]
  go_wp2_with (at_mapUpdate; refine wpList_mapUpdate_own _ rfl _ _ _ 78 rfl 9 80 law Tryz.underlying78 pairElem w.heap.size 0 _ rfl hm0 (by decide) _ _ _ rfl rfl hkey1 _ [] (pairElem_mk other 0) ?_; intro w1 hm1 hg1)
  have s1 := hg1.size
  simp only [World.size_alloc] at s1
  have hb1 : Below w.heap.size w w1 := hb0.grown hg1 (by simp) (fun j hj => by cases hj; exact Nat.le_refl _)
  have n1 : ∀ j, w1.cell? ⟨N, j, none⟩ = #[Value.string ⟨#[111, 116, 104, 101, 114]⟩, .string ⟨#[102, 101, 119]⟩][j]? := fun j => (hb1.cell (p := ⟨N, j, none⟩) hNlt).trans (hN.2.1 j)
  clear q0 hm0 hb0 hg1
  rw [rounds_succ]
  go_wp2_with (at_mapUpdate; refine wpList_mapUpdate_own _ rfl _ _ _ 78 rfl 9 80 law Tryz.underlying78 pairElem w.heap.size 1 _ rfl hm1 (by decide) _ _ _ rfl rfl hkey2 _ [] (pairElem_mk few 1) ?_; intro w2 hm2 hg2)
  have s2 := hg2.size
  have hb2 : Below w.heap.size w w2 := hb1.grown hg2 (by omega) (fun j hj => by cases hj; exact Nat.le_refl _)
  clear n1 hm1 hb1 hg2 hkey1 hkey2
  rw [rounds_succ]
  have cc := choose_any w2 a c w.heap.size l s hs hsm (hB.below hb2) (hR.keep hb2) hm2
  rw [choice_eq, hS.out] at cc
  clear hR hsm hN
  obtain ⟨T, hT⟩ : ∃ T, Hid (bothT S = T) := ⟨_, rfl⟩
  obtain ⟨K, hK⟩ : ∃ K, Hid (bothK S = K) := ⟨_, rfl⟩
  rw [hT.out, hK.out] at cc
  go_wp2_with fail
  refine cc.mono ?_
  rintro e w3 ⟨rfl, hb3⟩
  clear cc
  replace hb3 := below_of hb2 hb3
  by_cases hk : S.2 = 0
  · unfold errV
    rw [if_pos hk]
    have hk' : Hid (S.2 = 0) := hk
    unfold pairV
    go_wp2_with fail
    refine (tell_nil _).mono ?_
    rintro e w4 ⟨rfl, hb4⟩
    have q4 := ((row_at w3 #[.string ⟨T.toArray⟩, .int .i64 K] 80).keep hb4).2.1
    go_wp2
    go_region_with fail
    all_goals (go_wp2; exact bodyPost_ret (v := .tuple #[.string ⟨T.toArray⟩, .int .i64 K, .int .i64 0]) (by simp [results, Tryz.results22, go_sem]) rfl ⟨by rw [hT.out, hK.out, hk'.out]; rfl, (below_of (hb3.alloc hb3.size _) hb4).drew⟩)
  · unfold errV
    rw [if_neg hk]
    unfold pairV
    go_wp2_with fail
    refine (tell_errno S.2 _ ((hB.below hb3).alloc _).1).mono ?_
    rintro e w4 ⟨rfl, hb4⟩
    have q4 := ((row_at w3 #[.string ⟨T.toArray⟩, .int .i64 K] 80).keep hb4).2.1
    go_wp2
    go_region_with fail
    all_goals (go_wp2; exact bodyPost_ret (v := .tuple #[.string ⟨T.toArray⟩, .int .i64 K, .int .i64 S.2]) (by simp [results, Tryz.results22, go_sem]) rfl ⟨by rw [hT.out, hK.out], (below_of (hb3.alloc hb3.size _) hb4).drew⟩)
end Go.Proofs.YtaepcfidpekflaaGreatDoor
