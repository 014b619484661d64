/-
  Choose of a map of pairs, plain.Both (P7). By the verifier.
-/
import Derived.Test.YtaepcfidpekflaaGreatDoorQs
namespace Go.Proofs.YtaepcfidpekflaaGreatDoor
open Go.RowKit Go.Maps

def pairV (t : Pr.T) (k : Int) : Value := .agg #[.string ⟨t.toArray⟩, .int .i64 k]
def pairD (t : Pr.T) (k : Int) : DataW Unit := .agg [.lit (.string t), .lit (.int .i64 k)]
def pairElem (v : Value) : Option (DataW Unit × List MemPlace) := match v with
  | .agg cs => match cs.toList with
    | [.string s, .int .i64 k] => some (pairD s.data.toList k, [])
    | _ => none
  | _ => none
theorem pairElem_mk (t : Pr.T) (k : Int) : pairElem (pairV t k) = some (pairD t k, []) := rfl
theorem pairElem_inv {v : Value} {t : Pr.T} {k : Int} {ps : List MemPlace} (h : pairElem v = some (pairD t k, ps)) : v = pairV t k := by
  unfold pairElem at h
  split at h
  · rename_i cs
    split at h
    · rename_i s k' he
      have hcs : cs = #[.string s, .int .i64 k'] := by
        apply Array.toList_inj.1
        rw [he]
      simp only [Option.some.injEq, Prod.mk.injEq, pairD, DataW.agg.injEq, List.cons.injEq, DataW.lit.injEq, Lit.string.injEq, Lit.int.injEq] at h
      obtain ⟨⟨h1, ⟨_, h2⟩, _⟩, _⟩ := h
      subst h2
      rw [hcs, pairV, ← h1]
    · cases h
  · cases h
def other : Pr.T := [111, 116, 104, 101, 114]
def few : Pr.T := [102, 101, 119]
/-- The map of Both's two names. -/
def D2 : DataW Unit := ((DataW.map []).put (.string other) (pairD other 0)).put (.string few) (pairD few 1)
theorem zero_pair (w : World) : (zeroValue 80).run Tryz.prog w = .ok (pairV [] 0) w := by kernel_rfl
theorem D1_map : IsMap ((DataW.map [] : DataW Unit).put (.string other) (pairD other 0)) := isMap_empty.put _ _
theorem few_other : Lit.string few ≠ Lit.string other := by
  intro h
  injection h with h
  exact absurd h (by decide)
theorem D2_few (z : DataW Unit) : D2.atKey (.string few) z = pairD few 1 ∧ Maps.has D2 (.string few) = true := by
  unfold D2
  exact ⟨atKey_put_same D1_map (show WideAt.IsKeyLit (.string few) from trivial) _ _, has_put_same D1_map (show WideAt.IsKeyLit (.string few) from trivial) _⟩
theorem D2_other (z : DataW Unit) : D2.atKey (.string other) z = pairD other 0 ∧ Maps.has D2 (.string other) = true := by
  unfold D2
  rw [atKey_put_other few_other.symm, has_put_other few_other.symm]
  exact ⟨atKey_put_same isMap_empty (show WideAt.IsKeyLit (.string other) from trivial) _ _, has_put_same isMap_empty (show WideAt.IsKeyLit (.string other) from trivial) _⟩
theorem D2_none (t : Pr.T) (h1 : t ≠ few) (h2 : t ≠ other) : Maps.has D2 (.string t) = false := by
  unfold D2
  rw [has_put_other (by simpa using h1), has_put_other (by simpa using h2)]
  rfl
theorem D2_zero (t : Pr.T) (h1 : t ≠ few) (h2 : t ≠ other) (z : DataW Unit) : D2.atKey (.string t) z = z := by
  unfold D2
  rw [atKey_put_other (by simpa using h1), atKey_put_other (by simpa using h2)]
  rfl
/-- What Choose answers of Both's two names. -/
def choice (S : Pr.T × Nat) : Value := if S.2 ≠ 0 then pairV [] 0 else if S.1 = few then pairV few 1 else pairV other 0

set_option maxHeartbeats 1600000 in
set_option maxRecDepth 100000 in
theorem choose_any (w : World) (a : Option Addr) (c M : Nat) (l : List (Pr.T × Pr.T)) (s : ByteArray) (hs : s.size < 1000000) (hsm : (catOf l s.data.toList).1.length < 1000000) (hB : Base w) (hR : RulesIn w a l) (hm : w.ownsMap Tryz.prog 9 pairElem M 2 D2) :
    Calls Tryz.prog 38 #[.slice a l.length c, .string s, .map (some M)] w fun e w' => e = .returned (.tuple #[choice (catOf l s.data.toList), errV (catOf l s.data.toList).2]) ∧ Below w.heap.size w w' := by
  have law := string_keyed Tryz.underlying9
  have hb0 := (Below.refl w.heap.size w).alloc (Nat.le_refl _) (.cells #[.string ⟨#[]⟩, .int .i64 0] 80)
  have r0 := row_at w #[.string ⟨#[]⟩, .int .i64 0] 80
  have cc := category_any _ a c l s hs (hB.below hb0) (hR.keep hb0)
  have h3 := catOf_cases l s.data.toList
  have hm0 := hm.alloc (.cells #[.string ⟨#[]⟩, .int .i64 0] 80)
  clear hR hm
  generalize catOf l s.data.toList = S at *
  obtain ⟨t, k⟩ := S
  simp only at cc h3 hsm ⊢
  by_cases hk : k = 0
  · subst hk
    unfold errV at cc
    rw [if_pos rfl] at cc
    have hkey : keyOf Tryz.prog 9 (.string ⟨t.toArray⟩) = some (.string t) := WideMaps.keyOf_string_mk Tryz.underlying9 (by show t.toArray.size ≤ maxLen; unfold maxLen; simp; omega)
    have hkey2 : keyOf Tryz.prog 9 (.string ⟨#[111, 116, 104, 101, 114]⟩) = some (.string other) := WideMaps.keyOf_string_mk Tryz.underlying9 (by decide)
    go_enter Tryz.func38, Tryz.ntmps38
    go_wp2_with fail
    refine cc.mono ?_
    rintro e w1 ⟨rfl, hb1⟩
    clear cc
    replace r0 := r0.keep hb1
    have hm1 := hm0.kept (grown_of hb1) (by simp)
    replace hb1 := below_of hb0 hb1
    have q0 := fun o => (r0.alloc o).2.1
    have q1 := fun o => (r0.alloc o).2.2
    have q0' := fun o p => ((r0.alloc o).alloc p).2.1
    have q1' := fun o p => ((r0.alloc o).alloc p).2.2
    have hb2 := fun o => hb1.alloc hb1.size o
    have hb3 := fun o p => (hb2 o).alloc (by have := hb1.size; simp; omega) p
    by_cases hf : t = few
    · subst hf
      have hh := (D2_few (pairD [] 0)).2
      go_wp2_with (at_lookup; refine wpList_lookup_own_ok _ rfl _ _ 78 rfl 9 80 law Tryz.underlying78 pairElem (zero_pair _) (pairD [] 0) [] rfl M 2 D2 rfl hm1 _ _ rfl hkey ?_; intro v ps hv; rw [(D2_few _).1] at hv; obtain rfl := pairElem_inv hv; unfold pairV)
      refine bodyPost_ret (v := .tuple #[pairV few 1, .nilIface]) (by simp [results, Tryz.results38, go_sem, q0, pairV]) rfl ⟨rfl, ?_⟩
      exact ((hb2 _).setCell (p := ⟨w.heap.size, 0, none⟩) (Nat.le_refl _) _).setCell (p := ⟨w.heap.size, 1, none⟩) (Nat.le_refl _) _
    · by_cases ho : t = other
      · subst ho
        have hh := (D2_other (pairD [] 0)).2
        clear hf
        go_wp2_with (at_lookup; refine wpList_lookup_own_ok _ rfl _ _ 78 rfl 9 80 law Tryz.underlying78 pairElem (zero_pair _) (pairD [] 0) [] rfl M 2 D2 rfl hm1 _ _ rfl hkey ?_; intro v ps hv; rw [(D2_other _).1] at hv; obtain rfl := pairElem_inv hv; unfold pairV)
        refine bodyPost_ret (v := .tuple #[pairV other 0, .nilIface]) (by simp [results, Tryz.results38, go_sem, q0, pairV]) rfl ⟨rfl, ?_⟩
        exact ((hb2 _).setCell (p := ⟨w.heap.size, 0, none⟩) (Nat.le_refl _) _).setCell (p := ⟨w.heap.size, 1, none⟩) (Nat.le_refl _) _
      · have hn := D2_none t hf ho
        have hh := (D2_other (pairD [] 0)).2
        have hF : Hid (choice (t, 0) = pairV other 0) := by show _ = _; simp [choice, hf]
        have hz := D2_zero t hf ho (pairD [] 0)
        clear hf ho
        go_wp2_with (first | (at_lookup; refine wpList_lookup_own_ok _ rfl _ _ 78 rfl 9 80 law Tryz.underlying78 pairElem (zero_pair _) (pairD [] 0) [] rfl M 2 D2 rfl hm1 _ _ rfl hkey ?_; intro v ps hv; rw [hz] at hv; obtain rfl := pairElem_inv hv; unfold pairV) | (at_lookup; refine wpList_lookup_own_ok _ rfl _ _ 78 rfl 9 80 law Tryz.underlying78 pairElem (zero_pair _) (pairD [] 0) [] rfl M 2 D2 rfl (hm1.alloc _) _ _ rfl hkey2 ?_; intro v ps hv; rw [(D2_other _).1] at hv; obtain rfl := pairElem_inv hv; unfold pairV))
        refine bodyPost_ret (v := .tuple #[pairV other 0, .nilIface]) (by simp [results, Tryz.results38, go_sem, q0', pairV]) rfl ⟨by rw [hF.out]; rfl, ?_⟩
        exact ((hb3 _ _).setCell (p := ⟨w.heap.size, 0, none⟩) (Nat.le_refl _) _).setCell (p := ⟨w.heap.size, 1, none⟩) (Nat.le_refl _) _
  · unfold errV at cc ⊢
    rw [if_neg hk] at cc ⊢
    have hF : Hid (choice (t, k) = pairV [] 0) := by show _ = _; simp [choice, hk]
    go_enter Tryz.func38, Tryz.ntmps38
    go_wp2_with fail
    refine cc.mono ?_
    rintro e w1 ⟨rfl, hb1⟩
    clear cc
    replace r0 := r0.keep hb1
    replace hb1 := below_of hb0 hb1
    have q0 := r0.2.1
    have q1 := r0.2.2
    go_wp2
    refine bodyPost_ret (v := .tuple #[pairV [] 0, .iface 30 (.int .i64 k)]) (by simp [results, Tryz.results38, go_sem, q0, pairV]) rfl ⟨by rw [hF.out], ?_⟩
    exact (hb1.setCell (p := ⟨w.heap.size, 0, none⟩) (Nat.le_refl _) _).setCell (p := ⟨w.heap.size, 1, none⟩) (Nat.le_refl _) _
end Go.Proofs.YtaepcfidpekflaaGreatDoor
