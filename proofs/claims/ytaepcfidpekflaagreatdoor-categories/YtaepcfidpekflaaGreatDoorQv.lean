/-
  Choose of a map of numbers (P7). By the verifier.
-/
import Derived.Test.YtaepcfidpekflaaGreatDoorQt
namespace Go.Proofs.YtaepcfidpekflaaGreatDoor
open Go.RowKit Go.Maps

def intElem (v : Value) : Option (DataW Unit × List MemPlace) := match v with
  | .int .i64 k => some (.lit (.int .i64 k), [])
  | _ => none
theorem intElem_mk (k : Int) : intElem (.int .i64 k) = some (.lit (.int .i64 k), []) := rfl
theorem intElem_inv {v : Value} {k : Int} {ps : List MemPlace} (h : intElem v = some (.lit (.int .i64 k), ps)) : v = .int .i64 k := by
  unfold intElem at h
  split at h
  · injection h with h
    injection h with h _
    injection h with h
    injection h with _ h
    rw [h]
  · cases h
/-- The map of names: of the k-th, counted from 0, k + 1. -/
def namesP (l : List Pr.T) : Nat × DataW Unit := l.foldl (fun p n => (p.1 + 1, p.2.put (.string n) (.lit (.int .i64 ((p.1 + 1 : Nat) : Int))))) (0, .map [])
def namesD (l : List Pr.T) : DataW Unit := (namesP l).2
def lastP (t : Pr.T) (l : List Pr.T) : Nat × Nat := l.foldl (fun p n => (p.1 + 1, if n = t then p.1 + 1 else p.2)) (0, 0)
/-- The last place of a word, counted from 1; 0: none. -/
def lastAt (t : Pr.T) (l : List Pr.T) : Nat := (lastP t l).2
theorem namesP_len (l : List Pr.T) : (namesP l).1 = l.length := by
  have h : ∀ (l : List Pr.T) (p : Nat × DataW Unit), (l.foldl (fun p n => (p.1 + 1, p.2.put (.string n) (.lit (.int .i64 ((p.1 + 1 : Nat) : Int))))) p).1 = p.1 + l.length := by
    intro l
    induction l with
    | nil => intro p; rfl
    | cons n l ih => intro p; rw [List.foldl_cons, ih]; simp; omega
  rw [namesP, h]; simp
theorem lastP_len (t : Pr.T) (l : List Pr.T) : (lastP t l).1 = l.length := by
  have h : ∀ (l : List Pr.T) (p : Nat × Nat), (l.foldl (fun p n => (p.1 + 1, if n = t then p.1 + 1 else p.2)) p).1 = p.1 + l.length := by
    intro l
    induction l with
    | nil => intro p; rfl
    | cons n l ih => intro p; rw [List.foldl_cons, ih]; simp; omega
  rw [lastP, h]; simp
theorem namesD_snoc (l : List Pr.T) (n : Pr.T) : namesD (l ++ [n]) = (namesD l).put (.string n) (.lit (.int .i64 ((l.length + 1 : Nat) : Int))) := by
  unfold namesD
  have h := namesP_len l
  unfold namesP at h ⊢
  rw [List.foldl_append]
  simp only [List.foldl_cons, List.foldl_nil]
  rw [h]
theorem lastAt_snoc (t : Pr.T) (l : List Pr.T) (n : Pr.T) : lastAt t (l ++ [n]) = if n = t then l.length + 1 else lastAt t l := by
  unfold lastAt
  have h := lastP_len t l
  unfold lastP at h ⊢
  rw [List.foldl_append]
  simp only [List.foldl_cons, List.foldl_nil]
  rw [h]
theorem lastAt_le (t : Pr.T) : ∀ (k : Nat) (l : List Pr.T), l.length ≤ k → lastAt t l ≤ l.length := by
  intro k
  induction k with
  | zero =>
    intro l h
    have : l = [] := List.length_eq_zero_iff.1 (by omega)
    subst this
    exact Nat.le_refl _
  | succ k ih =>
    intro l h
    rcases List.eq_nil_or_concat l with rfl | ⟨l, n, rfl⟩
    · exact Nat.le_refl _
    · simp only [List.concat_eq_append, List.length_append, List.length_singleton] at h ⊢
      rw [lastAt_snoc]
      have := ih l (by omega)
      split <;> omega
theorem names_get : ∀ (k : Nat) (l : List Pr.T), l.length ≤ k → IsMap (namesD l) ∧ ∀ t : Pr.T, Maps.has (namesD l) (.string t) = decide (lastAt t l ≠ 0) ∧ ∀ z, (namesD l).atKey (.string t) z = if lastAt t l = 0 then z else .lit (.int .i64 ((lastAt t l : Nat) : Int)) := by
  intro k
  induction k with
  | zero =>
    intro l h
    have : l = [] := List.length_eq_zero_iff.1 (by omega)
    subst this
    exact ⟨isMap_empty, fun t => ⟨rfl, fun z => rfl⟩⟩
  | succ k ih =>
    intro l h
    rcases List.eq_nil_or_concat l with rfl | ⟨l, n, rfl⟩
    · exact ⟨isMap_empty, fun t => ⟨rfl, fun z => rfl⟩⟩
    · simp only [List.concat_eq_append, List.length_append, List.length_singleton] at h ⊢
      obtain ⟨h1, h2⟩ := ih l (by omega)
      rw [namesD_snoc]
      refine ⟨h1.put _ _, fun t => ?_⟩
      rw [lastAt_snoc]
      by_cases e : n = t
      · subst e
        rw [if_pos rfl]
        refine ⟨?_, fun z => ?_⟩
        · rw [has_put_same h1 (show WideAt.IsKeyLit (.string n) from trivial)]; simp
        · rw [atKey_put_same h1 (show WideAt.IsKeyLit (.string n) from trivial), if_neg (by omega)]
      · rw [if_neg e]
        have hne : Lit.string t ≠ Lit.string n := fun x => by injection x with x; exact e x.symm
        refine ⟨?_, fun z => ?_⟩
        · rw [has_put_other hne]; exact (h2 t).1
        · rw [atKey_put_other hne]; exact (h2 t).2 z
/-- A slice of texts: empty, or texts in a row. -/
def SlE (w : World) (v : Value) (l : List Pr.T) : Prop := (∃ a c, v = .slice a 0 c ∧ l = []) ∨
  ∃ blk off c, v = .slice (some ⟨blk, off, none⟩) l.length c ∧ l.length ≤ c ∧ blk < w.heap.size ∧ ∀ j, j < l.length → w.cell? ⟨blk, off + j, none⟩ = some (strV (l.getD j []))
theorem SlE.keep {w w' : World} {v : Value} {l : List Pr.T} (h : SlE w v l) (hb : Below w.heap.size w w') : SlE w' v l := by
  rcases h with h | ⟨blk, off, c, h1, h2, h3, h4⟩
  · exact .inl h
  · exact .inr ⟨blk, off, c, h1, h2, Nat.lt_of_lt_of_le h3 hb.size, fun j hj => (hb.cell (p := ⟨blk, off + j, none⟩) h3).trans (h4 j hj)⟩
/-- What Choose answers of a map of names, and the error's number. -/
def chooseN (S : Pr.T × Nat) (l : List Pr.T) : Nat × Nat := if S.2 ≠ 0 then (0, S.2) else if lastAt S.1 l ≠ 0 then (lastAt S.1 l, 0) else if lastAt other l ≠ 0 then (lastAt other l, 0) else (0, 16)
theorem zero_int (w : World) : (zeroValue 3).run Tryz.prog w = .ok (.int .i64 0) w := by kernel_rfl

set_option maxHeartbeats 1600000 in
set_option maxRecDepth 100000 in
theorem choosei_any (w : World) (a : Option Addr) (c M K : Nat) (l : List (Pr.T × Pr.T)) (s : ByteArray) (ns : List Pr.T) (hs : s.size < 1000000) (hsm : (catOf l s.data.toList).1.length < 1000000) (hB : Base w) (hR : RulesIn w a l) (hm : w.ownsMap Tryz.prog 9 intElem M K (namesD ns)) :
    Calls Tryz.prog 61 #[.slice a l.length c, .string s, .map (some M)] w fun e w' => e = .returned (.tuple #[.int .i64 (chooseN (catOf l s.data.toList) ns).1, errV (chooseN (catOf l s.data.toList) ns).2]) ∧ Below w.heap.size w w' := by
  have law := string_keyed Tryz.underlying9
  have cc := category_any _ a c l s hs hB hR
  have h3 := catOf_cases l s.data.toList
  have hg := (names_get ns.length ns (Nat.le_refl _)).2
  clear hR
  generalize catOf l s.data.toList = S at *
  obtain ⟨t, k⟩ := S
  simp only at cc h3 hsm ⊢
  by_cases hk : k = 0
  · subst hk
    unfold errV at cc
    rw [if_pos rfl] at cc
    have hkey : keyOf Tryz.prog 9 (.string ⟨t.toArray⟩) = some (.string t) := WideMaps.keyOf_string_mk Tryz.underlying9 (by show t.toArray.size ≤ maxLen; unfold maxLen; simp; omega)
    have hkey2 : keyOf Tryz.prog 9 (.string ⟨#[111, 116, 104, 101, 114]⟩) = some (.string other) := WideMaps.keyOf_string_mk Tryz.underlying9 (by decide)
    obtain ⟨C, hC⟩ : ∃ C, Hid (chooseN (t, 0) ns = C) := ⟨_, rfl⟩
    rw [hC.out]
    obtain ⟨hh1, ha1⟩ := hg t
    obtain ⟨hh2, ha2⟩ := hg other
    clear hg
    go_enter Tryz.func61, Tryz.ntmps61
    go_wp2_with fail
    refine cc.mono ?_
    rintro e w1 ⟨rfl, hb1⟩
    clear cc
    have hm1 := hm.kept (grown_of hb1) (by simp)
    by_cases hA : lastAt t ns = 0
    · have hhf : Maps.has (namesD ns) (.string t) = false := by rw [hh1]; simp [hA]
      rw [hA] at ha1
      by_cases hO : lastAt other ns = 0
      · have hhg : Maps.has (namesD ns) (.string other) = false := by rw [hh2]; simp [hO]
        have hF : Hid (C = (0, 16)) := by show _ = _; rw [← hC.out]; simp [chooseN, hA, hO]
        clear hh1 hh2 ha1 ha2 hA hO
        go_wp2_with (first | (at_lookup; refine wpList_lookup_own_ok _ rfl _ _ 121 rfl 9 3 law Tryz.underlying121 intElem (zero_int _) (.lit (.int .i64 0)) [] rfl M K (namesD ns) rfl hm1 _ _ rfl hkey ?_; intro v ps hv) | (at_lookup; refine wpList_lookup_own_ok _ rfl _ _ 121 rfl 9 3 law Tryz.underlying121 intElem (zero_int _) (.lit (.int .i64 0)) [] rfl M K (namesD ns) rfl hm1 _ _ rfl hkey2 ?_; intro v ps hv))
        go_ret2
        exact ⟨by rw [hF.out]; rfl, hb1⟩
      · have hhg : Maps.has (namesD ns) (.string other) = true := by rw [hh2]; simp [hO]
        have hF : Hid (C = (lastAt other ns, 0)) := by show _ = _; rw [← hC.out]; simp [chooseN, hA, hO]
        have ha3 := ha2 (.lit (.int .i64 0))
        rw [if_neg hO] at ha3
        clear hh1 hh2 ha1 ha2 hA hO
        generalize lastAt other ns = r at *
        go_wp2_with (first | (at_lookup; refine wpList_lookup_own_ok _ rfl _ _ 121 rfl 9 3 law Tryz.underlying121 intElem (zero_int _) (.lit (.int .i64 0)) [] rfl M K (namesD ns) rfl hm1 _ _ rfl hkey ?_; intro v ps hv) | (at_lookup; refine wpList_lookup_own_ok _ rfl _ _ 121 rfl 9 3 law Tryz.underlying121 intElem (zero_int _) (.lit (.int .i64 0)) [] rfl M K (namesD ns) rfl hm1 _ _ rfl hkey2 ?_; intro v ps hv; rw [ha3] at hv; obtain rfl := intElem_inv hv))
        go_ret2
        exact ⟨by rw [hF.out]; rfl, hb1⟩
    · have hhf : Maps.has (namesD ns) (.string t) = true := by rw [hh1]; simp [hA]
      have hF : Hid (C = (lastAt t ns, 0)) := by show _ = _; rw [← hC.out]; simp [chooseN, hA]
      have ha3 := ha1 (.lit (.int .i64 0))
      rw [if_neg hA] at ha3
      clear hh1 hh2 ha1 ha2 hA
      generalize lastAt t ns = r at *
      go_wp2_with (at_lookup; refine wpList_lookup_own_ok _ rfl _ _ 121 rfl 9 3 law Tryz.underlying121 intElem (zero_int _) (.lit (.int .i64 0)) [] rfl M K (namesD ns) rfl hm1 _ _ rfl hkey ?_; intro v ps hv; rw [ha3] at hv; obtain rfl := intElem_inv hv)
      go_ret2
      exact ⟨by rw [hF.out]; rfl, hb1⟩
  · unfold errV at cc
    rw [if_neg hk] at cc
    obtain ⟨C, hC⟩ : ∃ C, Hid (chooseN (t, k) ns = C) := ⟨_, rfl⟩
    rw [hC.out]
    have hF : Hid (C = (0, k)) := by show _ = _; rw [← hC.out]; simp [chooseN, hk]
    clear hC hg
    go_enter Tryz.func61, Tryz.ntmps61
    go_wp2_with fail
    refine cc.mono ?_
    rintro e w1 ⟨rfl, hb1⟩
    clear cc
    go_wp2
    go_ret2
    exact ⟨by rw [hF.out]; simp [errV, hk], hb1⟩
end Go.Proofs.YtaepcfidpekflaaGreatDoor
