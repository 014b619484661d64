/-
  New: rules become functions. By the verifier.
-/
import Derived.Test.YtaepcfidpekflaaGreatDoorQp
import Derived.Maps.OwnSet
import Derived.Maps.AppendAt
import Derived.StringKeys
namespace Go.Proofs.YtaepcfidpekflaaGreatDoor
open Go.RowKit Go.Maps

/-- Rules as they are handed in: names and Whens, at an address. -/
def RIn (w : World) (a : Option Addr) (l : List (Pr.T × Pr.T)) : Prop :=
  l = [] ∨ ∃ blk off, a = some ⟨blk, off, none⟩ ∧ blk < w.heap.size ∧ ∀ j, j < l.length → w.cell? ⟨blk, off + j * 2, none⟩ = some (strV (l.getD j ([], [])).1) ∧ w.cell? ⟨blk, off + j * 2 + 1, none⟩ = some (strV (l.getD j ([], [])).2)
theorem RIn.keep {w w' : World} {a : Option Addr} {l : List (Pr.T × Pr.T)} (h : RIn w a l) (hb : Below w.heap.size w w') : RIn w' a l := by
  rcases h with h | ⟨blk, off, h1, h2, h3⟩
  · exact .inl h
  · exact .inr ⟨blk, off, h1, Nat.lt_of_lt_of_le h2 hb.size, fun j hj => ⟨(hb.cell (p := ⟨blk, off + j * 2, none⟩) h2).trans (h3 j hj).1, (hb.cell (p := ⟨blk, off + j * 2 + 1, none⟩) h2).trans (h3 j hj).2⟩⟩

/-- A rule that became a function. -/
structure RuleQ where
  n : Pr.T
  v : Value
  f : Pr.Sem
  P : Nat
  E : Nat
def cellsQ (qs : List RuleQ) : List Value := qs.flatMap fun q => [strV q.n, q.v]
def semsQ (qs : List RuleQ) : List (Pr.T × Pr.Sem) := qs.map fun q => (q.n, q.f)
def namesQ (qs : List RuleQ) : List Pr.T := qs.map (·.n)
/-- Each rule's function stands; the map's block M and the row's block g are none of those that it needs. -/
def OkQ (w : World) (M : Nat) (g : Option Nat) (qs : List RuleQ) : Prop := ∀ q ∈ qs, CondIn w q.v q.f q.P q.E ∧ M ≤ q.P ∧ ∀ b, g = some b → b ≤ q.P ∨ q.E ≤ b
def setQ (qs : List RuleQ) : DataW Unit := setOf (.agg []) ((namesQ qs).map Lit.string)
theorem any_str (x : Pr.T) : ∀ l : List Pr.T, l.any ((fun y : Lit => y.sameKey (.string x)) ∘ Lit.string) = decide (x ∈ l)
  | [] => rfl
  | a :: r => by
    rw [List.any_cons, any_str x r]
    have : ((fun y : Lit => y.sameKey (.string x)) ∘ Lit.string) a = decide (x = a) := by
      show (Lit.string a).sameKey (.string x) = _
      by_cases e : x = a
      · subst e; simp [Lit.sameKey]
      · have e' : ¬ a = x := fun h => e h.symm
        simp [Lit.sameKey, e, e']
    rw [this]
    simp
theorem has_setQ (qs : List RuleQ) (x : Pr.T) : Maps.has (setQ qs) (.string x) = decide (x ∈ namesQ qs) := by
  unfold setQ
  rw [has_setOf _ _ _ (fun y hy => by obtain ⟨_, _, rfl⟩ := List.mem_map.1 hy; trivial), List.any_map]
  exact any_str x _
theorem setQ_snoc (qs : List RuleQ) (q : RuleQ) : setQ (qs ++ [q]) = (setQ qs).put (.string q.n) (.agg []) := by
  unfold setQ namesQ
  rw [List.map_append, List.map_append, List.map_singleton, List.map_singleton, setOf_snoc]
theorem cellsQ_snoc (qs : List RuleQ) (q : RuleQ) : cellsQ (qs ++ [q]) = cellsQ qs ++ [strV q.n, q.v] := by simp [cellsQ]
theorem grown_of {w w1 : World} (hb : Below w.heap.size w w1) : w.grownBy w1 none := ⟨hb.os, hb.tape, hb.output, hb.size, fun k hk _ => hb.block k hk⟩
theorem own_keep {w w1 : World} {B : Nat} {e : TypeId} {s : Nat} {v : Value} {n : Nat} {xs : List Value} (h : w.ownsRow B e s v n xs) (hb : Below w.heap.size w w1) : w1.ownsRow B e s v n xs := by
  refine World.ownsRow.kept (row := none) h (grown_of hb) ?_
  cases e : v.ownBlock with
  | none => exact .inl rfl
  | some _ => exact .inr (by simp)
theorem OkQ.later {w w1 : World} {M : Nat} {g : Option Nat} {qs : List RuleQ} (h : OkQ w M g qs) (hb : Below w.heap.size w w1) : OkQ w1 M g qs := fun q hq => ⟨(h q hq).1.later hb, (h q hq).2⟩
theorem OkQ.map {w w1 : World} {M : Nat} {g : Option Nat} {qs : List RuleQ} (h : OkQ w M g qs) (hb : w.grownBy w1 (some M)) : OkQ w1 M g qs := fun q hq =>
  ⟨(h q hq).1.move hb.size fun k a b => hb.block k (Nat.lt_of_lt_of_le b (h q hq).1.1) (by have := (h q hq).2.1; intro e; injection e with e; omega), (h q hq).2⟩
theorem OkQ.row {w w1 : World} {M : Nat} {g g' : Option Nat} {qs : List RuleQ} (h : OkQ w M g qs) (hb : w.grownBy w1 g) (hg : g' = g ∨ g' = some w.heap.size) : OkQ w1 M g' qs := fun q hq => by
  obtain ⟨h1, h2, h3⟩ := h q hq
  refine ⟨h1.move hb.size fun k a b => hb.block k (Nat.lt_of_lt_of_le b h1.1) ?_, h2, ?_⟩
  · intro e
    rcases h3 k e.symm with h | h <;> omega
  · intro b e
    rcases hg with hg | hg
    · exact h3 b (by rw [← hg]; exact e)
    · rw [hg] at e
      injection e with e
      have := h1.1
      right; omega
theorem rulesP_bad (seen : List Pr.T) (n s : Pr.T) (r : List (Pr.T × Pr.T)) (h : n ∈ seen ∨ Pr.catB n = false) : Pr.rulesP seen ((n, s) :: r) = none := by rw [Pr.rulesP, if_pos h]
theorem rulesP_when (seen : List Pr.T) (n s : Pr.T) (r : List (Pr.T × Pr.T)) (h : Pr.whenP s = none) : Pr.rulesP seen ((n, s) :: r) = none := by
  rw [Pr.rulesP]
  split
  · rfl
  · rw [h]
theorem rulesP_step (seen : List Pr.T) (n s : Pr.T) (r : List (Pr.T × Pr.T)) (f : Pr.Sem) (h : ¬ (n ∈ seen ∨ Pr.catB n = false)) (hf : Pr.whenP s = some f) (rs : List (Pr.T × Pr.Sem)) :
    (Pr.rulesP seen ((n, s) :: r)).map (rs ++ ·) = (Pr.rulesP (seen ++ [n]) r).map (rs ++ [(n, f)] ++ ·) := by
  rw [Pr.rulesP, if_neg h, hf]
  cases Pr.rulesP (seen ++ [n]) r <;> simp
/-- Rules in their row, ready. -/
def RulesV (w : World) (v : Value) (rs : List (Pr.T × Pr.Sem)) : Prop := ∃ B M g qs, rs = semsQ qs ∧ w.ownsRow B 179 2 v qs.length (cellsQ qs) ∧ OkQ w M g qs
theorem RulesV.later {w w1 : World} {v : Value} {rs : List (Pr.T × Pr.Sem)} (h : RulesV w v rs) (hb : Below w.heap.size w w1) : RulesV w1 v rs := by
  obtain ⟨B, M, g, qs, h1, h2, h3⟩ := h
  exact ⟨B, M, g, qs, h1, own_keep h2 hb, h3.later hb⟩
/-- What New answers. -/
def NewSaid (w : World) (x : Option (List (Pr.T × Pr.Sem))) (e : Ending) (w' : World) : Prop := Below w.heap.size w w' ∧ match x with
  | none => e = .returned (.tuple #[.slice none 0 0, errRule])
  | some rs => ∃ v, e = .returned (.tuple #[v, .nilIface]) ∧ RulesV w' v rs

theorem info_rule : (Tryz.prog.info? 179).map (fun i => (i.zero, i.size, i.bytes)) = some (some (.agg #[.string ⟨#[]⟩, .nilFunc]), 2, 24) := by kernel_rfl
theorem zero_unit (w : World) : (zeroValue 172).run Tryz.prog w = .ok (.agg #[]) w := by kernel_rfl

set_option maxHeartbeats 3200000 in
set_option maxRecDepth 100000 in
theorem new_some (w : World) (blk off : Nat) (l : List (Pr.T × Pr.T)) (c : Nat) (hl : l.length ≤ 100000) (hsz : ∀ q ∈ l, q.1.length < 1000000 ∧ q.2.length < 1000000) (hB : Base w) (hblk : blk < w.heap.size)
    (hcell : ∀ j, j < l.length → w.cell? ⟨blk, off + j * 2, none⟩ = some (strV (l.getD j ([], [])).1) ∧ w.cell? ⟨blk, off + j * 2 + 1, none⟩ = some (strV (l.getD j ([], [])).2)) :
    Calls Tryz.prog 62 #[.slice (some ⟨blk, off, none⟩) l.length c] w fun e w' => NewSaid w (Pr.rulesP [] l) e w' := by
  have hmm := @run_makeMap Tryz.prog
  obtain ⟨i0, hi0, hz0, hz1, hz2⟩ := info_parts info_rule
  have HI : Hid (Tryz.prog.info? 179 = some i0 ∧ i0.zero = some (.agg #[.string ⟨#[]⟩, .nilFunc]) ∧ i0.size = 2 ∧ i0.bytes = 24) := ⟨hi0, hz0, hz1, hz2⟩
  have HS : Hid (∀ q ∈ l, q.1.length < 1000000 ∧ q.2.length < 1000000) := hsz
  have HC : Hid (∀ j, j < l.length → w.cell? ⟨blk, off + j * 2, none⟩ = some (strV (l.getD j ([], [])).1) ∧ w.cell? ⟨blk, off + j * 2 + 1, none⟩ = some (strV (l.getD j ([], [])).2)) := hcell
  clear hi0 hz0 hz1 hz2 hsz hcell
  obtain ⟨S, hS⟩ : ∃ S, Hid (Pr.rulesP [] l = S) := ⟨_, rfl⟩
  rw [hS.out]
  have law := string_keyed Tryz.underlying9
  go_enter Tryz.func62, Tryz.ntmps62
  go_wp2_with fail
  go_loopw [4, 15] (fun v i wr => ∃ (k : Nat) (qs : List RuleQ), k ≤ l.length ∧ i = .int .i64 k ∧ qs.length = k ∧ wr.ownsMap Tryz.prog 9 unitElem w.heap.size k (setQ qs) ∧ wr.ownsRow (w.heap.size + 1) 179 2 v k (cellsQ qs) ∧ Below w.heap.size w wr ∧ w.heap.size + 1 ≤ wr.heap.size ∧ OkQ wr w.heap.size v.ownBlock qs ∧ Hid (S = (Pr.rulesP (namesQ qs) (l.drop k)).map (semsQ qs ++ ·)))
    (fun _ i _ => l.length - (intOf i).toNat)
  case atStart => exact ⟨0, [], Nat.zero_le _, rfl, rfl, World.ownsMap_made _ _ _ _, World.ownsRow_nil _ _ _ _, (Below.refl _ _).alloc (Nat.le_refl _) _, by simp, fun q hq => (by cases hq), by show _ = _; rw [← hS.out]; simp [semsQ, namesQ]⟩
  case round =>
    obtain ⟨k, qs, hk, rfl, hqk, hmap, hrow, hb, hws, hok, hR⟩ := hrel
    by_cases hlt : k < l.length
    · obtain ⟨n, hn⟩ : ∃ n, (l.getD k ([], [])).1 = n := ⟨_, rfl⟩
      obtain ⟨s, hs⟩ : ∃ s, (l.getD k ([], [])).2 = s := ⟨_, rfl⟩
      have hlk : l.getD k ([], []) = (n, s) := by rw [← hn, ← hs]
      have hmem : (n, s) ∈ l := by rw [← hlk, List.getD_eq_getElem?_getD, List.getElem?_eq_getElem hlt]; exact List.getElem_mem _
      have hdr : l.drop k = (n, s) :: l.drop (k + 1) := by
        rw [List.drop_eq_getElem_cons hlt]
        congr 1
        rw [← hlk, List.getD_eq_getElem?_getD, List.getElem?_eq_getElem hlt]
        rfl
      obtain ⟨hn1, hs1⟩ := HS.out _ hmem
      simp only at hn1 hs1
      obtain ⟨c1, c2⟩ := HC.out k hlt
      rw [hn] at c1
      rw [hs] at c2
      have d1 : wr.cell? ⟨blk, off + k * 2, none⟩ = some (.string ⟨n.toArray⟩) := (hb.cell (p := ⟨blk, off + k * 2, none⟩) hblk).trans c1
      have d2 : wr.cell? ⟨blk, off + k * 2 + 1, none⟩ = some (.string ⟨s.toArray⟩) := (hb.cell (p := ⟨blk, off + k * 2 + 1, none⟩) hblk).trans c2
      have hkey : keyOf Tryz.prog 9 (.string ⟨n.toArray⟩) = some (.string n) := WideMaps.keyOf_string_mk Tryz.underlying9 (by show n.toArray.size ≤ maxLen; unfold maxLen; simp; omega)
      have hlt' : (k : Int) < l.length := by omega
      have HD : Hid (l.drop k = (n, s) :: l.drop (k + 1)) := hdr
      clear c1 c2 hn hs hlk hmem HC HS hdr hmm
      have hb2 : Below w.heap.size w ((wr.alloc (.cells #[.string ⟨n.toArray⟩, .string ⟨s.toArray⟩] 44)).alloc (.cells #[] 172)) := (hb.alloc hb.size _).alloc (by simp; omega) _
      by_cases hin : n ∈ namesQ qs
      · have hhas : Maps.has (setQ qs) (.string n) = true := by rw [has_setQ]; exact decide_eq_true hin
        have hR2 : Hid (S = none) := by
          show _ = _
          rw [hR.out, HD.out, rulesP_bad _ _ _ _ (.inl hin)]
          rfl
        clear hin
        go_wp2_with (at_lookup; refine wpList_lookup_own_unit _ rfl _ _ 171 rfl 9 172 law Tryz.underlying171 (zero_unit _) w.heap.size k _ rfl (hmap.alloc _) _ _ rfl hkey ?_)
        go_ret2
        refine ⟨hb2, ?_⟩
        rw [hR2.out]
        rfl
      · have hhas : Maps.has (setQ qs) (.string n) = false := by rw [has_setQ]; exact decide_eq_false hin
        have cm := fun W => mayHaveRule_any n W
        cases hcat : Pr.catB n with
        | false =>
          have hR2 : Hid (S = none) := by
            show _ = _
            rw [hR.out, HD.out, rulesP_bad _ _ _ _ (.inr hcat)]
            rfl
          simp only [hcat] at cm
          clear hin hcat
          go_wp2_with (at_lookup; refine wpList_lookup_own_unit _ rfl _ _ 171 rfl 9 172 law Tryz.underlying171 (zero_unit _) w.heap.size k _ rfl (hmap.alloc _) _ _ rfl hkey ?_)
          refine (cm _).mono ?_
          rintro e w1 ⟨rfl, hb1⟩
          have hb9 := below_of hb2 hb1
          clear hb1 hb2
          go_wp2
          go_ret2
          refine ⟨hb9, ?_⟩
          rw [hR2.out]
          rfl
        | true =>
          simp only [hcat] at cm
          have hnot : Hid (¬ (n ∈ namesQ qs ∨ Pr.catB n = false)) := by
            rintro (h | h)
            · exact hin h
            · rw [hcat] at h; cases h
          clear hin hcat
          go_wp2_with (at_lookup; refine wpList_lookup_own_unit _ rfl _ _ 171 rfl 9 172 law Tryz.underlying171 (zero_unit _) w.heap.size k _ rfl (hmap.alloc _) _ _ rfl hkey ?_)
          refine (cm _).mono ?_
          rintro e w1 ⟨rfl, hb1⟩
          have s1 := hb1.size
          simp only [World.size_alloc] at s1
          have hbA : Below wr.heap.size wr w1 := (((Below.refl wr.heap.size wr).alloc (Nat.le_refl _) (.cells #[.string ⟨n.toArray⟩, .string ⟨s.toArray⟩] 44)).alloc (by simp) (.cells #[] 172)).trans (hb1.mono (by simp; omega))
          have hmap1 := hmap.kept (grown_of hbA) (by simp)
          have hrow1 := own_keep hrow hbA
          have hok1 := hok.later hbA
          have q1 := (((row_at wr #[.string ⟨n.toArray⟩, .string ⟨s.toArray⟩] 44).alloc (.cells #[] 172)).keep hb1).2.1
          have hb2' : Below w.heap.size w w1 := below_of hb hbA
          have hrl := hrow.lt
          have hsz1 : wr.heap.size + 1 + 1 ≤ w1.heap.size := by omega
          clear hb1 hbA cm hrow hok hmap hb2
          go_wp2_with (at_mapUpdate; refine wpList_mapUpdate_own _ rfl _ _ _ 171 rfl 9 172 law Tryz.underlying171 (unitElem (H := Unit)) w.heap.size k _ rfl hmap1 (by unfold maxLen; omega) _ _ _ rfl rfl hkey _ [] unitElem_mk ?_; intro w3 hmap3 hgrow3; have q3 : ∀ j, w3.cell? ⟨wr.heap.size, j, none⟩ = #[Value.string ⟨n.toArray⟩, .string ⟨s.toArray⟩][j]? := fun j => (World.cell?_of_block (hgrow3.block wr.heap.size (by omega) (by intro e; injection e with e; omega))).trans (q1 j))
          have s3 := hgrow3.size
          have hb3 : Below w.heap.size w w3 := hb2'.grown hgrow3 (by omega) (fun j hj => by cases hj; exact Nat.le_refl _)
          have hrow3 := hrow1.kept hgrow3 (.inr fun e1 => by have := (hrl _ e1).1; omega)
          have hok3 := hok1.map hgrow3
          have cc := conditionOf_any w3 s (by omega) (hB.below hb3)
          clear hrow1 hok1 hb2' hmap1 hgrow3 q1
          refine cc.mono ?_
          rintro e w4 ⟨hb4, hs⟩
          clear cc
          have q4 : ∀ j, w4.cell? ⟨wr.heap.size, j, none⟩ = #[Value.string ⟨n.toArray⟩, .string ⟨s.toArray⟩][j]? := fun j => (hb4.cell (p := ⟨wr.heap.size, j, none⟩) (by show wr.heap.size < w3.heap.size; omega)).trans (q3 j)
          have hrow4 := own_keep hrow3 hb4
          have hok4 := hok3.later hb4
          have hmap4 := hmap3.kept (grown_of hb4) (by simp)
          have s4 := hb4.size
          replace hb4 := below_of hb3 hb4
          clear q3 hb3 hrow3 hok3 hmap3
          cases hv : Pr.whenP s with
          | none =>
            rw [hv] at hs
            obtain rfl := hs
            have hR2 : Hid (S = none) := by
              show _ = _
              rw [hR.out, HD.out, rulesP_when _ _ _ _ hv]
              rfl
            clear hv
            unfold errRule
            go_wp2
            go_ret2
            refine ⟨hb4, ?_⟩
            rw [hR2.out]
            rfl
          | some f =>
            rw [hv] at hs
            obtain ⟨v4, P, rfl, hP, hcn⟩ := hs
            have hR2 : Hid (S = (Pr.rulesP (namesQ qs ++ [n]) (l.drop (k + 1))).map (semsQ qs ++ [(n, f)] ++ ·)) := by
              show _ = _
              rw [hR.out, HD.out, rulesP_step _ _ _ _ f hnot.out hv]
            clear hv hR
            obtain ⟨g, lb, rfl⟩ : ∃ g lb, v4 = .func (.func g) #[] lb := by obtain ⟨_, g, lb, h, _⟩ := hcn; exact ⟨g, lb, h⟩
            go_wp2_with (at_builtin; refine wpList_append_own_at _ rfl _ _ 103 rfl (w.heap.size + 1) 179 i0 (.agg #[.string ⟨#[]⟩, .nilFunc]) 2 24 Tryz.underlying103 HI.out.1 HI.out.2.1 HI.out.2.2.1 HI.out.2.2.2 rfl (by decide) _ _ _ rfl (hrow4.alloc _) ⟨w4.heap.size, 0, none⟩ 1 1 [strV n, .func (.func g) #[] lb] rfl rfl ?c1 ?c2 ?c3 ?c4 ?c5 ?_)
            case c1 =>
              intro j u hj
              match j, hj with
              | 0, hj => simp at hj; subst hj; simp [Addr.add, strV]
              | 1, hj => simp at hj; subst hj; simp [Addr.add]
            case c2 =>
              intro u hu
              simp at hu
              rcases hu with rfl | rfl <;> rfl
            case c3 => unfold maxLen; omega
            case c4 => omega
            case c5 => simp; omega
            · intro v' w6 hown' hgrow6 _ hob
              have s6 := hgrow6.size
              simp only [World.size_alloc] at s6
              have hA := (Below.refl w4.heap.size w4).alloc (Nat.le_refl _) (.cells #[.string ⟨n.toArray⟩, .func (.func g) #[] lb] 179)
              have g1 := (hmap4.alloc (.cells #[.string ⟨n.toArray⟩, .func (.func g) #[] lb] 179)).kept hgrow6 (fun e1 => by have := (hrl _ e1.symm).1; omega)
              have g2 : Below w.heap.size w w6 := (hb4.alloc hb4.size _).grown hgrow6 (by simp; omega) (fun j hj => by have := (hrl j hj).1; omega)
              have g3 : OkQ w6 w.heap.size v'.ownBlock (qs ++ [⟨n, .func (.func g) #[] lb, f, P, w4.heap.size⟩]) := by
                intro q hq
                rcases List.mem_append.1 hq with hq | hq
                · exact (hok4.later hA).row hgrow6 (by simpa using hob) q hq
                · rw [List.mem_singleton] at hq
                  subst hq
                  refine ⟨(hcn.later hA).move hgrow6.size fun k a b => hgrow6.block k (by simp; omega) (fun e1 => by have := (hrl _ e1.symm).2; omega), by show w.heap.size ≤ P; omega, fun b e1 => ?_⟩
                  rcases hob with hob | hob
                  · left
                    have := (hrl b (hob.symm.trans e1)).2
                    show b ≤ P
                    omega
                  · right
                    rw [hob] at e1
                    injection e1 with e1
                    show w4.heap.size ≤ b
                    omega
              have g4 : w6.ownsRow (w.heap.size + 1) 179 2 v' (k + 1) (cellsQ (qs ++ [⟨n, .func (.func g) #[] lb, f, P, w4.heap.size⟩])) := by
                rw [cellsQ_snoc]
                exact hown'
              have g5 : w6.ownsMap Tryz.prog 9 unitElem w.heap.size (k + 1) (setQ (qs ++ [⟨n, .func (.func g) #[] lb, f, P, w4.heap.size⟩])) := by
                rw [setQ_snoc]
                exact g1
              have g6 : Hid (S = (Pr.rulesP (namesQ (qs ++ [⟨n, .func (.func g) #[] lb, f, P, w4.heap.size⟩])) (l.drop (k + 1))).map (semsQ (qs ++ [⟨n, .func (.func g) #[] lb, f, P, w4.heap.size⟩]) ++ ·)) := by
                show _ = _
                rw [hR2.out]
                simp [namesQ, semsQ]
              clear hown' hgrow6 hok4 hcn hmap4 hrow4 g1 hR2 q4
              go_wp2
              go_roundw
              case rel => exact ⟨k + 1, _, by omega, by go_num, by simp [hqk], g5, g4, g2, by omega, g3, g6⟩
              case measure => simp [intOf]; omega
    · have hkl : k = l.length := by omega
      have hlt' : ¬ (k : Int) < l.length := by omega
      have hR2 : Hid (S = some (semsQ qs)) := by
        show _ = _
        rw [hR.out, hkl, List.drop_length]
        simp [Pr.rulesP]
      clear hR hmm
      go_wp2
      go_ret2
      refine ⟨hb, ?_⟩
      rw [hR2.out]
      subst hqk
      exact ⟨_, rfl, _, _, _, qs, rfl, hrow, hok⟩
end Go.Proofs.YtaepcfidpekflaaGreatDoor
