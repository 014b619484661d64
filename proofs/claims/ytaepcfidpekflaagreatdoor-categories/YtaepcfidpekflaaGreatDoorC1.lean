/-
  Several texts in one (Ca, Cb, Cc). By the verifier.
-/
import Derived.Test.YtaepcfidpekflaaGreatDoorS6
import Derived.Test.YtaepcfidpekflaaGreatDoorQw
import Derived.Test.YtaepcfidpekflaaGreatDoorRi
import Derived.Laws.AppendOwnNone
import Derived.Deep.RegionLaw
namespace Go.Proofs.YtaepcfidpekflaaGreatDoor
open Go.RowKit

/-- A list in twos. -/
def pairsOf : List Pr.T → List (Pr.T × Pr.T)
  | n :: s :: r => (n, s) :: pairsOf r
  | _ => []
theorem pairs_short (l : List Pr.T) (h : l.length < 2) : pairsOf l = [] := by
  match l, h with
  | [], _ => rfl
  | [_], _ => rfl
theorem pairs_mem : ∀ (k : Nat) (l : List Pr.T), l.length ≤ k → (pairsOf l).length ≤ l.length ∧ ∀ q ∈ pairsOf l, q.1 ∈ l ∧ q.2 ∈ l := by
  intro k
  induction k with
  | zero =>
    intro l h
    rw [pairs_short l (by omega)]
    exact ⟨by simp, fun q hq => by cases hq⟩
  | succ k ih =>
    intro l h
    match l, h with
    | [], _ => exact ⟨by simp [pairsOf], fun q hq => by cases hq⟩
    | [_], _ => exact ⟨by simp [pairsOf], fun q hq => by cases hq⟩
    | n :: s :: r, h =>
      simp only [List.length_cons] at h
      obtain ⟨h1, h2⟩ := ih r (by omega)
      refine ⟨by simp [pairsOf]; omega, fun q hq => ?_⟩
      rcases List.mem_cons.1 hq with rfl | hq
      · simp
      · obtain ⟨a, b⟩ := h2 q hq
        simp [a, b]
def ruleCells : List (Pr.T × Pr.T) → List Value
  | [] => []
  | q :: r => strV q.1 :: strV q.2 :: ruleCells r
theorem ruleCells_len (l : List (Pr.T × Pr.T)) : (ruleCells l).length = l.length * 2 := by
  induction l with
  | nil => rfl
  | cons q r ih => simp [ruleCells, ih]; omega
theorem ruleCells_app (l r : List (Pr.T × Pr.T)) : ruleCells (l ++ r) = ruleCells l ++ ruleCells r := by
  induction l with
  | nil => rfl
  | cons q l ih => simp [ruleCells, ih]
theorem ruleCells_at : ∀ (l : List (Pr.T × Pr.T)) (j : Nat), j < l.length → (ruleCells l)[j * 2]? = some (strV (l.getD j ([], [])).1) ∧ (ruleCells l)[j * 2 + 1]? = some (strV (l.getD j ([], [])).2) := by
  intro l
  induction l with
  | nil => intro j h; simp at h
  | cons q r ih =>
    intro j h
    cases j with
    | zero => exact ⟨rfl, rfl⟩
    | succ j =>
      have := ih j (by simpa using h)
      rw [show (j + 1) * 2 = j * 2 + 2 by omega]
      exact this
theorem ruleCells_mem : ∀ (l : List (Pr.T × Pr.T)) (u : Value), u ∈ ruleCells l → ∃ t : Pr.T, u = strV t := by
  intro l
  induction l with
  | nil => intro u h; cases h
  | cons q r ih =>
    intro u h
    rcases List.mem_cons.1 h with rfl | h
    · exact ⟨_, rfl⟩
    · rcases List.mem_cons.1 h with rfl | h
      · exact ⟨_, rfl⟩
      · exact ih u h
/-- Rules in a row of the call's own. -/
def ApiV (w : World) (B : Nat) (v : Value) (ps : List (Pr.T × Pr.T)) : Prop := w.ownsRow B 44 2 v ps.length (ruleCells ps)
theorem ApiV.form {w : World} {B : Nat} {v : Value} {ps : List (Pr.T × Pr.T)} (h : ApiV w B v ps) : ∃ a c, v = .slice a ps.length c ∧ RIn w a ps := by
  have h0 : w.ownsRow B 44 2 v ps.length (ruleCells ps) := h
  rcases h0.2 with ⟨rfl, hz⟩ | ⟨g, cap, cur, rfl, hgc⟩
  · exact ⟨none, 0, by rw [hz], .inl (List.length_eq_zero_iff.1 hz)⟩
  · have hlt := World.ownsRow.lt h0 g rfl
    refine ⟨_, cap, rfl, .inr ⟨g, 0, rfl, hlt.2, fun j hj => ?_⟩⟩
    rw [Nat.zero_add, h0.cellAt (j * 2) (by omega), h0.cellAt (j * 2 + 1) (by omega)]
    exact ruleCells_at ps j hj
theorem ApiV.keep {w w1 : World} {B : Nat} {v : Value} {ps : List (Pr.T × Pr.T)} (h : ApiV w B v ps) (hb : Below w.heap.size w w1) : ApiV w1 B v ps := by
  refine World.ownsRow.kept (row := none) h ⟨hb.os, hb.tape, hb.output, hb.size, fun k hk _ => hb.block k hk⟩ ?_
  cases e : v.ownBlock with
  | none => exact .inl rfl
  | some _ => exact .inr (by simp)
theorem info_api : (Tryz.prog.info? 44).map (fun i => (i.zero, i.size, i.bytes)) = some (some (.agg #[.string ⟨#[]⟩, .string ⟨#[]⟩]), 2, 32) := by kernel_rfl
theorem pairs_drop (l : List Pr.T) (k : Nat) (h : k + 1 < l.length) : pairsOf (l.drop k) = (l.getD k [], l.getD (k + 1) []) :: pairsOf (l.drop (k + 2)) := by
  rw [List.drop_eq_getElem_cons (by omega), List.drop_eq_getElem_cons h]
  simp [pairsOf, List.getD_eq_getElem?_getD, List.getElem?_eq_getElem h, List.getElem?_eq_getElem (show k < l.length by omega)]

theorem step_append_own {P : Program} {ops : Array Oper} {o : Oper} {a : Act} {w : World} {K : Act → World → Prop} {Q : Exit → Act → World → Prop} {E : Prop} (hg : o.guard = none) (s x : Operand) (t : TypeId)
    (ho : o.op = .call { callee := .builtin .append, args := #[s, x], argTypes := #[t, t] })
    (base : Nat) (e : TypeId) (i : TypeInfo) (z : Value) (size bytes : Nat) (ht : P.underlying t = some (.slice e)) (hi : P.info? e = some i) (hz : i.zero = some z)
    (hsize : i.size = size) (hby : i.bytes = bytes) (hzs : z.cells.size = size) (hsz : 0 < size)
    (v : Value) (n : Nat) (xs : List Value) (hs : a.eval s = v) (hown : w.ownsRow base e size v n xs)
    (ad : Addr) (m c : Nat) (news : List Value) (hx : a.eval x = .slice (some ad) m c) (hl : news.length = m * size) (hnews : ∀ j u, news[j]? = some u → w.cell? (ad.add j) = some u) (h1 : ∀ u ∈ news, u.oneCell' = true)
    (h63 : n + m ≤ maxLen) (hbytes : (n + m) * bytes ≤ 140737488355328) (hbase : base ≤ w.heap.size)
    (h : ∀ v' w', w'.ownsRow base e size v' (n + m) (xs ++ news) → w.grownBy w' v.ownBlock → K (a.put o.dst v') w') :
    if Region.wanted o (yielded ops a.tmps) = true then Oper.wp P o a w K Q else E := by
  have hw : Region.wanted o (yielded ops a.tmps) = true := by simp [Region.wanted, hg]
  rw [if_pos hw]
  exact wp_append_own w s x t ho base e i z size bytes ht hi hz hsize hby hzs hsz v n xs hs hown ad m c news hx hl hnews h1 h63 hbytes hbase fun v' w' h2 h3 _ => h v' w' h2 h3
set_option maxHeartbeats 1600000 in
set_option maxRecDepth 100000 in
theorem rules_some (w : World) (blk off c : Nat) (l : List Pr.T) (hl : l.length ≤ 100000) (hb : blk < w.heap.size) (hcell : ∀ j, j < l.length → w.cell? ⟨blk, off + j, none⟩ = some (strV (l.getD j []))) :
    Calls Tryz.prog 17 #[.slice (some ⟨blk, off, none⟩) l.length c] w fun e w' => (∃ v, e = .returned v ∧ ApiV w' w.heap.size v (pairsOf l)) ∧ Below w.heap.size w w' := by
  obtain ⟨i0, hi0, hz0, hz1, hz2⟩ := info_parts info_api
  have HI : Hid (Tryz.prog.info? 44 = some i0 ∧ i0.zero = some (.agg #[.string ⟨#[]⟩, .string ⟨#[]⟩]) ∧ i0.size = 2 ∧ i0.bytes = 32) := ⟨hi0, hz0, hz1, hz2⟩
  have HC : Hid (∀ j, j < l.length → w.cell? ⟨blk, off + j, none⟩ = some (strV (l.getD j []))) := hcell
  obtain ⟨S, hS⟩ : ∃ S, Hid (pairsOf l = S) := ⟨_, rfl⟩
  rw [hS.out]
  clear hi0 hz0 hz1 hz2 hcell
  go_enter Tryz.func17, Tryz.ntmps17
  go_wp2_with fail
  go_loopw [3, 4] (fun v i wr => ∃ (k : Nat) (ps : List (Pr.T × Pr.T)), k ≤ l.length + 1 ∧ i = .int .i64 k ∧ ps.length ≤ k ∧ ApiV wr w.heap.size v ps ∧ Below w.heap.size w wr ∧ Hid (ps ++ pairsOf (l.drop k) = S)) (fun _ i _ => l.length + 2 - (intOf i).toNat)
  case atStart => exact ⟨0, [], Nat.zero_le _, rfl, Nat.le_refl _, World.ownsRow_nil _ _ _ _, Below.refl _ _, hS⟩
  case round =>
    obtain ⟨k, ps, hk, rfl, hpk, hown, hbw, HP⟩ := hrel
    clear hS
    have hw1 : IntKind.i64.wrap ((k : Int) + 1) = k + 1 := by rw [IntKind.wrap_i64]; omega
    have hw2 : IntKind.i64.wrap ((k : Int) + 2) = k + 2 := by rw [IntKind.wrap_i64]; omega
    by_cases hlt : k + 1 < l.length
    · have hlt' : (k : Int) + 1 < l.length := by omega
      have hlt2 : (k : Int) < l.length := by omega
      have hk0 : (0 : Int) ≤ (k : Int) + 1 := by omega
      have c0 := (hbw.cell (p := ⟨blk, off + k, none⟩) hb).trans (HC.out k (by omega))
      have c1 := (hbw.cell (p := ⟨blk, off + (k + 1), none⟩) hb).trans (HC.out (k + 1) hlt)
      have HP2 : Hid (ps ++ [(l.getD k [], l.getD (k + 1) [])] ++ pairsOf (l.drop (k + 2)) = S) := by
        show _ = _
        rw [← HP.out, pairs_drop l k hlt]
        simp
      unfold strV at c0 c1
      generalize l.getD k [] = n at *
      generalize l.getD (k + 1) [] = s at *
      clear HP
      have hown0 : wr.ownsRow w.heap.size 44 2 u3 ps.length (ruleCells ps) := hown
      have side : ∀ W : World, wr.heap.size ≤ W.heap.size → w.heap.size ≤ (W.alloc (.cells #[.string ⟨n.toArray⟩, .string ⟨s.toArray⟩] 44)).heap.size := fun W h => by have := hbw.size; simp; omega
      have c1' : wr.cell? ⟨blk, off + k + 1, none⟩ = some (.string ⟨s.toArray⟩) := by rw [show off + k + 1 = off + (k + 1) by omega]; exact c1
      go_wp2
      go_region_law (refine step_append_own rfl (.tmp 12) (.tmp 23) 23 rfl w.heap.size 44 i0 (.agg #[.string ⟨#[]⟩, .string ⟨#[]⟩]) 2 32 Tryz.underlying23 HI.out.1 HI.out.2.1 HI.out.2.2.1 HI.out.2.2.2 rfl (by decide) u3 ps.length (ruleCells ps) (by simp [Act.eval]) (by first | exact World.ownsRow.alloc hown0 _ | exact World.ownsRow.alloc (World.ownsRow.drew hown0) _) ⟨wr.heap.size, 0, none⟩ 1 1 [strV n, strV s] (by simp [Act.eval]) rfl (by
          intro j u hj
          match j, hj with
          | 0, hj => simp at hj; subst hj; simp [Addr.add, strV]
          | 1, hj => simp at hj; subst hj; simp [Addr.add, strV]) (by intro u hu; simp at hu; rcases hu with rfl | rfl <;> rfl) (by unfold maxLen; omega) (by omega) (by have := hbw.size; simp; omega) ?_; intro v' w2 hown' hgrow)
      all_goals
        have g1 : ApiV w2 w.heap.size v' (ps ++ [(n, s)]) := by
          unfold ApiV
          rw [ruleCells_app]
          simpa [ruleCells] using hown'
        have g2 : Below w.heap.size w w2 := (hbw.drew.alloc (by have := hbw.size; simpa using this) _).grown hgrow (by have := hbw.size; simp; omega) fun j hj => (World.ownsRow.lt hown0 j hj).1
        clear hown' hgrow hown hown0 c0 c1 c1' side
        go_wp2
        go_roundw
        case rel => exact ⟨k + 2, ps ++ [(n, s)], by omega, by go_num, by simp; omega, g1, g2, HP2⟩
        case measure => simp [intOf] <;> omega
    · have hlt' : ¬ (k : Int) + 1 < l.length := by omega
      have hF : Hid (S = ps) := by
        show _ = _
        rw [← HP.out, pairs_short _ (by simp; omega)]
        simp
      clear HP
      go_wp2
      go_ret
      exact ⟨⟨_, rfl, by rw [hF.out]; exact hown⟩, hbw⟩
set_option maxHeartbeats 400000 in
theorem rules_nil (w : World) (ad : Option Addr) (c : Nat) : Calls Tryz.prog 17 #[.slice ad 0 c] w fun e w' => (∃ v, e = .returned v ∧ ApiV w' w.heap.size v []) ∧ Below w.heap.size w w' := by
  go_enter Tryz.func17, Tryz.ntmps17
  go_wp2_with fail
  refine wp_loop_rounds 1 ?_
  rw [rounds_succ]
  go_wp2
  go_ret
  exact ⟨⟨_, rfl, World.ownsRow_nil _ _ _ _⟩, Below.refl _ _⟩
theorem rules_any (w : World) (v : Value) (l : List Pr.T) (hl : l.length ≤ 100000) (hv : SlE w v l) : Calls Tryz.prog 17 #[v] w fun e w' => (∃ v, e = .returned v ∧ ApiV w' w.heap.size v (pairsOf l)) ∧ Below w.heap.size w w' := by
  rcases hv with ⟨ad, c, rfl, rfl⟩ | ⟨blk, off, c, rfl, _, hb, hcell⟩
  · exact rules_nil w ad c
  · exact rules_some w blk off c l hl hb hcell
/-- How many bytes texts have, and how many they are, up to a bound. -/
def SizeSaid (l : List Pr.T) (e : Ending) : Prop := ∃ n : Nat, e = .returned (.int .i64 n) ∧ (n ≤ 65536 → l.length ≤ 65536 ∧ ∀ t ∈ l, t.length ≤ 65536)
set_option maxHeartbeats 800000 in
theorem size_some (w : World) (blk off c : Nat) (l : List Pr.T) (hl : l.length < 2 ^ 47) (hs : ∀ t ∈ l, t.length < 2 ^ 47) (hcell : ∀ j, j < l.length → w.cell? ⟨blk, off + j, none⟩ = some (strV (l.getD j []))) :
    Calls Tryz.prog 16 #[.slice (some ⟨blk, off, none⟩) l.length c] w fun e w' => SizeSaid l e ∧ w' = w := by
  have HC : Hid (∀ j, j < l.length → w.cell? ⟨blk, off + j, none⟩ = some (strV (l.getD j []))) := hcell
  have HL : Hid (∀ t ∈ l, t.length < 2 ^ 47) := hs
  clear hcell hs
  go_enter Tryz.func16, Tryz.ntmps16
  go_wp2_with fail
  go_loop [3, 4] (fun x i => ∃ (k n : Nat), k ≤ l.length ∧ i = .int .i64 k ∧ x = .int .i64 n ∧ (n ≤ 65536 ∨ k = 0) ∧ l.length ≤ n ∧ n < 2 ^ 47 ∧ Hid (∀ j, j < k → (l.getD j []).length ≤ n)) (fun _ i => l.length - (intOf i).toNat)
  case atStart => exact ⟨0, l.length, Nat.zero_le _, rfl, rfl, .inr rfl, Nat.le_refl _, hl, fun j hj => absurd hj (Nat.not_lt_zero _)⟩
  case round =>
    obtain ⟨k, n, hk, rfl, rfl, hn, hln, hn47, HN⟩ := hrel
    by_cases hlt : k < l.length
    · have hlt' : (k : Int) < l.length := by omega
      have ck := HC.out k hlt
      have h47 := HL.out _ (mem_at hlt)
      unfold strV at ck
      have HN2 : Hid (∀ j, j < k + 1 → (l.getD j []).length ≤ n + (l.getD k []).length) := by
        intro j hj
        by_cases e : j = k
        · rw [e]; omega
        · have := HN.out j (by omega); omega
      generalize l.getD k [] = u at *
      have hw1 : IntKind.i64.wrap ((n : Int) + u.length) = n + u.length := by rw [IntKind.wrap_i64]; omega
      have hw2 : IntKind.i64.wrap ((k : Int) + 1) = k + 1 := by rw [IntKind.wrap_i64]; omega
      clear HN
      by_cases hb : n + u.length ≤ 65536
      · have hb' : ¬ (65536 : Int) < (n : Int) + u.length := by omega
        go_wp2
        go_round
        case rel => exact ⟨k + 1, n + u.length, hlt, by go_num, by go_num, .inl hb, by omega, by omega, HN2⟩
        case measure => simp [intOf]; omega
      · have hb' : (65536 : Int) < (n : Int) + u.length := by omega
        go_wp2
        go_ret
        exact ⟨⟨n + u.length, by go_num, fun h => absurd h hb⟩, rfl⟩
    · have hlt' : ¬ (k : Int) < l.length := by omega
      go_wp2
      go_ret
      refine ⟨⟨n, rfl, fun h => ⟨by omega, fun t ht => ?_⟩⟩, rfl⟩
      obtain ⟨j, hj, rfl⟩ := List.getElem_of_mem ht
      have := HN.out j (by omega)
      rw [List.getD_eq_getElem?_getD, List.getElem?_eq_getElem hj] at this
      exact Nat.le_trans this h
set_option maxHeartbeats 400000 in
theorem size_nil (w : World) (ad : Option Addr) (c : Nat) : Calls Tryz.prog 16 #[.slice ad 0 c] w fun e w' => SizeSaid [] e ∧ w' = w := by
  go_enter Tryz.func16, Tryz.ntmps16
  go_wp2_with fail
  refine wp_loop_rounds 1 ?_
  rw [rounds_succ]
  go_wp2
  go_ret
  exact ⟨⟨0, rfl, fun _ => ⟨by simp, fun t ht => by cases ht⟩⟩, rfl⟩
theorem size_any (w : World) (v : Value) (l : List Pr.T) (hl : l.length < 2 ^ 47) (hs : ∀ t ∈ l, t.length < 2 ^ 47) (hv : SlE w v l) : Calls Tryz.prog 16 #[v] w fun e w' => SizeSaid l e ∧ w' = w := by
  rcases hv with ⟨ad, c, rfl, rfl⟩ | ⟨blk, off, c, rfl, _, hb, hcell⟩
  · exact size_nil w ad c
  · exact size_some w blk off c l hl hs hcell
end Go.Proofs.YtaepcfidpekflaaGreatDoor
namespace Go.Proofs.YtaepcfidpekflaaGreatDoor
open Go.RowKit

theorem catB_len (n : Pr.T) (h : Pr.catB n = true) : n.length ≤ 5 := by
  unfold Pr.catB at h
  simp only [decide_eq_true_eq] at h
  rcases h with rfl | rfl | rfl | rfl | rfl <;> decide
theorem rules_len : ∀ (l : List (Pr.T × Pr.T)) (ps : List Pr.T) (rs : List (Pr.T × Pr.Sem)), Pr.rulesP ps l = some rs → ∀ q ∈ rs, q.1.length ≤ 5 := by
  intro l
  induction l with
  | nil =>
    intro ps rs h
    have : rs = [] := by simpa [Pr.rulesP] using h.symm
    subst this
    exact fun q hq => by cases hq
  | cons q r ih =>
    obtain ⟨n, s⟩ := q
    intro ps rs h
    rw [Pr.rulesP] at h
    split at h
    · cases h
    · rename_i hn
      cases hw : Pr.whenP s with
      | none => rw [hw] at h; cases h
      | some f =>
        rw [hw] at h
        simp only at h
        cases hr : Pr.rulesP (ps ++ [n]) r with
        | none => rw [hr] at h; cases h
        | some l' =>
          rw [hr] at h
          simp only [Option.some.injEq] at h
          subst h
          intro q hq
          rcases List.mem_cons.1 hq with rfl | hq
          · refine catB_len n ?_
            cases hc : Pr.catB n with
            | true => rfl
            | false => exact absurd (.inr hc) hn
          · exact ih _ _ hr q hq
theorem sort_len (a b : Pr.T) : ∀ rs : List (Pr.T × Pr.Sem), (∀ q ∈ rs, q.1.length ≤ 5) → (Pr.sortP a b rs).length ≤ 5 := by
  intro rs
  induction rs with
  | nil => intro _; exact (by decide : ([111, 116, 104, 101, 114] : Pr.T).length ≤ 5)
  | cons q r ih =>
    obtain ⟨n, f⟩ := q
    intro h
    rw [Pr.sortP]
    split
    · exact h _ List.mem_cons_self
    · exact ih fun q hq => h q (List.mem_cons_of_mem _ hq)
theorem cat_len (l : List (Pr.T × Pr.T)) (s : Pr.T) : (catOf l s).1.length ≤ 5 := by
  unfold catOf
  split
  · simp
  · rename_i rs h
    split
    · exact sort_len _ _ rs (rules_len l [] rs h)
    · simp
theorem num_canon (l : List UInt8) (h : Pn.isNum l = true) : Canon (Pn.aOf l) := by
  obtain ⟨h1, h2⟩ := Pn.num_a l h
  refine ⟨h1, h2, ?_⟩
  simp only [Pn.isNum, Pn.okB, Pn.wholeB, Bool.and_eq_true, Bool.or_eq_true] at h
  obtain ⟨⟨⟨_, _, h3⟩, _⟩, _⟩ := h
  rcases h3 with h3 | h3
  · left; rw [beq_iff_eq] at h3; rw [h3]; rfl
  · right; simpa using h3
/-- What NumOf answers, whatever the text. -/
theorem num_form {l : List UInt8} {e : Ending} (h : numRes l e) : ∃ (m : Bool) (x y : ByteArray), e = .returned (.tuple #[.agg #[.bool m, .string x, .string y], .bool (Pn.isNum l)]) ∧ (Pn.isNum l = true → m = Pn.minusOf l ∧ x = ⟨(Pn.aOf l).toArray⟩ ∧ y = ⟨(Pn.bOf l).toArray⟩) := by
  unfold numRes at h
  split at h
  · rename_i hn
    exact ⟨_, _, _, by rw [hn]; exact h, fun _ => ⟨rfl, rfl, rfl⟩⟩
  · rename_i hn
    obtain ⟨m, x, y, rfl⟩ := h
    exact ⟨m, x, y, by rw [Bool.not_eq_true] at hn; rw [hn], fun h => absurd h hn⟩
theorem pairs_in {w : World} {a : Option Addr} {l : List (Pr.T × Pr.T)} (hl : l.length ≤ 100000) (hsm : ∀ q ∈ l, q.1.length < 1000000 ∧ q.2.length < 1000000) (h : RIn w a l) : RulesIn w a l := ⟨hl, hsm, h⟩

set_option maxHeartbeats 3200000 in
set_option maxRecDepth 100000 in
theorem category_law (w : World) (B : Nat) (v ov : Value) (l : List (Pr.T × Pr.T)) (s : ByteArray) (ns : List Pr.T) (hs : s.size ≤ 100000) (hl : l.length ≤ 100000) (hsm : ∀ q ∈ l, q.1.length < 1000000 ∧ q.2.length < 1000000) (hn : ns.length ≤ 100000) (hns : ∀ t ∈ ns, t.length < 1000000) (hB : Base w) (hv : ApiV w B v l) (ho : SlE w ov ns) :
    Calls Tryz.prog 18 #[v, .string s, ov] w fun e w' => e = .returned (.bool true) ∧ Below w.heap.size w w' := by
  obtain ⟨i0, hi0, hz0, hz1, hz2⟩ := info_parts info_api
  have HI : Hid (Tryz.prog.info? 44 = some i0 ∧ i0.zero = some (.agg #[.string ⟨#[]⟩, .string ⟨#[]⟩]) ∧ i0.size = 2 ∧ i0.bytes = 32) := ⟨hi0, hz0, hz1, hz2⟩
  have HSm : Hid (∀ q ∈ l, q.1.length < 1000000 ∧ q.2.length < 1000000) := hsm
  have HNs : Hid (∀ t ∈ ns, t.length < 1000000) := hns
  have HV : Hid (ApiV w B v l) := hv
  have HO : Hid (SlE w ov ns) := ho
  clear hi0 hz0 hz1 hz2 hsm hns hv ho
  go_enter Tryz.func18, Tryz.ntmps18
  go_upto_region 1 with fail
  go_cut [7] (fun x wd => ApiV wd w.heap.size x l ∧ Below w.heap.size w wd)
  case first =>
    have hv : w.ownsRow B 44 2 v l.length (ruleCells l) := HV.out
    have hcl := ruleCells_len l
    have hmem := ruleCells_mem l
    rcases hv.2 with ⟨rfl, h0⟩ | ⟨g, cap, cur, rfl, hgc⟩
    · obtain rfl : l = [] := List.length_eq_zero_iff.1 h0
      clear hv hcl hmem HV HO
      go_wp2_with (at_builtin; refine wpList_append_own_none rfl _ _ 23 rfl w.heap.size 44 i0 2 Tryz.underlying23 HI.out.1 _ 0 [] rfl (World.ownsRow_nil _ _ _ _) rfl ?_)
      go_meet
      case rel => exact ⟨World.ownsRow_nil _ _ _ _, Below.refl _ _⟩
    · have hc1 : ∀ j u, (ruleCells l)[j]? = some u → w.cell? ⟨g, j, none⟩ = some u := fun j u hj => by
        have hjl : j < (ruleCells l).length := by
          rcases Nat.lt_or_ge j (ruleCells l).length with h | h
          · exact h
          · rw [List.getElem?_eq_none h] at hj; cases hj
        rw [hv.cellAt j (by omega), hj]
      have HC1 : Hid (∀ j u, (ruleCells l)[j]? = some u → w.cell? ⟨g, j, none⟩ = some u) := hc1
      clear hv hgc HV HO hc1
      go_wp2_with (at_builtin; refine wpList_append_own _ rfl _ _ 23 rfl w.heap.size 44 i0 (.agg #[.string ⟨#[]⟩, .string ⟨#[]⟩]) 2 32 Tryz.underlying23 HI.out.1 HI.out.2.1 HI.out.2.2.1 HI.out.2.2.2 rfl (by decide) _ 0 [] rfl (World.ownsRow_nil _ _ _ _) ⟨g, 0, none⟩ l.length cap (ruleCells l) rfl hcl ?c1 ?c2 ?c3 ?c4 ?c5 ?_)
      case c1 =>
        intro j u hj
        have := HC1.out j u hj
        simp only [Addr.add, Nat.zero_add]
        split
        · rename_i h0; subst h0; exact this
        · exact this
      case c2 =>
        intro u hu
        obtain ⟨t, rfl⟩ := hmem u hu
        rfl
      case c3 => unfold maxLen; omega
      case c4 => omega
      case c5 => exact Nat.le_refl _
      · intro v' w2 hown' hgrow _
        have h1 : ApiV w2 w.heap.size v' l := by simpa [ApiV] using hown'
        have h2 : Below w.heap.size w w2 := (Below.refl w.heap.size w).grown hgrow (Nat.le_refl _) fun j hj => by cases hj
        clear hown' hgrow hmem hcl
        go_wp2
        go_meet
        case rel => exact ⟨h1, h2⟩
  case rest =>
    obtain ⟨hmine, hbc⟩ := hcut
    obtain ⟨a1, c1, rfl, hin1⟩ := hmine.form
    obtain ⟨a0, c0, rfl, hin0⟩ := HV.out.form
    have R1 : Hid (RulesIn wc a1 l) := pairs_in hl HSm.out hin1
    have R0 : Hid (RulesIn w a0 l) := pairs_in hl HSm.out hin0
    have pc := pcategory_any wc a0 c0 l s (by omega) (hB.below hbc) (R0.out.keep hbc)
    have hcl := cat_len l s.data.toList
    have hr := fun W (h : Below wc.heap.size wc W) => ruled_any W a1 c1 l (R1.out.keep h)
    have ch := fun W (h : Below w.heap.size w W) => pchoose_end W a0 c0 ov l s ns (by omega) HNs.out (by omega) (by omega) (hB.below h) (R0.out.keep h) (HO.out.keep h)
    have lp := fun W (h : Below w.heap.size w W) (t : Pr.T) => lastPlace_any W ov ns t (by omega) (HO.out.keep h)
    have so := fun W (h : Below wc.heap.size wc W) (m : Bool) (a b : Pr.T) (ha : Canon a) (hda : Digs a) (hb : Digs b) => sort_any W a1 c1 l m a b (R1.out.keep h) ha hda hb
    clear hmine hin0 hin1 HV HO R1 R0
    cases hP : Pr.rulesP [] l with
    | none =>
      have hcat : catOf l s.data.toList = ([], 9) := by simp [catOf, hP]
      have hch : chooseN ([], 9) ns = (0, 9) := by simp [chooseN]
      rw [hcat] at pc ch
      rw [hch] at ch
      rw [hP] at hr
      clear so lp hcl hP hcat hch HSm HNs HI
      go_wp2_with fail
      refine pc.mono ?_
      rintro e w2 ⟨rfl, hb2⟩
      go_wp2_with fail
      refine (hr w2 hb2).mono ?_
      rintro e w3 ⟨rfl, hb3⟩
      go_wp2_with fail
      refine (numOf_any s w3 hs).mono ?_
      rintro e w4 ⟨hnr, hb4⟩
      obtain ⟨m, x, y, rfl, _⟩ := num_form hnr
      clear hnr pc hr
      generalize Pn.isNum s.data.toList = isn at *
      have hb5 := below_of hbc (below_of hb2 (below_of hb3 hb4))
      clear hb2 hb3 hb4
      go_wp2_with fail
      refine (ch _ (hb5.alloc hb5.size _)).mono ?_
      rintro e w6 ⟨rfl, hb6⟩
      go_wp2
      go_ret
      exact ⟨rfl, below_of (hb5.alloc hb5.size _) hb6⟩
    | some rs =>
      cases hN : Pn.isNum s.data.toList with
      | false =>
        have hcat : catOf l s.data.toList = ([], 10) := by simp [catOf, hP, hN]
        have hch : chooseN ([], 10) ns = (0, 10) := by simp [chooseN]
        rw [hcat] at pc ch
        rw [hch] at ch
        rw [hP] at hr
        clear so lp hcl hP hcat hch HSm HNs HI
        go_wp2_with fail
        refine pc.mono ?_
        rintro e w2 ⟨rfl, hb2⟩
        go_wp2_with fail
        refine (hr w2 hb2).mono ?_
        rintro e w3 ⟨rfl, hb3⟩
        go_wp2_with fail
        refine (numOf_any s w3 hs).mono ?_
        rintro e w4 ⟨hnr, hb4⟩
        obtain ⟨m, x, y, rfl, _⟩ := num_form hnr
        clear hnr pc hr
        rw [hN]
        have hb5 := below_of hbc (below_of hb2 (below_of hb3 hb4))
        clear hb2 hb3 hb4
        go_wp2_with fail
        refine (ch _ (hb5.alloc hb5.size _)).mono ?_
        rintro e w6 ⟨rfl, hb6⟩
        go_wp2
        go_ret
        exact ⟨rfl, below_of (hb5.alloc hb5.size _) hb6⟩
      | true =>
        have hso := sort_s (Pn.aOf s.data.toList) (Pn.bOf s.data.toList) l [] rs hP
        have hcat : catOf l s.data.toList = (sortS (Pn.aOf s.data.toList) (Pn.bOf s.data.toList) l, 0) := by simp [catOf, hP, hN, hso]
        have so2 := fun W (h : Below wc.heap.size wc W) => so W h (Pn.minusOf s.data.toList) _ _ (num_canon _ hN) (num_digs _ hN).1 (num_digs _ hN).2
        have nu := numOf_any s
        rw [hcat] at pc ch
        rw [hP] at hr
        have hnu : ∀ e, numRes s.data.toList e → e = .returned (.tuple #[.agg #[.bool (Pn.minusOf s.data.toList), .string ⟨(Pn.aOf s.data.toList).toArray⟩, .string ⟨(Pn.bOf s.data.toList).toArray⟩], .bool true]) := fun e h => by
          unfold numRes at h
          rw [if_pos hN] at h
          exact h
        have HNu : Hid (∀ e, numRes s.data.toList e → e = .returned (.tuple #[.agg #[.bool (Pn.minusOf s.data.toList), .string ⟨(Pn.aOf s.data.toList).toArray⟩, .string ⟨(Pn.bOf s.data.toList).toArray⟩], .bool true])) := hnu
        clear so hcl hP hcat HSm HNs HI hso hN hnu
        generalize sortS (Pn.aOf s.data.toList) (Pn.bOf s.data.toList) l = cat at *
        generalize Pn.aOf s.data.toList = na at *
        generalize Pn.bOf s.data.toList = nb at *
        generalize Pn.minusOf s.data.toList = nm at *
        have hcc : (cat == cat) = true := by rw [beq_iff_eq]
        have HX : Hid (chooseN (cat, 0) ns = if lastAt cat ns ≠ 0 then (lastAt cat ns, 0) else if lastAt other ns ≠ 0 then (lastAt other ns, 0) else (0, 16)) := by show _ = _; simp [chooseN]
        go_wp2_with fail
        refine pc.mono ?_
        rintro e w2 ⟨rfl, hb2⟩
        go_wp2_with fail
        refine (hr w2 hb2).mono ?_
        rintro e w3 ⟨rfl, hb3⟩
        go_wp2_with fail
        refine (nu w3 hs).mono ?_
        rintro e w4 ⟨hnr, hb4⟩
        obtain rfl := HNu.out e hnr
        clear hnr pc hr nu HNu
        have hbA := below_of hb2 (below_of hb3 hb4)
        have hb5 := below_of hbc hbA
        have q4 := (row_at w4 #[.bool nm, .string ⟨na.toArray⟩, .string ⟨nb.toArray⟩] 62).2.1
        clear hb2 hb3 hb4
        go_wp2_with fail
        refine (so2 _ (hbA.alloc hbA.size _)).mono ?_
        rintro e w6 ⟨rfl, hb6⟩
        have hb7 := below_of (hb5.alloc hb5.size _) hb6
        clear so2 q4 hbA hb5 hb6 hbc
        by_cases h1 : lastAt cat ns = 0
        · have l1 := fun W h => lp W h cat
          rw [h1] at l1
          rw [h1] at HX
          by_cases h2 : lastAt other ns = 0
          · have l2 := fun W h => lp W h other
            rw [h2] at l2 HX
            have HX2 : Hid (chooseN (cat, 0) ns = (0, 16)) := HX
            rw [HX2.out] at ch
            clear lp h1 h2 HX HX2
            go_wp2_with fail
            refine (ch _ hb7).mono ?_
            rintro e w8 ⟨rfl, hb8⟩
            have hb9 := below_of hb7 hb8
            clear ch hb7 hb8
            go_wp2_with fail
            refine (l1 _ hb9).mono ?_
            rintro e w10 ⟨rfl, rfl⟩
            go_wp2_with fail
            refine (l2 _ hb9).mono ?_
            rintro e w11 ⟨rfl, rfl⟩
            go_wp2
            go_ret
            exact ⟨rfl, hb9⟩
          · have l2 := fun W h => lp W h other
            have HX2 : Hid (chooseN (cat, 0) ns = (lastAt other ns, 0)) := by show _ = _; rw [HX.out]; simp [h2]
            rw [HX2.out] at ch
            have h2' : ((lastAt other ns : Int) == 0) = false := by rw [beq_eq_false_iff_ne]; omega
            clear lp h1 h2 HX HX2
            generalize lastAt other ns = r at *
            go_wp2_with fail
            refine (ch _ hb7).mono ?_
            rintro e w8 ⟨rfl, hb8⟩
            have hb9 := below_of hb7 hb8
            clear ch hb7 hb8
            go_wp2_with fail
            refine (l1 _ hb9).mono ?_
            rintro e w10 ⟨rfl, rfl⟩
            go_wp2_with fail
            refine (l2 _ hb9).mono ?_
            rintro e w11 ⟨rfl, rfl⟩
            go_wp2
            go_ret
            exact ⟨rfl, hb9⟩
        · have l1 := fun W h => lp W h cat
          have HX2 : Hid (chooseN (cat, 0) ns = (lastAt cat ns, 0)) := by show _ = _; rw [HX.out]; simp [h1]
          rw [HX2.out] at ch
          have h1' : ((lastAt cat ns : Int) == 0) = false := by rw [beq_eq_false_iff_ne]; omega
          clear lp h1 HX HX2
          generalize lastAt cat ns = r at *
          go_wp2_with fail
          refine (ch _ hb7).mono ?_
          rintro e w8 ⟨rfl, hb8⟩
          have hb9 := below_of hb7 hb8
          clear ch hb7 hb8
          go_wp2_with fail
          refine (l1 _ hb9).mono ?_
          rintro e w10 ⟨rfl, rfl⟩
          go_wp2
          go_ret
          exact ⟨rfl, hb9⟩
end Go.Proofs.YtaepcfidpekflaaGreatDoor
namespace Go.Proofs.YtaepcfidpekflaaGreatDoor
open Go.RowKit

set_option maxHeartbeats 1600000 in
theorem categories_law (w : World) (v ov : Value) (l ns : List Pr.T) (s : ByteArray) (hB : Base w) (hv : SlE w v l) (ho : SlE w ov ns) (hl : l.length < 2 ^ 47) (hls : ∀ t ∈ l, t.length < 2 ^ 47) (hn : ns.length < 2 ^ 47) (hns : ∀ t ∈ ns, t.length < 2 ^ 47) :
    Calls Tryz.prog 5 #[v, .string s, ov] w fun e w' => e = .returned (.bool true) ∧ Below w.heap.size w w' := by
  have s1 := size_any w v l hl hls hv
  have s2 := size_any w ov ns hn hns ho
  have HV : Hid (SlE w v l) := hv
  have HO : Hid (SlE w ov ns) := ho
  clear hl hls hn hns hv ho
  go_enter Tryz.func5, Tryz.ntmps5
  go_wp2_with fail
  refine s1.mono ?_
  rintro e w1 ⟨⟨n1, rfl, h1⟩, rfl⟩
  go_wp2_with fail
  refine s2.mono ?_
  rintro e w2 ⟨⟨n2, rfl, h2⟩, rfl⟩
  clear s1 s2
  by_cases b1 : n1 ≤ 65536
  · have b1' : ¬ (65536 : Int) < n1 := by omega
    by_cases b2 : n2 ≤ 65536
    · have b2' : ¬ (65536 : Int) < n2 := by omega
      by_cases b3 : s.size ≤ 65536
      · have b3' : ¬ (65536 : Int) < s.size := by omega
        obtain ⟨l1, l2⟩ := h1 b1
        obtain ⟨m1, m2⟩ := h2 b2
        have ru := rules_any w2 v l (by omega) HV.out
        obtain ⟨p1, p2⟩ := pairs_mem l.length l (Nat.le_refl _)
        have HP : Hid (∀ q ∈ pairsOf l, q.1.length < 1000000 ∧ q.2.length < 1000000) := fun q hq => ⟨by have := l2 _ (p2 q hq).1; omega, by have := l2 _ (p2 q hq).2; omega⟩
        have HM : Hid (∀ t ∈ ns, t.length < 1000000) := fun t ht => by have := m2 t ht; omega
        clear h1 h2 l2 m2 p2
        go_wp2_with fail
        refine ru.mono ?_
        rintro e w3 ⟨⟨r, rfl, hr⟩, hb3⟩
        clear ru
        have ct := category_law w3 w2.heap.size r ov (pairsOf l) s ns (by omega) (by omega) HP.out (by omega) HM.out (hB.below hb3) hr (HO.out.keep hb3)
        clear hr
        go_wp2_with fail
        refine ct.mono ?_
        rintro e w4 ⟨rfl, hb4⟩
        go_wp2
        go_ret
        exact ⟨rfl, below_of hb3 hb4⟩
      · have b3' : (65536 : Int) < s.size := by omega
        clear h1 h2
        go_wp2
        go_ret
        exact ⟨rfl, Below.refl _ _⟩
    · have b2' : (65536 : Int) < n2 := by omega
      clear h1 h2
      go_wp2
      go_ret
      exact ⟨rfl, Below.refl _ _⟩
  · have b1' : (65536 : Int) < n1 := by omega
    clear h1 h2
    go_wp2
    go_ret
    exact ⟨rfl, Below.refl _ _⟩
end Go.Proofs.YtaepcfidpekflaaGreatDoor
