/-
  New of whatever list; the rules' Category. By the verifier.
-/
import Derived.Test.YtaepcfidpekflaaGreatDoorQq
import Derived.Laws.EntriesVeiled
namespace Go.Proofs.YtaepcfidpekflaaGreatDoor
open Go.RowKit Go.Maps

set_option maxHeartbeats 800000 in
set_option maxRecDepth 100000 in
theorem new_nil (w : World) (a : Option Addr) (c : Nat) : Calls Tryz.prog 62 #[.slice a 0 c] w fun e w' => NewSaid w (Pr.rulesP [] []) e w' := by
  have hmm := @run_makeMap Tryz.prog
  go_enter Tryz.func62, Tryz.ntmps62
  go_wp2_with fail
  refine wp_loop_rounds 1 ?_
  rw [rounds_succ]
  go_wp2
  go_ret2
  exact ⟨(Below.refl _ _).alloc (Nat.le_refl _) _, _, rfl, 0, 0, none, [], rfl, World.ownsRow_nil _ _ _ _, fun q hq => (by cases hq)⟩
theorem new_any (w : World) (a : Option Addr) (l : List (Pr.T × Pr.T)) (c : Nat) (hl : l.length ≤ 100000) (hsz : ∀ q ∈ l, q.1.length < 1000000 ∧ q.2.length < 1000000) (hB : Base w) (hR : RIn w a l) :
    Calls Tryz.prog 62 #[.slice a l.length c] w fun e w' => NewSaid w (Pr.rulesP [] l) e w' := by
  rcases hR with rfl | ⟨blk, off, rfl, h2, h3⟩
  · exact new_nil w a c
  · exact new_some w blk off l c hl hsz hB h2 h3

theorem cellsQ_at : ∀ (qs : List RuleQ) (k : Nat) (q : RuleQ), qs[k]? = some q → (cellsQ qs)[k * 2]? = some (strV q.n) ∧ (cellsQ qs)[k * 2 + 1]? = some q.v := by
  intro qs
  induction qs with
  | nil => intro k q h; simp at h
  | cons x r ih =>
    intro k q h
    cases k with
    | zero =>
      simp at h
      subst h
      exact ⟨rfl, rfl⟩
    | succ k =>
      simp at h
      have := ih k q h
      rw [show (k + 1) * 2 = k * 2 + 2 by omega]
      exact this
theorem cellsQ_len (qs : List RuleQ) : (cellsQ qs).length = qs.length * 2 := by
  induction qs with
  | nil => rfl
  | cons x r ih => simp [cellsQ] at ih ⊢; omega
theorem sort_step (a b : Pr.T) (q : RuleQ) (r : List RuleQ) : Pr.sortP a b (semsQ (q :: r)) = if q.f a b then q.n else Pr.sortP a b (semsQ r) := rfl

set_option maxHeartbeats 800000 in
set_option maxRecDepth 100000 in
theorem rcat_nil (w : World) (m : Bool) (a b : Pr.T) : Calls Tryz.prog 63 #[.slice none 0 0, numV m a b] w fun e w' => e = .returned (.string ⟨#[111, 116, 104, 101, 114]⟩) ∧ Below w.heap.size w w' := by
  have hw := (Below.refl w.heap.size w).alloc (Nat.le_refl _) (.cells #[.bool m, .string ⟨a.toArray⟩, .string ⟨b.toArray⟩] 109)
  go_enter Tryz.func63, Tryz.ntmps63
  simp only [numV]
  go_wp2_with fail
  refine wp_loop_rounds 1 ?_
  rw [rounds_succ]
  go_wp2
  go_ret
  exact ⟨rfl, hw⟩
set_option maxHeartbeats 800000 in
set_option maxRecDepth 100000 in
theorem rcat_some (w : World) (B M g cap : Nat) (gg : Option Nat) (qs : List RuleQ) (m : Bool) (a b : Pr.T) (hB : Base w) (da : Digs a) (db : Digs b) (hlen : qs.length ≤ 100000) (hown : w.ownsRow B 179 2 (.slice (some ⟨g, 0, none⟩) qs.length cap) qs.length (cellsQ qs)) (hok : OkQ w M gg qs) :
    Calls Tryz.prog 63 #[.slice (some ⟨g, 0, none⟩) qs.length cap, numV m a b] w fun e w' => e = .returned (.string ⟨(Pr.sortP a b (semsQ qs)).toArray⟩) ∧ Below w.heap.size w w' := by
  have hw := (Below.refl w.heap.size w).alloc (Nat.le_refl _) (.cells #[.bool m, .string ⟨a.toArray⟩, .string ⟨b.toArray⟩] 109)
  have r0 := row_at w #[.bool m, .string ⟨a.toArray⟩, .string ⟨b.toArray⟩] 109
  have hlt0 := (hown.lt g rfl).2
  obtain ⟨R, hR⟩ : ∃ R, Hid (Pr.sortP a b (semsQ qs) = R) := ⟨_, rfl⟩
  rw [hR.out]
  go_enter Tryz.func63, Tryz.ntmps63
  simp only [numV]
  go_wp2_with fail
  go_loopw [9] (fun i wr => ∃ k : Nat, k ≤ qs.length ∧ i = .int .i64 k ∧ Below w.heap.size w wr ∧ Row wr w.heap.size #[.bool m, .string ⟨a.toArray⟩, .string ⟨b.toArray⟩] ∧ Hid (R = Pr.sortP a b (semsQ (qs.drop k)))) (fun i _ => qs.length - (intOf i).toNat)
  case atStart => exact ⟨0, Nat.zero_le _, rfl, hw, r0, by show _ = _; rw [← hR.out]; rfl⟩
  case round =>
    obtain ⟨k, hk, rfl, hb, rn, hK⟩ := hrel
    clear hw r0
    by_cases hlt : k < qs.length
    · obtain ⟨q, hq⟩ : ∃ q, qs[k]? = some q := ⟨_, List.getElem?_eq_getElem hlt⟩
      have hdr : qs.drop k = q :: qs.drop (k + 1) := by
        rw [List.drop_eq_getElem_cons hlt]
        congr 1
        rw [List.getElem?_eq_getElem hlt] at hq
        injection hq
      obtain ⟨c1, c2⟩ := cellsQ_at qs k q hq
      have hmem : q ∈ qs := List.mem_of_getElem? hq
      obtain ⟨⟨hE, gf, lb, hv, eg, cf⟩, _, _⟩ := hok q hmem
      have d1 : wr.cell? ⟨g, k * 2, none⟩ = some (.string ⟨q.n.toArray⟩) := (hb.cell (p := ⟨g, k * 2, none⟩) hlt0).trans ((hown.cellAt (k * 2) (by omega)).trans c1)
      have d2 : wr.cell? ⟨g, k * 2 + 1, none⟩ = some (.func (.func gf) #[] lb) := (hb.cell (p := ⟨g, k * 2 + 1, none⟩) hlt0).trans ((hown.cellAt (k * 2 + 1) (by omega)).trans (by rw [c2, hv]))
      have hb1 := hb.alloc hb.size (.cells #[.string ⟨q.n.toArray⟩, .func (.func gf) #[] lb] 179)
      have rn1 := rn.alloc (.cells #[.string ⟨q.n.toArray⟩, .func (.func gf) #[] lb] 179)
      have rq := row_at wr #[.string ⟨q.n.toArray⟩, .func (.func gf) #[] lb] 179
      have qn := fun o => (rn.alloc o).2.1
      have cc := cf _ (hB.below hb1) (fun k _ h2 => hb1.block k (by omega)) m a b da db
      have hlt' : (k : Int) < qs.length := by omega
      have hstep : Hid (Pr.sortP a b (semsQ (qs.drop k)) = if q.f a b then q.n else Pr.sortP a b (semsQ (qs.drop (k + 1)))) := by
        show _ = _
        rw [hdr]
        exact sort_step a b q _
      unfold Enters at eg
      clear cf hq hdr c1 c2 hmem
      go_wp2_with fail
      refine cc.mono ?_
      rintro e w2 ⟨rfl, hb2⟩
      have rq2 := rq.keep hb2
      have rn2 := rn1.keep hb2
      have hbw := below_of hb1 hb2
      have q2 := rq2.2.1
      clear cc qn rq rn1 hb1 hb2
      cases hf : q.f a b with
      | true =>
        have hF : Hid (R = q.n) := by show _ = _; rw [hK.out, hstep.out, hf]; rfl
        clear hK hstep hf
        go_wp2
        go_ret
        exact ⟨by rw [hF.out]; rfl, hbw⟩
      | false =>
        have hF : Hid (R = Pr.sortP a b (semsQ (qs.drop (k + 1)))) := by show _ = _; rw [hK.out, hstep.out, hf]; rfl
        clear hK hstep hf
        go_wp2
        go_roundw
        case rel => exact ⟨k + 1, by omega, by go_num, hbw, rn2, hF⟩
        case measure => simp [intOf]; omega
    · have hlt' : ¬ (k : Int) < qs.length := by omega
      have hF : Hid (R = [111, 116, 104, 101, 114]) := by
        show _ = _
        rw [hK.out, List.drop_eq_nil_of_le (by omega)]
        rfl
      clear hK
      go_wp2
      go_ret
      exact ⟨by rw [hF.out]; rfl, hb⟩
theorem rcat_any (w : World) (v : Value) (rs : List (Pr.T × Pr.Sem)) (m : Bool) (a b : Pr.T) (hB : Base w) (da : Digs a) (db : Digs b) (hlen : rs.length ≤ 100000) (h : RulesV w v rs) :
    Calls Tryz.prog 63 #[v, numV m a b] w fun e w' => e = .returned (.string ⟨(Pr.sortP a b rs).toArray⟩) ∧ Below w.heap.size w w' := by
  obtain ⟨B, M, gg, qs, rfl, h2, h3⟩ := h
  have hl : qs.length ≤ 100000 := by simpa [semsQ] using hlen
  have h2' := h2
  rcases h2.2 with ⟨rfl, h0⟩ | ⟨g, cap, cur, rfl, _⟩
  · have : qs = [] := List.length_eq_zero_iff.1 h0
    subst this
    exact rcat_nil w m a b
  · exact rcat_some w B M g cap gg qs m a b hB da db hl h2' h3
theorem rulesP_len : ∀ (l : List (Pr.T × Pr.T)) (seen : List Pr.T) (rs : List (Pr.T × Pr.Sem)), Pr.rulesP seen l = some rs → rs.length = l.length := by
  intro l
  induction l with
  | nil => intro seen rs h; simp [Pr.rulesP] at h; subst h; rfl
  | cons x r ih =>
    intro seen rs h
    obtain ⟨n, s⟩ := x
    rw [Pr.rulesP] at h
    split at h
    · cases h
    · cases hw : Pr.whenP s with
      | none => simp [hw] at h
      | some f =>
        cases hr : Pr.rulesP (seen ++ [n]) r with
        | none => simp [hw, hr] at h
        | some l' =>
          simp only [hw, hr, Option.some.injEq] at h
          subst h
          simp [ih _ _ hr]
end Go.Proofs.YtaepcfidpekflaaGreatDoor
