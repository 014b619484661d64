/-
  Several texts in one (Ix, Sb, Sc, Qc, Sd). By the verifier.
-/
import Derived.Test.YtaepcfidpekflaaGreatDoorU33
import Derived.RangeFuncFrom
import Derived.Test.YtaepcfidpekflaaGreatDoorU15
import Derived.Test.YtaepcfidpekflaaGreatDoorU14
import Derived.Test.YtaepcfidpekflaaGreatDoorU09
import Derived.Test.YtaepcfidpekflaaGreatDoorU11
namespace Go.Proofs.YtaepcfidpekflaaGreatDoor
open Go.RowKit Go.Maps Go.Shelf Pg
attribute [local go_sem] Oper.semAt_some

/-- All that have come so far were to be followed by more. -/
def Okp (out : List Ar → Option Bool) (pre : List Ar) : Prop := ∀ q y, q ++ [y] <+: pre → out (q ++ [y]) = some true
theorem Okp.nil (out : List Ar → Option Bool) : Okp out [] := fun q y h => by
  have := h.length_le
  simp at this
theorem Okp.more {out : List Ar → Option Bool} {pre : List Ar} {x : Ar} (h : Okp out pre) (hx : out (pre ++ [x]) = some true) : Okp out (pre ++ [x]) := fun q y hq => by
  rcases List.prefix_concat_iff.1 hq with e | e
  · rw [e]; exact hx
  · exact h q y e
/-- The error that Each hands back where a round was the last. -/
def errU : Option Bool → Value
  | some _ => .nilIface
  | none => .iface 30 (.int .i64 15)
/-- A row of two cells in a block of its own. -/
def Boxed2 (W : World) (B : Nat) (x : Ar) : Prop := W.heap[B]? = some (.cells #[.string ⟨x.1.toArray⟩, .int .i64 (x.2 : Nat)] 189 (0, 0))
theorem boxed2_kept {W W' : World} {row : Option Nat} {B : Nat} {x : Ar} (h : Boxed2 W B x) (hg : W.grownBy W' row) (hr : ∀ r, row = some r → ∃ o : Obj, W.heap[r]? = some o ∧ o.isCells = false) : Boxed2 W' B x := (hg.block B (lt_heap h) (fun e => by
  obtain ⟨o, h1, h2⟩ := hr B e.symm
  rw [h] at h1
  cases h1
  cases h2)).trans h
theorem boxed_kept {W W' : World} {row : Option Nat} {B : Nat} {t : TypeId} {v : Value} (h : Boxed W B t v) (hg : W.grownBy W' row) (hr : ∀ r, row = some r → ∃ o : Obj, W.heap[r]? = some o ∧ o.isCells = false) : Boxed W' B t v := h.kept hg (fun e => by
  obtain ⟨o, h1, h2⟩ := hr B e.symm
  rw [show W.heap[B]? = _ from h] at h1
  cases h1
  cases h2)
theorem us_kept {N B0 g : Nat} {lb : Array Value} {St : List Ar → World → Prop} {Own : World → Nat → Prop} {Gd : World → Prop} {out : List Ar → Option Bool} (hU : Us N B0 g lb St Own Gd out) {d : List Ar} {W W' : World} {row : Option Nat} (hs : St d W) (hg : W.grownBy W' row) (hr : ∀ r, row = some r → ∃ o : Obj, W.heap[r]? = some o ∧ o.isCells = false) : St d W' ∧ ∀ k, Own W' k → Own W k :=
  hU.keep d W W' hs hg.size (fun k hk => hg.block k (hU.gw.old W k (hU.gd d W hs) hk) (fun e => by
    obtain ⟨o, h1, h2⟩ := hr k e.symm
    obtain ⟨c, T, f, h3⟩ := hU.cells d W k hs hk
    rw [h3] at h1
    cases h1
    cases h2))
/-- What Each answers. -/
def EachSaid (B0 : Nat) (s : Pg.T) (St : List Ar → World → Prop) (out : List Ar → Option Bool) (w : World) (e : Ending) (w' : World) : Prop := Below B0 w w' ∧ ∃ r, PatR s r ∧ match r with
  | .inl (er, a) => (∃ v, e = .returned v ∧ Flt w.heap.size w' v er a) ∧ St [] w'
  | .inr t => (e = .returned .nilIface ∧ Okp out (argsT t) ∧ St (argsT t) w') ∨ (∃ q y, q ++ [y] <+: argsT t ∧ Okp out q ∧ out (q ++ [y]) ≠ some true ∧ e = .returned (errU (out (q ++ [y]))) ∧ St (q ++ [y]) w')
set_option maxHeartbeats 3200000 in
set_option maxRecDepth 100000 in
theorem each_any (s : Pg.T) (N B0 g : Nat) (lb : Array Value) (St : List Ar → World → Prop) (Own : World → Nat → Prop) (Gd : World → Prop) (out : List Ar → Option Bool) (hU : Us N B0 g lb St Own Gd out) (w : World) (hT : Lib.Utf8Tabs 1 2 w) (hs : s.length ≤ 1000000) (h0 : St [] w) (hN : ∀ t, PatR s (.inr t) → (argsT t).length ≤ N) :
    Calls Tryz.prog 66 #[.string ⟨s.toArray⟩, .func (.func g) #[] lb] w fun e w' => EachSaid B0 s St out w e w' := by
  have hB0 := hU.base [] w h0
  have hold : ∀ k, Own w k → k < w.heap.size := fun k => hU.gw.old w k (hU.gd [] w h0)
  have hbA : Below w.heap.size w ((w.alloc (.cells #[.func (.func g) #[] lb] 50)).alloc (.cells #[.nilIface] 67)) := ((Below.refl _ w).alloc (Nat.le_refl _) _).alloc (by simp) _
  have kn := pnew_any s _ (Utf8Tabs_below hT hbA) hs
  refine (callsIn_wide (n := 3)).1 ?_
  refine callsIn_of_wp_marks Tryz.func66 rfl trivial ?_ rfl
  simp only [Tryz.ntmps66, List.size_toArray, List.length_cons, List.length_nil, Nat.reduceAdd, Nat.reduceSub, Array.replicate_succ, Array.replicate_zero, List.push_toArray, List.append_toArray, List.nil_append, List.cons_append]
  gi_wp2_with fail
  refine ⟨trivial, ?_⟩
  refine (callsIn_wide.2 kn).mono ?_
  rintro e w1 ⟨hb1, r, hr, hm⟩
  have hbW : Below w.heap.size w w1 := hbA.trans (hb1.mono (by simp; omega))
  have hzA : ((w.alloc (.cells #[.func (.func g) #[] lb] 50)).alloc (.cells #[.nilIface] 67)).heap.size = w.heap.size + 2 := by simp
  have bY : Boxed w1 w.heap.size 50 (.func (.func g) #[] lb) := (hb1.block _ (by simp; omega)).trans ((Boxed.new w _ _).alloc _)
  have bR : Boxed w1 (w.heap.size + 1) 67 .nilIface := (hb1.block _ (by simp)).trans (by have := Boxed.new (w.alloc (.cells #[.func (.func g) #[] lb] 50)) 67 .nilIface; rw [World.size_alloc] at this; exact this)
  obtain ⟨hs1, ho1⟩ := hU.keep [] w w1 h0 hbW.size (fun k hk => hbW.block k (hold k hk))
  have HR : Hid (PatR s r) := hr
  have HBW : Hid (Below w.heap.size w w1) := hbW
  clear kn hbA
  cases r with
  | inl x =>
    obtain ⟨er, a⟩ := x
    obtain ⟨v, rfl, hv⟩ := hm
    have HV : Hid (Flt (w.heap.size + 2) w1 v er a) := by have h := hv; rw [hzA] at h; exact h
    obtain ⟨b, rfl, hbl, hrow⟩ := hv
    have cR := bR.cell
    have fR := bR.frozen
    gi_wp2
    have hw2 : (w1.setCell ⟨w.heap.size + 1, 0, none⟩ (.iface 113 (.pointer (some ⟨b, 0, none⟩)))).cell? ⟨w.heap.size + 1, 0, none⟩ = some (.iface 113 (.pointer (some ⟨b, 0, none⟩))) := World.cell?_setCell_same' _ _ _ (by rw [cR]; rfl)
    refine ⟨.iface 113 (.pointer (some ⟨b, 0, none⟩)), ?_, ?_⟩
    · simp [results, Tryz.results66, go_sem, hw2]
    · have hbl' : w.heap.size + 2 ≤ b := by rw [hzA] at hbl; exact hbl
      refine ⟨(HBW.out.mono hB0).setCell (p := ⟨w.heap.size + 1, 0, none⟩) (by simp; omega) _, _, HR.out, ⟨_, rfl, b, rfl, by omega, hrow.other (by omega) _⟩, ?_⟩
      exact (hU.keep [] w1 _ hs1 (by simp [World.setCell]) (fun k hk => set_heap_other (p := ⟨w.heap.size + 1, 0, none⟩) (fun e => by have := hold k (ho1 k hk); simp at e; omega))).1
  | inr t =>
    obtain ⟨v, rfl, hrow⟩ := hm
    obtain ⟨va, vn, vc, rfl⟩ : ∃ va vn vc, v = .slice va vn vc := by
      obtain ⟨us, h1, _⟩ := hrow
      rcases h1 with ⟨_, h1⟩ | ⟨g, n, c, h1, _⟩
      · exact ⟨_, _, _, h1⟩
      · exact ⟨_, _, _, h1⟩
    have hwf : Wf false t := by
      cases hr with
      | ok h h1 h2 h3 =>
        obtain ⟨hp, hf⟩ := pts_of s h1
        exact (whole_marks hp.cps h2).2.2.1
    have hba2 := allocB w1 (.cells #[.slice va vn vc] 181)
    obtain ⟨hs2, ho2⟩ := hU.keep [] w1 _ hs1 hba2.size (fun k hk => hba2.block k (by have := hold k (ho1 k hk); have := HBW.out.size; omega))
    have hrow1 : RowAt w1 (fun g => ¬ Own w1 g) 1 (.slice va vn vc) t := hrow.wide (fun g hg e => by have := hold g (ho1 g e); rw [hzA] at hg; omega)
    have hrow2 := RowAt.fr (Fr.of hba2 ho2) hrow1
    have bY2 := bY.alloc (.cells #[.slice va vn vc] 181)
    have bR2 := bR.alloc (.cells #[.slice va vn vc] 181)
    have bM := Boxed.new w1 181 (.slice va vn vc)
    have hb0 : Below B0 w (w1.alloc (.cells #[.slice va vn vc] 181)) := (HBW.out.alloc HBW.out.size _).mono hB0
    have hz1 := HBW.out.size
    have hzb := bR.lt
    have hsz : (w1.alloc (.cells #[.slice va vn vc] 181)).heap.size = w1.heap.size + 1 := by simp
    have ny : ¬ Own (w1.alloc (.cells #[.slice va vn vc] 181)) w.heap.size := fun e => by have := hold _ (ho1 _ (ho2 _ e)); omega
    have nr : ¬ Own (w1.alloc (.cells #[.slice va vn vc] 181)) (w.heap.size + 1) := fun e => by have := hold _ (ho1 _ (ho2 _ e)); omega
    clear hrow hrow1 bY bR hr hbW hs1 hb1 hba2
    gi_wp2_with fail
    refine ⟨trivial, ?_⟩
    refine (callsIn_wide.2 (arguments_any _ w1 va vn vc rfl)).mono ?_
    rintro e w2 ⟨rfl, rfl⟩
    gi_wp2_with fail
    obtain ⟨W0, hW0⟩ : ∃ W0, w1.alloc (.cells #[.slice va vn vc] 181) = W0 := ⟨_, rfl⟩
    rw [hW0] at hs2 hrow2 bY2 bR2 bM hb0 hsz ny nr ho2 ⊢
    clear hW0
    refine wpIn_rangeFunc_ownH rfl (by decide) (gf := 130) (lb := #[.pointer (some ⟨w1.heap.size, 0, none⟩)]) rfl trivial (enters_of Tryz.func130 (by kernel_rfl) rfl)
      (args_stops Fence.wide (3 - 1) w1.heap.size (.slice va vn vc) t Own Gd W0 ⟨rfl, rfl, trivial, trivial⟩ trivial hU.gw (hU.gd _ _ hs2) (by omega) bM.cell hwf hrow2)
      (fun h1 h2 hg => ⟨(h1 hg).1.trans (h2 (h1 hg).2).1, (h2 (h1 hg).2).2⟩)
      (fun W l o o' _ hl ho _ hg => by
        obtain ⟨t1, t2⟩ := hU.gw.turns W l o o' hl ho hg
        exact ⟨⟨by simp, fun k c T f hk hn => (World.putObj_heap_other (fun e => by subst e; rw [hl] at hk; cases hk; cases ho)).trans hk, fun k _ h => t2 k h⟩, t1⟩)
      (Below.refl _ _) (fun _ => rfl)
      (fun pre W => (St pre W ∧ Okp out pre ∧ Boxed W w.heap.size 50 (.func (.func g) #[] lb) ∧ Boxed W (w.heap.size + 1) 67 .nilIface ∧ ¬ Own W w.heap.size ∧ ¬ Own W (w.heap.size + 1)) ∧ Below B0 w W)
      (fun c pre W => (c = .ret ∧ (∃ q y, pre = q ++ [y] ∧ Okp out q) ∧ out pre ≠ some true ∧ St pre W ∧ Boxed W (w.heap.size + 1) 67 (errU (out pre)) ∧ ¬ Own W (w.heap.size + 1)) ∧ Below B0 w W)
      (OwnFrom.and (Go.Own.from (fun d A B row hs hg hr => by
        obtain ⟨k1, k2⟩ := us_kept hU hs.1 hg hr
        exact ⟨k1, hs.2.1, boxed_kept hs.2.2.1 hg hr, boxed_kept hs.2.2.2.1 hg hr, fun e => hs.2.2.2.2.1 (k2 _ e), fun e => hs.2.2.2.2.2 (k2 _ e)⟩) _) (ownFrom_below hB0 (by omega)))
      (fun c => OwnFrom.and (Go.Own.from (fun d A B row hs hg hr => by
        obtain ⟨k1, k2⟩ := us_kept hU hs.2.2.2.1 hg hr
        exact ⟨hs.1, hs.2.1, hs.2.2.1, k1, boxed_kept hs.2.2.2.2.1 hg hr, fun e => hs.2.2.2.2.2 (k2 _ e)⟩) _) (ownFrom_below hB0 (by omega)))
      ⟨⟨hs2, Okp.nil out, bY2, bR2, ny, nr⟩, hb0⟩
      (fun x a' W => ∃ Bx, w.heap.size + 1 < Bx ∧ Boxed2 W Bx x ∧ a' = { tmps := #[.string ⟨s.toArray⟩, .func (.func g) #[] lb, undef, .pointer (some ⟨w.heap.size, 0, none⟩), .pointer (some ⟨w.heap.size + 1, 0, none⟩), .slice va vn vc, .nilIface, .pointer (some ⟨Bx, 0, none⟩), undef, undef, .tuple #[.slice va vn vc, .nilIface], .string ⟨s.toArray⟩, .tuple #[.slice va vn vc, .nilIface], .slice va vn vc, .nilIface, .nilIface, .bool false, undef, .slice va vn vc, .func (.func 130) #[] #[.pointer (some ⟨w1.heap.size, 0, none⟩)], encA x, undef, undef, undef, undef, undef, undef, undef, undef, undef, undef, undef, undef, undef], defers := [] })
      (fun x a' _ X Y row hs hg hr => by obtain ⟨Bx, h1, h2, h3⟩ := hs; exact ⟨Bx, h1, boxed2_kept h2 hg (fun r e => (hr r e).2), h3⟩)
      ?assign ?body ?done ?stop
    case assign =>
      rintro l pre x W K ⟨⟨k1, k2, k3, k4, k5, k6⟩, hB1⟩ hK
      have hbx := allocB W (.cells #[.string ⟨x.1.toArray⟩, .int .i64 (x.2 : Nat)] 189)
      obtain ⟨j1, j2⟩ := hU.keep pre W _ k1 hbx.size (fun k hk => hbx.block k (hU.gw.old W k (hU.gd _ _ k1) hk))
      have hzW := hU.base pre W k1
      unfold encA
      gi_wp2
      exact hK _ _ ((KeepsOthers.alloc _ _).from _) (fun _ => ⟨Fr.of hbx j2, hU.gd _ _ j1⟩) ⟨⟨j1, k2, k3.alloc _, k4.alloc _, fun e => k5 (j2 _ e), fun e => k6 (j2 _ e)⟩, hB1.alloc hzW _⟩ ⟨W.heap.size, k4.lt, heapn W _, rfl⟩
    case body =>
      rintro l pre x a' W hl ⟨r, hr⟩ ⟨⟨k1, k2, k3, k4, k5, k6⟩, hB1⟩ ⟨Bx, hBx, bX, rfl⟩ hlt
      have kh := uhand hU W pre x k1 (by have := hN t HR.out; omega)
      have c0 : W.cell? ⟨Bx, 0, none⟩ = some (.string ⟨x.1.toArray⟩) := by simp [World.cell?, show W.heap[Bx]? = _ from bX]
      have c1 : W.cell? ⟨Bx, 1, none⟩ = some (.int .i64 (x.2 : Nat)) := by simp [World.cell?, show W.heap[Bx]? = _ from bX]
      have c2 := k3.cell
      unfold encA at kh ⊢
      cases ho : out (pre ++ [x]) with
      | some b =>
        rw [ho] at kh
        cases b with
        | true =>
          gi_wp2_with (refine ⟨trivial, ?_⟩; gi_at_call 96; refine (CallsIn.inRound l (callsIn_wide.2 kh)).mono ?_; rintro e w2 ⟨rfl, j1, j2, j3, j4⟩; unfold handOut)
          exact ⟨j3.from _, fun _ => ⟨j2, hU.gd _ _ j1⟩, ⟨j1, k2.more ho, j2.cells _ _ _ _ k3 k5, j2.cells _ _ _ _ k4 k6, fun e => k5 (j2.own _ k3.lt e), fun e => k6 (j2.own _ k4.lt e)⟩, hB1.trans j4⟩
        | false =>
          gi_wp2_with (refine ⟨trivial, ?_⟩; gi_at_call 96; refine (CallsIn.inRound l (callsIn_wide.2 kh)).mono ?_; rintro e w2 ⟨rfl, j1, j2, j3, j4⟩; unfold handOut; have b4 : Boxed w2 (w.heap.size + 1) 67 .nilIface := j2.cells _ _ _ _ k4 k6; have cR := b4.cell; have fR := b4.frozen)
          have n4 : ¬ Own w2 (w.heap.size + 1) := fun e => k6 (j2.own _ k4.lt e)
          obtain ⟨i1, i2⟩ := hU.keep (pre ++ [x]) w2 (w2.setCell ⟨w.heap.size + 1, 0, none⟩ (.nilIface)) j1 (by simp [World.setCell]) (fun k hk => set_heap_other (p := ⟨w.heap.size + 1, 0, none⟩) (fun e => n4 (by simp at e; rw [← e]; exact hk)))
          exact ⟨(j3.trans (KeepsOthers.setCell _ _ _)).from _, ⟨rfl, ⟨pre, x, rfl, k2⟩, by rw [ho]; simp, i1, by rw [ho]; exact b4.set _, fun e => n4 (i2 _ e)⟩, (hB1.trans j4).setCell (p := ⟨w.heap.size + 1, 0, none⟩) (by simp; omega) _⟩
      | none =>
          rw [ho] at kh
          gi_wp2_with (refine ⟨trivial, ?_⟩; gi_at_call 96; refine (CallsIn.inRound l (callsIn_wide.2 kh)).mono ?_; rintro e w2 ⟨rfl, j1, j2, j3, j4⟩; unfold handOut; have b4 : Boxed w2 (w.heap.size + 1) 67 .nilIface := j2.cells _ _ _ _ k4 k6; have cR := b4.cell; have fR := b4.frozen)
          have n4 : ¬ Own w2 (w.heap.size + 1) := fun e => k6 (j2.own _ k4.lt e)
          obtain ⟨i1, i2⟩ := hU.keep (pre ++ [x]) w2 (w2.setCell ⟨w.heap.size + 1, 0, none⟩ (.iface 30 (.int .i64 15))) j1 (by simp [World.setCell]) (fun k hk => set_heap_other (p := ⟨w.heap.size + 1, 0, none⟩) (fun e => n4 (by simp at e; rw [← e]; exact hk)))
          exact ⟨(j3.trans (KeepsOthers.setCell _ _ _)).from _, ⟨rfl, ⟨pre, x, rfl, k2⟩, by rw [ho]; simp, i1, by rw [ho]; exact b4.set _, fun e => n4 (i2 _ e)⟩, (hB1.trans j4).setCell (p := ⟨w.heap.size + 1, 0, none⟩) (by simp; omega) _⟩
    case done =>
      rintro D ys W hD rfl ⟨⟨k1, k2, k3, k4, k5, k6⟩, hB1⟩ hK
      have cR := k4.cell
      have fR := k4.frozen
      gi_wp2
      have hK' := (KeepsOthers.setCell W ⟨w.heap.size + 1, 0, none⟩ .nilIface).same D _ hK rfl
      refine ⟨by simp, .inl ⟨_, _, rfl, run_takeDeferred hK', ?_⟩⟩
      have hc5 := cell_kept (World.cell?_setCell_same' W ⟨w.heap.size + 1, 0, none⟩ .nilIface (by rw [cR]; rfl)) (grownBy_putObj' _ D (.deferred none)) (fun r e => by cases e; exact ⟨_, hK', rfl⟩)
      obtain ⟨i1, i2⟩ := hU.keep (argsT t) W (W.setCell ⟨w.heap.size + 1, 0, none⟩ .nilIface) k1 (by simp [World.setCell]) (fun k hk => set_heap_other (p := ⟨w.heap.size + 1, 0, none⟩) (fun e => k6 (by simp at e; rw [← e]; exact hk)))
      refine ⟨.nilIface, ?_, (hB1.setCell (p := ⟨w.heap.size + 1, 0, none⟩) (by simp; omega) _).trans (belowK_b (w := W0) (by omega) _ D _ _ hD hK' rfl rfl), _, HR.out, .inl ⟨rfl, k2, (us_kept hU i1 (grownBy_putObj' _ D (.deferred none)) (fun r e => by cases e; exact ⟨_, hK', rfl⟩)).1⟩⟩
      simp [results, Tryz.results66, go_sem, hc5]
    case stop =>
      rintro D c pre W hD hpre ⟨⟨rfl, ⟨q, y, rfl, hq⟩, hne, k1, k4, k6⟩, hB1⟩ hK
      gi_wp2
      refine ⟨by simp, .inl ⟨_, _, rfl, run_takeDeferred hK, ?_⟩⟩
      have hc5 := cell_kept k4.cell (grownBy_putObj' _ D (.deferred none)) (fun r e => by cases e; exact ⟨_, hK, rfl⟩)
      refine ⟨errU (out (q ++ [y])), ?_, hB1.trans (belowK_b (w := W0) (by omega) W D _ _ hD hK rfl rfl), _, HR.out, .inr ⟨q, y, hpre, hq, hne, rfl, (us_kept hU k1 (grownBy_putObj' _ D (.deferred none)) (fun r e => by cases e; exact ⟨_, hK, rfl⟩)).1⟩⟩
      simp [results, Tryz.results66, go_sem, hc5]
end Go.Proofs.YtaepcfidpekflaaGreatDoor
namespace Go.Proofs.YtaepcfidpekflaaGreatDoor
open Go.RowKit

set_option maxHeartbeats 400000 in
theorem small_any (t : Pr.T) (hd : ∀ c ∈ t, Pn.isDig c = true) (hl : t.length ≤ 9) (w : World) : Calls Tryz.prog 118 #[.string ⟨t.toArray⟩] w fun e w' => e = .returned (.int .i64 (Pr.val t)) ∧ w' = w := by
  obtain ⟨s, hs⟩ : ∃ s : ByteArray, s = ⟨t.toArray⟩ := ⟨_, rfl⟩
  have hsd : s.data.toList = t := by rw [hs]
  rw [← hs]
  have HD : Hid (∀ c ∈ s.data.toList, Pn.isDig c = true) := by rw [hsd]; exact hd
  have HV : Hid (Pr.val s.data.toList = Pr.val t) := by show _ = _; rw [hsd]
  have hsz : s.size ≤ 9 := by rw [Lib.size_eq, hsd]; exact hl
  generalize Pr.val t = V at *
  clear hsd hs hd hl
  go_enter Tryz.func118, Tryz.ntmps118
  go_wp2
  go_loop [3, 4] (fun v i => ∃ k : Nat, k ≤ s.size ∧ i = .int .i64 k ∧ ∃ x : Nat, v = .int .i64 x ∧ Hid (x = Pr.val (s.data.toList.take k)) ∧ x < 1000000000) (fun _ i => s.size - (intOf i).toNat)
  case atStart => exact ⟨0, Nat.zero_le _, rfl, 0, rfl, by show _ = _; simp [Pr.val], by omega⟩
  case round =>
    obtain ⟨k, hk, rfl, x, rfl, HX, hx⟩ := hrel
    by_cases hp : k < s.size
    · have hg : Pn.isDig s[k] = true := HD.out _ (by
        have : s[k] = s.data.toList[k]'(by simpa using hp) := rfl
        rw [this]; exact List.getElem_mem _)
      have hv := val_take s k hp
      have hlt := val_lt (s.data.toList.take (k + 1)) (fun c hc => HD.out c (List.mem_of_mem_take hc))
      have hl9 : (s.data.toList.take (k + 1)).length ≤ 9 := by rw [List.length_take, ← Lib.size_eq]; omega
      have hp9 : 10 ^ (s.data.toList.take (k + 1)).length ≤ 10 ^ 9 := Nat.pow_le_pow_right (by omega) hl9
      have h9 : (10 : Nat) ^ 9 = 1000000000 := by decide
      obtain ⟨h1, h2⟩ := (Pn.isDig_iff _).1 hg
      have hp' : (k : Int) < s.size := by omega
      have HX2 : Hid (10 * x + (s[k].toNat - 48) = Pr.val (s.data.toList.take (k + 1))) := by show _ = _; rw [hv, HX.out]
      have hx2 : 10 * x + (s[k].toNat - 48) < 1000000000 := by rw [HX2.out]; omega
      generalize hq : s[k].toNat = q at *
      have hw1 : IntKind.u8.wrap ((q : Int) - 48) = (q : Int) - 48 := by rw [IntKind.wrap_u8]; omega
      have hw2 : IntKind.i64.wrap (10 * (x : Int)) = 10 * (x : Int) := by rw [IntKind.wrap_i64]; omega
      have hw3 : IntKind.i64.wrap (10 * (x : Int) + ((q : Int) - 48)) = 10 * (x : Int) + ((q : Int) - 48) := by rw [IntKind.wrap_i64]; omega
      clear hv hlt hl9 hp9 h9 hg HX
      go_wp2
      go_round
      case rel => exact ⟨k + 1, hp, by go_num, 10 * x + (q - 48), by congr 1; omega, HX2, hx2⟩
      case measure => simp [intOf]; omega
    · have hp' : ¬ (k : Int) < s.size := by omega
      have HE : Hid (x = V) := by
        show _ = _
        rw [HX.out, List.take_of_length_le (by rw [← Lib.size_eq]; omega), HV.out]
      clear HX
      go_wp2
      go_ret
      exact ⟨by rw [HE.out]; rfl, rfl⟩
theorem digit_at (k : Nat) (h : k < 10) : (⟨#[48, 49, 50, 51, 52, 53, 54, 55, 56, 57]⟩ : ByteArray).extract k (k + 1) = ⟨#[UInt8.ofNat (48 + k)]⟩ := by
  match k, h with
  | 0, _ => decide
  | 1, _ => decide
  | 2, _ => decide
  | 3, _ => decide
  | 4, _ => decide
  | 5, _ => decide
  | 6, _ => decide
  | 7, _ => decide
  | 8, _ => decide
  | 9, _ => decide
set_option maxHeartbeats 400000 in
theorem decimal_any : ∀ (v : Nat) (w : World), v ≤ 1000000000 → Calls Tryz.prog 120 #[.int .i64 v] w fun e w' => e = .returned (.string ⟨(Lib.decDigits v).toArray⟩) ∧ Below w.heap.size w w' := by
  intro v
  induction v using Nat.strongRecOn with
  | _ v ih =>
    intro w hv
    have hm : ((v : Int).tmod 10) = ((v % 10 : Nat) : Int) := rfl
    have hx := digit_at (v % 10) (by omega)
    by_cases h : v < 10
    · have h' : (v : Int) < 10 := by omega
      have hR : Hid (Lib.decDigits v = [UInt8.ofNat (48 + v)]) := by show _ = _; rw [Lib.decDigits, dif_pos h]
      rw [Nat.mod_eq_of_lt h] at hm hx
      clear ih
      go_enter Tryz.func120, Tryz.ntmps120
      go_wp2
      go_ret
      exact ⟨by rw [hR.out]; simp [UInt8.ofNat_add], Below.refl _ _⟩
    · have h' : ¬ (v : Int) < 10 := by omega
      have hR : Hid (Lib.decDigits v = Lib.decDigits (v / 10) ++ [UInt8.ofNat (48 + v % 10)]) := by show _ = _; rw [Lib.decDigits, dif_neg h]
      have hdv : (v : Int).tdiv 10 = ((v / 10 : Nat) : Int) := rfl
      have c1 : ∀ W, Calls Tryz.prog 120 #[.int .i64 ((v : Int) / 10)] W fun e w' => e = .returned (.string ⟨(Lib.decDigits (v / 10)).toArray⟩) ∧ Below W.heap.size W w' := fun W => by
        have := ih (v / 10) (by omega) W (by omega)
        rw [show ((v / 10 : Nat) : Int) = (v : Int) / 10 from rfl] at this
        exact this
      clear ih
      go_enter Tryz.func120, Tryz.ntmps120
      go_wp2_with fail
      refine (c1 _).mono ?_
      rintro e w1 ⟨rfl, hb1⟩
      have hcat : (⟨(Lib.decDigits (v / 10)).toArray⟩ : ByteArray) ++ ⟨#[48 + UInt8.ofNat (v % 10)]⟩ = ⟨(Lib.decDigits v).toArray⟩ := by
        rw [hR.out]
        apply ByteArray.ext
        simp [ByteArray.data_append, UInt8.ofNat_add]
      have hn := (dec_digs (v / 10) (by omega)).2
      clear c1 hR
      go_wp2
      go_ret
      exact ⟨rfl, hb1⟩

/-- Digits without noughts ahead; of none: 0. -/
def plainD (t : Pr.T) : Pr.T := if t.dropWhile (· == 48) = [] then [48] else t.dropWhile (· == 48)
theorem plainD_step (r : Pr.T) : plainD (48 :: r) = plainD r := by
  unfold plainD
  rw [List.dropWhile_cons_of_pos (by rfl)]
theorem plainD_one (c : UInt8) : plainD [c] = [c] := by
  unfold plainD
  by_cases h : c = 48
  · subst h; rfl
  · rw [List.dropWhile_cons_of_neg (by simpa using h)]
    simp
theorem plainD_stop (c : UInt8) (r : Pr.T) (h : c ≠ 48) : plainD (c :: r) = c :: r := by
  unfold plainD
  rw [List.dropWhile_cons_of_neg (by simpa using h)]
  simp
set_option maxHeartbeats 400000 in
theorem plain_any (t : Pr.T) (ht : t.length ≤ 1000) (w : World) : Calls Tryz.prog 152 #[.string ⟨t.toArray⟩] w fun e w' => e = .returned (.string ⟨(plainD t).toArray⟩) ∧ w' = w := by
  obtain ⟨R, hR⟩ : ∃ R, Hid (plainD t = R) := ⟨_, rfl⟩
  rw [hR.out]
  go_enter Tryz.func152, Tryz.ntmps152
  go_wp2
  go_loop [0] (fun x => ∃ u : Pr.T, x = .string ⟨u.toArray⟩ ∧ u.length ≤ 1000 ∧ Hid (plainD u = R)) (fun x => match x with | .string s => s.size | _ => 0)
  case atStart => exact ⟨t, rfl, ht, hR⟩
  case round =>
    obtain ⟨u, rfl, hu, HU⟩ := hrel
    cases u with
    | nil =>
      have hF : Hid (R = [48]) := HU.out.symm
      go_wp2
      go_ret
      exact ⟨by rw [hF.out]; rfl, rfl⟩
    | cons c r =>
      simp only [List.length_cons] at hu
      have h0 : ∀ h, ((⟨(c :: r).toArray⟩ : ByteArray)[0]'h).toNat = c.toNat := fun h => rfl
      have hd := ex_drop (c :: r) 1
      simp only [List.length_cons, List.drop_succ_cons, List.drop_zero] at hd
      by_cases h1 : r.length = 0
      · have h1' : ¬ (1 : Int) < r.length + 1 := by omega
        have hr : r = [] := List.length_eq_zero_iff.1 h1
        subst hr
        have hF : Hid (R = [c]) := HU.out.symm.trans (plainD_one c)
        clear h1 HU
        go_wp2
        go_ret
        exact ⟨by rw [hF.out]; rfl, rfl⟩
      · have h1' : (1 : Int) < r.length + 1 := by omega
        by_cases hc : c = 48
        · have hc' : ((c.toNat : Int) == 48) = true := by rw [hc]; rfl
          have hF : Hid (plainD r = R) := by
            show _ = _
            rw [← HU.out, hc, plainD_step r]
          clear h1 HU hc
          go_wp2
          go_round
          case rel => exact ⟨r, rfl, by omega, hF⟩
          case measure =>
            show r.toArray.size < (c :: r).toArray.size
            simp
        · have hc' : ((c.toNat : Int) == 48) = false := by
            rw [beq_eq_false_iff_ne]
            intro e
            exact hc (UInt8.toNat_inj.1 (by show c.toNat = 48; omega))
          have hF : Hid (R = c :: r) := HU.out.symm.trans (plainD_stop c r hc)
          clear h1 HU hc
          go_wp2
          go_ret
          exact ⟨by rw [hF.out]; rfl, rfl⟩
end Go.Proofs.YtaepcfidpekflaaGreatDoor
namespace Go.Proofs.YtaepcfidpekflaaGreatDoor
open Go.RowKit

set_option maxHeartbeats 800000 in
theorem left_any (t : Pr.T) (m : Nat) (hd : Digs t) (hm : 1 ≤ m) (hm2 : m ≤ 1000000000) (w : World) : Calls Tryz.prog 119 #[.string ⟨t.toArray⟩, .int .i64 m] w fun e w' => e = .returned (.int .i64 (Pr.val t % m : Nat)) ∧ w' = w := by
  obtain ⟨s, hs⟩ : ∃ s : ByteArray, s = ⟨t.toArray⟩ := ⟨_, rfl⟩
  have hsd : s.data.toList = t := by rw [hs]
  rw [← hs]
  have HD : Hid (∀ c ∈ s.data.toList, Pn.isDig c = true) := by rw [hsd]; exact hd.1
  have HV : Hid (Pr.val s.data.toList = Pr.val t) := by show _ = _; rw [hsd]
  have hsz : s.size ≤ 30 := by rw [Lib.size_eq, hsd]; exact hd.2
  generalize Pr.val t = V at *
  clear hsd hs hd
  go_enter Tryz.func119, Tryz.ntmps119
  go_wp2
  go_loop [5, 6] (fun v i => ∃ k : Nat, k ≤ s.size ∧ i = .int .i64 k ∧ ∃ x : Nat, v = .int .i64 x ∧ Hid (x = Pr.val (s.data.toList.take k) % m) ∧ x < m) (fun _ i => s.size - (intOf i).toNat)
  case atStart => exact ⟨0, Nat.zero_le _, rfl, 0, rfl, by show _ = _; simp [Pr.val], by omega⟩
  case round =>
    obtain ⟨k, hk, rfl, x, rfl, HX, hx⟩ := hrel
    by_cases hp : k < s.size
    · have hg : Pn.isDig s[k] = true := HD.out _ (by
        have : s[k] = s.data.toList[k]'(by simpa using hp) := rfl
        rw [this]; exact List.getElem_mem _)
      have hv := val_take s k hp
      obtain ⟨h1, h2⟩ := (Pn.isDig_iff _).1 hg
      have hp' : (k : Int) < s.size := by omega
      have HX2 : Hid ((10 * x + (s[k].toNat - 48)) % m = Pr.val (s.data.toList.take (k + 1)) % m) := by
        show _ = _
        rw [hv, HX.out, Nat.add_mod, Nat.mul_mod, Nat.mod_mod, ← Nat.mul_mod, ← Nat.add_mod]
      generalize hq : s[k].toNat = q at *
      have hw1 : IntKind.u8.wrap ((q : Int) - 48) = (q : Int) - 48 := by rw [IntKind.wrap_u8]; omega
      have hw2 : IntKind.i64.wrap ((x : Int) * 10) = (x : Int) * 10 := by rw [IntKind.wrap_i64]; omega
      have hw3 : IntKind.i64.wrap ((x : Int) * 10 + ((q : Int) - 48)) = (x : Int) * 10 + ((q : Int) - 48) := by rw [IntKind.wrap_i64]; omega
      have hN : (x : Int) * 10 + ((q : Int) - 48) = ((10 * x + (q - 48) : Nat) : Int) := by omega
      have hbig : 10 * x + (q - 48) ≤ 20000000000 := by omega
      clear hv hg HX
      generalize hT : Pr.val (s.data.toList.take (k + 1)) % m = TT at *
      go_wp2_with fail
      go_loop [5] (fun v => ∃ y : Nat, v = .int .i64 y ∧ Hid (y % m = TT) ∧ y ≤ 20000000000) (fun v => (intOf v).toNat)
      case atStart => exact ⟨10 * x + (q - 48), by congr 1, HX2, hbig⟩
      case round =>
        obtain ⟨y, rfl, HY, hy⟩ := hrel
        by_cases hmy : m ≤ y
        · have hmy' : (m : Int) ≤ y := by omega
          go_wp2_with fail
          go_loop [7] (fun z => ∃ p : Nat, z = .int .i64 p ∧ p ≤ y ∧ 1 ≤ p ∧ Hid (p % m = 0)) (fun z => y - (intOf z).toNat)
          case atStart => exact ⟨m, rfl, hmy, hm, by show _ = _; simp⟩
          case round =>
            obtain ⟨p, rfl, hpy, hp1, HP⟩ := hrel
            have hw4 : IntKind.i64.wrap ((p : Int) * 2) = (p : Int) * 2 := by rw [IntKind.wrap_i64]; omega
            have hw5 : IntKind.i64.wrap ((y : Int) - p) = (y : Int) - p := by rw [IntKind.wrap_i64]; omega
            by_cases h2p : p * 2 ≤ y
            · have h2p' : (p : Int) * 2 ≤ y := by omega
              have HP2 : Hid (p * 2 % m = 0) := by show _ = _; rw [Nat.mul_mod, HP.out]; simp
              go_wp2
              go_round
              case rel => exact ⟨p * 2, by congr 1, h2p, by omega, HP2⟩
              case measure => simp [intOf]; omega
            · have h2p' : ¬ (p : Int) * 2 ≤ y := by omega
              have HY2 : Hid ((y - p) % m = TT) := by
                show _ = _
                rw [← HY.out]
                have hd : m ∣ p := Nat.dvd_of_mod_eq_zero HP.out
                obtain ⟨j, rfl⟩ := hd
                exact Nat.sub_mul_mod hpy
              go_wp2
              go_round
              case rel => exact ⟨y - p, by congr 1; omega, HY2, by omega⟩
              case measure => simp [intOf]; omega
        · have hmy' : ¬ (m : Int) ≤ y := by omega
          have HE : Hid (y = TT) := by show _ = _; rw [← HY.out, Nat.mod_eq_of_lt (by omega)]
          have hT' : Hid (Pr.val (s.data.toList.take (k + 1)) % m = TT) := hT
          clear hT HY
          go_wp2
          go_round
          case rel => exact ⟨k + 1, hp, by go_num, y, rfl, by show _ = _; rw [hT'.out, HE.out], by omega⟩
          case measure => simp [intOf]; omega
    · have hp' : ¬ (k : Int) < s.size := by omega
      have HE : Hid (x = V % m) := by
        show _ = _
        rw [HX.out, List.take_of_length_le (by rw [← Lib.size_eq]; omega), HV.out]
      clear HX
      go_wp2
      go_ret
      exact ⟨by rw [HE.out]; rfl, rfl⟩
/-- Digits with no nought ahead of others. -/
def Canon (a : Pr.T) : Prop := a ≠ [] ∧ (∀ c ∈ a, Pn.isDig c = true) ∧ (a.length = 1 ∨ a.head? ≠ some 48)
theorem less_gt : ∀ (a b : Pr.T) (x y : Nat), a.length = b.length → (∀ c ∈ a, Pn.isDig c = true) → (∀ c ∈ b, Pn.isDig c = true) →
    x < y → a.foldl (fun v c => 10 * v + (c.toNat - 48)) x < b.foldl (fun v c => 10 * v + (c.toNat - 48)) y := by
  intro a
  induction a with
  | nil =>
    intro b x y hl _ _ h
    have : b = [] := List.length_eq_zero_iff.1 hl.symm
    subst this
    exact h
  | cons c r ih =>
    intro b x y hl ha hb h
    cases b with
    | nil => simp at hl
    | cons d s =>
      have h1 := (Pn.isDig_iff c).1 (ha c (by simp))
      have h2 := (Pn.isDig_iff d).1 (hb d (by simp))
      simp only [List.foldl_cons]
      exact ih s _ _ (by simpa using hl) (fun z hz => ha z (by simp [hz])) (fun z hz => hb z (by simp [hz])) (by omega)
theorem less_len : ∀ (a b : Pr.T) (x y : Nat), a.length = b.length → (∀ c ∈ a, Pn.isDig c = true) → (∀ c ∈ b, Pn.isDig c = true) →
    (x < y → a.foldl (fun v c => 10 * v + (c.toNat - 48)) x < b.foldl (fun v c => 10 * v + (c.toNat - 48)) y) ∧ (x = y → (Op.bytesLess a b = true ↔ a.foldl (fun v c => 10 * v + (c.toNat - 48)) x < b.foldl (fun v c => 10 * v + (c.toNat - 48)) y) ∧ (a = b ↔ a.foldl (fun v c => 10 * v + (c.toNat - 48)) x = b.foldl (fun v c => 10 * v + (c.toNat - 48)) y)) := by
  intro a
  induction a with
  | nil =>
    intro b x y hl _ _
    have : b = [] := List.length_eq_zero_iff.1 hl.symm
    subst this
    refine ⟨fun h => h, fun h => ?_⟩
    subst h
    simp [Op.bytesLess]
  | cons c r ih =>
    intro b x y hl ha hb
    cases b with
    | nil => simp at hl
    | cons d s =>
      have h1 := (Pn.isDig_iff c).1 (ha c (by simp))
      have h2 := (Pn.isDig_iff d).1 (hb d (by simp))
      have hr := ih s (10 * x + (c.toNat - 48)) (10 * y + (d.toNat - 48)) (by simpa using hl) (fun z hz => ha z (by simp [hz])) (fun z hz => hb z (by simp [hz]))
      simp only [List.foldl_cons]
      refine ⟨fun h => hr.1 (by omega), fun h => ?_⟩
      subst h
      by_cases hcd : c = d
      · subst hcd
        have := hr.2 rfl
        simp only [Op.bytesLess]
        refine ⟨?_, ?_⟩
        · rw [← this.1]; simp
        · rw [← this.2]; simp
      · have hne : c.toNat ≠ d.toNat := fun e => hcd (UInt8.toNat_inj.1 e)
        rcases Nat.lt_or_ge c.toNat d.toNat with hlt | hge
        · have h3 := hr.1 (by omega)
          have hlt' : c < d := UInt8.lt_iff_toNat_lt.2 hlt
          refine ⟨?_, ?_⟩
          · simp [Op.bytesLess, hlt', h3]
          · simp [hcd]; omega
        · have h4 := (less_gt s r (10 * x + (d.toNat - 48)) (10 * x + (c.toNat - 48)) (by simpa using hl.symm) (fun z hz => hb z (by simp [hz])) (fun z hz => ha z (by simp [hz]))) (by omega)
          have hlt' : ¬ c < d := fun h => by have := UInt8.lt_iff_toNat_lt.1 h; omega
          refine ⟨?_, ?_⟩
          · simp [Op.bytesLess, hlt', hcd]; omega
          · simp [hcd]; omega
end Go.Proofs.YtaepcfidpekflaaGreatDoor
namespace Go.Proofs.YtaepcfidpekflaaGreatDoor
open Go.RowKit

theorem cont_one (x t : Pr.T) : Lib.containsS [⟨x.toArray⟩] ⟨t.toArray⟩ = decide (t = x) := by
  by_cases h : t = x
  · rw [decide_eq_true h]; rw [Lib.containsS_iff]; simp [h]
  · rw [decide_eq_false h]
    cases e : Lib.containsS [⟨x.toArray⟩] ⟨t.toArray⟩ with
    | false => rfl
    | true => rw [Lib.containsS_iff] at e; simp at e; exact absurd e h
theorem cont_two (x y t : Pr.T) : Lib.containsS [⟨x.toArray⟩, ⟨y.toArray⟩] ⟨t.toArray⟩ = decide (t = x ∨ t = y) := by
  by_cases h : t = x ∨ t = y
  · rw [decide_eq_true h]; rw [Lib.containsS_iff]; simpa using h
  · rw [decide_eq_false h]
    cases e : Lib.containsS [⟨x.toArray⟩, ⟨y.toArray⟩] ⟨t.toArray⟩ with
    | false => rfl
    | true => rw [Lib.containsS_iff] at e; simp at e; exact absurd e h

set_option maxHeartbeats 400000 in
theorem take_nil (P : Nat) (w : World) (v : Value) (h : Left P w []) :
    Calls Tryz.prog 214 #[.pointer (some ⟨P, 0, none⟩), v] w fun e w' => e = .returned (.bool false) ∧ Left P w' [] ∧ Ag P w w' := by
  obtain ⟨a, c, h1, h2, h3, h4⟩ := h
  have q1 := h1.2.1
  have q2 := h1.2.2
  go_enter Tryz.func214, Tryz.ntmps214
  go_wp2
  go_ret
  exact ⟨rfl, ⟨a, c, h1, h2, h3, .inl rfl⟩, Ag.refl _ _⟩

set_option maxHeartbeats 400000 in
theorem take_core (P : Nat) (w : World) (t : Pr.T) (l : List Pr.T) (v : Value) (hit : Bool) (h : Left P w (t :: l))
    (hc : Calls Tryz.prog 154 #[v, .string ⟨t.toArray⟩] w fun e w' => e = .returned (.bool hit) ∧ w' = w) :
    Calls Tryz.prog 214 #[.pointer (some ⟨P, 0, none⟩), v] w fun e w' => e = .returned (.bool hit) ∧ Left P w' (if hit then l else t :: l) ∧ Ag P w w' := by
  obtain ⟨a, c, h1, h2, h3, h4⟩ := h
  have q1 := h1.2.1
  have q2 := h1.2.2
  rcases h4 with h4 | ⟨blk, off, rfl, h5, h6, h7⟩
  · cases h4
  obtain ⟨h3, hsm⟩ := h3
  have q0 := h7 0 (by simp)
  simp only [List.length_cons] at h2 h3 q1
  have q0' : w.cell? ⟨blk, off, none⟩ = some (.string ⟨t.toArray⟩) := by simpa using q0
  clear q0
  go_enter Tryz.func214, Tryz.ntmps214
  go_wp2_with fail
  refine hc.mono ?_
  rintro e w1 ⟨rfl, rfl⟩
  cases hit with
  | false =>
    go_wp2
    go_ret
    exact ⟨rfl, ⟨_, c, h1, h2, ⟨h3, hsm⟩, .inr ⟨blk, off, rfl, h5, h6, h7⟩⟩, Ag.refl _ _⟩
  | true =>
    by_cases e : c = 1
    · obtain rfl : l = [] := List.length_eq_zero_iff.1 (by omega)
      subst e
      go_wp2
      go_ret
      exact ⟨rfl, left_set h1 _ _ [] (by simp) ⟨by simp, small_tail hsm⟩ (.inl rfl), (Ag.refl P w1).setCell 0 _⟩
    · go_wp2
      go_ret
      exact ⟨rfl, left_set h1 _ _ l (by omega) ⟨by omega, small_tail hsm⟩ (txts_tail h5 h6 h7), (Ag.refl P w1).setCell 0 _⟩

/-- What take makes of what is left. -/
def took (b : Bool) (l : List Pr.T) : List Pr.T := if b then l.tail else l
def isHead (x : Pr.T) : List Pr.T → Bool
  | [] => false
  | t :: _ => decide (t = x)
theorem take_one (P Q : Nat) (w : World) (l : List Pr.T) (x : Pr.T) (h : Left P w l) (hQ : Row w Q #[.string ⟨x.toArray⟩]) :
    Calls Tryz.prog 214 #[.pointer (some ⟨P, 0, none⟩), .slice (some ⟨Q, 0, none⟩) 1 1] w fun e w' => e = .returned (.bool (isHead x l)) ∧ Left P w' (took (isHead x l) l) ∧ Ag P w w' := by
  cases l with
  | nil => exact take_nil P w _ h
  | cons t l =>
    refine (take_core P w t l _ (decide (t = x)) h ?_).mono fun e w' hh => ?_
    · have := Tryz.slices_Contains_string Q 0 1 1 [⟨x.toArray⟩] ⟨t.toArray⟩ w (by simp) (by simp) (fun j hj => by
        have : j = 0 := by simpa using hj
        subst this
        simpa using hQ.2.1 0)
      simp only [List.take_one, List.head?_cons, Option.toList_some] at this
      rw [cont_one] at this
      exact this
    · obtain ⟨h1, h2, h3⟩ := hh
      refine ⟨h1, ?_, h3⟩
      unfold took isHead
      exact h2
theorem take_two (P Q : Nat) (w : World) (l : List Pr.T) (x y : Pr.T) (h : Left P w l) (hQ : Row w Q #[.string ⟨x.toArray⟩, .string ⟨y.toArray⟩]) :
    Calls Tryz.prog 214 #[.pointer (some ⟨P, 0, none⟩), .slice (some ⟨Q, 0, none⟩) 2 2] w fun e w' => e = .returned (.bool (isHead x l || isHead y l)) ∧ Left P w' (took (isHead x l || isHead y l) l) ∧ Ag P w w' := by
  cases l with
  | nil => exact take_nil P w _ h
  | cons t l =>
    refine (take_core P w t l _ (decide (t = x ∨ t = y)) h ?_).mono fun e w' hh => ?_
    · have := Tryz.slices_Contains_string Q 0 2 2 [⟨x.toArray⟩, ⟨y.toArray⟩] ⟨t.toArray⟩ w (by simp) (by simp) (fun j hj => by
        match j, hj with
        | 0, _ => simpa using hQ.2.1 0
        | 1, _ => simpa using hQ.2.1 1)
      simp only [List.take_succ_cons, List.take_zero] at this
      rw [cont_two] at this
      exact this
    · obtain ⟨h1, h2, h3⟩ := hh
      have : decide (t = x ∨ t = y) = (isHead x (t :: l) || isHead y (t :: l)) := by simp [isHead]
      rw [← this]
      exact ⟨h1, h2, h3⟩

theorem parse_val : ∀ (l : List UInt8) (acc k : Nat), (∀ c ∈ l, Pn.isDig c = true) → acc < 10 ^ k → k + l.length ≤ 18 → Lib.parseUintM (2 ^ 64 - 1) acc l = .ok (l.foldl (fun v c => 10 * v + (c.toNat - 48)) acc) := by
  intro l
  induction l with
  | nil => intro acc k _ _ _; rfl
  | cons c r ih =>
    intro acc k hd ha hk
    have hc := (Pn.isDig_iff c).1 (hd c (by simp))
    simp only [List.length_cons] at hk
    have hp : 10 ^ (k + 1) ≤ 10 ^ 18 := Nat.pow_le_pow_right (by omega) (by omega)
    have hp2 : 10 ^ (k + 1) = 10 * 10 ^ k := by rw [Nat.pow_succ]; omega
    have e18 : (10 : Nat) ^ 18 = 1000000000000000000 := by decide
    have e64 : (2 : Nat) ^ 64 - 1 = 18446744073709551615 := by decide
    simp only [Lib.parseUintM, List.foldl_cons]
    rw [if_pos hc, if_neg (by omega), if_neg (by rw [e64]; omega), show acc * 10 + (c.toNat - 48) = 10 * acc + (c.toNat - 48) by omega]
    exact ih _ (k + 1) (fun x hx => hd x (by simp [hx])) (by omega) (by omega)
theorem parse_digs : ∀ (l : List UInt8) (acc u : Nat), Lib.parseUintM (2 ^ 64 - 1) acc l = .ok u → ∀ c ∈ l, Pn.isDig c = true := by
  intro l
  induction l with
  | nil => intro _ _ _ c hc; cases hc
  | cons x r ih =>
    intro acc u h c hc
    simp only [Lib.parseUintM] at h
    split at h
    · rename_i hx
      split at h
      · cases h
      · split at h
        · cases h
        · rcases List.mem_cons.1 hc with rfl | hc
          · exact (Pn.isDig_iff _).2 hx
          · exact ih _ _ h c hc
    · cases h
theorem digitsB_iff (l : List UInt8) : Pn.digitsB l = true ↔ l ≠ [] ∧ ∀ c ∈ l, Pn.isDig c = true := by
  cases l <;> simp [Pn.digitsB]
theorem parse_fig (t : Pr.T) (v : Nat) (h : Pr.fig t = some v) : Lib.parseUintB 64 t = .ok v ∧ t.length ≤ 9 ∧ (t.length = 1 ∨ t.head? ≠ some 48) ∧ t ≠ [] := by
  unfold Pr.fig at h
  split at h
  · rename_i c
    obtain ⟨c1, c2, c3⟩ := c
    obtain ⟨d1, d2⟩ := (digitsB_iff t).1 c1
    refine ⟨?_, c2, c3, d1⟩
    rw [Lib.parseUintB, if_neg d1, parse_val t 0 0 d2 (by decide) (by omega)]
    injection h with h
    rw [← h]; rfl
  · cases h
theorem parse_nofig (t : Pr.T) (h : Pr.fig t = none) (u : Nat) (hu : Lib.parseUintB 64 t = .ok u) : 9 < t.length ∨ (1 < t.length ∧ t.head? = some 48) := by
  unfold Lib.parseUintB at hu
  split at hu
  · cases hu
  · rename_i hne
    have hd := parse_digs t 0 u hu
    unfold Pr.fig at h
    split at h
    · cases h
    · rename_i c
      have hD := (digitsB_iff t).2 ⟨hne, hd⟩
      rcases Nat.lt_or_ge 9 t.length with h9 | h9
      · exact .inl h9
      · right
        have h1 : t.length ≠ 1 := fun h1 => c ⟨hD, h9, .inl h1⟩
        have h0 : t.length ≠ 0 := fun h0 => hne (List.length_eq_zero_iff.1 h0)
        refine ⟨by omega, ?_⟩
        cases e : decide (t.head? = some 48) with
        | true => exact of_decide_eq_true e
        | false => exact absurd ⟨hD, h9, .inr (of_decide_eq_false e)⟩ c
theorem head_data (t : Pr.T) (h : 0 < t.length) : ∃ c r, t = c :: r := by
  cases t with
  | nil => simp at h
  | cons c r => exact ⟨c, r, rfl⟩
end Go.Proofs.YtaepcfidpekflaaGreatDoor
namespace Go.Proofs.YtaepcfidpekflaaGreatDoor
open Go.RowKit

theorem canon_len {a b : Pr.T} (ha : Canon a) (hb : Canon b) (h : a.length < b.length) : Pr.val a < Pr.val b := by
  have h1 := val_lt a ha.2.1
  cases b with
  | nil => simp at h
  | cons c r =>
    have hc : c ≠ 48 := by
      rcases hb.2.2 with h2 | h2
      · simp only [List.length_cons] at h2 h
        have : a.length ≠ 0 := fun e => ha.1 (List.length_eq_zero_iff.1 e)
        omega
      · simpa using h2
    have h2 := val_head c r hb.2.1 hc
    simp only [List.length_cons] at h
    have hp : 10 ^ a.length ≤ 10 ^ r.length := Nat.pow_le_pow_right (by omega) (by omega)
    omega
def cmpV (x y : Nat) : Int := if x < y then -1 else if x = y then 0 else 1
theorem canon_less {a b : Pr.T} (ha : Canon a) (hb : Canon b) (h : a.length = b.length) : (Op.bytesLess a b = true ↔ Pr.val a < Pr.val b) ∧ (a = b ↔ Pr.val a = Pr.val b) := (less_len a b 0 0 h ha.2.1 hb.2.1).2 rfl
set_option maxHeartbeats 400000 in
theorem compared_any (a b : Pr.T) (ha : Canon a) (hb : Canon b) (w : World) : Calls Tryz.prog 153 #[.string ⟨a.toArray⟩, .string ⟨b.toArray⟩] w fun e w' => e = .returned (.int .i64 (cmpV (Pr.val a) (Pr.val b))) ∧ w' = w := by
  obtain ⟨R, hR⟩ : ∃ R, Hid (cmpV (Pr.val a) (Pr.val b) = R) := ⟨_, rfl⟩
  rw [hR.out]
  by_cases h1 : a.length < b.length
  · have hF : Hid (R = -1) := by show _ = _; rw [← hR.out, cmpV, if_pos (canon_len ha hb h1)]
    have h1' : (a.length : Int) < b.length := by omega
    clear h1
    go_enter Tryz.func153, Tryz.ntmps153
    go_wp2
    go_ret
    exact ⟨by rw [hF.out]; rfl, rfl⟩
  · have h1' : ¬ (a.length : Int) < b.length := by omega
    by_cases h2 : a.length = b.length
    · have h2' : ((a.length : Int) == b.length) = true := by rw [beq_iff_eq]; omega
      obtain ⟨k1, k2⟩ := canon_less ha hb h2
      cases h3 : Op.bytesLess a b with
      | true =>
        have hF : Hid (R = -1) := by show _ = _; rw [← hR.out, cmpV, if_pos (k1.1 h3)]
        clear h1 h2 k1 k2
        go_enter Tryz.func153, Tryz.ntmps153
        go_wp2
        go_ret
        exact ⟨by rw [hF.out]; rfl, rfl⟩
      | false =>
        have n1 : ¬ Pr.val a < Pr.val b := fun h => by rw [k1.2 h] at h3; cases h3
        by_cases h4 : a = b
        · have hF : Hid (R = 0) := by show _ = _; rw [← hR.out, cmpV, if_neg n1, if_pos (k2.1 h4)]
          have h4' : (a == b) = true := by rw [beq_iff_eq]; exact h4
          clear h1 h2 k1 k2 h4 n1
          go_enter Tryz.func153, Tryz.ntmps153
          go_wp2
          go_ret
          exact ⟨by rw [hF.out]; rfl, rfl⟩
        · have hF : Hid (R = 1) := by show _ = _; rw [← hR.out, cmpV, if_neg n1, if_neg (fun h => h4 (k2.2 h))]
          have h4' : (a == b) = false := by rw [beq_eq_false_iff_ne]; exact h4
          clear h1 h2 k1 k2 h4 n1
          go_enter Tryz.func153, Tryz.ntmps153
          go_wp2
          go_ret
          exact ⟨by rw [hF.out]; rfl, rfl⟩
    · have h2' : ((a.length : Int) == b.length) = false := by rw [beq_eq_false_iff_ne]; omega
      have hgt := canon_len hb ha (by omega)
      have hF : Hid (R = 1) := by show _ = _; rw [← hR.out, cmpV, if_neg (by omega), if_neg (by omega)]
      have h4' : (a == b) = false := by
        rw [beq_eq_false_iff_ne]
        intro e
        exact h2 (by rw [e])
      clear h1 h2 hgt
      go_enter Tryz.func153, Tryz.ntmps153
      go_wp2
      go_ret
      exact ⟨by rw [hF.out]; rfl, rfl⟩

theorem canon_dec (u : Nat) (hu : u < 18446744073709551616) : Canon (Lib.decDigits u) := by
  refine ⟨?_, (dec_val u).2, ?_⟩
  · rw [Lib.decDigits]; split <;> simp
  · induction u using Nat.strongRecOn with
    | _ u ih =>
      by_cases h : u < 10
      · left; rw [Lib.decDigits, dif_pos h]; rfl
      · right
        rw [Lib.decDigits, dif_neg h]
        rcases ih (u / 10) (by omega) (by omega) with h1 | h1
        · cases e : Lib.decDigits (u / 10) with
          | nil => rw [e] at h1; simp at h1
          | cons c r =>
            rw [e] at h1
            have hr : r = [] := by simpa using h1
            subst hr
            have hv := (dec_val (u / 10)).1
            rw [e] at hv
            have hc : 10 * 0 + (c.toNat - 48) = u / 10 := hv
            simp
            intro e48
            rw [e48] at hc
            have : (48 : UInt8).toNat = 48 := rfl
            omega
        · cases e : Lib.decDigits (u / 10) with
          | nil =>
            exfalso
            have := e
            rw [Lib.decDigits] at this
            split at this <;> simp at this
          | cons c r => rw [e] at h1; simpa using h1
theorem canon_plain (t : Pr.T) (h : ∀ c ∈ t, Pn.isDig c = true) : Canon (plainD t) ∧ Pr.val (plainD t) = Pr.val t := by
  have hs := (List.dropWhile_suffix (· == (48 : UInt8)) (l := t))
  have hz := val_zero t
  unfold Lib.trimLeftB at hz
  unfold plainD
  split
  · rename_i e
    rw [e] at hz
    exact ⟨⟨by simp, by decide, .inl rfl⟩, by rw [← hz]; rfl⟩
  · rename_i e
    refine ⟨⟨e, fun c hc => h c (hs.subset hc), .inr fun e48 => ?_⟩, hz⟩
    have := List.head?_dropWhile_not (· == (48 : UInt8)) t
    rw [e48] at this
    simp at this
theorem canon_fig {t : Pr.T} {v : Nat} (h : Pr.fig t = some v) : Canon t ∧ Pr.val t = v := by
  unfold Pr.fig at h
  split at h
  · rename_i c
    injection h with h
    have hd := (digitsB_iff t).1 c.1
    exact ⟨⟨hd.1, hd.2, c.2.2⟩, h⟩
  · cases h
end Go.Proofs.YtaepcfidpekflaaGreatDoor
