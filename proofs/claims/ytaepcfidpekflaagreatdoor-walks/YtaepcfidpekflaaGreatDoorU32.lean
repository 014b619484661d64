/-
  Several texts in one (It). By the verifier.
-/
import Derived.Test.YtaepcfidpekflaaGreatDoorU30
import Derived.Test.YtaepcfidpekflaaGreatDoorU31
import Derived.Test.YtaepcfidpekflaaGreatDoorU08
import Derived.RangeFuncNested
import Derived.RangeFuncBound
import Derived.RangeFuncCalls
import Derived.RangeFuncLeaves
import Derived.Shelf.Abstract
import Derived.Shelf.RegionOpen
import Derived.OwnWalkIn
import Derived.TacticsInMore
import Derived.LoopNIn
import Derived.LoopIn
namespace Go.Proofs.YtaepcfidpekflaaGreatDoor.Pg
open Go.Proofs.YtaepcfidpekflaaGreatDoor

abbrev Ar := T × Nat
theorem argsT_hd (t : Tr) : argsT t = argsT (hd t) ++ argsT (tl t) := by
  cases t <;> simp [argsT, hd, tl]
end Go.Proofs.YtaepcfidpekflaaGreatDoor.Pg
namespace Go.Proofs.YtaepcfidpekflaaGreatDoor
open Go.RowKit Go.Maps Pg

/-- What a loop's body owns, what holds when some have come. -/
structure Yd (J : List Ar → World → Prop) (Own : World → Nat → Prop) : Prop where
  old : ∀ (W : World) (d : List Ar) (k : Nat), J d W → Own W k → k < W.heap.size
  grows : ∀ (W W' : World) (d : List Ar), Below W.heap.size W W' → J d W → J d W' ∧ ∀ k, Own W' k → Own W k
def encA (x : Ar) : Value := .agg #[.string ⟨x.1.toArray⟩, .int .i64 (x.2 : Nat)]
/-- Cells that are not owned stand; nothing that stood is owned anew. -/
structure Fr (Own : World → Nat → Prop) (W w' : World) : Prop where
  size : W.heap.size ≤ w'.heap.size
  cells : ∀ k c T f, W.heap[k]? = some (.cells c T f) → ¬ Own W k → w'.heap[k]? = some (.cells c T f)
  own : ∀ k, k < W.heap.size → Own w' k → Own W k
theorem lt_heap {W : World} {k : Nat} {o : Obj} (h : W.heap[k]? = some o) : k < W.heap.size := by
  rcases Nat.lt_or_ge k W.heap.size with h' | h'
  · exact h'
  · rw [Array.getElem?_eq_none h'] at h; cases h
theorem Fr.refl (Own : World → Nat → Prop) (W : World) : Fr Own W W := ⟨Nat.le_refl _, fun _ _ _ _ h _ => h, fun _ _ h => h⟩
theorem Fr.trans {Own : World → Nat → Prop} {a b c : World} (h : Fr Own a b) (h2 : Fr Own b c) : Fr Own a c :=
  ⟨Nat.le_trans h.size h2.size, fun k x T f hk ho => h2.cells k x T f (h.cells k x T f hk ho) (fun e => ho (h.own k (lt_heap hk) e)), fun k hk ho => h.own k hk (h2.own k (Nat.lt_of_lt_of_le hk h.size) ho)⟩
theorem Fr.of {Own : World → Nat → Prop} {W W' : World} (hb : Below W.heap.size W W') (ho : ∀ k, Own W' k → Own W k) : Fr Own W W' := ⟨hb.size, fun k _ _ _ hk _ => (hb.block k (lt_heap hk)).trans hk, fun k _ h => ho k h⟩
theorem cells_of_cell {W : World} {b j : Nat} {v : Value} (h : W.cell? ⟨b, j, none⟩ = some v) : ∃ c T f, W.heap[b]? = some (.cells c T f) ∧ c[j]? = some v := by
  unfold World.cell? at h
  split at h
  · rename_i c e f hb
    exact ⟨c, e, f, hb, by simpa using h⟩
  · cases h
theorem Fr.cell {Own : World → Nat → Prop} {W w' : World} (h : Fr Own W w') {b j : Nat} {v : Value} (hc : W.cell? ⟨b, j, none⟩ = some v) (ho : ¬ Own W b) : w'.cell? ⟨b, j, none⟩ = some v := by
  obtain ⟨c, T, f, h1, h2⟩ := cells_of_cell hc
  simp [World.cell?, h.cells b c T f h1 ho, h2]
theorem SlAt.fr {Own : World → Nat → Prop} {w w' : World} {k : Nat} {v : Value} {us : List Value} (h : SlAt w (fun g => ¬ Own w g) k v us) (hf : Fr Own w w') : SlAt w' (fun g => ¬ Own w' g) k v us := by
  rcases h with h | ⟨g, n, c, h1, h2, h3, h4, h5, h6, h7⟩
  · exact .inl h
  · exact .inr ⟨g, n, c, h1, fun e => h2 (hf.own g h3 e), Nat.lt_of_lt_of_le h3 hf.size, h4, h5, h6, fun j u hu => hf.cell (h7 j u hu) h2⟩
theorem Lay.fr {Own : World → Nat → Prop} {w w' : World} (hf : Fr Own w w') {t : Pg.Tr} {us : List Value} (h : Lay w (fun g => ¬ Own w g) t us) : Lay w' (fun g => ¬ Own w' g) t us := by
  induction h with
  | nil => exact .nil
  | text _ ih => exact .text ih
  | sign _ ih => exact .sign ih
  | simple _ ih => exact .simple ih
  | num _ ih => exact .num ih
  | sel hs _ _ ih1 ih2 => exact .sel (hs.fr hf) ih1 ih2
  | plu hs _ _ ih1 ih2 => exact .plu (hs.fr hf) ih1 ih2
  | br hs _ _ ih1 ih2 => exact .br (hs.fr hf) ih1 ih2
theorem RowAt.fr {Own : World → Nat → Prop} {w w' : World} (hf : Fr Own w w') {k : Nat} {v : Value} {t : Pg.Tr} (h : RowAt w (fun g => ¬ Own w g) k v t) : RowAt w' (fun g => ¬ Own w' g) k v t := by
  obtain ⟨us, h1, h2⟩ := h
  exact ⟨us, h1.fr hf, h2.fr hf⟩
/-- A round of the loop. -/
def Rnd (F : Fence) (l N : Nat) (J Jx : List Ar → World → Prop) (Own : World → Nat → Prop) : Prop := ∀ m d x W, J d W → d.length < N → YieldAt F m Tryz.prog l #[encA x] W fun e W' => (e = .returned (.bool true) ∧ J (d ++ [x]) W' ∧ Fr Own W W') ∨ (e = .returned (.bool false) ∧ Jx (d ++ [x]) W')
/-- What visit and visitBranches answer. -/
def VsSaid (J Jx : List Ar → World → Prop) (Own : World → Nat → Prop) (d r : List Ar) (w : World) (e : Ending) (w' : World) : Prop := (e = .returned (.bool true) ∧ J (d ++ r) w' ∧ Fr Own w w') ∨ (e = .returned (.bool false) ∧ ∃ q, q <+: r ∧ Jx (d ++ q) w')
def Fnc (F : Fence) : Prop := F.depth = none ∧ F.round = none ∧ F.fn 131 ∧ F.fn 168
def VsMsg (t : Pg.Tr) : Prop := ∀ (F : Fence) (n l N : Nat) (J Jx : List Ar → World → Prop) (Own : World → Nat → Prop) (w : World) (d : List Ar) (v : Value), Fnc F → Rnd F l N J Jx Own → Yd J Own → Wf false t → J d w → d.length + (argsT t).length ≤ N → RowAt w (fun g => ¬ Own w g) 1 v t →
  CallsIn F n Tryz.prog 131 #[v, .func (.yield l) #[] #[]] w fun e w' => VsSaid J Jx Own d (argsT t) w e w'
def VsBrs (t : Pg.Tr) : Prop := ∀ (F : Fence) (n l N : Nat) (J Jx : List Ar → World → Prop) (Own : World → Nat → Prop) (w : World) (d : List Ar) (v : Value) (e0 : Nat), Fnc F → Rnd F l N J Jx Own → Yd J Own → Wf true t → J d w → d.length + (argsT t).length ≤ N → RowAt w (fun g => ¬ Own w g) 4 v t →
  CallsIn F n Tryz.prog 168 #[.agg #[v, .int .i64 (e0 : Nat)], .func (.yield l) #[] #[]] w fun e w' => VsSaid J Jx Own d (argsT t) w e w'

set_option maxHeartbeats 3200000 in
set_option maxRecDepth 100000 in
theorem vmsg_of (t : Pg.Tr) (hB : ∀ bs, nM bs < nM t → VsBrs bs) : VsMsg t := by
  intro F nn l N J Jx Own w d v hF hR hY hwf hJ hN hrow
  obtain ⟨hd, hro, h1, h2⟩ := id hF
  have hdd : ∀ k : Nat, (F.depth.isSome = true → 1 ≤ k) := fun k h => by rw [hd] at h; cases h
  obtain ⟨us, hsl, hlay⟩ := hrow
  obtain ⟨va, vc, rfl⟩ : ∃ va vc, v = .slice va us.length vc := by
    rcases hsl with ⟨h0, h1⟩ | ⟨g, n, c, h1, _, _, h4, _⟩
    · exact ⟨none, 0, by rw [h1, h0]; rfl⟩
    · exact ⟨_, _, by rw [h1, h4, Nat.mul_one]⟩
  have hul : us.length ≤ 1000 := by
    rcases hsl with ⟨h0, h1⟩ | ⟨g, n, c, h1, _, _, h4, h5, h6, _⟩
    · rw [h0]; simp
    · omega
  have HSL : Hid (SlAt w (fun g => ¬ Own w g) 1 (.slice va us.length vc) us) := hsl
  have HLY : Hid (Lay w (fun g => ¬ Own w g) t us) := hlay
  have HWF : Hid (Wf false t) := hwf
  have HY : Hid (Yd J Own) := hY
  have HRN : Hid (Rnd F l N J Jx Own) := hR
  have HFN : Hid (Fnc F) := hF
  have HJ : Hid (J d w) := hJ
  obtain ⟨R, HR⟩ : ∃ R, Hid (argsT t = R) := ⟨_, rfl⟩
  rw [HR.out] at hN ⊢
  have HR0 : Hid ([] ++ argsT t = R) := HR
  obtain ⟨L, HL⟩ : ∃ L, L = nM t := ⟨_, rfl⟩
  have HBB : Hid (∀ bs, nM bs < L → VsBrs bs) := by rw [HL]; exact hB
  have hL0 : nM t ≤ L := by omega
  clear hsl hlay hwf hY hJ hB HL HR hR hF hd
  refine callsIn_of_wp Tryz.func131 rfl h1 ?_ hro
  simp only [Tryz.ntmps131, List.size_toArray, List.length_cons, List.length_nil, Nat.reduceAdd, Nat.reduceSub, Array.replicate_succ, Array.replicate_zero, List.push_toArray, List.append_toArray, List.nil_append, List.cons_append]
  gi_wp2_with fail
  gi_loopw [14] (fun i wr => ∃ (k : Nat) (r : Pg.Tr) (dn : List Ar), i = .int .i64 k ∧ k ≤ us.length ∧ nM r ≤ L ∧ Hid (dn ++ argsT r = R) ∧ Hid (J (d ++ dn) wr) ∧ Hid (Wf false r) ∧ Hid (Lay wr (fun g => ¬ Own wr g) r (us.drop k)) ∧ Hid (SlAt wr (fun g => ¬ Own wr g) 1 (.slice va us.length vc) us) ∧ Hid (Fr Own w wr)) (fun i _ => us.length - (intOf i).toNat)
  case atStart => exact ⟨0, t, [], rfl, Nat.zero_le _, hL0, HR0, by show J (d ++ []) w; rw [List.append_nil]; exact HJ.out, HWF, HLY, HSL, Fr.refl _ _⟩
  case round =>
    clear HR0 HJ HWF HLY HSL hL0
    obtain ⟨k, r, dn, rfl, hk, hrL, HD, HJ, HWF, HLY, HSL, HF⟩ := hrel
    have hzr := HF.out.size
    by_cases hlt : k < us.length
    · have hlt' : (k : Int) < us.length := by omega
      have hdk : us.drop k = us[k] :: us.drop (k + 1) := List.drop_eq_getElem_cons hlt
      have hly := HLY.out
      rw [hdk] at hly
      rcases HSL.out with ⟨h0, _⟩ | ⟨gb, m0, c0, hv, hgB, hgl, hm0, hmc, hm1, hcell⟩
      · rw [h0] at hlt; simp at hlt
      injection hv with hv1 hv2 hv3
      subst hv1
      subst hv3
      clear hv2
      have ck1 := hcell k us[k] (List.getElem?_eq_getElem hlt)
      obtain ⟨u, hu⟩ : ∃ u, us[k] = u := ⟨_, rfl⟩
      rw [hu] at hly ck1
      clear hdk hcell HLY hu hm0 hmc hm1 hgB
      cases r with
      | nil => cases hly
      | br => exact absurd HWF.out.1 (by simp)
      | text t r' =>
        cases hly with
        | text h2 =>
        have HLY2 : Hid (Lay wr (fun g => ¬ Own wr g) r' (us.drop (k + 1))) := h2
        have HF2 : Hid (Wf false r') := HWF.out.2
        have hn2 : nM r' ≤ L := by have h : nM (.text t r') ≤ L := hrL; simp only [nM, flat] at h ⊢; simp at h; omega
        have t0 := fun v w => ta_other (t := 285) (xT := 283) Tryz.underlying290 (by decide) Tryz.zeroValue290 v w
        have t1 := fun v w => ta_other (t := 285) (xT := 283) Tryz.underlying291 (by decide) Tryz.zeroValue291 v w
        have t2 := fun v w => ta_other (t := 285) (xT := 283) Tryz.underlying296 (by decide) Tryz.zeroValue296 v w
        have t3 := fun v w => ta_other (t := 285) (xT := 283) Tryz.underlying299 (by decide) Tryz.zeroValue299 v w
        have HD2 : Hid (dn ++ argsT r' = R) := HD
        clear HD HWF hrL
        gi_wp2
        go_roundw
        case rel => exact ⟨k + 1, r', dn, by go_num, by omega, hn2, HD2, HJ, HF2, HLY2, HSL, HF⟩
        case measure => simp [intOf]; omega
      | sign  r' =>
        cases hly with
        | sign h2 =>
        have HLY2 : Hid (Lay wr (fun g => ¬ Own wr g) r' (us.drop (k + 1))) := h2
        have HF2 : Hid (Wf false r') := HWF.out.2
        have hn2 : nM r' ≤ L := by have h : nM (.sign r') ≤ L := hrL; simp only [nM, flat] at h ⊢; simp at h; omega
        have t0 := fun v w => ta_other (t := 287) (xT := 283) Tryz.underlying290 (by decide) Tryz.zeroValue290 v w
        have t1 := fun v w => ta_other (t := 287) (xT := 283) Tryz.underlying291 (by decide) Tryz.zeroValue291 v w
        have t2 := fun v w => ta_other (t := 287) (xT := 283) Tryz.underlying296 (by decide) Tryz.zeroValue296 v w
        have t3 := fun v w => ta_other (t := 287) (xT := 283) Tryz.underlying299 (by decide) Tryz.zeroValue299 v w
        have HD2 : Hid (dn ++ argsT r' = R) := HD
        clear HD HWF hrL
        gi_wp2
        go_roundw
        case rel => exact ⟨k + 1, r', dn, by go_num, by omega, hn2, HD2, HJ, HF2, HLY2, HSL, HF⟩
        case measure => simp [intOf]; omega
      | simple n a r' =>
        cases hly with
        | simple h2 =>
        have HLY2 : Hid (Lay wr (fun g => ¬ Own wr g) r' (us.drop (k + 1))) := h2
        have HF2 : Hid (Wf false r') := HWF.out.2
        have hn2 : nM r' ≤ L := by have h : nM (.simple n a r') ≤ L := hrL; simp only [nM, flat] at h ⊢; simp at h; omega
        have t0 := fun v w => ta_same (xT := 283) Tryz.underlying290 v w
        have HD2 : Hid ((dn ++ [(n, a)]) ++ argsT r' = R) := by show _ = _; rw [← HD.out, argsT]; simp
        have hlen : (d ++ dn).length < N := by have := congrArg List.length HD2.out; simp at this ⊢; omega
        have hba : Below wr.heap.size wr (wr.alloc (.cells #[.string ⟨n.toArray⟩, .int .i64 (a : Nat)] 290)) := allocB _ _
        obtain ⟨hj2, ho2⟩ := HY.out.grows wr (wr.alloc (.cells #[.string ⟨n.toArray⟩, .int .i64 (a : Nat)] 290)) (d ++ dn) hba HJ.out
        have hfa : Fr Own wr (wr.alloc (.cells #[.string ⟨n.toArray⟩, .int .i64 (a : Nat)] 290)) := Fr.of hba ho2
        obtain ⟨fn, tmps, assign, body, hy, hR⟩ := HRN.out (nn - 1) (d ++ dn) (n, a) (wr.alloc (.cells #[.string ⟨n.toArray⟩, .int .i64 (a : Nat)] 290)) hj2 hlen
        have HFA : Hid (Fr Own wr (wr.alloc (.cells #[.string ⟨n.toArray⟩, .int .i64 (a : Nat)] 290))) := hfa
        unfold encA at hy
        dsimp only at hy
        clear HD HWF hrL hba hj2 ho2 hfa HJ hlen
        gi_wp2_with ((try refine ⟨hdd _, ?_⟩); refine hR.mono ?_; clear hR; rintro e w2 (⟨rfl, hj2, hf2⟩ | ⟨rfl, hx2⟩))
        · have hf : Fr Own wr w2 := HFA.out.trans hf2
          have HFW : Hid (Fr Own w w2) := HF.out.trans hf
          have HJ2 : Hid (J (d ++ (dn ++ [(n, a)])) w2) := by have h := hj2; rw [List.append_assoc] at h; exact h
          have HL2 : Hid (Lay w2 (fun g => ¬ Own w2 g) r' (us.drop (k + 1))) := HLY2.out.fr hf
          have HS2 : Hid (SlAt w2 (fun g => ¬ Own w2 g) 1 (.slice (some ⟨gb, 0, none⟩) us.length vc) us) := HSL.out.fr hf
          go_roundw
          case rel => exact ⟨k + 1, r', dn ++ [(n, a)], by go_num, by omega, hn2, HD2, HJ2, HF2, HL2, HS2, HFW⟩
          case measure => simp [intOf]; omega
        · go_ret
          exact .inr ⟨rfl, dn ++ [(n, a)], ⟨argsT r', HD2.out⟩, by have h := hx2; rw [List.append_assoc] at h; exact h⟩
      | num n a r' =>
        cases hly with
        | num h2 =>
        have HLY2 : Hid (Lay wr (fun g => ¬ Own wr g) r' (us.drop (k + 1))) := h2
        have HF2 : Hid (Wf false r') := HWF.out.2
        have hn2 : nM r' ≤ L := by have h : nM (.num n a r') ≤ L := hrL; simp only [nM, flat] at h ⊢; simp at h; omega
        have t0 := fun v w => ta_other (t := 291) (xT := 283) Tryz.underlying290 (by decide) Tryz.zeroValue290 v w
        have t1 := fun v w => ta_same (xT := 283) Tryz.underlying291 v w
        have HD2 : Hid ((dn ++ [(n, a)]) ++ argsT r' = R) := by show _ = _; rw [← HD.out, argsT]; simp
        have hlen : (d ++ dn).length < N := by have := congrArg List.length HD2.out; simp at this ⊢; omega
        have hba : Below wr.heap.size wr (wr.alloc (.cells #[.string ⟨n.toArray⟩, .int .i64 (a : Nat)] 291)) := allocB _ _
        obtain ⟨hj2, ho2⟩ := HY.out.grows wr (wr.alloc (.cells #[.string ⟨n.toArray⟩, .int .i64 (a : Nat)] 291)) (d ++ dn) hba HJ.out
        have hfa : Fr Own wr (wr.alloc (.cells #[.string ⟨n.toArray⟩, .int .i64 (a : Nat)] 291)) := Fr.of hba ho2
        obtain ⟨fn, tmps, assign, body, hy, hR⟩ := HRN.out (nn - 1) (d ++ dn) (n, a) (wr.alloc (.cells #[.string ⟨n.toArray⟩, .int .i64 (a : Nat)] 291)) hj2 hlen
        have HFA : Hid (Fr Own wr (wr.alloc (.cells #[.string ⟨n.toArray⟩, .int .i64 (a : Nat)] 291))) := hfa
        unfold encA at hy
        dsimp only at hy
        clear HD HWF hrL hba hj2 ho2 hfa HJ hlen
        gi_wp2_with ((try refine ⟨hdd _, ?_⟩); refine hR.mono ?_; clear hR; rintro e w2 (⟨rfl, hj2, hf2⟩ | ⟨rfl, hx2⟩))
        · have hf : Fr Own wr w2 := HFA.out.trans hf2
          have HFW : Hid (Fr Own w w2) := HF.out.trans hf
          have HJ2 : Hid (J (d ++ (dn ++ [(n, a)])) w2) := by have h := hj2; rw [List.append_assoc] at h; exact h
          have HL2 : Hid (Lay w2 (fun g => ¬ Own w2 g) r' (us.drop (k + 1))) := HLY2.out.fr hf
          have HS2 : Hid (SlAt w2 (fun g => ¬ Own w2 g) 1 (.slice (some ⟨gb, 0, none⟩) us.length vc) us) := HSL.out.fr hf
          go_roundw
          case rel => exact ⟨k + 1, r', dn ++ [(n, a)], by go_num, by omega, hn2, HD2, HJ2, HF2, HL2, HS2, HFW⟩
          case measure => simp [intOf]; omega
        · go_ret
          exact .inr ⟨rfl, dn ++ [(n, a)], ⟨argsT r', HD2.out⟩, by have h := hx2; rw [List.append_assoc] at h; exact h⟩
      | sel n a bs e1 r' =>
        cases hly with
        | sel hs hb h2 =>
        have HLY2 : Hid (Lay wr (fun g => ¬ Own wr g) r' (us.drop (k + 1))) := h2
        have HF2 : Hid (Wf false r') := HWF.out.2.2
        have hn2 : nM r' ≤ L := by have h : nM (.sel n a bs e1 r') ≤ L := hrL; simp only [nM, flat] at h ⊢; simp at h; omega
        rename_i v us2
        obtain ⟨ya, yn, yc, rfl⟩ : ∃ ya yn yc, v = .slice ya yn yc := by
          rcases hs with ⟨_, h1⟩ | ⟨g, n, c, h1, _⟩
          · exact ⟨_, _, _, h1⟩
          · exact ⟨_, _, _, h1⟩
        have t0 := fun v w => ta_other (t := 296) (xT := 283) Tryz.underlying290 (by decide) Tryz.zeroValue290 v w
        have t1 := fun v w => ta_other (t := 296) (xT := 283) Tryz.underlying291 (by decide) Tryz.zeroValue291 v w
        have t2 := fun v w => ta_same (xT := 283) Tryz.underlying296 v w
        have hbsL : nM bs < L := by have h : nM (.sel n a bs e1 r') ≤ L := hrL; simp only [nM, flat] at h ⊢; simp at h; omega
        have HFB : Hid (Wf true bs) := HWF.out.2.1
        have HRB : Hid (RowAt wr (fun g => ¬ Own wr g) 4 (.slice ya yn yc) bs) := ⟨us2, hs, hb⟩
        have HD2 : Hid ((dn ++ [(n, a)] ++ argsT bs) ++ argsT r' = R) := by show _ = _; rw [← HD.out, argsT]; simp
        have hlen : (d ++ dn).length < N := by have := congrArg List.length HD2.out; simp at this ⊢; omega
        have hlen2 : (d ++ dn ++ [(n, a)]).length + (argsT bs).length ≤ N := by have := congrArg List.length HD2.out; simp at this ⊢; omega
        have hba : Below wr.heap.size wr (wr.alloc (.cells #[.string ⟨n.toArray⟩, .int .i64 (a : Nat), .slice ya yn yc, .int .i64 (e1 : Nat)] 296)) := allocB _ _
        obtain ⟨hj2, ho2⟩ := HY.out.grows wr (wr.alloc (.cells #[.string ⟨n.toArray⟩, .int .i64 (a : Nat), .slice ya yn yc, .int .i64 (e1 : Nat)] 296)) (d ++ dn) hba HJ.out
        have hfa : Fr Own wr (wr.alloc (.cells #[.string ⟨n.toArray⟩, .int .i64 (a : Nat), .slice ya yn yc, .int .i64 (e1 : Nat)] 296)) := Fr.of hba ho2
        have hno : ¬ Own (wr.alloc (.cells #[.string ⟨n.toArray⟩, .int .i64 (a : Nat), .slice ya yn yc, .int .i64 (e1 : Nat)] 296)) wr.heap.size := fun e => by have := HY.out.old wr (d ++ dn) wr.heap.size HJ.out (ho2 _ e); omega
        have hh0 : (wr.alloc (.cells #[.string ⟨n.toArray⟩, .int .i64 (a : Nat), .slice ya yn yc, .int .i64 (e1 : Nat)] 296)).heap[wr.heap.size]? = some (.cells #[.string ⟨n.toArray⟩, .int .i64 (a : Nat), .slice ya yn yc, .int .i64 (e1 : Nat)] 296) := by rw [show (wr.alloc (.cells #[.string ⟨n.toArray⟩, .int .i64 (a : Nat), .slice ya yn yc, .int .i64 (e1 : Nat)] 296)).heap = wr.heap.push (.cells #[.string ⟨n.toArray⟩, .int .i64 (a : Nat), .slice ya yn yc, .int .i64 (e1 : Nat)] 296) from rfl]; simp
        have hy2 : YieldAt F (nn - 1) Tryz.prog l #[encA (n, a)] (wr.alloc (.cells #[.string ⟨n.toArray⟩, .int .i64 (a : Nat), .slice ya yn yc, .int .i64 (e1 : Nat)] 296)) fun e w2 => (e = .returned (.bool true) ∧ Fr Own (wr.alloc (.cells #[.string ⟨n.toArray⟩, .int .i64 (a : Nat), .slice ya yn yc, .int .i64 (e1 : Nat)] 296)) w2 ∧ (∀ j, w2.cell? ⟨wr.heap.size, j, none⟩ = (#[.string ⟨n.toArray⟩, .int .i64 (a : Nat), .slice ya yn yc, .int .i64 (e1 : Nat)] : Array Value)[j]?) ∧ CallsIn F (nn - 1) Tryz.prog 168 #[.agg #[.slice ya yn yc, .int .i64 (e1 : Nat)], .func (.yield l) #[] #[]] w2 fun e w' => VsSaid J Jx Own (d ++ dn ++ [(n, a)]) (argsT bs) w2 e w') ∨ (e = .returned (.bool false) ∧ Jx (d ++ dn ++ [(n, a)]) w2) :=
          YieldAt.mono (HRN.out (nn - 1) (d ++ dn) (n, a) (wr.alloc (.cells #[.string ⟨n.toArray⟩, .int .i64 (a : Nat), .slice ya yn yc, .int .i64 (e1 : Nat)] 296)) hj2 hlen) fun e w2 h => h.elim (fun h => .inl ⟨h.1, h.2.2, fun j => (by simp [World.cell?, h.2.2.cells wr.heap.size _ _ _ hh0 hno]), HBB.out bs hbsL F (nn - 1) l N J Jx Own w2 (d ++ dn ++ [(n, a)]) (.slice ya yn yc) e1 HFN.out HRN.out HY.out HFB.out h.2.1 hlen2 (RowAt.fr (hfa.trans h.2.2) HRB.out)⟩) .inr
        obtain ⟨fn, tmps, assign, body, hy, hR⟩ := hy2
        have HFA : Hid (Fr Own wr (wr.alloc (.cells #[.string ⟨n.toArray⟩, .int .i64 (a : Nat), .slice ya yn yc, .int .i64 (e1 : Nat)] 296))) := hfa
        unfold encA at hy
        dsimp only at hy
        clear HD HWF hrL hba hj2 ho2 hfa HJ hlen hlen2 hno hh0 hs hb
        gi_wp2_with (first
          | ((try refine ⟨hdd _, ?_⟩); gi_at_call 168; refine kb.mono ?_; clear kb; rintro e w3 (⟨rfl, hj3, hf3⟩ | ⟨rfl, q, hq, hx3⟩))
          | ((try refine ⟨hdd _, ?_⟩); refine hR.mono ?_; clear hR; rintro e w2 (⟨rfl, hf2, q2, kb⟩ | ⟨rfl, hx2⟩)))
        · have hf : Fr Own wr w3 := (HFA.out.trans hf2).trans hf3
          have HFW : Hid (Fr Own w w3) := HF.out.trans hf
          have HJ3 : Hid (J (d ++ (dn ++ [(n, a)] ++ argsT bs)) w3) := by have h := hj3; simp only [List.append_assoc] at h ⊢; exact h
          have HL3 : Hid (Lay w3 (fun g => ¬ Own w3 g) r' (us.drop (k + 1))) := HLY2.out.fr hf
          have HS3 : Hid (SlAt w3 (fun g => ¬ Own w3 g) 1 (.slice (some ⟨gb, 0, none⟩) us.length vc) us) := HSL.out.fr hf
          go_roundw
          case rel => exact ⟨k + 1, r', dn ++ [(n, a)] ++ argsT bs, by go_num, by omega, hn2, HD2, HJ3, HF2, HL3, HS3, HFW⟩
          case measure => simp [intOf]; omega
        · go_ret
          obtain ⟨z, hz⟩ := hq
          exact .inr ⟨rfl, dn ++ [(n, a)] ++ q, ⟨z ++ argsT r', by rw [← HD2.out, ← hz]; simp⟩, by have h := hx3; simp only [List.append_assoc] at h ⊢; exact h⟩
        · go_ret
          exact .inr ⟨rfl, dn ++ [(n, a)], ⟨argsT bs ++ argsT r', by rw [← HD2.out]; simp⟩, by have h := hx2; simp only [List.append_assoc] at h ⊢; exact h⟩
      | plu n a ord off bs e1 r' =>
        cases hly with
        | plu hs hb h2 =>
        have HLY2 : Hid (Lay wr (fun g => ¬ Own wr g) r' (us.drop (k + 1))) := h2
        have HF2 : Hid (Wf false r') := HWF.out.2.2
        have hn2 : nM r' ≤ L := by have h : nM (.plu n a ord off bs e1 r') ≤ L := hrL; simp only [nM, flat] at h ⊢; simp at h; omega
        rename_i v us2
        obtain ⟨ya, yn, yc, rfl⟩ : ∃ ya yn yc, v = .slice ya yn yc := by
          rcases hs with ⟨_, h1⟩ | ⟨g, n, c, h1, _⟩
          · exact ⟨_, _, _, h1⟩
          · exact ⟨_, _, _, h1⟩
        have t0 := fun v w => ta_other (t := 299) (xT := 283) Tryz.underlying290 (by decide) Tryz.zeroValue290 v w
        have t1 := fun v w => ta_other (t := 299) (xT := 283) Tryz.underlying291 (by decide) Tryz.zeroValue291 v w
        have t2 := fun v w => ta_other (t := 299) (xT := 283) Tryz.underlying296 (by decide) Tryz.zeroValue296 v w
        have t3 := fun v w => ta_same (xT := 283) Tryz.underlying299 v w
        have hbsL : nM bs < L := by have h : nM (.plu n a ord off bs e1 r') ≤ L := hrL; simp only [nM, flat] at h ⊢; simp at h; omega
        have HFB : Hid (Wf true bs) := HWF.out.2.1
        have HRB : Hid (RowAt wr (fun g => ¬ Own wr g) 4 (.slice ya yn yc) bs) := ⟨us2, hs, hb⟩
        have HD2 : Hid ((dn ++ [(n, a)] ++ argsT bs) ++ argsT r' = R) := by show _ = _; rw [← HD.out, argsT]; simp
        have hlen : (d ++ dn).length < N := by have := congrArg List.length HD2.out; simp at this ⊢; omega
        have hlen2 : (d ++ dn ++ [(n, a)]).length + (argsT bs).length ≤ N := by have := congrArg List.length HD2.out; simp at this ⊢; omega
        have hba : Below wr.heap.size wr (wr.alloc (.cells #[.string ⟨n.toArray⟩, .int .i64 (a : Nat), .bool ord, .int .u32 (Pr.val off : Nat), .slice ya yn yc, .int .i64 (e1 : Nat)] 299)) := allocB _ _
        obtain ⟨hj2, ho2⟩ := HY.out.grows wr (wr.alloc (.cells #[.string ⟨n.toArray⟩, .int .i64 (a : Nat), .bool ord, .int .u32 (Pr.val off : Nat), .slice ya yn yc, .int .i64 (e1 : Nat)] 299)) (d ++ dn) hba HJ.out
        have hfa : Fr Own wr (wr.alloc (.cells #[.string ⟨n.toArray⟩, .int .i64 (a : Nat), .bool ord, .int .u32 (Pr.val off : Nat), .slice ya yn yc, .int .i64 (e1 : Nat)] 299)) := Fr.of hba ho2
        have hno : ¬ Own (wr.alloc (.cells #[.string ⟨n.toArray⟩, .int .i64 (a : Nat), .bool ord, .int .u32 (Pr.val off : Nat), .slice ya yn yc, .int .i64 (e1 : Nat)] 299)) wr.heap.size := fun e => by have := HY.out.old wr (d ++ dn) wr.heap.size HJ.out (ho2 _ e); omega
        have hh0 : (wr.alloc (.cells #[.string ⟨n.toArray⟩, .int .i64 (a : Nat), .bool ord, .int .u32 (Pr.val off : Nat), .slice ya yn yc, .int .i64 (e1 : Nat)] 299)).heap[wr.heap.size]? = some (.cells #[.string ⟨n.toArray⟩, .int .i64 (a : Nat), .bool ord, .int .u32 (Pr.val off : Nat), .slice ya yn yc, .int .i64 (e1 : Nat)] 299) := by rw [show (wr.alloc (.cells #[.string ⟨n.toArray⟩, .int .i64 (a : Nat), .bool ord, .int .u32 (Pr.val off : Nat), .slice ya yn yc, .int .i64 (e1 : Nat)] 299)).heap = wr.heap.push (.cells #[.string ⟨n.toArray⟩, .int .i64 (a : Nat), .bool ord, .int .u32 (Pr.val off : Nat), .slice ya yn yc, .int .i64 (e1 : Nat)] 299) from rfl]; simp
        have hy2 : YieldAt F (nn - 1) Tryz.prog l #[encA (n, a)] (wr.alloc (.cells #[.string ⟨n.toArray⟩, .int .i64 (a : Nat), .bool ord, .int .u32 (Pr.val off : Nat), .slice ya yn yc, .int .i64 (e1 : Nat)] 299)) fun e w2 => (e = .returned (.bool true) ∧ Fr Own (wr.alloc (.cells #[.string ⟨n.toArray⟩, .int .i64 (a : Nat), .bool ord, .int .u32 (Pr.val off : Nat), .slice ya yn yc, .int .i64 (e1 : Nat)] 299)) w2 ∧ (∀ j, w2.cell? ⟨wr.heap.size, j, none⟩ = (#[.string ⟨n.toArray⟩, .int .i64 (a : Nat), .bool ord, .int .u32 (Pr.val off : Nat), .slice ya yn yc, .int .i64 (e1 : Nat)] : Array Value)[j]?) ∧ CallsIn F (nn - 1) Tryz.prog 168 #[.agg #[.slice ya yn yc, .int .i64 (e1 : Nat)], .func (.yield l) #[] #[]] w2 fun e w' => VsSaid J Jx Own (d ++ dn ++ [(n, a)]) (argsT bs) w2 e w') ∨ (e = .returned (.bool false) ∧ Jx (d ++ dn ++ [(n, a)]) w2) :=
          YieldAt.mono (HRN.out (nn - 1) (d ++ dn) (n, a) (wr.alloc (.cells #[.string ⟨n.toArray⟩, .int .i64 (a : Nat), .bool ord, .int .u32 (Pr.val off : Nat), .slice ya yn yc, .int .i64 (e1 : Nat)] 299)) hj2 hlen) fun e w2 h => h.elim (fun h => .inl ⟨h.1, h.2.2, fun j => (by simp [World.cell?, h.2.2.cells wr.heap.size _ _ _ hh0 hno]), HBB.out bs hbsL F (nn - 1) l N J Jx Own w2 (d ++ dn ++ [(n, a)]) (.slice ya yn yc) e1 HFN.out HRN.out HY.out HFB.out h.2.1 hlen2 (RowAt.fr (hfa.trans h.2.2) HRB.out)⟩) .inr
        obtain ⟨fn, tmps, assign, body, hy, hR⟩ := hy2
        have HFA : Hid (Fr Own wr (wr.alloc (.cells #[.string ⟨n.toArray⟩, .int .i64 (a : Nat), .bool ord, .int .u32 (Pr.val off : Nat), .slice ya yn yc, .int .i64 (e1 : Nat)] 299))) := hfa
        unfold encA at hy
        dsimp only at hy
        clear HD HWF hrL hba hj2 ho2 hfa HJ hlen hlen2 hno hh0 hs hb
        gi_wp2_with (first
          | ((try refine ⟨hdd _, ?_⟩); gi_at_call 168; refine kb.mono ?_; clear kb; rintro e w3 (⟨rfl, hj3, hf3⟩ | ⟨rfl, q, hq, hx3⟩))
          | ((try refine ⟨hdd _, ?_⟩); refine hR.mono ?_; clear hR; rintro e w2 (⟨rfl, hf2, q2, kb⟩ | ⟨rfl, hx2⟩)))
        · have hf : Fr Own wr w3 := (HFA.out.trans hf2).trans hf3
          have HFW : Hid (Fr Own w w3) := HF.out.trans hf
          have HJ3 : Hid (J (d ++ (dn ++ [(n, a)] ++ argsT bs)) w3) := by have h := hj3; simp only [List.append_assoc] at h ⊢; exact h
          have HL3 : Hid (Lay w3 (fun g => ¬ Own w3 g) r' (us.drop (k + 1))) := HLY2.out.fr hf
          have HS3 : Hid (SlAt w3 (fun g => ¬ Own w3 g) 1 (.slice (some ⟨gb, 0, none⟩) us.length vc) us) := HSL.out.fr hf
          go_roundw
          case rel => exact ⟨k + 1, r', dn ++ [(n, a)] ++ argsT bs, by go_num, by omega, hn2, HD2, HJ3, HF2, HL3, HS3, HFW⟩
          case measure => simp [intOf]; omega
        · go_ret
          obtain ⟨z, hz⟩ := hq
          exact .inr ⟨rfl, dn ++ [(n, a)] ++ q, ⟨z ++ argsT r', by rw [← HD2.out, ← hz]; simp⟩, by have h := hx3; simp only [List.append_assoc] at h ⊢; exact h⟩
        · go_ret
          exact .inr ⟨rfl, dn ++ [(n, a)], ⟨argsT bs ++ argsT r', by rw [← HD2.out]; simp⟩, by have h := hx2; simp only [List.append_assoc] at h ⊢; exact h⟩
    · have hlt' : ¬ ((k : Int) < us.length) := by omega
      have hly := HLY.out
      rw [List.drop_eq_nil_of_le (by omega)] at hly
      have hr0 := lay_end hly
      subst hr0
      have HD3 : Hid (dn = R) := by show _ = _; rw [← HD.out]; simp [argsT]
      clear hly HLY HSL HWF HD
      gi_wp2
      go_ret
      exact .inl ⟨rfl, by rw [← HD3.out]; exact HJ.out, HF.out⟩
end Go.Proofs.YtaepcfidpekflaaGreatDoor
