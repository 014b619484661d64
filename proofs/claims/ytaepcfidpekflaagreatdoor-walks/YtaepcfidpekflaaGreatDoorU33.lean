/-
  Several texts in one (Iu, Iv, Hd, Iw, Jf, Ic). By the verifier.
-/
import Derived.Test.YtaepcfidpekflaaGreatDoorU32
import Derived.Test.YtaepcfidpekflaaGreatDoorU01
import Derived.Defers
import Derived.Recover
import Derived.Shelf.Abstract
import Derived.WalkLawsBesides
import Derived.Laws.EntriesVeiled
import Derived.Outline
import Derived.Test.YtaepcfidpekflaaGreatDoorU06
import Derived.Test.YtaepcfidpekflaaGreatDoorU31
namespace Go.Proofs.YtaepcfidpekflaaGreatDoor
open Go.RowKit Go.Maps Pg

set_option maxHeartbeats 3200000 in
set_option maxRecDepth 100000 in
theorem vbrs_of (bs : Pg.Tr) (hC : ∀ m, nM m < nM bs → VsMsg m) : VsBrs bs := by
  intro F nn l N J Jx Own w d v e0 hF hR hY hwf hJ hN hrow
  obtain ⟨hd, hro, h1, h2⟩ := id hF
  have hdd : ∀ k : Nat, (F.depth.isSome = true → 1 ≤ k) := fun k h => by rw [hd] at h; cases h
  obtain ⟨us, hsl, hlay⟩ := hrow
  obtain ⟨va, vn, vc, rfl, hvn, hul⟩ : ∃ va vn vc, v = .slice va vn vc ∧ us.length = vn * 4 ∧ vn ≤ 1000 := by
    rcases hsl with ⟨h0, h1⟩ | ⟨g, n, c, h1, _, _, h4, _, h6, _⟩
    · exact ⟨_, _, _, h1, by rw [h0]; rfl, by omega⟩
    · exact ⟨_, _, _, h1, h4, h6⟩
  have hba : Below w.heap.size w (w.alloc (.cells #[.slice va vn vc, .int .i64 (e0 : Nat)] 294)) := allocB _ _
  obtain ⟨hj1, ho1⟩ := hY.grows w _ d hba hJ
  have hfa : Fr Own w (w.alloc (.cells #[.slice va vn vc, .int .i64 (e0 : Nat)] 294)) := Fr.of hba ho1
  have HFA : Hid (Fr Own w (w.alloc (.cells #[.slice va vn vc, .int .i64 (e0 : Nat)] 294))) := hfa
  have HSL : Hid (SlAt (w.alloc (.cells #[.slice va vn vc, .int .i64 (e0 : Nat)] 294)) (fun g => ¬ Own (w.alloc (.cells #[.slice va vn vc, .int .i64 (e0 : Nat)] 294)) g) 4 (.slice va vn vc) us) := hsl.fr hfa
  have HLY : Hid (Lay (w.alloc (.cells #[.slice va vn vc, .int .i64 (e0 : Nat)] 294)) (fun g => ¬ Own (w.alloc (.cells #[.slice va vn vc, .int .i64 (e0 : Nat)] 294)) g) bs us) := Lay.fr hfa hlay
  have HJ : Hid (J d (w.alloc (.cells #[.slice va vn vc, .int .i64 (e0 : Nat)] 294))) := hj1
  have HWF : Hid (Wf true bs) := hwf
  have HY : Hid (Yd J Own) := hY
  have HRN : Hid (Rnd F l N J Jx Own) := hR
  have HFN : Hid (Fnc F) := hF
  have HJ0 : Hid (J (d ++ []) (w.alloc (.cells #[.slice va vn vc, .int .i64 (e0 : Nat)] 294))) := by show J (d ++ []) _; rw [List.append_nil]; exact HJ.out
  obtain ⟨R, HR⟩ : ∃ R, Hid (argsT bs = R) := ⟨_, rfl⟩
  rw [HR.out] at hN ⊢
  have HR0 : Hid ([] ++ argsT bs = R) := HR
  obtain ⟨L, HL⟩ : ∃ L, L = nM bs := ⟨_, rfl⟩
  have HCC : Hid (∀ m, nM m < L → VsMsg m) := by rw [HL]; exact hC
  have hL0 : nM bs ≤ L := by omega
  clear hsl hlay hwf hY hJ hC HL hba hj1 ho1 hfa HJ HR hR hF hd
  refine callsIn_of_wp Tryz.func168 rfl h2 ?_ hro
  simp only [Tryz.ntmps168, List.size_toArray, List.length_cons, List.length_nil, Nat.reduceAdd, Nat.reduceSub, Array.replicate_succ, Array.replicate_zero, List.push_toArray, List.append_toArray, List.nil_append, List.cons_append]
  gi_wp2_with fail
  gi_loopw [10] (fun i wr => ∃ (k : Nat) (r : Pg.Tr) (dn : List Ar), i = .int .i64 k ∧ k ≤ vn ∧ nM r ≤ L ∧ Hid (dn ++ argsT r = R) ∧ Hid (J (d ++ dn) wr) ∧ Hid (Wf true r) ∧ Hid (Lay wr (fun g => ¬ Own wr g) r (us.drop (k * 4))) ∧ Hid (SlAt wr (fun g => ¬ Own wr g) 4 (.slice va vn vc) us) ∧ Hid (Fr Own w wr)) (fun i _ => vn - (intOf i).toNat)
  case atStart => exact ⟨0, bs, [], rfl, Nat.zero_le _, hL0, HR0, HJ0, HWF, HLY, HSL, HFA⟩
  case round =>
    clear HR0 HJ0 HWF HLY HSL hL0 HFA
    obtain ⟨k, r, dn, rfl, hk, hrL, HD, HJ, HWF, HLY, HSL, HF⟩ := hrel
    have hzr := HF.out.size
    by_cases hlt : k < vn
    · have hlt' : (k : Int) < vn := by omega
      have hdl : (us.drop (k * 4)).length = (vn - k) * 4 := by rw [List.length_drop, hvn, Nat.sub_mul]
      obtain ⟨u0, us0, hd0⟩ : ∃ u0 us0, us.drop (k * 4) = u0 :: us0 := by
        cases e : us.drop (k * 4) with
        | nil => rw [e] at hdl; simp at hdl; omega
        | cons a b => exact ⟨_, _, rfl⟩
      have hly := HLY.out
      rw [hd0] at hly
      obtain ⟨x, a, m, r', v, rest, rfl, rfl, hus, hrow, hly2⟩ := lay_br hly HWF.out
      rw [hus] at hd0
      have hc4 : ∀ j u, [Value.string ⟨(selV x).1.toArray⟩, .int .u32 ((selV x).2 : Nat), .int .i64 (a : Nat), v][j]? = some u → us[k * 4 + j]? = some u := fun j u hu => by
        rw [← List.getElem?_drop, hd0]
        match j, hu with
        | 0, hu => simpa using hu
        | 1, hu => simpa using hu
        | 2, hu => simpa using hu
        | 3, hu => simpa using hu
        | j + 4, hu => simp at hu
      have hrest : us.drop ((k + 1) * 4) = rest := by
        rw [show (k + 1) * 4 = k * 4 + 4 by omega, ← List.drop_drop, hd0]
        rfl
      rcases HSL.out with ⟨h0, _⟩ | ⟨gb, m0, c0, hv, hgM, hgl, hm0, hmc, hm1, hcell⟩
      · rw [h0] at hvn; simp at hvn; omega
      injection hv with hv1 hv2 hv3
      subst hv1
      subst hv3
      subst hv2
      have c0 := hcell (k * 4) _ (hc4 0 _ rfl)
      have c1 := hcell (k * 4 + 1) _ (hc4 1 _ rfl)
      have c2 := hcell (k * 4 + 2) _ (hc4 2 _ rfl)
      have c3 := hcell (k * 4 + 3) _ (hc4 3 _ rfl)
      obtain ⟨ya, yn, yc, rfl⟩ : ∃ ya yn yc, v = .slice ya yn yc := by
        obtain ⟨ws, h1, _⟩ := hrow
        rcases h1 with ⟨_, h1⟩ | ⟨g, n, c, h1, _⟩
        · exact ⟨_, _, _, h1⟩
        · exact ⟨_, _, _, h1⟩
      have hmL : nM m < L := by have h : nM (.br x a m r') ≤ L := hrL; simp only [nM, flat] at h ⊢; simp at h; omega
      have hn2 : nM r' ≤ L := by have h : nM (.br x a m r') ≤ L := hrL; simp only [nM, flat] at h ⊢; simp at h; omega
      have HFM : Hid (Wf false m) := HWF.out.2.1
      have HF2 : Hid (Wf true r') := HWF.out.2.2
      have HRM : Hid (RowAt wr (fun g => ¬ Own wr g) 1 (.slice ya yn yc) m) := hrow
      have HLY2 : Hid (Lay wr (fun g => ¬ Own wr g) r' (us.drop ((k + 1) * 4))) := by rw [hrest]; exact hly2
      have HD2 : Hid ((dn ++ argsT m) ++ argsT r' = R) := by show _ = _; rw [← HD.out, argsT]; simp
      have hlen2 : (d ++ dn).length + (argsT m).length ≤ N := by have := congrArg List.length HD2.out; simp at this ⊢; omega
      have hba : Below wr.heap.size wr (wr.alloc (.cells #[.string ⟨(selV x).1.toArray⟩, .int .u32 ((selV x).2 : Nat), .int .i64 (a : Nat), .slice ya yn yc] 332)) := allocB _ _
      obtain ⟨hj1, ho1⟩ := HY.out.grows wr _ (d ++ dn) hba HJ.out
      have hfa : Fr Own wr (wr.alloc (.cells #[.string ⟨(selV x).1.toArray⟩, .int .u32 ((selV x).2 : Nat), .int .i64 (a : Nat), .slice ya yn yc] 332)) := Fr.of hba ho1
      have km := HCC.out m hmL F (nn - 1) l N J Jx Own _ (d ++ dn) (.slice ya yn yc) HFN.out HRN.out HY.out HFM.out hj1 hlen2 (RowAt.fr hfa HRM.out)
      have HFA : Hid (Fr Own wr (wr.alloc (.cells #[.string ⟨(selV x).1.toArray⟩, .int .u32 ((selV x).2 : Nat), .int .i64 (a : Nat), .slice ya yn yc] 332))) := hfa
      generalize (selV x).1 = F1 at *
      generalize (selV x).2 = V1 at *
      clear hly hrow hly2 hcell hc4 hrest hd0 hus hdl HLY HWF HD hba hj1 ho1 hfa HJ hm0 hmc hm1 hrL HRM HFM hlen2
      gi_wp2_with ((try refine ⟨hdd _, ?_⟩); gi_at_call 131; refine km.mono ?_; clear km; rintro e w2 (⟨rfl, hj2, hf2⟩ | ⟨rfl, q, hq, hx2⟩))
      · have hf : Fr Own wr w2 := HFA.out.trans hf2
        have HFW : Hid (Fr Own w w2) := HF.out.trans hf
        have HJ2 : Hid (J (d ++ (dn ++ argsT m)) w2) := by have h := hj2; simp only [List.append_assoc] at h ⊢; exact h
        have HL2 : Hid (Lay w2 (fun g => ¬ Own w2 g) r' (us.drop ((k + 1) * 4))) := Lay.fr hf HLY2.out
        have HS2 : Hid (SlAt w2 (fun g => ¬ Own w2 g) 4 (.slice (some ⟨gb, 0, none⟩) vn vc) us) := HSL.out.fr hf
        go_roundw
        case rel => exact ⟨k + 1, r', dn ++ argsT m, by go_num, by omega, hn2, HD2, HJ2, HF2, HL2, HS2, HFW⟩
        case measure => simp [intOf]; omega
      · go_ret
        obtain ⟨z, hz⟩ := hq
        exact .inr ⟨rfl, dn ++ q, ⟨z ++ argsT r', by rw [← HD2.out, ← hz]; simp⟩, by have h := hx2; simp only [List.append_assoc] at h ⊢; exact h⟩
    · have hlt' : ¬ ((k : Int) < vn) := by omega
      have hly := HLY.out
      rw [List.drop_eq_nil_of_le (by omega)] at hly
      have hr0 := lay_end hly
      subst hr0
      have HD3 : Hid (dn = R) := by show _ = _; rw [← HD.out]; simp [argsT]
      clear hly HLY HSL HWF HD
      gi_wp2
      go_ret
      exact .inl ⟨rfl, by rw [← HD3.out]; exact HJ.out, HF.out⟩
theorem vs_all : ∀ (k : Nat) (t : Pg.Tr), nM t ≤ k → VsMsg t ∧ VsBrs t := by
  intro k
  induction k with
  | zero => intro t h; exact ⟨vmsg_of t (fun bs hb => by omega), vbrs_of t (fun m hm => by omega)⟩
  | succ k ih => intro t h; exact ⟨vmsg_of t (fun bs hb => (ih bs (by omega)).2), vbrs_of t (fun m hm => (ih m (by omega)).1)⟩
end Go.Proofs.YtaepcfidpekflaaGreatDoor
namespace Go.Proofs.YtaepcfidpekflaaGreatDoor
open Go.RowKit Go.Maps Go.Shelf Pg

theorem any_depth {F : Fence} (hd : F.depth = none) {m : Nat} (m' : Nat) {P : Program} {l : Nat} {args : Array Value} {W : World} {R : Ending → World → Prop} (h : YieldAt F m P l args W R) : YieldAt F m' P l args W R := by
  obtain ⟨fn, tmps, assign, body, hy, hR⟩ := h
  exact ⟨fn, tmps, assign, body, hy, ⟨hR.1, fun c cs _ => hR.2 c cs (fun d h => by rw [hd] at h; cases h)⟩⟩
/-- What holds of the worlds in which a loop goes on. -/
structure Gw (Own : World → Nat → Prop) (Gd : World → Prop) : Prop where
  old : ∀ (W : World) (k : Nat), Gd W → Own W k → k < W.heap.size
  grows : ∀ (W W' : World), Below W.heap.size W W' → Gd W → Gd W' ∧ ∀ k, Own W' k → Own W k
  turns : ∀ (W : World) (l : Nat) (o o' : Obj), W.heap[l]? = some o → o.isCells = false → Gd W → Gd (W.putObj l o') ∧ ∀ k, Own (W.putObj l o') k → Own W k
theorem Gw.yd {Own : World → Nat → Prop} {Gd : World → Prop} (h : Gw Own Gd) {J : List Ar → World → Prop} {B : Nat} (hJ : AbidesFrom B J) : Yd (fun d W => J d W ∧ Gd W) Own where
  old W d k hj ho := h.old W k hj.2 ho
  grows W W' d hb hj := by
    obtain ⟨g1, g2⟩ := h.grows W W' hb hj.2
    exact ⟨⟨hJ d W W' none hj.1 ⟨hb.os, hb.tape, hb.output, hb.size, fun k hk _ => hb.block k hk⟩ (fun r e => by cases e), g1⟩, g2⟩
set_option maxHeartbeats 1600000 in
set_option maxRecDepth 100000 in
theorem args1_in (F : Fence) (n l Bt : Nat) (v : Value) (T : Pg.Tr) (Own : World → Nat → Prop) (Gd : World → Prop) (J Jx : List Ar → World → Prop) (W : World) (B : Nat) (hF : Fnc F) (hf : F.fn 130) (hG : Gw Own Gd) (hJ : AbidesFrom B J)
    (hY : ∀ pre x W1, J pre W1 → pre.length < (argsT T).length → YieldAt F (n - 1) Tryz.prog l #[encA x] W1 fun e W' => (e = .returned (.bool true) ∧ J (pre ++ [x]) W' ∧ (Gd W1 → Fr Own W1 W' ∧ Gd W')) ∨ (e = .returned (.bool false) ∧ Jx (pre ++ [x]) W'))
    (hgd : Gd W) (hB : W.cell? ⟨Bt, 0, none⟩ = some v) (hwf : Wf false T) (hrow : RowAt W (fun g => ¬ Own W g) 1 v T) (h0 : J [] W) :
    CallsIn F n Tryz.prog 130 #[.func (.yield l) #[] #[], .pointer (some ⟨Bt, 0, none⟩)] W fun e W' => (∃ v, e = .returned v) ∧ ((∃ ys, ys = argsT T ∧ J ys W') ∨ (∃ pre, pre <+: argsT T ∧ Jx pre W')) := by
  obtain ⟨hd, hro, h1, h2⟩ := id hF
  have hdd : ∀ k : Nat, (F.depth.isSome = true → 1 ≤ k) := fun k h => by rw [hd] at h; cases h
  have hR : Rnd F l (argsT T).length (fun d W => J d W ∧ Gd W) Jx Own := fun m d x W1 hj hl => YieldAt.mono (any_depth hd m (hY d x W1 hj.1 hl)) fun e W' h => h.elim (fun h => .inl ⟨h.1, ⟨h.2.1, (h.2.2 hj.2).2⟩, (h.2.2 hj.2).1⟩) .inr
  have kv := (vs_all _ T (Nat.le_refl _)).1 F (n - 1) l (argsT T).length (fun d W => J d W ∧ Gd W) Jx Own W [] v hF hR (hG.yd hJ) hwf ⟨h0, hgd⟩ (by simp) hrow
  obtain ⟨va, vn, vc, rfl⟩ : ∃ va vn vc, v = .slice va vn vc := by
    obtain ⟨us, h1, _⟩ := hrow
    rcases h1 with ⟨_, h1⟩ | ⟨g, n, c, h1, _⟩
    · exact ⟨_, _, _, h1⟩
    · exact ⟨_, _, _, h1⟩
  clear hR hrow hY hG
  refine callsIn_of_wp Tryz.func130 rfl hf ?_ hro
  simp only [Tryz.ntmps130, List.size_toArray, List.length_cons, List.length_nil, Nat.reduceAdd, Nat.reduceSub, Array.replicate_succ, Array.replicate_zero, List.push_toArray, List.append_toArray, List.nil_append, List.cons_append]
  gi_wp2_with ((try refine ⟨hdd _, ?_⟩); gi_at_call 131; refine kv.mono ?_; clear kv; rintro e w2 (⟨rfl, hj2, hf2⟩ | ⟨rfl, q, hq, hx2⟩))
  · go_end0
    exact ⟨⟨_, rfl⟩, .inl ⟨_, rfl, by simpa using hj2.1⟩⟩
  · go_end0
    exact ⟨⟨_, rfl⟩, .inr ⟨q, hq, by simpa using hx2⟩⟩
/-- The iterator, for every loop's body that leaves the tree as it is. -/
theorem args_stops (F : Fence) (n Bt : Nat) (v : Value) (T : Pg.Tr) (Own : World → Nat → Prop) (Gd : World → Prop) (w : World) (hF : Fnc F) (hf : F.fn 130) (hG : Gw Own Gd) (hgd : Gd w) (hBt : Bt < w.heap.size) (hB : w.cell? ⟨Bt, 0, none⟩ = some v) (hwf : Wf false T) (hrow : RowAt w (fun g => ¬ Own w g) 1 v T) :
    SeqStopsK F n Tryz.prog 130 #[.pointer (some ⟨Bt, 0, none⟩)] (fun x : Ar => #[encA x]) (fun W W' => Gd W → Fr Own W W' ∧ Gd W') (fun ys => ys = argsT T) (fun pre => pre <+: argsT T) (argsT T).length w := fun l J Jx W hW hJ _ hY h0 => by
  obtain ⟨g1, g2⟩ := hG.grows w W hW hgd
  exact args1_in F n l Bt v T Own Gd J Jx W _ hF hf hG hJ hY g1 ((hW.cell (p := ⟨Bt, 0, none⟩) hBt).trans hB) hwf (RowAt.fr (Fr.of hW g2) hrow) h0
set_option maxHeartbeats 400000 in
theorem arguments_any (v : Value) (w : World) (va : Option Addr) (vn vc : Nat) (hv : v = .slice va vn vc) :
    Calls Tryz.prog 95 #[v] w fun e w' => e = .returned (.func (.func 130) #[] #[.pointer (some ⟨w.heap.size, 0, none⟩)]) ∧ w' = w.alloc (.cells #[v] 181) := by
  subst hv
  go_enter Tryz.func95, Tryz.ntmps95
  go_wp2
  go_ret
  exact ⟨rfl, rfl⟩
end Go.Proofs.YtaepcfidpekflaaGreatDoor
namespace Go.Proofs.YtaepcfidpekflaaGreatDoor
open Go.RowKit

theorem catch_idle (p q : Addr) (w : World) :
    CallsD Tryz.prog 132 #[.pointer (some p), .pointer (some q)] .returning w fun e u' w' => e = .returned (.tuple #[]) ∧ u' = .returning ∧ w' = w := by
  refine callsD_of_wpS Tryz.func132 rfl fun c₀ cs hu => ?_
  apply wpS_seq
  apply wpS_region
  simp [wpOpsS, go_sem, recoverD, hu, Tryz.ntmps132, Exit.thenS]
  refine wpS_cond (t := false) (by simp [Act.eval, Array.replicate]) ?_
  simp only [Bool.false_eq_true, if_false]
  refine wpS_of_wp (wp_skip ?_)
  cases c₀
  simp_all [bodyPostS, results, Tryz.results132]
theorem catch_panicking (p q : Addr) (x y : Value) (u : TypeId) (pv : Value) (older : List PanicEntry) (w : World) (hp : w.cell? p = some x) (fp : w.frozen? p = false) (hq : (w.setCell p (.bool false)).cell? q = some y) (fq : w.frozen? q = false) :
    CallsD Tryz.prog 132 #[.pointer (some p), .pointer (some q)] (.panicking ({ v := .iface u pv, recovered := false } :: older)) w fun e u' w' =>
      e = .returned (.tuple #[]) ∧ u' = .panicking ({ v := .iface u pv, recovered := true } :: older) ∧ w' = (w.setCell p (.bool false)).setCell q (.iface 30 (.int .i64 15)) := by
  refine callsD_of_wpS Tryz.func132 rfl fun c₀ cs hu => ?_
  apply wpS_seq
  apply wpS_region
  simp [wpOpsS, go_sem, recoverD, hu, Tryz.ntmps132, Exit.thenS]
  refine wpS_cond (t := true) (by simp [Act.eval, Array.replicate]) ?_
  simp only [if_true]
  apply wpS_region
  simp [wpOpsS, go_sem, hp, fp, hq, fq, bodyPostS, results, Tryz.results132]
/-- The world in which hand calls what it was handed. -/
def handW (w : World) (n : ByteArray) (a : Int) : World := ((w.alloc (.cells #[.string n, .int .i64 a] 189)).alloc (.cells #[.bool false] 4)).alloc (.cells #[.nilIface] 67)
theorem handW_eq (w : World) (n : ByteArray) (a : Int) : ((w.alloc (.cells #[.string n, .int .i64 a] 189)).alloc (.cells #[.bool false] 4)).alloc (.cells #[.nilIface] 67) = handW w n a := rfl
theorem other_cell (w2 : World) (k : Nat) (v u : Value) (h : w2.cell? ⟨k + 2, 0, none⟩ = some u) : (w2.setCell ⟨k + 1, 0, none⟩ v).cell? ⟨k + 1 + 1, 0, none⟩ = some u := by
  simp [World.cell?, World.setCell, Array.getElem?_modify] at h ⊢
  exact h
set_option maxHeartbeats 1600000 in
theorem hand_ret (n : ByteArray) (a : Int) (g : Nat) (lb : Array Value) (b : Bool) (w : World) (K : World → Prop) (eg : ∀ args w, (callFunc g args).run Tryz.prog w = .ok (.enter g args) w)
    (ky : Calls Tryz.prog g (#[.string n, .int .i64 a] ++ lb) (handW w n a) fun e w' => e = .returned (.bool b) ∧ Row w' (w.heap.size + 1) #[.bool false] ∧ Row w' (w.heap.size + 2) #[.nilIface] ∧ K w') :
    Calls Tryz.prog 96 #[.agg #[.string n, .int .i64 a], .func (.func g) #[] lb] w fun e w' => e = .returned (.tuple #[.bool b, .nilIface]) ∧ ∃ w2, K w2 ∧ w' = (w2.setCell ⟨w.heap.size + 1, 0, none⟩ (.bool b)).setCell ⟨w.heap.size + 2, 0, none⟩ .nilIface := by
  have hmf : ∀ (fn : Fn) (first cap : Array Value) (w : World), (Instr.makeFunc fn first cap).run Tryz.prog w = .ok (.func fn first cap) w := fun _ _ _ _ => rfl
  unfold handW at ky
  go_enter_defers Tryz.func96, Tryz.ntmps96
  go_wp2_with (go_at_fn g; refine ky.mono ?_; rintro e w2 ⟨rfl, r1, r2, hK⟩; have q1 := r1.2.1; have f1 := r1.2.2; have q2 := r2.2.1; have f2 := r2.2.2; have HK : Hid (K w2) := hK; clear hK ky)
  refine leaves_cons (f := 132) (args := #[.pointer (some ⟨w.heap.size + 1, 0, none⟩), .pointer (some ⟨w.heap.size + 1 + 1, 0, none⟩)]) (by simp) (by simp [go_sem]) ?_
  refine (catch_idle ⟨w.heap.size + 1, 0, none⟩ ⟨w.heap.size + 1 + 1, 0, none⟩ _).mono ?_
  rintro e u' w'' ⟨rfl, rfl, rfl⟩
  have c1 : (w2.setCell ⟨w.heap.size + 1, 0, none⟩ (.bool b)).cell? ⟨w.heap.size + 1, 0, none⟩ = some (.bool b) := World.cell?_setCell_same _ _ _ (q1 0)
  have c2 : ((w2.setCell ⟨w.heap.size + 1, 0, none⟩ (.bool b)).setCell ⟨w.heap.size + 1 + 1, 0, none⟩ .nilIface).cell? ⟨w.heap.size + 1 + 1, 0, none⟩ = some .nilIface := World.cell?_setCell_same _ _ _ (other_cell w2 w.heap.size _ _ (q2 0))
  simp [Leaves, settle, results, Tryz.results96, go_sem, c1, c2]
  exact ⟨w2, HK.out, rfl⟩
set_option maxHeartbeats 1600000 in
theorem hand_panic (n : ByteArray) (a : Int) (g : Nat) (lb : Array Value) (w : World) (K : World → Prop) (eg : ∀ args w, (callFunc g args).run Tryz.prog w = .ok (.enter g args) w)
    (ky : Calls Tryz.prog g (#[.string n, .int .i64 a] ++ lb) (handW w n a) fun e w' => (∃ u pv, e = .panicked [{ v := .iface u pv, recovered := false }]) ∧ Row w' (w.heap.size + 1) #[.bool false] ∧ Row w' (w.heap.size + 2) #[.nilIface] ∧ K w') :
    Calls Tryz.prog 96 #[.agg #[.string n, .int .i64 a], .func (.func g) #[] lb] w fun e w' => e = .returned (.tuple #[.bool false, .iface 30 (.int .i64 15)]) ∧ ∃ w2, K w2 ∧ w' = (w2.setCell ⟨w.heap.size + 1, 0, none⟩ (.bool false)).setCell ⟨w.heap.size + 2, 0, none⟩ (.iface 30 (.int .i64 15)) := by
  have hmf : ∀ (fn : Fn) (first cap : Array Value) (w : World), (Instr.makeFunc fn first cap).run Tryz.prog w = .ok (.func fn first cap) w := fun _ _ _ _ => rfl
  unfold handW at ky
  go_enter_defers Tryz.func96, Tryz.ntmps96
  go_wp2_with (go_at_fn g; refine ky.mono ?_; rintro e w2 ⟨⟨u, pv, rfl⟩, r1, r2, hK⟩; have q1 := r1.2.1; have f1 := r1.2.2; have q2 := r2.2.1; have f2 := r2.2.2; have HK : Hid (K w2) := hK; clear hK ky)
  have c1 : (w2.setCell ⟨w.heap.size + 1, 0, none⟩ (.bool false)).cell? ⟨w.heap.size + 1, 0, none⟩ = some (.bool false) := World.cell?_setCell_same _ _ _ (q1 0)
  have c0 : (w2.setCell ⟨w.heap.size + 1, 0, none⟩ (.bool false)).cell? ⟨w.heap.size + 1 + 1, 0, none⟩ = some .nilIface := other_cell w2 w.heap.size _ _ (q2 0)
  refine leaves_cons (f := 132) (args := #[.pointer (some ⟨w.heap.size + 1, 0, none⟩), .pointer (some ⟨w.heap.size + 1 + 1, 0, none⟩)]) (by simp) (by simp [go_sem]) ?_
  refine (catch_panicking ⟨w.heap.size + 1, 0, none⟩ ⟨w.heap.size + 1 + 1, 0, none⟩ (.bool false) .nilIface u pv [] _ (q1 0) (f1 0) c0 (f2 0)).mono ?_
  rintro e u' w'' ⟨rfl, rfl, rfl⟩
  have c2 : ((w2.setCell ⟨w.heap.size + 1, 0, none⟩ (.bool false)).setCell ⟨w.heap.size + 1 + 1, 0, none⟩ (.iface 30 (.int .i64 15))).cell? ⟨w.heap.size + 1 + 1, 0, none⟩ = some (.iface 30 (.int .i64 15)) := World.cell?_setCell_same _ _ _ c0
  simp [Leaves, settle, results, Tryz.results96, go_sem, c1, c2]
  exact ⟨w2, HK.out, rfl⟩
end Go.Proofs.YtaepcfidpekflaaGreatDoor
namespace Go.Proofs.YtaepcfidpekflaaGreatDoor
open Go.RowKit Go.Maps Go.Shelf Pg

/-- A function that is handed in: what it owns; what holds when it has been called with some; what it answers (none: it panics). -/
structure Us (N B0 g : Nat) (lb : Array Value) (St : List Ar → World → Prop) (Own : World → Nat → Prop) (Gd : World → Prop) (out : List Ar → Option Bool) : Prop where
  enters : ∀ args w, (callFunc g args).run Tryz.prog w = .ok (.enter g args) w
  gw : Gw Own Gd
  gd : ∀ d W, St d W → Gd W
  base : ∀ d W, St d W → B0 ≤ W.heap.size
  cells : ∀ (d : List Ar) (W : World) (k : Nat), St d W → Own W k → ∃ c T f, W.heap[k]? = some (.cells c T f)
  keep : ∀ (d : List Ar) (W W' : World), St d W → W.heap.size ≤ W'.heap.size → (∀ k, Own W k → W'.heap[k]? = W.heap[k]?) → St d W' ∧ ∀ k, Own W' k → Own W k
  call : ∀ (W : World) (d : List Ar) (x : Ar), St d W → d.length < N → Calls Tryz.prog g (#[.string ⟨x.1.toArray⟩, .int .i64 (x.2 : Nat)] ++ lb) W fun e w' => (match out (d ++ [x]) with | some b => e = .returned (.bool b) | none => ∃ u pv, e = .panicked [{ v := .iface u pv, recovered := false }]) ∧ St (d ++ [x]) w' ∧ Fr Own W w' ∧ KeepsOthers W w' ∧ Below B0 W w'
theorem row_of {W : World} {b : Nat} {cs : Array Value} {T : TypeId} (h : W.heap[b]? = some (.cells cs T (0, 0))) : Row W b cs := ⟨lt_heap h, fun j => by simp [World.cell?, h], fun j => by simp [World.frozen?, h]⟩
theorem set_heap_other {W : World} {p : Addr} {v : Value} {k : Nat} (h : k ≠ p.block) : (W.setCell p v).heap[k]? = W.heap[k]? := by
  simp only [World.setCell, Array.getElem?_modify]
  rw [if_neg (fun e => h e.symm)]
theorem handW_below (W : World) (n : ByteArray) (a : Int) : Below W.heap.size W (handW W n a) := (((Below.refl _ W).alloc (Nat.le_refl _) _).alloc (by simp) _).alloc (by simp; omega) _
theorem handW_size (W : World) (n : ByteArray) (a : Int) : (handW W n a).heap.size = W.heap.size + 3 := by unfold handW; simp
theorem heapn (w : World) (o : Obj) : (w.alloc o).heap[w.heap.size]? = some o := by
  rw [show (w.alloc o).heap = w.heap.push o from rfl]
  simp
theorem handW_more (W : World) (n : ByteArray) (a : Int) : (handW W n a).heap[W.heap.size + 1]? = some (.cells #[.bool false] 4) := by
  unfold handW
  rw [Lib.alloc_old _ _ _ (by simp)]
  have := heapn (W.alloc (.cells #[.string n, .int .i64 a] 189)) (.cells #[.bool false] 4)
  rw [World.size_alloc] at this
  exact this
theorem handW_err (W : World) (n : ByteArray) (a : Int) : (handW W n a).heap[W.heap.size + 2]? = some (.cells #[.nilIface] 67) := by
  unfold handW
  have := heapn ((W.alloc (.cells #[.string n, .int .i64 a] 189)).alloc (.cells #[.bool false] 4)) (.cells #[.nilIface] 67)
  simp only [World.size_alloc] at this
  exact this
theorem handW_others (W : World) (n : ByteArray) (a : Int) : KeepsOthers W (handW W n a) := ((KeepsOthers.alloc _ _).trans (KeepsOthers.alloc _ _)).trans (KeepsOthers.alloc _ _)
/-- What hand answers. -/
def handOut : Option Bool → Value
  | some b => .tuple #[.bool b, .nilIface]
  | none => .tuple #[.bool false, .iface 30 (.int .i64 15)]
theorem uhand {N B0 g : Nat} {lb : Array Value} {St : List Ar → World → Prop} {Own : World → Nat → Prop} {Gd : World → Prop} {out : List Ar → Option Bool} (hU : Us N B0 g lb St Own Gd out) (W : World) (d : List Ar) (x : Ar) (hs : St d W) (hN : d.length < N) :
    Calls Tryz.prog 96 #[encA x, .func (.func g) #[] lb] W fun e w' => e = .returned (handOut (out (d ++ [x]))) ∧ St (d ++ [x]) w' ∧ Fr Own W w' ∧ KeepsOthers W w' ∧ Below B0 W w' := by
  have hb := handW_below W ⟨x.1.toArray⟩ (x.2 : Nat)
  have hold : ∀ k, Own W k → k < W.heap.size := fun k => hU.gw.old W k (hU.gd d W hs)
  obtain ⟨hs1, ho1⟩ := hU.keep d W _ hs hb.size (fun k hk => hb.block k (hold k hk))
  have hsz := handW_size W ⟨x.1.toArray⟩ (x.2 : Nat)
  have hc := hU.call _ d x hs1 hN
  -- what lies behind the call, and behind the two stores
  have fin : ∀ (w2 : World) (u v : Value), St (d ++ [x]) w2 → Fr Own (handW W ⟨x.1.toArray⟩ (x.2 : Nat)) w2 → KeepsOthers (handW W ⟨x.1.toArray⟩ (x.2 : Nat)) w2 → Below B0 (handW W ⟨x.1.toArray⟩ (x.2 : Nat)) w2 → ∀ w', w' = (w2.setCell ⟨W.heap.size + 1, 0, none⟩ u).setCell ⟨W.heap.size + 2, 0, none⟩ v → St (d ++ [x]) w' ∧ Fr Own W w' ∧ KeepsOthers W w' ∧ Below B0 W w' := by
    rintro w2 u v h2 f2 k2 b2 w' rfl
    have hbase := hU.base d W hs
    have o2 : ∀ k, k < W.heap.size + 3 → Own w2 k → k < W.heap.size := fun k hk ho => hold k (ho1 k (f2.own k (by rw [hsz]; exact hk) ho))
    have same : ∀ k, k ≠ W.heap.size + 1 → k ≠ W.heap.size + 2 → ((w2.setCell ⟨W.heap.size + 1, 0, none⟩ u).setCell ⟨W.heap.size + 2, 0, none⟩ v).heap[k]? = w2.heap[k]? := fun k h1 h2 => (set_heap_other (p := ⟨W.heap.size + 2, 0, none⟩) h2).trans (set_heap_other (p := ⟨W.heap.size + 1, 0, none⟩) h1)
    have hz : ((w2.setCell ⟨W.heap.size + 1, 0, none⟩ u).setCell ⟨W.heap.size + 2, 0, none⟩ v).heap.size = w2.heap.size := by simp [World.setCell]
    have hz2 := f2.size
    rw [hsz] at hz2
    obtain ⟨h3, o3⟩ := hU.keep (d ++ [x]) w2 _ h2 (by rw [hz]; exact Nat.le_refl _) (fun k hk => same k (fun e => by have := o2 k (by omega) hk; omega) (fun e => by have := o2 k (by omega) hk; omega))
    refine ⟨h3, ⟨by rw [hz]; omega, fun k c T f hk ho => ?_, fun k hk ho => ?_⟩, (((handW_others W _ _).trans k2).trans (KeepsOthers.setCell _ _ _)).trans (KeepsOthers.setCell _ _ _), (((hb.mono hbase).trans b2).setCell (p := ⟨W.heap.size + 1, 0, none⟩) (by simp; omega) _).setCell (p := ⟨W.heap.size + 2, 0, none⟩) (by simp; omega) _⟩
    · have hlt := lt_heap hk
      rw [same k (by omega) (by omega)]
      exact f2.cells k c T f ((hb.block k hlt).trans hk) (fun e => ho (ho1 k e))
    · exact ho1 k (f2.own k (by rw [hsz]; omega) (o3 k ho))
  have rows : ∀ w2, Fr Own (handW W ⟨x.1.toArray⟩ (x.2 : Nat)) w2 → Row w2 (W.heap.size + 1) #[.bool false] ∧ Row w2 (W.heap.size + 2) #[.nilIface] := fun w2 f2 =>
    ⟨row_of (f2.cells _ _ _ _ (handW_more W _ _) (fun e => by have := hold _ (ho1 _ e); omega)), row_of (f2.cells _ _ _ _ (handW_err W _ _) (fun e => by have := hold _ (ho1 _ e); omega))⟩
  cases ho : out (d ++ [x]) with
  | some b =>
    rw [ho] at hc
    refine (hand_ret ⟨x.1.toArray⟩ (x.2 : Nat) g lb b W (fun w2 => St (d ++ [x]) w2 ∧ Fr Own (handW W ⟨x.1.toArray⟩ (x.2 : Nat)) w2 ∧ KeepsOthers (handW W ⟨x.1.toArray⟩ (x.2 : Nat)) w2 ∧ Below B0 (handW W ⟨x.1.toArray⟩ (x.2 : Nat)) w2) hU.enters (hc.mono ?_)).mono ?_
    · rintro e w2 ⟨rfl, h2, f2, k2, b2⟩
      exact ⟨rfl, (rows w2 f2).1, (rows w2 f2).2, h2, f2, k2, b2⟩
    · rintro e w' ⟨rfl, w2, ⟨h2, f2, k2, b2⟩, hw'⟩
      exact ⟨rfl, fin w2 _ _ h2 f2 k2 b2 w' hw'⟩
  | none =>
    rw [ho] at hc
    have hc2 : Calls Tryz.prog 96 #[encA x, .func (.func g) #[] lb] W fun e w' => e = .returned (handOut none) ∧ ∃ w2, (St (d ++ [x]) w2 ∧ Fr Own (handW W ⟨x.1.toArray⟩ (x.2 : Nat)) w2 ∧ KeepsOthers (handW W ⟨x.1.toArray⟩ (x.2 : Nat)) w2 ∧ Below B0 (handW W ⟨x.1.toArray⟩ (x.2 : Nat)) w2) ∧ w' = (w2.setCell ⟨W.heap.size + 1, 0, none⟩ (.bool false)).setCell ⟨W.heap.size + 2, 0, none⟩ (.iface 30 (.int .i64 15)) :=
      hand_panic ⟨x.1.toArray⟩ (x.2 : Nat) g lb W (fun w2 => St (d ++ [x]) w2 ∧ Fr Own (handW W ⟨x.1.toArray⟩ (x.2 : Nat)) w2 ∧ KeepsOthers (handW W ⟨x.1.toArray⟩ (x.2 : Nat)) w2 ∧ Below B0 (handW W ⟨x.1.toArray⟩ (x.2 : Nat)) w2) hU.enters (hc.mono (by
        rintro e w2 ⟨⟨u, pv, rfl⟩, h2, f2, k2, b2⟩
        exact ⟨⟨u, pv, rfl⟩, (rows w2 f2).1, (rows w2 f2).2, h2, f2, k2, b2⟩))
    refine hc2.mono ?_
    rintro e w' ⟨rfl, w2, ⟨h2, f2, k2, b2⟩, hw'⟩
    exact ⟨rfl, fin w2 _ _ h2 f2 k2 b2 w' hw'⟩
end Go.Proofs.YtaepcfidpekflaaGreatDoor
namespace Go.Proofs.YtaepcfidpekflaaGreatDoor.Dk
open Go.Proofs.YtaepcfidpekflaaGreatDoor Pg

/-- So many marks, and texts so long, at most. -/
def Sz (n : Nat) (x : Sc) : Prop := x.out.length ≤ n ∧ ∀ m ∈ x.out, m.text.length ≤ n
theorem Sz.mono {n k : Nat} {x : Sc} (h : Sz n x) (hn : n ≤ k) : Sz k x := ⟨Nat.le_trans h.1 hn, fun m hm => Nat.le_trans (h.2 m hm) hn⟩
/-- So many marks more, of texts so long. -/
def Adds (k b : Nat) (x y : Sc) : Prop := ∃ l, y.out = x.out ++ l ∧ l.length ≤ k ∧ ∀ m ∈ l, m.text.length ≤ b
theorem Adds.of {k b : Nat} {x y : Sc} (h : y.out = x.out) : Adds k b x y := ⟨[], by simp [h], by simp, by simp⟩
theorem Adds.trans {k j b : Nat} {x y z : Sc} (h : Adds k b x y) (h2 : Adds j b y z) : Adds (k + j) b x z := by
  obtain ⟨l, h1, h3, h4⟩ := h
  obtain ⟨l', h5, h6, h7⟩ := h2
  refine ⟨l ++ l', by rw [h5, h1, List.append_assoc], by rw [List.length_append]; omega, fun m hm => ?_⟩
  rcases List.mem_append.1 hm with h | h
  · exact h4 m h
  · exact h7 m h
theorem Adds.put {b : Nat} (x : Sc) (m : Mark) (h : m.text.length ≤ b) : Adds 1 b x (x.put m) := ⟨[m], rfl, by simp, by simpa using h⟩
theorem Adds.sz {k b n : Nat} {x y : Sc} (h : Adds k b x y) (hx : Sz n x) (hb : b ≤ n + k) : Sz (n + k) y := by
  obtain ⟨l, h1, h2, h3⟩ := h
  refine ⟨by rw [h1, List.length_append]; have := hx.1; omega, fun m hm => ?_⟩
  rw [h1] at hm
  rcases List.mem_append.1 hm with h | h
  · have := hx.2 m h; omega
  · have := h3 m h; omega
theorem fault_out (x : Sc) (e a : Nat) : (x.fault e a).out = x.out := by unfold Sc.fault; split <;> rfl
theorem name_out (s : T) (x : Sc) : (x.name s).out = x.out := by unfold Sc.name Sc.go; split; exact fault_out _ _ _; rfl
theorem whole_out (s : T) (x : Sc) : (x.whole s).out = x.out := by unfold Sc.whole Sc.go; split; exact fault_out _ _ _; rfl
theorem needs_out (s : T) (x : Sc) (c : UInt8) : (x.needs s c).out = x.out := by unfold Sc.needs; split; rfl; exact fault_out _ _ _
theorem named_16 (l : T) : named l ≤ 16 := by
  rw [named_eq]
  split <;> omega
theorem whole_9 (l : T) : wholeN l ≤ 9 := by
  rw [wholeN_eq]
  split <;> omega
theorem opened_adds (s : T) (x : Sc) (num : Bool) (m : Mark) (h : m.text.length ≤ 16) : Adds 1 16 x (x.opened s num m) := by
  refine ⟨[m], ?_, by simp, by simpa using h⟩
  unfold Sc.opened
  simp only
  split
  · rw [fault_out, needs_out]; rfl
  · rw [needs_out]; rfl
theorem branch_adds (s : T) (x : Sc) (num : Bool) : Adds 1 16 x (x.branch s num) := by
  unfold Sc.branch
  split
  · exact Adds.of rfl
  · split
    · have h := opened_adds s ((x.go 1).whole s) num { kind := 91, text := 61 :: (x.go 1).wholeT s, at_ := x.i } (by
        have := whole_9 (s.drop (x.go 1).i)
        simp only [List.length_cons, Sc.wholeT, Sc.next, List.length_take]
        omega)
      obtain ⟨l, h1, h2, h3⟩ := h
      exact ⟨l, by rw [h1, whole_out]; rfl, h2, h3⟩
    · simp only
      have hT : (x.nameT s).length ≤ 16 := by
        have := named_16 (s.drop x.i)
        simp only [Sc.nameT, Sc.next, List.length_take]
        omega
      split
      · obtain ⟨l, h1, h2, h3⟩ := opened_adds s ((x.name s).fault 3 x.i) num { kind := 91, text := x.nameT s, at_ := x.i } hT
        exact ⟨l, by rw [h1, fault_out, name_out], h2, h3⟩
      · obtain ⟨l, h1, h2, h3⟩ := opened_adds s (x.name s) num { kind := 91, text := x.nameT s, at_ := x.i } hT
        exact ⟨l, by rw [h1, name_out], h2, h3⟩
theorem Adds.first {k b : Nat} {x x' y : Sc} (h : Adds k b x' y) (hx : x'.out = x.out) : Adds k b x y := by
  obtain ⟨l, h1, h2, h3⟩ := h
  exact ⟨l, by rw [h1, hx], h2, h3⟩
theorem args_adds (s : T) (x : Sc) (known : Nat) (m : Mark) (hm : m.text.length ≤ 16) : Adds 2 16 x (x.args s known m) := by
  have hy : ((x.needs s 44).blanks s).out = x.out := needs_out s x 44
  unfold Sc.args
  simp only
  generalize (x.needs s 44).blanks s = y at *
  split
  · have hu : ((((y.go 7).blanks s).whole s).blanks s).out = x.out := by
      show (Sc.whole s _).out = _
      rw [whole_out]
      exact hy
    generalize ((y.go 7).blanks s).wholeT s = wt at *
    generalize (((y.go 7).blanks s).whole s).blanks s = u at *
    exact ((Adds.put (b := 16) u { m with offset := wt } hm).trans (branch_adds s (u.put { m with offset := wt }) true)).first hu
  · exact ((Adds.put (b := 16) y { m with offset := [48] } hm).trans (branch_adds s (y.put { m with offset := [48] }) (decide (known < 3)))).first hy
theorem brace_adds (s : T) (x : Sc) : Adds 2 16 x (x.brace s) := by
  have hb : ((((x.go 1).blanks s).name s).blanks s).out = x.out := by
    show (Sc.name s _).out = _
    rw [name_out]; rfl
  unfold Sc.brace
  simp only
  generalize (((x.go 1).blanks s).name s).blanks s = b at *
  split
  · exact Adds.of hb
  · split
    · refine Adds.first (x' := b.needs s 125) ?_ (by rw [needs_out, hb])
      obtain ⟨l, h1, h2, h3⟩ := Adds.put (b := 16) (b.needs s 125) { kind := 112, name := ((x.go 1).blanks s).nameT s, at_ := x.i } (by simp)
      exact ⟨l, h1, by omega, h3⟩
    · have hc : (((b.go 1).blanks s).name s).out = x.out := by rw [name_out]; exact hb
      generalize ((b.go 1).blanks s).nameT s = how at *
      generalize ((b.go 1).blanks s).name s = d at *
      split
      · exact Adds.of (by rw [fault_out, hc])
      · split
        · refine Adds.first (x' := (d.blanks s).needs s 125) ?_ (by rw [needs_out]; exact hc)
          obtain ⟨l, h1, h2, h3⟩ := Adds.put (b := 16) ((d.blanks s).needs s 125) { kind := 110, name := ((x.go 1).blanks s).nameT s, how := how, at_ := x.i } (by simp)
          exact ⟨l, h1, by omega, h3⟩
        · exact Adds.first (args_adds s (d.blanks s) _ _ (by simp)) hc
theorem behind_adds (s : T) (x : Sc) : Adds 1 16 x (x.behind s) := by
  unfold Sc.behind
  simp only
  split
  · exact Adds.put (b := 16) _ _ (by simp)
  · exact Adds.first (branch_adds s _ _) rfl
theorem Sz.say {n : Nat} {x : Sc} (t : T) (h : Sz n x) : Sz (n + t.length + 1) (x.say t) := by
  unfold Sc.say
  split
  · exact h.mono (by omega)
  · rcases List.eq_nil_or_concat x.out with h0 | ⟨l, m, h0⟩
    · refine ⟨by simp [addText, h0], fun q hq => ?_⟩
      simp only [addText, h0, List.getLast?_nil, List.mem_singleton] at hq
      rw [hq]
      show t.length ≤ _
      omega
    · simp only [List.concat_eq_append] at h0
      have h1 := h.1
      have h2 := h.2
      rw [h0] at h1 h2
      simp only [List.length_append, List.length_singleton] at h1
      by_cases hk : m.kind = 116
      · have e : addText x.out t = l ++ [{ m with text := m.text ++ t }] := by rw [h0]; simp [addText, hk]
        refine ⟨by show (addText x.out t).length ≤ _; rw [e]; simp; omega, fun q hq => ?_⟩
        have hq' : q ∈ addText x.out t := hq
        rw [e] at hq'
        rcases List.mem_append.1 hq' with hq | hq
        · have := h2 q (List.mem_append_left _ hq); omega
        · rw [List.mem_singleton] at hq
          have := h2 m (by simp)
          rw [hq]
          simp
          omega
      · have e : addText x.out t = x.out ++ [{ kind := 116, text := t }] := by rw [h0]; simp [addText, hk]
        refine ⟨by show (addText x.out t).length ≤ _; rw [e, h0]; simp; omega, fun q hq => ?_⟩
        have hq' : q ∈ addText x.out t := hq
        rw [e] at hq'
        rcases List.mem_append.1 hq' with hq | hq
        · have := h.2 q hq; omega
        · rw [List.mem_singleton] at hq
          rw [hq]
          show t.length ≤ _
          omega
theorem say_i0 (x : Sc) (t : T) : (x.say t).i = x.i := by unfold Sc.say; split <;> rfl
theorem say_sz {n : Nat} {x : Sc} (A : T) (h : Sz (3 * x.i + n) x) : Sz (3 * ((x.say A).go A.length).i + n) ((x.say A).go A.length) := by
  by_cases hA : A = []
  · subst hA
    have : x.say [] = x := by unfold Sc.say; simp
    rw [this]
    exact h
  · have h1 : Sz (3 * x.i + n + A.length + 1) (x.say A) := h.say A
    have hl : 0 < A.length := List.length_pos_iff.2 hA
    have hi : ((x.say A).go A.length).i = x.i + A.length := by show (x.say A).i + _ = _; rw [say_i0]
    rw [hi]
    exact Sz.mono (x := (x.say A).go A.length) h1 (by omega)
theorem go_sz {n k : Nat} {x : Sc} (h : Sz (3 * x.i + n) x) : Sz (3 * (x.go k).i + n) (x.go k) := Sz.mono (x := x.go k) h (by show _ ≤ 3 * (x.i + k) + n; omega)
theorem say1_sz {n : Nat} {x : Sc} (c : UInt8) (h : Sz (3 * x.i + n) x) : Sz (3 * ((x.say [c]).go 1).i + n) ((x.say [c]).go 1) := say_sz [c] h
theorem quote_sz : ∀ (k : Nat) (x : Sc) (r : T) (n : Nat), Sz (3 * x.i + n) x → Sz (3 * (x.quoteGo k r).i + n) (x.quoteGo k r) := by
  intro k
  induction k with
  | zero => intro x r n h; exact h
  | succ k ih =>
    intro x r n h
    have h1 := say_sz (Lib.cut r [39]).1 h
    rw [Sc.quoteGo]
    simp only
    split
    · exact h1
    · split
      · split
        · exact ih _ _ _ (say1_sz 39 (go_sz h1))
        · exact go_sz h1
      · exact go_sz h1
theorem say_go1 (x : Sc) (t : T) (n : Nat) : (x.go n).say t = (x.say t).go n := by
  unfold Sc.say Sc.go
  split <;> rfl
theorem apos_sz (s : T) (x : Sc) (num : Bool) (n : Nat) (h : Sz (3 * x.i + n) x) : Sz (3 * (x.apostrophe s num).i + n) (x.apostrophe s num) := by
  unfold Sc.apostrophe
  simp only
  split
  · rw [say_go1]; exact say1_sz 39 h
  · split
    · rw [say_go1]
      have := say1_sz 39 (go_sz (k := 1) h)
      exact this
    · split
      · exact quote_sz _ _ _ _ (go_sz h)
      · rw [say_go1]; exact say1_sz 39 h
theorem adds_sz {k n : Nat} {x y : Sc} (h : Adds k 16 x y) (hx : Sz (3 * x.i + n) x) (hk : k ≤ 3) (hi : x.i + 1 ≤ y.i) (hn : 16 ≤ n) : Sz (3 * y.i + n) y := (h.sz hx (by omega)).mono (by omega)
theorem one_sz (s : T) (x : Sc) (n : Nat) (hn : 16 ≤ n) (h : Sz (3 * x.i + n) x) : Sz (3 * (x.one s).i + n) (x.one s) := by
  unfold Sc.one
  split
  · exact h
  · split
    · exact apos_sz s x _ n h
    · split
      · exact adds_sz (brace_adds s x) h (by omega) (brace_ge s x) hn
      · split
        · refine ⟨?_, ?_⟩
          · rw [fault_out, fault_i']; exact h.1
          · rw [fault_out, fault_i']; exact h.2
        · split
          · refine adds_sz (x := x) (k := 2) ?_ h (by omega) ?_ hn
            · exact (Adds.put (b := 16) (x.go 1) { kind := 93 } (by simp)).trans (behind_adds s _)
            · exact Nat.le_trans (by show x.i + 1 ≤ x.i + 1; omega) (behind_ge s ((x.go 1).put { kind := 93 }))
          · split
            · refine adds_sz (x := x) (k := 1) ?_ h (by omega) ?_ hn
              · exact Adds.put (b := 16) (x.go 1) { kind := 35 } (by simp)
              · exact Nat.le_refl _
            · rw [say_go1]; exact say1_sz _ h
theorem marksGo_sz (s : T) (n : Nat) (hn : 16 ≤ n) : ∀ (k : Nat) (x : Sc), Sz (3 * x.i + n) x → Sz (3 * (marksGo s k x).i + n) (marksGo s k x) := by
  intro k
  induction k with
  | zero => intro x h; exact h
  | succ k ih =>
    intro x h
    rw [marksGo]
    split
    · exact ih _ (one_sz s x n hn h)
    · exact h
end Go.Proofs.YtaepcfidpekflaaGreatDoor.Dk
namespace Go.Proofs.YtaepcfidpekflaaGreatDoor.Pg
open Go.Proofs.YtaepcfidpekflaaGreatDoor
theorem flat_len_o (o : Nat → Nat) : ∀ t : Tr, (flat o t).length = (flat id t).length := by
  intro t
  induction t <;> simp_all [flat]
/-- What the reading of a text comes to, as the program goes. -/
inductive PatR (s : T) : Sum (Nat × Nat) Tr → Prop
  | long (h : 1000 < s.length) : PatR s (.inl (1, 0))
  | text (h : s.length ≤ 1000) (h1 : Pn.ptsLen s < s.length) : PatR s (.inl (2, (Pn.pts s).length))
  | bad {e a} (h : s.length ≤ 1000) (h1 : Pn.ptsLen s = s.length) (h2 : Whole (Pn.pts s) (.inl (e, a))) : PatR s (.inl (e, a))
  | chk {t e a} (h : s.length ≤ 1000) (h1 : Pn.ptsLen s = s.length) (h2 : Whole (Pn.pts s) (.inr t)) (h3 : ck id [] [] t = some (e, a)) : PatR s (.inl (e, a))
  | ok {t} (h : s.length ≤ 1000) (h1 : Pn.ptsLen s = s.length) (h2 : Whole (Pn.pts s) (.inr t)) (h3 : ck id [] [] t = none) : PatR s (.inr t)
theorem whole_marks {rs : List T} (hc : Cps rs) {t : Tr} (h : Whole rs (.inr t)) : Rd rs (.msg 1 false) 0 (.ok t rs.length) ∧ (flat id t).length ≤ 3 * rs.flatten.length + 16 ∧ Wf false t ∧ Vd t ∧ Nm t ∧ In 0 rs.length t := by
  cases h with
  | ok h =>
    have hf := fine_of h (Nat.zero_le _)
    refine ⟨h, ?_, hf.1, vd_of h, nm_of hc h, hf.2.1⟩
    have hm := marks_ok hc h (List.getElem?_eq_none (Nat.le_refl _))
    have hs := Dk.marksGo_sz rs.flatten 16 (by omega) rs.flatten.length { i := 0, out := [], opens := [], err := 0, place := 0 } ⟨by simp, by simp⟩
    unfold Dk.marks at hm
    simp only at hm
    generalize Dk.marksGo rs.flatten rs.flatten.length { i := 0, out := [], opens := [], err := 0, place := 0 } = y at *
    have ho : y.out = flat (o rs) t ∧ y.i = rs.flatten.length := by
      split at hm
      · have h1 := congrArg Dk.Sc.out hm
        have h2 := congrArg Dk.Sc.i hm
        rw [Dk.fault_out] at h1
        rw [fault_i'] at h2
        exact ⟨h1, h2⟩
      · rw [hm]; exact ⟨rfl, rfl⟩
    have := hs.1
    rw [ho.1, ho.2, flat_len_o] at this
    exact this
end Go.Proofs.YtaepcfidpekflaaGreatDoor.Pg
namespace Go.Proofs.YtaepcfidpekflaaGreatDoor
open Go.RowKit Go.Maps Pg

theorem ck_all : ∀ (k : Nat) (t : Pg.Tr), nM t ≤ k → CkMsg t ∧ CkBrs t := by
  intro k
  induction k with
  | zero => intro t h; exact ⟨ckmsg_of t (fun bs hb => by omega), ckbrs_of t (fun m hm => by omega)⟩
  | succ k ih => intro t h; exact ⟨ckmsg_of t (fun bs hb => (ih bs (by omega)).2), ckbrs_of t (fun m hm => (ih m (by omega)).1)⟩
set_option maxHeartbeats 3200000 in
set_option maxRecDepth 100000 in
theorem pcheck_any (w : World) (v : Value) (t : Pg.Tr) (S : Nat → Prop) (hvd : Vd t) (hwf : Wf false t) (hn : nM t ≤ 1000000) (hrow : RowAt w S 1 v t) :
    Calls Tryz.prog 128 #[v] w fun en w' => Below w.heap.size w w' ∧ match ck id [] [] t with | some (er, a) => ∃ u, en = .returned u ∧ Flt w.heap.size w' u er a | none => en = .returned .nilIface := by
  have hmm := @run_makeMap Tryz.prog
  have hb1 : ∀ o o2, Below w.heap.size w ((w.alloc o).alloc o2) := fun o o2 => (allocB _ _).alloc (by simp) _
  obtain ⟨va, vn, vc, rfl⟩ : ∃ va vn vc, v = .slice va vn vc := by
    obtain ⟨us, h1, _⟩ := hrow
    rcases h1 with ⟨_, h1⟩ | ⟨g, n, c, h1, _⟩
    · exact ⟨_, _, _, h1⟩
    · exact ⟨_, _, _, h1⟩
  have hK : Kmap ((w.alloc (.map #[] 0)).alloc (.cells #[.map (some w.heap.size)] 280)) w.heap.size 0 [] := ⟨.map [], (World.ownsMap_made (H := Unit) w Tryz.prog 9 (plainElem Tryz.prog 362)).alloc _, ⟨isMap_empty, fun x => rfl, fun x hx => absurd rfl hx⟩⟩
  have hrow1 : RowAt ((w.alloc (.map #[] 0)).alloc (.cells #[.map (some w.heap.size)] 280)) (fun g => g ≠ w.heap.size) 1 (.slice va vn vc) t := hrow.mono (hb1 _ _).size fun g _ hl => ⟨(hb1 _ _).block g hl, by omega⟩
  have km := (ck_all _ t (Nat.le_refl _)).1 w.heap.size 0 _ _ [] hvd hwf (by omega) hK (by simp; omega) hrow1
  have HB : Hid (Below w.heap.size w ((w.alloc (.map #[] 0)).alloc (.cells #[.map (some w.heap.size)] 280))) := hb1 _ _
  have hz : ((w.alloc (.map #[] 0)).alloc (.cells #[.map (some w.heap.size)] 280)).heap.size = w.heap.size + 2 := by simp
  clear hK hrow hrow1 hb1
  obtain ⟨R, HR⟩ : ∃ R, Hid (ck id [] [] t = R) := ⟨ck id [] [] t, by show _ = _; rfl⟩
  rw [HR.out] at km ⊢
  go_enter Tryz.func128, Tryz.ntmps128
  go_wp2_with fail
  refine km.mono ?_
  rintro e w2 ⟨ha, hm⟩
  have HB2 : Hid (Below w.heap.size w w2) := HB.out.trans (ha.below (Nat.le_refl _) (by omega))
  clear km ha
  cases R with
  | none =>
    obtain ⟨rfl, _⟩ := hm
    go_wp2
    go_ret
    exact ⟨HB2.out, rfl⟩
  | some f =>
    obtain ⟨er, a⟩ := f
    obtain ⟨u, rfl, hu⟩ := hm
    rw [hz] at hu
    go_wp2
    go_ret
    exact ⟨HB2.out, u, rfl, hu.mono (by omega)⟩
/-- What the reading of a pattern answers. -/
def NewSaidP (s : Pg.T) (w : World) (e : Ending) (w' : World) : Prop := Below w.heap.size w w' ∧ ∃ r, PatR s r ∧ match r with
  | .inl (er, a) => ∃ v, e = .returned (.tuple #[.slice none 0 0, v]) ∧ Flt w.heap.size w' v er a
  | .inr t => ∃ v, e = .returned (.tuple #[v, .nilIface]) ∧ RowAt w' (fun g => w.heap.size ≤ g) 1 v t
set_option maxHeartbeats 3200000 in
set_option maxRecDepth 100000 in
theorem pnew_any (s : Pg.T) (w : World) (hU : Lib.Utf8Tabs 1 2 w) (hs : s.length ≤ 1000000) :
    Calls Tryz.prog 93 #[.string ⟨s.toArray⟩] w fun e w' => NewSaidP s w e w' := by
  have kr := prunesOf_any s w hU hs
  go_enter Tryz.func93, Tryz.ntmps93
  go_wp2_with fail
  refine kr.mono ?_
  rintro e w1 ⟨hb1, hm⟩
  clear kr
  rcases hm with ⟨hl, v, rfl, hv⟩ | ⟨hl, hp, v, rfl, hv⟩ | ⟨hl, hp, a, c, rfl, hr, hc⟩
  · have HV : Hid (Flt w.heap.size w1 v 1 0) := hv
    have HL : Hid (1000 < s.length) := hl
    obtain ⟨b, rfl, _⟩ := hv
    clear hl
    go_wp2
    go_ret2
    exact ⟨hb1, _, .long HL.out, _, rfl, HV.out⟩
  · have HV : Hid (Flt w.heap.size w1 v 2 (Pn.pts s).length) := hv
    have HL : Hid (s.length ≤ 1000 ∧ Pn.ptsLen s < s.length) := ⟨hl, hp⟩
    obtain ⟨b, rfl, _⟩ := hv
    clear hl hp
    go_wp2
    go_ret2
    exact ⟨hb1, _, .text HL.out.1 HL.out.2, _, rfl, HV.out⟩
  · have HL : Hid (s.length ≤ 1000 ∧ Pn.ptsLen s = s.length) := ⟨hl, hp⟩
    obtain ⟨hpt, hfl⟩ := pts_of s hp
    have hlen : (Pn.pts s).length ≤ 1000 := by
      have := pts_len_le hpt
      rw [hfl] at this
      omega
    have HPT : Hid (Pts (Pn.pts s) ∧ (Pn.pts s).flatten = s) := ⟨hpt, hfl⟩
    have kp := pparse_any w1 (Pn.pts s) a c hr hc hpt hlen
    clear hl hp hr hc hpt hfl
    generalize hrs : Pn.pts s = rs at *
    have HRS : Hid (Pn.pts s = rs) := hrs
    clear hrs
    go_wp2_with fail
    refine kp.mono ?_
    rintro e w2 ⟨hb2, r, hw, hm⟩
    have HB2 : Hid (Below w.heap.size w w2) := below_of hb1 hb2
    have HW : Hid (Whole (Pn.pts s) r) := by rw [HRS.out]; exact hw
    have hz1 := hb1.size
    clear kp
    cases r with
    | inl x =>
      obtain ⟨er, x⟩ := x
      obtain ⟨v, rfl, hv⟩ := hm
      have HV : Hid (Flt w1.heap.size w2 v er x) := hv
      obtain ⟨b, rfl, _⟩ := hv
      clear hw
      go_wp2
      go_ret2
      exact ⟨HB2.out, _, .bad HL.out.1 HL.out.2 HW.out, _, rfl, HV.out.mono hz1⟩
    | inr t =>
      obtain ⟨v, rfl, hrow⟩ := hm
      obtain ⟨w1', w2', w3', w4', w5', _⟩ := whole_marks HPT.out.1.cps hw
      have kc := pcheck_any w2 v t _ w4' w3' (by unfold nM; have := HL.out.1; have := HPT.out.2; rw [this] at w2'; omega) hrow
      have HROW : Hid (RowAt w2 (fun g => w1.heap.size ≤ g) 1 v t) := hrow
      obtain ⟨va, vn, vc, rfl⟩ : ∃ va vn vc, v = .slice va vn vc := by
        obtain ⟨us, h1, _⟩ := hrow
        rcases h1 with ⟨_, h1⟩ | ⟨g, n, c, h1, _⟩
        · exact ⟨_, _, _, h1⟩
        · exact ⟨_, _, _, h1⟩
      clear hw w1' w2' w3' w4' w5' hrow
      go_wp2_with fail
      refine kc.mono ?_
      rintro e w3 ⟨hb3, hm⟩
      have HB3 : Hid (Below w.heap.size w w3) := below_of HB2.out hb3
      have hz2 := HB2.out.size
      clear kc
      cases hk : ck id [] [] t with
      | some f =>
        obtain ⟨er, x⟩ := f
        rw [hk] at hm
        obtain ⟨u, rfl, hu⟩ := hm
        have HV : Hid (Flt w2.heap.size w3 u er x) := hu
        have HK : Hid (ck id [] [] t = some (er, x)) := hk
        obtain ⟨b, rfl, _⟩ := hu
        clear hk
        go_wp2
        go_ret2
        exact ⟨HB3.out, _, .chk HL.out.1 HL.out.2 HW.out HK.out, _, rfl, HV.out.mono hz2⟩
      | none =>
        rw [hk] at hm
        obtain rfl := hm
        have HK : Hid (ck id [] [] t = none) := hk
        have HROW3 : Hid (RowAt w3 (fun g => w1.heap.size ≤ g) 1 (.slice va vn vc) t) := HROW.out.keep hb3
        clear hk
        go_wp2
        go_ret2
        exact ⟨HB3.out, _, .ok HL.out.1 HL.out.2 HW.out HK.out, _, rfl, HROW3.out.wide (fun g hg => by omega)⟩
end Go.Proofs.YtaepcfidpekflaaGreatDoor
