/-
  Several texts in one (Ia, Ib, Ic, Jr). By the verifier.
-/
import Derived.Test.YtaepcfidpekflaaGreatDoorZ31
namespace Go.Proofs.YtaepcfidpekflaaGreatDoor
open Go.RowKit Go.Maps Pg

theorem lay_iface {w : World} {S : Nat → Prop} {t : Pg.Tr} {u : Value} (h : Lay w S t [u]) : ∃ ut ux, u = .iface ut ux := by
  cases h <;> exact ⟨_, _, rfl⟩
theorem node_any (x : Pg.Tr) (hB : ∀ bs, nM bs < nM x → CkBrs bs) : CkNode x := by
  intro M n w u P hvd hwf hn hK hMw hlay
  have plain : ∀ (T : TypeId) (cs : Array Value) (m : Dk.Mark), (T = 285 ∨ T = 287 ∨ T = 290) → Dk.sortM m = 0 → Calls Tryz.prog 195 #[.agg #[.map (some M)], .iface T (.agg cs)] w fun en w' => CkSaid M (n + 1) none (P ++ [m]) w en w' := by
    intro T cs m hT hm
    refine (pnode_plain T cs hT M w).mono ?_
    rintro e w' ⟨rfl, hb⟩
    obtain ⟨D, h1, h2⟩ := hK.keep hb
    exact ⟨Ag.of hb (Nat.le_refl _), rfl, n, by omega, D, h1, h2.none m hm⟩
  cases hlay with
  | text h => cases h; exact plain _ _ _ (.inl rfl) rfl
  | sign h => cases h; exact plain _ _ _ (.inr (.inl rfl)) rfl
  | simple h => cases h; exact plain _ _ _ (.inr (.inr rfl)) rfl
  | num h =>
    cases h
    have hn' : n + 1 ≤ 1000000 := hn
    refine (pnode_num M n _ _ w P hvd.1 (by omega) hK).mono ?_
    intro e w' h
    simp only [ck]
    exact h
  | sel hs hb h =>
    cases h
    rename_i nm a bs e0 v us
    have hsz : nM (.sel nm a bs e0 .nil) = 1 + nM bs + 1 := by simp [nM, flat]; omega
    rw [hsz] at hn
    have := pnode_sel M n a e0 nm bs v w P (hB _ (by rw [hsz]; omega)) hvd.1 hvd.2.1 hwf.2.1 (by omega) hK hMw ⟨_, hs, hb⟩
    rw [hsz]
    exact this.mono fun e w' h => h.tail (Ag.refl _ _) (by omega)
  | plu hs hb h =>
    cases h
    rename_i nm a ord off bs e0 v us
    have hsz : nM (.plu nm a ord off bs e0 .nil) = 1 + nM bs + 1 := by simp [nM, flat]; omega
    rw [hsz] at hn
    have := pnode_plu M n a e0 nm ord off bs v w P (hB _ (by rw [hsz]; omega)) hvd.1 hvd.2.2.1 hwf.2.1 (by omega) hK hMw ⟨_, hs, hb⟩
    rw [hsz]
    exact this.mono fun e w' h => h.tail (Ag.refl _ _) (by omega)
set_option maxHeartbeats 3200000 in
set_option maxRecDepth 100000 in
theorem ckmsg_of (t : Pg.Tr) (hB : ∀ bs, nM bs < nM t → CkBrs bs) : CkMsg t := by
  intro M n w v P hvd hwf hn hK hMw hrow
  obtain ⟨us, hsl, hlay⟩ := hrow
  obtain ⟨va, vc, rfl⟩ : ∃ va vc, v = .slice va us.length vc := by
    rcases hsl with ⟨h0, h1⟩ | ⟨g, n, c, h1, _, _, h4, _⟩
    · exact ⟨none, 0, by rw [h1, h0]; rfl⟩
    · exact ⟨_, _, by rw [h1, h4, Nat.mul_one]⟩
  have hul : us.length ≤ 1000 := by
    rcases hsl with ⟨h0, h1⟩ | ⟨g, n, c, h1, _, _, h4, h5, h6, _⟩
    · rw [h0]; simp
    · omega
  have hb0 := allocB w (.cells #[.map (some M)] 280)
  have HSL : Hid (SlAt (w.alloc (.cells #[.map (some M)] 280)) (fun g => g ≠ M) 1 (.slice va us.length vc) us) := hsl.mono hb0.size fun g hg hl => ⟨hb0.block g hl, hg⟩
  have HLY : Hid (Lay (w.alloc (.cells #[.map (some M)] 280)) (fun g => g ≠ M) t us) := hlay.mono hb0.size fun g hg hl => ⟨hb0.block g hl, hg⟩
  have HK : Hid (Kmap (w.alloc (.cells #[.map (some M)] 280)) M n P) := hK.keep hb0
  have HR : Hid (Row (w.alloc (.cells #[.map (some M)] 280)) w.heap.size #[.map (some M)]) := row_at _ _ _
  have HA : Hid (Ag M w (w.alloc (.cells #[.map (some M)] 280))) := Ag.of hb0 (Nat.le_refl _)
  have HVD : Hid (Vd t) := hvd
  have HWF : Hid (Wf false t) := hwf
  obtain ⟨R, HCK⟩ : ∃ R, Hid (ck id P [] t = R) := ⟨_, rfl⟩
  obtain ⟨Q, HQ⟩ : ∃ Q, Hid (P ++ flat id t = Q) := ⟨_, rfl⟩
  rw [HCK.out, HQ.out]
  obtain ⟨L, HL⟩ : ∃ L, L = nM t := ⟨_, rfl⟩
  have HBB : Hid (∀ bs, nM bs < L → CkBrs bs) := by rw [HL]; exact hB
  rw [← HL] at hn ⊢
  have hL0 : nM t ≤ L := by omega
  clear hsl hlay hK hvd hwf hB HL
  go_enter Tryz.func162, Tryz.ntmps162
  go_wp2_with fail
  go_loopw [10] (fun i wr => ∃ (k n1 : Nat) (r : Pg.Tr) (P1 : List Dk.Mark), i = .int .i64 k ∧ k ≤ us.length ∧ n1 + nM r ≤ n + L ∧ nM r ≤ L ∧ Hid (ck id P1 [] r = R) ∧ Hid (P1 ++ flat id r = Q) ∧ Hid (Vd r) ∧ Hid (Wf false r) ∧ Hid (Lay wr (fun g => g ≠ M) r (us.drop k)) ∧ Hid (SlAt wr (fun g => g ≠ M) 1 (.slice va us.length vc) us) ∧ Hid (Kmap wr M n1 P1) ∧ Hid (Row wr w.heap.size #[.map (some M)]) ∧ Hid (Ag M w wr)) (fun i _ => us.length - (intOf i).toNat)
  case atStart => exact ⟨0, n, t, P, rfl, Nat.zero_le _, by omega, hL0, HCK, HQ, HVD, HWF, HLY, HSL, HK, HR, HA⟩
  case round =>
    clear HCK HQ HVD HWF HLY HSL HK HR HA hL0
    obtain ⟨k, n1, r, P1, rfl, hk, hn1, hrL, HCK, HQ, HVD, HWF, HLY, HSL, HK, HR, HA⟩ := hrel
    have hzw := HA.out.size
    have hMr := HR.out.1
    by_cases hlt : k < us.length
    · have hlt' : (k : Int) < us.length := by omega
      have hdk : us.drop k = us[k] :: us.drop (k + 1) := List.drop_eq_getElem_cons hlt
      have hly := HLY.out
      rw [hdk] at hly
      obtain ⟨hrn, hl1, hl2⟩ := lay_hd hly HWF.out
      have hfl := flat_hd id r
      have hsz : nM r = nM (hd r) + nM (tl r) := by unfold nM; rw [hfl, List.length_append]
      have hpos1 : 0 < nM (hd r) := by
        cases r with
        | nil => exact absurd rfl hrn
        | _ => simp [nM, hd, flat]
      have hckh := ck_hd id P1 HWF.out hrn
      have kn := node_any (hd r) (fun bs hbs => HBB.out bs (by omega)) M n1 wr us[k] P1 (vd_hd HVD.out).1 (wf_hd HWF.out).1 (by omega) HK.out (by omega) hl1
      obtain ⟨ut, ux, hux⟩ := lay_iface hl1
      have HTL : Hid (Lay wr (fun g => g ≠ M) (tl r) (us.drop (k + 1))) := hl2
      have HQ2 : Hid ((P1 ++ flat id (hd r)) ++ flat id (tl r) = Q) := by show _ = _; rw [← HQ.out, hfl, List.append_assoc]
      have HV2 : Hid (Vd (tl r)) := (vd_hd HVD.out).2
      have HW2 : Hid (Wf false (tl r)) := (wf_hd HWF.out).2
      have HC2 : Hid ((match ck id P1 [] (hd r) with | some f => some f | none => ck id (P1 ++ flat id (hd r)) [] (tl r)) = R) := by show _ = _; rw [← HCK.out]; exact hckh.symm
      rcases HSL.out with ⟨h0, _⟩ | ⟨g, m0, c0, hv, hgM, hgl, hm0, hmc, hm1, hcell⟩
      · rw [h0] at hlt; simp at hlt
      injection hv with hv1 hv2 hv3
      subst hv1
      subst hv3
      clear hv2
      have ck1 := hcell k us[k] (List.getElem?_eq_getElem hlt)
      rw [hux] at ck1 kn
      have q0 := HR.out.2.1
      clear hly hdk hl1 hl2 hfl hckh hux hcell HLY HVD HWF HCK HQ hrn
      clear hm0 hmc hm1
      go_wp2_with fail
      refine kn.mono ?_
      rintro e w2 ⟨ha, hm⟩
      have HA2 : Hid (Ag M w w2) := HA.out.trans ha
      have HR2 : Hid (Row w2 w.heap.size #[.map (some M)]) := HR.out.ag ha (by omega)
      have HSL2 : Hid (SlAt w2 (fun g => g ≠ M) 1 (.slice (some ⟨g, 0, none⟩) us.length vc) us) := HSL.out.mono ha.size fun x hx hl => ⟨ha.block x hl hx, hx⟩
      have HTL2 : Hid (Lay w2 (fun g => g ≠ M) (tl r) (us.drop (k + 1))) := HTL.out.mono ha.size fun x hx hl => ⟨ha.block x hl hx, hx⟩
      have hzr := ha.size
      clear kn q0 ck1 HR HSL HTL ha
      cases hc : ck id P1 [] (hd r) with
      | some f =>
        obtain ⟨er, a⟩ := f
        rw [hc] at hm HC2
        obtain ⟨v, rfl, hv⟩ := hm
        have HV : Hid (Flt wr.heap.size w2 v er a) := hv
        obtain ⟨b, rfl, _⟩ := hv
        clear hc
        go_wp2
        go_ret
        refine ⟨HA2.out, ?_⟩
        rw [← HC2.out]
        exact ⟨_, rfl, HV.out.mono (by omega)⟩
      | none =>
        rw [hc] at hm HC2
        obtain ⟨rfl, n2, hn2, hK2⟩ := hm
        have HK2 : Hid (Kmap w2 M n2 (P1 ++ flat id (hd r))) := hK2
        clear hc hK2
        go_wp2
        go_roundw
        case rel => exact ⟨k + 1, n2, tl r, P1 ++ flat id (hd r), by go_num, hlt, by omega, by omega, HC2, HQ2, HV2, HW2, HTL2, HSL2, HK2, HR2, HA2⟩
        case measure => simp [intOf]; omega
    · have hlt' : ¬ (k : Int) < us.length := by omega
      have hr0 : r = .nil := lay_end (by have := HLY.out; rw [List.drop_eq_nil_of_le (by omega)] at this; exact this)
      have HR0 : Hid (R = none) := by show _ = _; rw [← HCK.out, hr0]; rfl
      have HQ0 : Hid (Q = P1) := by show _ = _; rw [← HQ.out, hr0]; simp [flat]
      clear hr0 HCK HQ
      go_wp2
      go_ret
      refine ⟨HA.out, ?_⟩
      rw [HR0.out, HQ0.out]
      exact ⟨rfl, n1, by omega, HK.out⟩
end Go.Proofs.YtaepcfidpekflaaGreatDoor
namespace Go.Proofs.YtaepcfidpekflaaGreatDoor.Pg
open Go.Proofs.YtaepcfidpekflaaGreatDoor
theorem ck_br (o : Nat → Nat) (P : List Dk.Mark) (seen : List T) (w : T) (a : Nat) (m r : Tr) : ck o P seen (.br w a m r) = if w ∈ seen then some (7, a) else match ck o (P ++ [{ kind := 91, text := w, at_ := o a }]) [] m with | some f => some f | none => ck o (P ++ flat o (.br w a m .nil)) (seen ++ [w]) r := by
  simp only [ck]
  rfl
end Go.Proofs.YtaepcfidpekflaaGreatDoor.Pg
namespace Go.Proofs.YtaepcfidpekflaaGreatDoor
open Go.RowKit Go.Maps Pg

/-- The selectors that have been met. -/
def seenD (l : List Pg.T) : DataW Unit := setOf (.agg []) (l.map fun t => Lit.string (selB t))
theorem selB_inj {a b : Pg.T} (ha : SelOk a) (hb : SelOk b) (h : selB a = selB b) : a = b := by
  obtain ⟨a1, a2⟩ := selV_bd ha
  obtain ⟨b1, b2⟩ := selV_bd hb
  have k1 := sel_key (selV a).1 (selV a).2 (by omega) (by omega)
  have k2 := sel_key (selV b).1 (selV b).2 (by omega) (by omega)
  have e : keyBytes [.string (selV a).1, .int .u32 ((selV a).2 : Nat)] = keyBytes [.string (selV b).1, .int .u32 ((selV b).2 : Nat)] := h
  rw [e] at k1
  have := sel_keyed.inj k1 k2
  simp only [Value.agg.injEq, Array.mk.injEq, List.cons.injEq, Value.string.injEq, ByteArray.mk.injEq, Value.int.injEq, true_and, and_true] at this
  apply selV_inj ha hb
  exact Prod.ext this.1 (by omega)
theorem has_seen (l : List Pg.T) (x : Pg.T) (hl : ∀ t ∈ l, SelOk t) (hx : SelOk x) : Maps.has (seenD l) (.string (selB x)) = decide (x ∈ l) := by
  unfold seenD
  rw [has_setOf _ _ _ (fun y hy => by obtain ⟨_, _, rfl⟩ := List.mem_map.1 hy; trivial), List.any_map]
  induction l with
  | nil => rfl
  | cons a r ih =>
    rw [List.any_cons, ih (fun t ht => hl t (by simp [ht]))]
    have : ((fun y : Lit => y.sameKey (.string (selB x))) ∘ fun t => Lit.string (selB t)) a = decide (x = a) := by
      show (Lit.string (selB a)).sameKey (.string (selB x)) = _
      by_cases e : x = a
      · subst e; simp [Lit.sameKey]
      · have e' : ¬ selB a = selB x := fun h => e (selB_inj (hl a (by simp)) hx h).symm
        simp [Lit.sameKey, e, e']
    rw [this]
    simp
theorem seenD_snoc (l : List Pg.T) (t : Pg.T) : seenD (l ++ [t]) = (seenD l).put (.string (selB t)) (.agg []) := by
  unfold seenD
  rw [List.map_append, List.map_singleton, setOf_snoc]
theorem other_ok : SelOk Dk.otherW := .inr ⟨by decide, by decide, by decide⟩
def brFin (r : Option (Nat × Nat)) (l : List Pg.T) (e0 : Nat) : Option (Nat × Nat) := match r with | some f => some f | none => if Dk.otherW ∈ l then none else some (6, e0)
theorem lay_br {w : World} {S : Nat → Prop} {t : Pg.Tr} {u : Value} {us : List Value} (h : Lay w S t (u :: us)) (hw : Wf true t) : ∃ x a m r v rest, t = .br x a m r ∧ u = .string ⟨(selV x).1.toArray⟩ ∧ us = .int .u32 ((selV x).2 : Nat) :: .int .i64 (a : Nat) :: v :: rest ∧ RowAt w S 1 v m ∧ Lay w S r rest := by
  cases h with
  | br hs hb h => exact ⟨_, _, _, _, _, _, rfl, rfl, rfl, ⟨_, hs, hb⟩, h⟩
  | text => exact absurd hw.1 (by simp)
  | sign => exact absurd hw.1 (by simp)
  | simple => exact absurd hw.1 (by simp)
  | num => exact absurd hw.1 (by simp)
  | sel => exact absurd hw.1 (by simp)
  | plu => exact absurd hw.1 (by simp)
set_option maxHeartbeats 6400000 in
set_option maxRecDepth 100000 in
theorem ckbrs_of (bs : Pg.Tr) (hC : ∀ m, nM m < nM bs → CkMsg m) : CkBrs bs := by
  intro M n w v e0 P hvd hwf hn hK hMw hrow
  obtain ⟨us, hsl, hlay⟩ := hrow
  obtain ⟨va, vn, vc, rfl, hvn, hul⟩ : ∃ va vn vc, v = .slice va vn vc ∧ us.length = vn * 4 ∧ vn ≤ 1000 := by
    rcases hsl with ⟨h0, h1⟩ | ⟨g, n, c, h1, _, _, h4, _, h6, _⟩
    · exact ⟨_, _, _, h1, by rw [h0]; rfl, by omega⟩
    · exact ⟨_, _, _, h1, h4, h6⟩
  have hmm := @run_makeMap Tryz.prog
  have HVD : Hid (Vd bs) := hvd
  have HWF : Hid (Wf true bs) := hwf
  have HSL : Hid (SlAt w (fun g => g ≠ M ∧ g < w.heap.size) 4 (.slice va vn vc) us) := hsl.mono (Nat.le_refl _) fun g hg hl => ⟨rfl, hg, hl⟩
  have HLY : Hid (Lay w (fun g => g ≠ M ∧ g < w.heap.size) bs us) := hlay.mono (Nat.le_refl _) fun g hg hl => ⟨rfl, hg, hl⟩
  have HK : Hid (Kmap w M n P) := hK
  obtain ⟨R, HR⟩ : ∃ R, Hid (brFin (ck id P [] bs) ([] ++ keys bs) e0 = R) := ⟨brFin (ck id P [] bs) ([] ++ keys bs) e0, by show _ = _; rfl⟩
  change Calls _ _ _ _ fun en w' => CkSaid M (n + nM bs) (brFin (ck id P [] bs) ([] ++ keys bs) e0) (P ++ flat id bs) w en w'
  rw [HR.out]
  obtain ⟨Q, HQ⟩ : ∃ Q, Hid (P ++ flat id bs = Q) := ⟨_, rfl⟩
  rw [HQ.out]
  obtain ⟨L, HL⟩ : ∃ L, L = nM bs := ⟨_, rfl⟩
  have HCC : Hid (∀ m, nM m < L → CkMsg m) := by rw [HL]; exact hC
  rw [← HL] at hn ⊢
  have hL0 : nM bs ≤ L := by omega
  have law := sel_keyed
  have HZU : Hid (∀ W, (zeroValue 172).run Tryz.prog W = .ok (.agg #[]) W) := Tryz.zeroValue172
  clear hsl hlay hK hvd hwf hC HL
  go_enter Tryz.func224, Tryz.ntmps224
  go_wp2_with fail
  go_loopw [17] (fun i wr => ∃ (k n1 : Nat) (r : Pg.Tr) (P1 : List Dk.Mark) (l : List Pg.T), i = .int .i64 k ∧ k ≤ vn ∧ n1 + nM r ≤ n + L ∧ nM r ≤ L ∧ Hid (brFin (ck id P1 l r) (l ++ keys r) e0 = R) ∧ Hid (P1 ++ flat id r = Q) ∧ Hid (Vd r) ∧ Hid (Wf true r) ∧ Hid (∀ t ∈ l, SelOk t) ∧ Hid (Lay wr (fun g => g ≠ M ∧ g < w.heap.size) r (us.drop (k * 4))) ∧ Hid (SlAt wr (fun g => g ≠ M ∧ g < w.heap.size) 4 (.slice va vn vc) us) ∧ Hid (Kmap wr M n1 P1) ∧ Hid (Row wr w.heap.size #[.map (some M)]) ∧ Hid (Row wr (w.heap.size + 1) #[.slice va vn vc, .int .i64 e0]) ∧ Hid (Ag M w wr) ∧ Hid (wr.ownsMap Tryz.prog 330 unitElem (w.heap.size + 1 + 1) k (seenD l)) ∧ w.heap.size + 1 + 1 < wr.heap.size) (fun i _ => vn - (intOf i).toNat)
  case atStart =>
    have ra : ∀ o, Row (((w.alloc (.cells #[.map (some M)] 280)).alloc (.cells #[.slice va vn vc, .int .i64 e0] 294)).alloc o) (w.heap.size + 1) #[.slice va vn vc, .int .i64 e0] := fun o => by
      have := (row_at (w.alloc (.cells #[.map (some M)] 280)) #[.slice va vn vc, .int .i64 e0] 294).alloc o
      rw [World.size_alloc] at this
      exact this
    have hb : ∀ o, Below w.heap.size w (((w.alloc (.cells #[.map (some M)] 280)).alloc (.cells #[.slice va vn vc, .int .i64 e0] 294)).alloc o) := fun o => ((allocB _ _).alloc (by simp) _).alloc (by simp; omega) _
    refine ⟨0, n, bs, P, [], rfl, Nat.zero_le _, by omega, hL0, HR, HQ, HVD, HWF, fun t ht => (by cases ht), HLY.out.mono (hb _).size fun g hg hl => ⟨(hb _).block g hl, hg⟩, HSL.out.mono (hb _).size fun g hg hl => ⟨(hb _).block g hl, hg⟩, HK.out.keep (hb _), ((row_at w _ _).alloc _).alloc _, ra _, Ag.of (hb _) (Nat.le_refl _), ?_, by simp⟩
    have := World.ownsMap_made (H := Unit) ((w.alloc (.cells #[.map (some M)] 280)).alloc (.cells #[.slice va vn vc, .int .i64 e0] 294)) Tryz.prog 330 unitElem
    rw [World.size_alloc, World.size_alloc] at this
    exact this
  case round =>
    clear HR HQ HVD HWF HLY HSL HK hL0
    obtain ⟨k, n1, r, P1, l, rfl, hk, hn1, hrL, HCK, HQ, HVD, HWF, HSO, HLY, HSL, HK, HRC, HRA, HA, HM, hz⟩ := hrel
    have hzw := HA.out.size
    by_cases hlt : k < vn
    · have hlt' : (k : Int) < vn := by omega
      have hdl : (us.drop (k * 4)).length = (vn - k) * 4 := by rw [List.length_drop, hvn, Nat.sub_mul]
      obtain ⟨u0, us0, hd0⟩ : ∃ u0 us0, us.drop (k * 4) = u0 :: us0 := by
        cases e : us.drop (k * 4) with
        | nil => rw [e] at hdl; simp at hdl; omega
        | cons a b => exact ⟨_, _, rfl⟩
      have hly := HLY.out
      rw [hd0] at hly
      obtain ⟨x, a, m, r', v, rest, rfl, rfl, hus, hrow, hly2⟩ := lay_br hly HWF.out
      rw [hus] at hd0
      have hc4 : ∀ j u, [Value.string ⟨(selV x).1.toArray⟩, .int .u32 ((selV x).2 : Nat), .int .i64 (a : Nat), v][j]? = some u → us[k * 4 + j]? = some u := fun j u hu => by
        rw [← List.getElem?_drop, hd0]
        match j, hu with
        | 0, hu => simpa using hu
        | 1, hu => simpa using hu
        | 2, hu => simpa using hu
        | 3, hu => simpa using hu
        | j + 4, hu => simp at hu
      have hrest : us.drop ((k + 1) * 4) = rest := by
        rw [show (k + 1) * 4 = k * 4 + 4 by omega, ← List.drop_drop, hd0]
        rfl
      rcases HSL.out with ⟨h0, _⟩ | ⟨g, m0, c0, hv, hgM, hgl, hm0, hmc, hm1, hcell⟩
      · rw [h0] at hvn; simp at hvn; omega
      injection hv with hv1 hv2 hv3
      subst hv1
      subst hv3
      subst hv2
      have c0 := hcell (k * 4) _ (hc4 0 _ rfl)
      have c1 := hcell (k * 4 + 1) _ (hc4 1 _ rfl)
      have c2 := hcell (k * 4 + 2) _ (hc4 2 _ rfl)
      have c3 := hcell (k * 4 + 3) _ (hc4 3 _ rfl)
      have hso : SelOk x := HVD.out.1
      obtain ⟨hs1, hs2⟩ := selV_bd hso
      have hkey := sel_key (selV x).1 (selV x).2 (by omega) (by omega)
      have HKEY : Hid (keyOf Tryz.prog 330 (.agg #[.string ⟨(selV x).1.toArray⟩, .int .u32 ((selV x).2 : Nat)]) = some (.string (selB x))) := hkey
      have hasE := has_seen l x HSO.out hso
      obtain ⟨F, hF⟩ : ∃ F, Hid ((selV x).1 = F) := ⟨_, rfl⟩
      obtain ⟨V, hV⟩ : ∃ V, Hid ((selV x).2 = V) := ⟨_, rfl⟩
      rw [hF.out, hV.out] at HKEY
      rw [hF.out] at c0
      rw [hV.out] at c1
      obtain ⟨ya, yn, yc, rfl⟩ : ∃ ya yn yc, v = .slice ya yn yc := by
        obtain ⟨ws, h1, _⟩ := hrow
        rcases h1 with ⟨_, h1⟩ | ⟨g, n, c, h1, _⟩
        · exact ⟨_, _, _, h1⟩
        · exact ⟨_, _, _, h1⟩
      have HROW : Hid (RowAt wr (fun g => g ≠ M ∧ g < w.heap.size) 1 (.slice ya yn yc) m) := hrow
      have HREST : Hid (Lay wr (fun g => g ≠ M ∧ g < w.heap.size) r' (us.drop ((k + 1) * 4))) := by rw [hrest]; exact hly2
      have qc := HRC.out.2.1
      have qa := HRA.out.2.1
      clear hly hrow hly2 hkey hcell hc4 hrest hd0 hus hdl HLY
      by_cases hx : x ∈ l
      · rw [decide_eq_true hx] at hasE
        have HAS : Hid (Maps.has (seenD l) (.string (selB x)) = true) := hasE
        have HR0 : Hid (R = some (7, a)) := by show _ = _; rw [← HCK.out, ck_br, if_pos hx]; rfl
        have kf := fun W => pfault_any W 7 a
        have HMA : ∀ o, (wr.alloc o).ownsMap Tryz.prog 330 unitElem (w.heap.size + 1 + 1) k (seenD l) := fun o => HM.out.alloc o
        clear hasE hx HCK
        go_wp2_with (first | (at_lookup; refine wpList_lookup_own_unit _ rfl _ _ 381 rfl 330 172 law Tryz.underlying381 (HZU.out _) (w.heap.size + 1 + 1) k _ rfl (HM.out.alloc _) _ _ rfl HKEY.out ?_; rw [HAS.out]) | (go_at_call 158; refine (kf _).mono ?_; rintro e w4 ⟨⟨v, rfl, hv⟩, hb4⟩))
        go_ret
        have hag := ((HA.out.then (allocB wr (.cells #[.string ⟨F.toArray⟩, .int .u32 V, .int .i64 a, .slice ya yn yc] 332))).then (allocB _ (.cells #[] 172))).then hb4
        refine ⟨hag, ?_⟩
        rw [HR0.out]
        exact ⟨_, rfl, hv.mono (by simp; omega)⟩
      · rw [decide_eq_false hx] at hasE
        have HAS : Hid (Maps.has (seenD l) (.string (selB x)) = false) := hasE
        have HCK2 : Hid (brFin (match ck id (P1 ++ [{ kind := 91, text := x, at_ := a }]) [] m with | some f => some f | none => ck id (P1 ++ flat id (.br x a m .nil)) (l ++ [x]) r') ((l ++ [x]) ++ keys r') e0 = R) := by
          show _ = _
          rw [← HCK.out, ck_br, if_neg hx]
          simp only [keys, List.append_assoc, List.singleton_append]
          rfl
        have hszb : nM (.br x a m r') = 1 + nM m + 1 + nM r' := by simp [nM, flat]; omega
        have hfb : P1 ++ flat id (.br x a m .nil) = ((P1 ++ [{ kind := 91, text := x, at_ := a }]) ++ flat id m) ++ [{ kind := 93 }] := by simp [flat]
        have HQ2 : Hid ((P1 ++ flat id (.br x a m .nil)) ++ flat id r' = Q) := by
          show _ = _
          rw [← HQ.out, List.append_assoc, ← flat_app]
          rfl
        have HMA := HM.out.alloc (.cells #[.string ⟨F.toArray⟩, .int .u32 V, .int .i64 a, .slice ya yn yc] 332)
        have HMA2 : Hid (((wr.alloc (.cells #[.string ⟨F.toArray⟩, .int .u32 V, .int .i64 a, .slice ya yn yc] 332)).alloc (.cells #[] 172)).ownsMap Tryz.prog 330 unitElem (w.heap.size + 1 + 1) k (seenD l)) := HMA.alloc _
        have hba : Below wr.heap.size wr ((wr.alloc (.cells #[.string ⟨F.toArray⟩, .int .u32 V, .int .i64 a, .slice ya yn yc] 332)).alloc (.cells #[] 172)) := (allocB _ _).alloc (by simp) _
        have rb : Row ((wr.alloc (.cells #[.string ⟨F.toArray⟩, .int .u32 V, .int .i64 a, .slice ya yn yc] 332)).alloc (.cells #[] 172)) wr.heap.size #[.string ⟨F.toArray⟩, .int .u32 V, .int .i64 a, .slice ya yn yc] := (row_at _ _ _).alloc _
        have HMA1 : Hid ((wr.alloc (.cells #[.string ⟨F.toArray⟩, .int .u32 V, .int .i64 a, .slice ya yn yc] 332)).ownsMap Tryz.prog 330 unitElem (w.heap.size + 1 + 1) k (seenD l)) := HMA
        clear hasE HMA HCK HQ hx
        go_wp2_with (first | (at_lookup; refine wpList_lookup_own_unit _ rfl _ _ 381 rfl 330 172 law Tryz.underlying381 (HZU.out _) (w.heap.size + 1 + 1) k _ rfl HMA1.out _ _ rfl HKEY.out ?_; rw [HAS.out]) | (at_mapUpdate; refine wpList_mapUpdate_own _ rfl _ _ _ 381 rfl 330 172 law Tryz.underlying381 (unitElem (H := Unit)) (w.heap.size + 1 + 1) k _ rfl HMA2.out (by unfold maxLen; omega) _ _ _ rfl rfl HKEY.out _ [] unitElem_mk ?_; intro w3 hmap3 hgrow3; have ha3 : Ag (w.heap.size + 1 + 1) _ w3 := ⟨hgrow3.os, hgrow3.tape, hgrow3.output, hgrow3.size, fun k hk hk2 => hgrow3.block k hk (fun e => hk2 (by injection e))⟩; have HRB3 : Hid (Row w3 wr.heap.size #[.string ⟨F.toArray⟩, .int .u32 V, .int .i64 a, .slice ya yn yc]) := rb.ag ha3 (by omega); have HRC3 : Hid (Row w3 w.heap.size #[.map (some M)]) := (HRC.out.keep hba).ag ha3 (by omega); have HRA3 : Hid (Row w3 (w.heap.size + 1) #[.slice (some ⟨g, 0, none⟩) vn vc, .int .i64 e0]) := (HRA.out.keep hba).ag ha3 (by omega); have qb3 := HRB3.out.2.1; have qc3 := HRC3.out.2.1))
        have HA3 : Hid (Ag M w w3) := (HA.out.then hba).grown hgrow3 (fun g e => by injection e with e; omega)
        have hz3 : w.heap.size + 1 + 1 < w3.heap.size := by have := ha3.size; simp at this; omega
        have HSL3 : Hid (SlAt w3 (fun g => g ≠ M ∧ g < w.heap.size) 4 (.slice (some ⟨g, 0, none⟩) vn vc) us) := HSL.out.mono (by have := ha3.size; simp at this; omega) fun y hy hl => ⟨(ha3.block y (by simp; omega) (by omega)).trans (hba.block y hl), hy⟩
        have HRE3 : Hid (Lay w3 (fun g => g ≠ M ∧ g < w.heap.size) r' (us.drop ((k + 1) * 4))) := HREST.out.mono (by have := ha3.size; simp at this; omega) fun y hy hl => ⟨(ha3.block y (by simp; omega) (by omega)).trans (hba.block y hl), hy⟩
        have hrow3 : RowAt w3 (fun g => g ≠ M) 1 (.slice ya yn yc) m := HROW.out.mono (by have := ha3.size; simp at this; omega) fun y hy hl => ⟨(ha3.block y (by simp; omega) (by omega)).trans (hba.block y hl), hy.1⟩
        have hK3 : Kmap w3 M n1 (P1 ++ [{ kind := 91, text := x, at_ := a }]) := by
          obtain ⟨D, h1, h2⟩ := (HK.out.keep hba).ag ha3 (by omega)
          exact ⟨D, h1, h2.none _ rfl⟩
        have km := HCC.out m (by omega) M n1 w3 _ (P1 ++ [{ kind := 91, text := x, at_ := a }]) HVD.out.2.1 HWF.out.2.1 (by omega) hK3 (by omega) hrow3
        have HM3 : Hid (w3.ownsMap Tryz.prog 330 unitElem (w.heap.size + 1 + 1) (k + 1) (seenD (l ++ [x]))) := by
          show World.ownsMap _ _ _ _ _ _ _
          rw [seenD_snoc]
          exact hmap3
        have HVD2 : Hid (Vd r') := HVD.out.2.2
        have HWF2 : Hid (Wf true r') := HWF.out.2.2
        have HSO2 : Hid (∀ t ∈ l ++ [x], SelOk t) := fun t ht => by
          rcases List.mem_append.1 ht with h | h
          · exact HSO.out t h
          · rw [List.mem_singleton.1 h]; exact HVD.out.1
        clear hmap3 hgrow3 ha3 rb hba hrow3 hK3 HM HMA1 HMA2 HK HRC HRA HSL HREST HROW qb3 qc3 c0 c1 c2 c3 qc qa HVD HWF HSO
        refine km.mono ?_
        rintro e w5 ⟨ha5, hm5⟩
        have HA5 : Hid (Ag M w w5) := HA3.out.trans ha5
        have HRC5 : Hid (Row w5 w.heap.size #[.map (some M)]) := HRC3.out.ag ha5 (by omega)
        have HRA5 : Hid (Row w5 (w.heap.size + 1) #[.slice (some ⟨g, 0, none⟩) vn vc, .int .i64 e0]) := HRA3.out.ag ha5 (by omega)
        have HSL5 : Hid (SlAt w5 (fun g => g ≠ M ∧ g < w.heap.size) 4 (.slice (some ⟨g, 0, none⟩) vn vc) us) := HSL3.out.mono ha5.size fun y hy hl => ⟨ha5.block y hl hy.1, hy⟩
        have HRE5 : Hid (Lay w5 (fun g => g ≠ M ∧ g < w.heap.size) r' (us.drop ((k + 1) * 4))) := HRE3.out.mono ha5.size fun y hy hl => ⟨ha5.block y hl hy.1, hy⟩
        have HM5 : Hid (w5.ownsMap Tryz.prog 330 unitElem (w.heap.size + 1 + 1) (k + 1) (seenD (l ++ [x]))) := HM3.out.kept (row := some M) ⟨ha5.os, ha5.tape, ha5.output, ha5.size, fun k hk hk2 => ha5.block k hk (fun e => hk2 (by rw [e]))⟩ (by intro e; injection e with e; omega)
        have hz5 := ha5.size
        have hz35 := HA3.out.size
        clear km ha5 HRC3 HRA3 HSL3 HRE3 HM3 HRB3
        cases hc : ck id (P1 ++ [{ kind := 91, text := x, at_ := a }]) [] m with
        | some f =>
          obtain ⟨er, a2⟩ := f
          rw [hc] at hm5 HCK2
          obtain ⟨v, rfl, hv⟩ := hm5
          have HV5 : Hid (Flt w3.heap.size w5 v er a2) := hv
          have HR0 : Hid (R = some (er, a2)) := HCK2.out.symm
          obtain ⟨b, rfl, _⟩ := hv
          clear hc HCK2
          go_wp2
          go_ret
          refine ⟨HA5.out, ?_⟩
          rw [HR0.out]
          exact ⟨_, rfl, HV5.out.mono (by omega)⟩
        | none =>
          rw [hc] at hm5 HCK2
          obtain ⟨rfl, n2, hn2, D, hD1, hD2⟩ := hm5
          have HK5 : Hid (Kmap w5 M n2 (P1 ++ flat id (.br x a m .nil))) := by
            show Kmap _ _ _ _
            rw [hfb]
            exact ⟨D, hD1, hD2.none _ rfl⟩
          have HC5 : Hid (brFin (ck id (P1 ++ flat id (.br x a m .nil)) (l ++ [x]) r') ((l ++ [x]) ++ keys r') e0 = R) := HCK2
          clear hc hD1 hD2 HCK2
          go_wp2
          go_roundw
          case rel => exact ⟨k + 1, n2, r', P1 ++ flat id (.br x a m .nil), l ++ [x], by go_num, hlt, by omega, by omega, HC5, HQ2, HVD2, HWF2, HSO2, HRE5, HSL5, HK5, HRC5, HRA5, HA5, HM5, by omega⟩
          case measure => simp [intOf]; omega
    · have hlt' : ¬ (k : Int) < vn := by omega
      have hr0 : r = .nil := lay_end (by have := HLY.out; rw [List.drop_eq_nil_of_le (by omega)] at this; exact this)
      have HQ0 : Hid (Q = P1) := by show _ = _; rw [← HQ.out, hr0]; simp [flat]
      have hasE := has_seen l Dk.otherW HSO.out other_ok
      have hkey := sel_key Dk.otherW 0 (by decide) (by decide)
      have HKEY : Hid (keyOf Tryz.prog 330 (.agg #[.string ⟨#[111, 116, 104, 101, 114]⟩, .int .u32 0]) = some (.string (selB Dk.otherW))) := hkey
      have qa := HRA.out.2.1
      by_cases ho : Dk.otherW ∈ l
      · rw [decide_eq_true ho] at hasE
        have HR0 : Hid (R = none) := by show _ = _; rw [← HCK.out, hr0]; simp [brFin, ck, keys, ho]
        have HAS : Hid (Maps.has (seenD l) (.string (selB Dk.otherW)) = true) := hasE
        clear hr0 HCK HQ hasE hkey ho
        go_wp2_with (at_lookup; refine wpList_lookup_own_unit _ rfl _ _ 381 rfl 330 172 law Tryz.underlying381 (HZU.out _) (w.heap.size + 1 + 1) k _ rfl HM.out _ _ rfl HKEY.out ?_; rw [HAS.out])
        go_ret
        refine ⟨HA.out.then (allocB _ _), ?_⟩
        rw [HR0.out, HQ0.out]
        exact ⟨rfl, n1, by omega, HK.out.keep (allocB _ _)⟩
      · rw [decide_eq_false ho] at hasE
        have HR0 : Hid (R = some (6, e0)) := by show _ = _; rw [← HCK.out, hr0]; simp [brFin, ck, keys, ho]
        have HAS : Hid (Maps.has (seenD l) (.string (selB Dk.otherW)) = false) := hasE
        have kf := fun W => pfault_any W 6 e0
        have hzz : w.heap.size + 1 < wr.heap.size := by omega
        have qa2 := (HRA.out.alloc (.cells #[] 172)).2.1
        clear hr0 HCK HQ hasE hkey ho
        go_wp2_with (first | (at_lookup; refine wpList_lookup_own_unit _ rfl _ _ 381 rfl 330 172 law Tryz.underlying381 (HZU.out _) (w.heap.size + 1 + 1) k _ rfl HM.out _ _ rfl HKEY.out ?_; rw [HAS.out]) | (go_at_call 158; refine (kf _).mono ?_; rintro e w4 ⟨⟨v, rfl, hv⟩, hb4⟩))
        go_ret
        refine ⟨(HA.out.then (allocB _ _)).then hb4, ?_⟩
        rw [HR0.out]
        exact ⟨_, rfl, hv.mono (HA.out.then (allocB _ _)).size⟩
end Go.Proofs.YtaepcfidpekflaaGreatDoor
namespace Go.Proofs.YtaepcfidpekflaaGreatDoor.Pg
open Go.Proofs.YtaepcfidpekflaaGreatDoor
theorem flat_len_o (o : Nat → Nat) : ∀ t : Tr, (flat o t).length = (flat id t).length := by
  intro t
  induction t <;> simp_all [flat]
/-- What the reading of a text comes to, as the program goes. -/
inductive PatR (s : T) : Sum (Nat × Nat) Tr → Prop
  | long (h : 1000 < s.length) : PatR s (.inl (1, 0))
  | text (h : s.length ≤ 1000) (h1 : Pn.ptsLen s < s.length) : PatR s (.inl (2, (Pn.pts s).length))
  | bad {e a} (h : s.length ≤ 1000) (h1 : Pn.ptsLen s = s.length) (h2 : Whole (Pn.pts s) (.inl (e, a))) : PatR s (.inl (e, a))
  | chk {t e a} (h : s.length ≤ 1000) (h1 : Pn.ptsLen s = s.length) (h2 : Whole (Pn.pts s) (.inr t)) (h3 : ck id [] [] t = some (e, a)) : PatR s (.inl (e, a))
  | ok {t} (h : s.length ≤ 1000) (h1 : Pn.ptsLen s = s.length) (h2 : Whole (Pn.pts s) (.inr t)) (h3 : ck id [] [] t = none) : PatR s (.inr t)
theorem whole_marks {rs : List T} (hc : Cps rs) {t : Tr} (h : Whole rs (.inr t)) : Rd rs (.msg 1 false) 0 (.ok t rs.length) ∧ (flat id t).length ≤ 3 * rs.flatten.length + 16 ∧ Wf false t ∧ Vd t ∧ Nm t ∧ In 0 rs.length t := by
  cases h with
  | ok h =>
    have hf := fine_of h (Nat.zero_le _)
    refine ⟨h, ?_, hf.1, vd_of h, nm_of hc h, hf.2.1⟩
    have hm := marks_ok hc h (List.getElem?_eq_none (Nat.le_refl _))
    have hs := Dk.marksGo_sz rs.flatten 16 (by omega) rs.flatten.length { i := 0, out := [], opens := [], err := 0, place := 0 } ⟨by simp, by simp⟩
    unfold Dk.marks at hm
    simp only at hm
    generalize Dk.marksGo rs.flatten rs.flatten.length { i := 0, out := [], opens := [], err := 0, place := 0 } = y at *
    have ho : y.out = flat (o rs) t ∧ y.i = rs.flatten.length := by
      split at hm
      · have h1 := congrArg Dk.Sc.out hm
        have h2 := congrArg Dk.Sc.i hm
        rw [Dk.fault_out] at h1
        rw [fault_i'] at h2
        exact ⟨h1, h2⟩
      · rw [hm]; exact ⟨rfl, rfl⟩
    have := hs.1
    rw [ho.1, ho.2, flat_len_o] at this
    exact this
end Go.Proofs.YtaepcfidpekflaaGreatDoor.Pg
namespace Go.Proofs.YtaepcfidpekflaaGreatDoor
open Go.RowKit Go.Maps Pg

theorem ck_all : ∀ (k : Nat) (t : Pg.Tr), nM t ≤ k → CkMsg t ∧ CkBrs t := by
  intro k
  induction k with
  | zero => intro t h; exact ⟨ckmsg_of t (fun bs hb => by omega), ckbrs_of t (fun m hm => by omega)⟩
  | succ k ih => intro t h; exact ⟨ckmsg_of t (fun bs hb => (ih bs (by omega)).2), ckbrs_of t (fun m hm => (ih m (by omega)).1)⟩
set_option maxHeartbeats 3200000 in
set_option maxRecDepth 100000 in
theorem pcheck_any (w : World) (v : Value) (t : Pg.Tr) (S : Nat → Prop) (hvd : Vd t) (hwf : Wf false t) (hn : nM t ≤ 1000000) (hrow : RowAt w S 1 v t) :
    Calls Tryz.prog 128 #[v] w fun en w' => Below w.heap.size w w' ∧ match ck id [] [] t with | some (er, a) => ∃ u, en = .returned u ∧ Flt w.heap.size w' u er a | none => en = .returned .nilIface := by
  have hmm := @run_makeMap Tryz.prog
  have hb1 : ∀ o o2, Below w.heap.size w ((w.alloc o).alloc o2) := fun o o2 => (allocB _ _).alloc (by simp) _
  obtain ⟨va, vn, vc, rfl⟩ : ∃ va vn vc, v = .slice va vn vc := by
    obtain ⟨us, h1, _⟩ := hrow
    rcases h1 with ⟨_, h1⟩ | ⟨g, n, c, h1, _⟩
    · exact ⟨_, _, _, h1⟩
    · exact ⟨_, _, _, h1⟩
  have hK : Kmap ((w.alloc (.map #[] 0)).alloc (.cells #[.map (some w.heap.size)] 280)) w.heap.size 0 [] := ⟨.map [], (World.ownsMap_made (H := Unit) w Tryz.prog 9 (plainElem Tryz.prog 362)).alloc _, ⟨isMap_empty, fun x => rfl, fun x hx => absurd rfl hx⟩⟩
  have hrow1 : RowAt ((w.alloc (.map #[] 0)).alloc (.cells #[.map (some w.heap.size)] 280)) (fun g => g ≠ w.heap.size) 1 (.slice va vn vc) t := hrow.mono (hb1 _ _).size fun g _ hl => ⟨(hb1 _ _).block g hl, by omega⟩
  have km := (ck_all _ t (Nat.le_refl _)).1 w.heap.size 0 _ _ [] hvd hwf (by omega) hK (by simp; omega) hrow1
  have HB : Hid (Below w.heap.size w ((w.alloc (.map #[] 0)).alloc (.cells #[.map (some w.heap.size)] 280))) := hb1 _ _
  have hz : ((w.alloc (.map #[] 0)).alloc (.cells #[.map (some w.heap.size)] 280)).heap.size = w.heap.size + 2 := by simp
  clear hK hrow hrow1 hb1
  obtain ⟨R, HR⟩ : ∃ R, Hid (ck id [] [] t = R) := ⟨ck id [] [] t, by show _ = _; rfl⟩
  rw [HR.out] at km ⊢
  go_enter Tryz.func128, Tryz.ntmps128
  go_wp2_with fail
  refine km.mono ?_
  rintro e w2 ⟨ha, hm⟩
  have HB2 : Hid (Below w.heap.size w w2) := HB.out.trans (ha.below (Nat.le_refl _) (by omega))
  clear km ha
  cases R with
  | none =>
    obtain ⟨rfl, _⟩ := hm
    go_wp2
    go_ret
    exact ⟨HB2.out, rfl⟩
  | some f =>
    obtain ⟨er, a⟩ := f
    obtain ⟨u, rfl, hu⟩ := hm
    rw [hz] at hu
    go_wp2
    go_ret
    exact ⟨HB2.out, u, rfl, hu.mono (by omega)⟩
/-- What the reading of a pattern answers. -/
def NewSaidP (s : Pg.T) (w : World) (e : Ending) (w' : World) : Prop := Below w.heap.size w w' ∧ ∃ r, PatR s r ∧ match r with
  | .inl (er, a) => ∃ v, e = .returned (.tuple #[.slice none 0 0, v]) ∧ Flt w.heap.size w' v er a
  | .inr t => ∃ v, e = .returned (.tuple #[v, .nilIface]) ∧ RowAt w' (fun g => w.heap.size ≤ g) 1 v t
set_option maxHeartbeats 3200000 in
set_option maxRecDepth 100000 in
theorem pnew_any (s : Pg.T) (w : World) (hU : Lib.Utf8Tabs 1 2 w) (hs : s.length ≤ 1000000) :
    Calls Tryz.prog 93 #[.string ⟨s.toArray⟩] w fun e w' => NewSaidP s w e w' := by
  have kr := prunesOf_any s w hU hs
  go_enter Tryz.func93, Tryz.ntmps93
  go_wp2_with fail
  refine kr.mono ?_
  rintro e w1 ⟨hb1, hm⟩
  clear kr
  rcases hm with ⟨hl, v, rfl, hv⟩ | ⟨hl, hp, v, rfl, hv⟩ | ⟨hl, hp, a, c, rfl, hr, hc⟩
  · have HV : Hid (Flt w.heap.size w1 v 1 0) := hv
    have HL : Hid (1000 < s.length) := hl
    obtain ⟨b, rfl, _⟩ := hv
    clear hl
    go_wp2
    go_ret2
    exact ⟨hb1, _, .long HL.out, _, rfl, HV.out⟩
  · have HV : Hid (Flt w.heap.size w1 v 2 (Pn.pts s).length) := hv
    have HL : Hid (s.length ≤ 1000 ∧ Pn.ptsLen s < s.length) := ⟨hl, hp⟩
    obtain ⟨b, rfl, _⟩ := hv
    clear hl hp
    go_wp2
    go_ret2
    exact ⟨hb1, _, .text HL.out.1 HL.out.2, _, rfl, HV.out⟩
  · have HL : Hid (s.length ≤ 1000 ∧ Pn.ptsLen s = s.length) := ⟨hl, hp⟩
    obtain ⟨hpt, hfl⟩ := pts_of s hp
    have hlen : (Pn.pts s).length ≤ 1000 := by
      have := pts_len_le hpt
      rw [hfl] at this
      omega
    have HPT : Hid (Pts (Pn.pts s) ∧ (Pn.pts s).flatten = s) := ⟨hpt, hfl⟩
    have kp := pparse_any w1 (Pn.pts s) a c hr hc hpt hlen
    clear hl hp hr hc hpt hfl
    generalize hrs : Pn.pts s = rs at *
    have HRS : Hid (Pn.pts s = rs) := hrs
    clear hrs
    go_wp2_with fail
    refine kp.mono ?_
    rintro e w2 ⟨hb2, r, hw, hm⟩
    have HB2 : Hid (Below w.heap.size w w2) := below_of hb1 hb2
    have HW : Hid (Whole (Pn.pts s) r) := by rw [HRS.out]; exact hw
    have hz1 := hb1.size
    clear kp
    cases r with
    | inl x =>
      obtain ⟨er, x⟩ := x
      obtain ⟨v, rfl, hv⟩ := hm
      have HV : Hid (Flt w1.heap.size w2 v er x) := hv
      obtain ⟨b, rfl, _⟩ := hv
      clear hw
      go_wp2
      go_ret2
      exact ⟨HB2.out, _, .bad HL.out.1 HL.out.2 HW.out, _, rfl, HV.out.mono hz1⟩
    | inr t =>
      obtain ⟨v, rfl, hrow⟩ := hm
      obtain ⟨w1', w2', w3', w4', w5', _⟩ := whole_marks HPT.out.1.cps hw
      have kc := pcheck_any w2 v t _ w4' w3' (by unfold nM; have := HL.out.1; have := HPT.out.2; rw [this] at w2'; omega) hrow
      have HROW : Hid (RowAt w2 (fun g => w1.heap.size ≤ g) 1 v t) := hrow
      obtain ⟨va, vn, vc, rfl⟩ : ∃ va vn vc, v = .slice va vn vc := by
        obtain ⟨us, h1, _⟩ := hrow
        rcases h1 with ⟨_, h1⟩ | ⟨g, n, c, h1, _⟩
        · exact ⟨_, _, _, h1⟩
        · exact ⟨_, _, _, h1⟩
      clear hw w1' w2' w3' w4' w5' hrow
      go_wp2_with fail
      refine kc.mono ?_
      rintro e w3 ⟨hb3, hm⟩
      have HB3 : Hid (Below w.heap.size w w3) := below_of HB2.out hb3
      have hz2 := HB2.out.size
      clear kc
      cases hk : ck id [] [] t with
      | some f =>
        obtain ⟨er, x⟩ := f
        rw [hk] at hm
        obtain ⟨u, rfl, hu⟩ := hm
        have HV : Hid (Flt w2.heap.size w3 u er x) := hu
        have HK : Hid (ck id [] [] t = some (er, x)) := hk
        obtain ⟨b, rfl, _⟩ := hu
        clear hk
        go_wp2
        go_ret2
        exact ⟨HB3.out, _, .chk HL.out.1 HL.out.2 HW.out HK.out, _, rfl, HV.out.mono hz2⟩
      | none =>
        rw [hk] at hm
        obtain rfl := hm
        have HK : Hid (ck id [] [] t = none) := hk
        have HROW3 : Hid (RowAt w3 (fun g => w1.heap.size ≤ g) 1 (.slice va vn vc) t) := HROW.out.keep hb3
        clear hk
        go_wp2
        go_ret2
        exact ⟨HB3.out, _, .ok HL.out.1 HL.out.2 HW.out HK.out, _, rfl, HROW3.out.wide (fun g hg => by omega)⟩
end Go.Proofs.YtaepcfidpekflaaGreatDoor
namespace Go.Proofs.YtaepcfidpekflaaGreatDoor.Pg
open Go.Proofs.YtaepcfidpekflaaGreatDoor

def Fk (P P' : List Dk.Mark) : Prop := ∀ n, Dk.firstK n P = Dk.firstK n P'
theorem firstK_app (n : T) (P Q : List Dk.Mark) : Dk.firstK n (P ++ Q) = if Dk.firstK n P = 0 then Dk.firstK n Q else Dk.firstK n P := by
  induction P with
  | nil => simp [Dk.firstK]
  | cons m P ih =>
    rw [List.cons_append, Dk.firstK, Dk.firstK]
    by_cases h : Dk.sortM m ≠ 0 ∧ m.name = n
    · rw [if_pos h, if_pos h, if_neg h.1]
    · rw [if_neg h, if_neg h, ih]
theorem Fk.app {P P' Q Q' : List Dk.Mark} (h : Fk P P') (h2 : Fk Q Q') : Fk (P ++ Q) (P' ++ Q') := fun n => by rw [firstK_app, firstK_app, h n, h2 n]
theorem Fk.one {m m' : Dk.Mark} (h : Dk.sortM m = Dk.sortM m') (h2 : m.name = m'.name) : Fk [m] [m'] := fun n => by simp only [Dk.firstK, h, h2]
theorem Fk.flat (o o' : Nat → Nat) : ∀ t : Tr, Fk (flat o t) (flat o' t) := by
  intro t
  induction t with
  | nil => exact fun n => rfl
  | text t r ih => exact Fk.app (Fk.one rfl rfl) ih
  | sign r ih => exact Fk.app (Fk.one rfl rfl) ih
  | simple n a r ih => exact Fk.app (Fk.one rfl rfl) ih
  | num n a r ih => exact Fk.app (Fk.one rfl rfl) ih
  | sel n a bs e r ih1 ih2 => exact Fk.app (Fk.one rfl rfl) (Fk.app ih1 (Fk.app (Fk.one rfl rfl) ih2))
  | plu n a ord off bs e r ih1 ih2 => exact Fk.app (Fk.one rfl rfl) (Fk.app ih1 (Fk.app (Fk.one rfl rfl) ih2))
  | br w a m r ih1 ih2 => exact Fk.app (P := [{ kind := 91, text := w, at_ := o a }]) (P' := [{ kind := 91, text := w, at_ := o' a }]) (Fk.one rfl rfl) (Fk.app ih1 (Fk.app (P := [{ kind := 93 }]) (P' := [{ kind := 93 }]) (Fk.one rfl rfl) ih2))
theorem kindBad_o {P P' : List Dk.Mark} {m m' : Dk.Mark} (h : Fk P P') (h1 : Dk.sortM m = Dk.sortM m') (h2 : m.name = m'.name) : kindBad P m ↔ kindBad P' m' := by
  rw [kindBad_iff, kindBad_iff]
  rw [h, h1, h2]
theorem ck_o (o o' : Nat → Nat) : ∀ (t : Tr) (P P' : List Dk.Mark) (seen : List T), Fk P P' → ck o P seen t = ck o' P' seen t := by
  intro t
  induction t with
  | nil => intro P P' seen h; rfl
  | text t r ih => intro P P' seen h; exact ih _ _ _ (h.app (Fk.one rfl rfl))
  | sign r ih => intro P P' seen h; exact ih _ _ _ (h.app (Fk.one rfl rfl))
  | simple n a r ih => intro P P' seen h; exact ih _ _ _ (h.app (Fk.one rfl rfl))
  | num n a r ih =>
    intro P P' seen h
    have hk := kindBad_o (m := nodeM o (.num n a r)) (m' := nodeM o' (.num n a r)) h rfl rfl
    have hr := ih _ _ seen (h.app (Fk.one (m := nodeM o (.num n a r)) (m' := nodeM o' (.num n a r)) rfl rfl))
    rw [ck, ck, hr]
    by_cases hb : kindBad P (nodeM o (.num n a r))
    · rw [if_pos hb, if_pos (hk.1 hb)]
    · rw [if_neg hb, if_neg (fun h => hb (hk.2 h))]
  | sel n a bs e r ih1 ih2 =>
    intro P P' seen h
    have hk := kindBad_o (m := nodeM o (.sel n a bs e r)) (m' := nodeM o' (.sel n a bs e r)) h rfl rfl
    have h1 := ih1 _ _ [] (h.app (Fk.one (m := nodeM o (.sel n a bs e r)) (m' := nodeM o' (.sel n a bs e r)) rfl rfl))
    have h2 := ih2 _ _ seen (h.app (Fk.flat o o' (.sel n a bs e .nil)))
    rw [ck, ck, h1, h2]
    by_cases hb : kindBad P (nodeM o (.sel n a bs e r))
    · rw [if_pos hb, if_pos (hk.1 hb)]
    · rw [if_neg hb, if_neg (fun h => hb (hk.2 h))]
  | plu n a ord off bs e r ih1 ih2 =>
    intro P P' seen h
    have hk := kindBad_o (m := nodeM o (.plu n a ord off bs e r)) (m' := nodeM o' (.plu n a ord off bs e r)) h rfl rfl
    have h1 := ih1 _ _ [] (h.app (Fk.one (m := nodeM o (.plu n a ord off bs e r)) (m' := nodeM o' (.plu n a ord off bs e r)) rfl rfl))
    have h2 := ih2 _ _ seen (h.app (Fk.flat o o' (.plu n a ord off bs e .nil)))
    rw [ck, ck, h1, h2]
    by_cases hb : kindBad P (nodeM o (.plu n a ord off bs e r))
    · rw [if_pos hb, if_pos (hk.1 hb)]
    · rw [if_neg hb, if_neg (fun h => hb (hk.2 h))]
  | br w a m r ih1 ih2 =>
    intro P P' seen h
    have h1 := ih1 (P ++ [{ kind := 91, text := w, at_ := o a }]) (P' ++ [{ kind := 91, text := w, at_ := o' a }]) [] (h.app (Fk.one rfl rfl))
    have h2 := ih2 _ _ (seen ++ [w]) (h.app (Fk.flat o o' (.br w a m .nil)))
    rw [ck, ck, h1, h2]
/-- Where a fault of a tree stands. -/
theorem ck_in {o : Nat → Nat} {N : Nat} (mono : ∀ a b, a < b → b < N → o a < o b) {t : Tr} (hw : Wf false t) (h : In 0 N t) {e a : Nat} (hk : ck o [] [] t = some (e, a)) : a < N ∧ e ≠ 0 := by
  have hl := ck_least mono t false [] [] 0 N (Nat.le_refl _) hw h
  rw [hk] at hl
  exact ⟨hl.2.2.1, hl.2.2.2.1⟩
/-- The tree of a text that is a pattern as far as its form goes. -/
theorem tree_marks {s : T} (h1 : Pn.ptsLen s = s.length) {t : Tr} (h2 : Whole (Pn.pts s) (.inr t)) :
    (Dk.marks s).err = 0 ∧ (Dk.marks s).place = 0 ∧ (Dk.marks s).out = flat (o (Pn.pts s)) t ∧ (flat (o (Pn.pts s)) t).length ≤ 3 * s.length + 16 ∧
    Dk.faults (flat (o (Pn.pts s)) t) = (match ck id [] [] t with | none => (0, 0) | some f => (f.1, o (Pn.pts s) f.2)) ∧ (∀ e a, ck id [] [] t = some (e, a) → a ≤ (Pn.pts s).length ∧ e ≠ 0) := by
  obtain ⟨hp, hf⟩ := pts_of s h1
  obtain ⟨w1, w2, w3, w4, w5, w6⟩ := whole_marks hp.cps h2
  have hm := marks_ok hp.cps w1 (List.getElem?_eq_none (Nat.le_refl _))
  rw [hf] at hm w2
  have hmono : ∀ a b, a < b → b < (Pn.pts s).length → o (Pn.pts s) a < o (Pn.pts s) b := fun a b h h' => o_mono hp.cps a b h (by omega)
  rw [hm]
  refine ⟨rfl, rfl, rfl, by rw [flat_len_o]; exact w2, ?_, ?_⟩
  · rw [faults_flat hmono t w3 w6, ck_o (o (Pn.pts s)) id t [] [] [] (fun n => rfl)]
    cases ck id [] [] t <;> rfl
  · intro e a hk
    rw [ck_o id (o (Pn.pts s)) t [] [] [] (fun n => rfl)] at hk
    have := ck_in hmono w3 w6 hk
    exact ⟨by omega, this.2⟩
theorem bad_marks {s : T} (h1 : Pn.ptsLen s = s.length) {e a : Nat} (h2 : Whole (Pn.pts s) (.inl (e, a))) : Bad (Dk.marks s) e (o (Pn.pts s) a) ∧ a ≤ (Pn.pts s).length := by
  obtain ⟨hp, hf⟩ := pts_of s h1
  cases h2 with
  | bad h =>
    have := marks_bad hp.cps h
    rw [hf] at this
    exact ⟨this, (fine_of h (Nat.zero_le _)).2⟩
  | brace h hq =>
    have := marks_brace hp.cps h hq
    rw [hf] at this
    refine ⟨this, ?_⟩
    rcases Nat.lt_or_ge a (Pn.pts s).length with h' | h'
    · omega
    · rw [List.getElem?_eq_none h'] at hq; cases hq
theorem ahead {s : T} (h1 : Pn.ptsLen s = s.length) {a : Nat} (ha : a ≤ (Pn.pts s).length) : (Pn.pts (s.take (o (Pn.pts s) a))).length = a := by
  obtain ⟨hp, hf⟩ := pts_of s h1
  have := pts_ahead hp a ha
  rw [hf] at this
  exact this
theorem read_ok {s : T} {r : Sum (Nat × Nat) Tr} (h : PatR s r) : Dk.ReadOk s := by
  intro hl hp
  obtain ⟨hpt, hf⟩ := pts_of s hp
  have hole : ∀ a, o (Pn.pts s) a ≤ s.length := fun a => by have := o_le (Pn.pts s) a; rw [hf] at this; exact this
  have tree : ∀ t, Whole (Pn.pts s) (.inr t) → (Dk.marks s).place ≤ s.length ∧ ((Dk.marks s).err = 0 → (Dk.marks s).out.length ≤ 3016 ∧ (∀ i m, (Dk.marks s).out[i]? = some m → m.kind = 40 → Dk.endAt (Dk.marks s).out i < (Dk.marks s).out.length) ∧ (Dk.faults (Dk.marks s).out).2 ≤ s.length) := by
    intro t ht
    obtain ⟨_, g2, g3, g4, g5, g6⟩ := tree_marks hp ht
    rw [g2, g3]
    refine ⟨Nat.zero_le _, fun _ => ⟨by omega, ends_flat t, ?_⟩⟩
    rw [g5]
    cases hk : ck id [] [] t with
    | none => exact Nat.zero_le _
    | some f => exact hole _
  cases h with
  | long h => omega
  | text h h1 => omega
  | bad h h1 h2 =>
    obtain ⟨⟨g1, g2, g3⟩, _⟩ := bad_marks h1 h2
    rw [g1, g2]
    exact ⟨hole _, fun h => absurd h g3⟩
  | chk h h1 h2 h3 => exact tree _ h2
  | ok h h1 h2 h3 => exact tree _ h2
theorem read_bad {s : T} {e a : Nat} (h : PatR s (.inl (e, a))) : Dk.readS s = ([], e, a) ∧ e ≠ 0 := by
  unfold Dk.readS
  cases h with
  | long h => rw [if_pos h]; exact ⟨rfl, by decide⟩
  | text h h1 => rw [if_neg (by omega), if_pos h1]; exact ⟨rfl, by decide⟩
  | bad h h1 h2 =>
    obtain ⟨⟨g1, g2, g3⟩, g4⟩ := bad_marks h1 h2
    rw [if_neg (by omega), if_neg (by omega), g1, g2, if_pos g3, ahead h1 g4]
    exact ⟨rfl, g3⟩
  | chk h h1 h2 h3 =>
    obtain ⟨g1, g2, g3, g4, g5, g6⟩ := tree_marks h1 h2
    obtain ⟨k1, k2⟩ := g6 _ _ h3
    rw [h3] at g5
    rw [if_neg (by omega), if_neg (by omega), g1, if_neg (by simp), g3, g5, if_pos k2, ahead h1 k1]
    exact ⟨rfl, k2⟩
theorem read_good {s : T} {t : Tr} (h : PatR s (.inr t)) : Dk.readS s = (flat (o (Pn.pts s)) t, 0, 0) := by
  unfold Dk.readS
  cases h with
  | ok h h1 h2 h3 =>
    obtain ⟨g1, g2, g3, g4, g5, g6⟩ := tree_marks h1 h2
    rw [h3] at g5
    rw [if_neg (by omega), if_neg (by omega), g1, if_neg (by simp), g3, g5, if_neg (by simp)]
end Go.Proofs.YtaepcfidpekflaaGreatDoor.Pg
