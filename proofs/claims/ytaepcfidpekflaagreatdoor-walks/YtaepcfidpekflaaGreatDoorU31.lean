/-
  Several texts in one (Ib). By the verifier.
-/
import Derived.Test.YtaepcfidpekflaaGreatDoorU30
namespace Go.Proofs.YtaepcfidpekflaaGreatDoor.Pg
open Go.Proofs.YtaepcfidpekflaaGreatDoor
theorem ck_br (o : Nat → Nat) (P : List Dk.Mark) (seen : List T) (w : T) (a : Nat) (m r : Tr) : ck o P seen (.br w a m r) = if w ∈ seen then some (7, a) else match ck o (P ++ [{ kind := 91, text := w, at_ := o a }]) [] m with | some f => some f | none => ck o (P ++ flat o (.br w a m .nil)) (seen ++ [w]) r := by
  simp only [ck]
  rfl
end Go.Proofs.YtaepcfidpekflaaGreatDoor.Pg
namespace Go.Proofs.YtaepcfidpekflaaGreatDoor
open Go.RowKit Go.Maps Pg

/-- The selectors that have been met. -/
def seenD (l : List Pg.T) : DataW Unit := setOf (.agg []) (l.map fun t => Lit.string (selB t))
theorem selB_inj {a b : Pg.T} (ha : SelOk a) (hb : SelOk b) (h : selB a = selB b) : a = b := by
  obtain ⟨a1, a2⟩ := selV_bd ha
  obtain ⟨b1, b2⟩ := selV_bd hb
  have k1 := sel_key (selV a).1 (selV a).2 (by omega) (by omega)
  have k2 := sel_key (selV b).1 (selV b).2 (by omega) (by omega)
  have e : keyBytes [.string (selV a).1, .int .u32 ((selV a).2 : Nat)] = keyBytes [.string (selV b).1, .int .u32 ((selV b).2 : Nat)] := h
  rw [e] at k1
  have := sel_keyed.inj k1 k2
  simp only [Value.agg.injEq, Array.mk.injEq, List.cons.injEq, Value.string.injEq, ByteArray.mk.injEq, Value.int.injEq, true_and, and_true] at this
  apply selV_inj ha hb
  exact Prod.ext this.1 (by omega)
theorem has_seen (l : List Pg.T) (x : Pg.T) (hl : ∀ t ∈ l, SelOk t) (hx : SelOk x) : Maps.has (seenD l) (.string (selB x)) = decide (x ∈ l) := by
  unfold seenD
  rw [has_setOf _ _ _ (fun y hy => by obtain ⟨_, _, rfl⟩ := List.mem_map.1 hy; trivial), List.any_map]
  induction l with
  | nil => rfl
  | cons a r ih =>
    rw [List.any_cons, ih (fun t ht => hl t (by simp [ht]))]
    have : ((fun y : Lit => y.sameKey (.string (selB x))) ∘ fun t => Lit.string (selB t)) a = decide (x = a) := by
      show (Lit.string (selB a)).sameKey (.string (selB x)) = _
      by_cases e : x = a
      · subst e; simp [Lit.sameKey]
      · have e' : ¬ selB a = selB x := fun h => e (selB_inj (hl a (by simp)) hx h).symm
        simp [Lit.sameKey, e, e']
    rw [this]
    simp
theorem seenD_snoc (l : List Pg.T) (t : Pg.T) : seenD (l ++ [t]) = (seenD l).put (.string (selB t)) (.agg []) := by
  unfold seenD
  rw [List.map_append, List.map_singleton, setOf_snoc]
theorem other_ok : SelOk Dk.otherW := .inr ⟨by decide, by decide, by decide⟩
def brFin (r : Option (Nat × Nat)) (l : List Pg.T) (e0 : Nat) : Option (Nat × Nat) := match r with | some f => some f | none => if Dk.otherW ∈ l then none else some (6, e0)
theorem lay_br {w : World} {S : Nat → Prop} {t : Pg.Tr} {u : Value} {us : List Value} (h : Lay w S t (u :: us)) (hw : Wf true t) : ∃ x a m r v rest, t = .br x a m r ∧ u = .string ⟨(selV x).1.toArray⟩ ∧ us = .int .u32 ((selV x).2 : Nat) :: .int .i64 (a : Nat) :: v :: rest ∧ RowAt w S 1 v m ∧ Lay w S r rest := by
  cases h with
  | br hs hb h => exact ⟨_, _, _, _, _, _, rfl, rfl, rfl, ⟨_, hs, hb⟩, h⟩
  | text => exact absurd hw.1 (by simp)
  | sign => exact absurd hw.1 (by simp)
  | simple => exact absurd hw.1 (by simp)
  | num => exact absurd hw.1 (by simp)
  | sel => exact absurd hw.1 (by simp)
  | plu => exact absurd hw.1 (by simp)
set_option maxHeartbeats 6400000 in
set_option maxRecDepth 100000 in
theorem ckbrs_of (bs : Pg.Tr) (hC : ∀ m, nM m < nM bs → CkMsg m) : CkBrs bs := by
  intro M n w v e0 P hvd hwf hn hK hMw hrow
  obtain ⟨us, hsl, hlay⟩ := hrow
  obtain ⟨va, vn, vc, rfl, hvn, hul⟩ : ∃ va vn vc, v = .slice va vn vc ∧ us.length = vn * 4 ∧ vn ≤ 1000 := by
    rcases hsl with ⟨h0, h1⟩ | ⟨g, n, c, h1, _, _, h4, _, h6, _⟩
    · exact ⟨_, _, _, h1, by rw [h0]; rfl, by omega⟩
    · exact ⟨_, _, _, h1, h4, h6⟩
  have hmm := @run_makeMap Tryz.prog
  have HVD : Hid (Vd bs) := hvd
  have HWF : Hid (Wf true bs) := hwf
  have HSL : Hid (SlAt w (fun g => g ≠ M ∧ g < w.heap.size) 4 (.slice va vn vc) us) := hsl.mono (Nat.le_refl _) fun g hg hl => ⟨rfl, hg, hl⟩
  have HLY : Hid (Lay w (fun g => g ≠ M ∧ g < w.heap.size) bs us) := hlay.mono (Nat.le_refl _) fun g hg hl => ⟨rfl, hg, hl⟩
  have HK : Hid (Kmap w M n P) := hK
  obtain ⟨R, HR⟩ : ∃ R, Hid (brFin (ck id P [] bs) ([] ++ keys bs) e0 = R) := ⟨brFin (ck id P [] bs) ([] ++ keys bs) e0, by show _ = _; rfl⟩
  change Calls _ _ _ _ fun en w' => CkSaid M (n + nM bs) (brFin (ck id P [] bs) ([] ++ keys bs) e0) (P ++ flat id bs) w en w'
  rw [HR.out]
  obtain ⟨Q, HQ⟩ : ∃ Q, Hid (P ++ flat id bs = Q) := ⟨_, rfl⟩
  rw [HQ.out]
  obtain ⟨L, HL⟩ : ∃ L, L = nM bs := ⟨_, rfl⟩
  have HCC : Hid (∀ m, nM m < L → CkMsg m) := by rw [HL]; exact hC
  rw [← HL] at hn ⊢
  have hL0 : nM bs ≤ L := by omega
  have law := sel_keyed
  have HZU : Hid (∀ W, (zeroValue 172).run Tryz.prog W = .ok (.agg #[]) W) := Tryz.zeroValue172
  clear hsl hlay hK hvd hwf hC HL
  go_enter Tryz.func224, Tryz.ntmps224
  go_wp2_with fail
  go_loopw [17] (fun i wr => ∃ (k n1 : Nat) (r : Pg.Tr) (P1 : List Dk.Mark) (l : List Pg.T), i = .int .i64 k ∧ k ≤ vn ∧ n1 + nM r ≤ n + L ∧ nM r ≤ L ∧ Hid (brFin (ck id P1 l r) (l ++ keys r) e0 = R) ∧ Hid (P1 ++ flat id r = Q) ∧ Hid (Vd r) ∧ Hid (Wf true r) ∧ Hid (∀ t ∈ l, SelOk t) ∧ Hid (Lay wr (fun g => g ≠ M ∧ g < w.heap.size) r (us.drop (k * 4))) ∧ Hid (SlAt wr (fun g => g ≠ M ∧ g < w.heap.size) 4 (.slice va vn vc) us) ∧ Hid (Kmap wr M n1 P1) ∧ Hid (Row wr w.heap.size #[.map (some M)]) ∧ Hid (Row wr (w.heap.size + 1) #[.slice va vn vc, .int .i64 e0]) ∧ Hid (Ag M w wr) ∧ Hid (wr.ownsMap Tryz.prog 330 unitElem (w.heap.size + 1 + 1) k (seenD l)) ∧ w.heap.size + 1 + 1 < wr.heap.size) (fun i _ => vn - (intOf i).toNat)
  case atStart =>
    have ra : ∀ o, Row (((w.alloc (.cells #[.map (some M)] 280)).alloc (.cells #[.slice va vn vc, .int .i64 e0] 294)).alloc o) (w.heap.size + 1) #[.slice va vn vc, .int .i64 e0] := fun o => by
      have := (row_at (w.alloc (.cells #[.map (some M)] 280)) #[.slice va vn vc, .int .i64 e0] 294).alloc o
      rw [World.size_alloc] at this
      exact this
    have hb : ∀ o, Below w.heap.size w (((w.alloc (.cells #[.map (some M)] 280)).alloc (.cells #[.slice va vn vc, .int .i64 e0] 294)).alloc o) := fun o => ((allocB _ _).alloc (by simp) _).alloc (by simp; omega) _
    refine ⟨0, n, bs, P, [], rfl, Nat.zero_le _, by omega, hL0, HR, HQ, HVD, HWF, fun t ht => (by cases ht), HLY.out.mono (hb _).size fun g hg hl => ⟨(hb _).block g hl, hg⟩, HSL.out.mono (hb _).size fun g hg hl => ⟨(hb _).block g hl, hg⟩, HK.out.keep (hb _), ((row_at w _ _).alloc _).alloc _, ra _, Ag.of (hb _) (Nat.le_refl _), ?_, by simp⟩
    have := World.ownsMap_made (H := Unit) ((w.alloc (.cells #[.map (some M)] 280)).alloc (.cells #[.slice va vn vc, .int .i64 e0] 294)) Tryz.prog 330 unitElem
    rw [World.size_alloc, World.size_alloc] at this
    exact this
  case round =>
    clear HR HQ HVD HWF HLY HSL HK hL0
    obtain ⟨k, n1, r, P1, l, rfl, hk, hn1, hrL, HCK, HQ, HVD, HWF, HSO, HLY, HSL, HK, HRC, HRA, HA, HM, hz⟩ := hrel
    have hzw := HA.out.size
    by_cases hlt : k < vn
    · have hlt' : (k : Int) < vn := by omega
      have hdl : (us.drop (k * 4)).length = (vn - k) * 4 := by rw [List.length_drop, hvn, Nat.sub_mul]
      obtain ⟨u0, us0, hd0⟩ : ∃ u0 us0, us.drop (k * 4) = u0 :: us0 := by
        cases e : us.drop (k * 4) with
        | nil => rw [e] at hdl; simp at hdl; omega
        | cons a b => exact ⟨_, _, rfl⟩
      have hly := HLY.out
      rw [hd0] at hly
      obtain ⟨x, a, m, r', v, rest, rfl, rfl, hus, hrow, hly2⟩ := lay_br hly HWF.out
      rw [hus] at hd0
      have hc4 : ∀ j u, [Value.string ⟨(selV x).1.toArray⟩, .int .u32 ((selV x).2 : Nat), .int .i64 (a : Nat), v][j]? = some u → us[k * 4 + j]? = some u := fun j u hu => by
        rw [← List.getElem?_drop, hd0]
        match j, hu with
        | 0, hu => simpa using hu
        | 1, hu => simpa using hu
        | 2, hu => simpa using hu
        | 3, hu => simpa using hu
        | j + 4, hu => simp at hu
      have hrest : us.drop ((k + 1) * 4) = rest := by
        rw [show (k + 1) * 4 = k * 4 + 4 by omega, ← List.drop_drop, hd0]
        rfl
      rcases HSL.out with ⟨h0, _⟩ | ⟨g, m0, c0, hv, hgM, hgl, hm0, hmc, hm1, hcell⟩
      · rw [h0] at hvn; simp at hvn; omega
      injection hv with hv1 hv2 hv3
      subst hv1
      subst hv3
      subst hv2
      have c0 := hcell (k * 4) _ (hc4 0 _ rfl)
      have c1 := hcell (k * 4 + 1) _ (hc4 1 _ rfl)
      have c2 := hcell (k * 4 + 2) _ (hc4 2 _ rfl)
      have c3 := hcell (k * 4 + 3) _ (hc4 3 _ rfl)
      have hso : SelOk x := HVD.out.1
      obtain ⟨hs1, hs2⟩ := selV_bd hso
      have hkey := sel_key (selV x).1 (selV x).2 (by omega) (by omega)
      have HKEY : Hid (keyOf Tryz.prog 330 (.agg #[.string ⟨(selV x).1.toArray⟩, .int .u32 ((selV x).2 : Nat)]) = some (.string (selB x))) := hkey
      have hasE := has_seen l x HSO.out hso
      obtain ⟨F, hF⟩ : ∃ F, Hid ((selV x).1 = F) := ⟨_, rfl⟩
      obtain ⟨V, hV⟩ : ∃ V, Hid ((selV x).2 = V) := ⟨_, rfl⟩
      rw [hF.out, hV.out] at HKEY
      rw [hF.out] at c0
      rw [hV.out] at c1
      obtain ⟨ya, yn, yc, rfl⟩ : ∃ ya yn yc, v = .slice ya yn yc := by
        obtain ⟨ws, h1, _⟩ := hrow
        rcases h1 with ⟨_, h1⟩ | ⟨g, n, c, h1, _⟩
        · exact ⟨_, _, _, h1⟩
        · exact ⟨_, _, _, h1⟩
      have HROW : Hid (RowAt wr (fun g => g ≠ M ∧ g < w.heap.size) 1 (.slice ya yn yc) m) := hrow
      have HREST : Hid (Lay wr (fun g => g ≠ M ∧ g < w.heap.size) r' (us.drop ((k + 1) * 4))) := by rw [hrest]; exact hly2
      have qc := HRC.out.2.1
      have qa := HRA.out.2.1
      clear hly hrow hly2 hkey hcell hc4 hrest hd0 hus hdl HLY
      by_cases hx : x ∈ l
      · rw [decide_eq_true hx] at hasE
        have HAS : Hid (Maps.has (seenD l) (.string (selB x)) = true) := hasE
        have HR0 : Hid (R = some (7, a)) := by show _ = _; rw [← HCK.out, ck_br, if_pos hx]; rfl
        have kf := fun W => pfault_any W 7 a
        have HMA : ∀ o, (wr.alloc o).ownsMap Tryz.prog 330 unitElem (w.heap.size + 1 + 1) k (seenD l) := fun o => HM.out.alloc o
        clear hasE hx HCK
        go_wp2_with (first | (at_lookup; refine wpList_lookup_own_unit _ rfl _ _ 381 rfl 330 172 law Tryz.underlying381 (HZU.out _) (w.heap.size + 1 + 1) k _ rfl (HM.out.alloc _) _ _ rfl HKEY.out ?_; rw [HAS.out]) | (go_at_call 158; refine (kf _).mono ?_; rintro e w4 ⟨⟨v, rfl, hv⟩, hb4⟩))
        go_ret
        have hag := ((HA.out.then (allocB wr (.cells #[.string ⟨F.toArray⟩, .int .u32 V, .int .i64 a, .slice ya yn yc] 332))).then (allocB _ (.cells #[] 172))).then hb4
        refine ⟨hag, ?_⟩
        rw [HR0.out]
        exact ⟨_, rfl, hv.mono (by simp; omega)⟩
      · rw [decide_eq_false hx] at hasE
        have HAS : Hid (Maps.has (seenD l) (.string (selB x)) = false) := hasE
        have HCK2 : Hid (brFin (match ck id (P1 ++ [{ kind := 91, text := x, at_ := a }]) [] m with | some f => some f | none => ck id (P1 ++ flat id (.br x a m .nil)) (l ++ [x]) r') ((l ++ [x]) ++ keys r') e0 = R) := by
          show _ = _
          rw [← HCK.out, ck_br, if_neg hx]
          simp only [keys, List.append_assoc, List.singleton_append]
          rfl
        have hszb : nM (.br x a m r') = 1 + nM m + 1 + nM r' := by simp [nM, flat]; omega
        have hfb : P1 ++ flat id (.br x a m .nil) = ((P1 ++ [{ kind := 91, text := x, at_ := a }]) ++ flat id m) ++ [{ kind := 93 }] := by simp [flat]
        have HQ2 : Hid ((P1 ++ flat id (.br x a m .nil)) ++ flat id r' = Q) := by
          show _ = _
          rw [← HQ.out, List.append_assoc, ← flat_app]
          rfl
        have HMA := HM.out.alloc (.cells #[.string ⟨F.toArray⟩, .int .u32 V, .int .i64 a, .slice ya yn yc] 332)
        have HMA2 : Hid (((wr.alloc (.cells #[.string ⟨F.toArray⟩, .int .u32 V, .int .i64 a, .slice ya yn yc] 332)).alloc (.cells #[] 172)).ownsMap Tryz.prog 330 unitElem (w.heap.size + 1 + 1) k (seenD l)) := HMA.alloc _
        have hba : Below wr.heap.size wr ((wr.alloc (.cells #[.string ⟨F.toArray⟩, .int .u32 V, .int .i64 a, .slice ya yn yc] 332)).alloc (.cells #[] 172)) := (allocB _ _).alloc (by simp) _
        have rb : Row ((wr.alloc (.cells #[.string ⟨F.toArray⟩, .int .u32 V, .int .i64 a, .slice ya yn yc] 332)).alloc (.cells #[] 172)) wr.heap.size #[.string ⟨F.toArray⟩, .int .u32 V, .int .i64 a, .slice ya yn yc] := (row_at _ _ _).alloc _
        have HMA1 : Hid ((wr.alloc (.cells #[.string ⟨F.toArray⟩, .int .u32 V, .int .i64 a, .slice ya yn yc] 332)).ownsMap Tryz.prog 330 unitElem (w.heap.size + 1 + 1) k (seenD l)) := HMA
        clear hasE HMA HCK HQ hx
        go_wp2_with (first | (at_lookup; refine wpList_lookup_own_unit _ rfl _ _ 381 rfl 330 172 law Tryz.underlying381 (HZU.out _) (w.heap.size + 1 + 1) k _ rfl HMA1.out _ _ rfl HKEY.out ?_; rw [HAS.out]) | (at_mapUpdate; refine wpList_mapUpdate_own _ rfl _ _ _ 381 rfl 330 172 law Tryz.underlying381 (unitElem (H := Unit)) (w.heap.size + 1 + 1) k _ rfl HMA2.out (by unfold maxLen; omega) _ _ _ rfl rfl HKEY.out _ [] unitElem_mk ?_; intro w3 hmap3 hgrow3; have ha3 : Ag (w.heap.size + 1 + 1) _ w3 := ⟨hgrow3.os, hgrow3.tape, hgrow3.output, hgrow3.size, fun k hk hk2 => hgrow3.block k hk (fun e => hk2 (by injection e))⟩; have HRB3 : Hid (Row w3 wr.heap.size #[.string ⟨F.toArray⟩, .int .u32 V, .int .i64 a, .slice ya yn yc]) := rb.ag ha3 (by omega); have HRC3 : Hid (Row w3 w.heap.size #[.map (some M)]) := (HRC.out.keep hba).ag ha3 (by omega); have HRA3 : Hid (Row w3 (w.heap.size + 1) #[.slice (some ⟨g, 0, none⟩) vn vc, .int .i64 e0]) := (HRA.out.keep hba).ag ha3 (by omega); have qb3 := HRB3.out.2.1; have qc3 := HRC3.out.2.1))
        have HA3 : Hid (Ag M w w3) := (HA.out.then hba).grown hgrow3 (fun g e => by injection e with e; omega)
        have hz3 : w.heap.size + 1 + 1 < w3.heap.size := by have := ha3.size; simp at this; omega
        have HSL3 : Hid (SlAt w3 (fun g => g ≠ M ∧ g < w.heap.size) 4 (.slice (some ⟨g, 0, none⟩) vn vc) us) := HSL.out.mono (by have := ha3.size; simp at this; omega) fun y hy hl => ⟨(ha3.block y (by simp; omega) (by omega)).trans (hba.block y hl), hy⟩
        have HRE3 : Hid (Lay w3 (fun g => g ≠ M ∧ g < w.heap.size) r' (us.drop ((k + 1) * 4))) := HREST.out.mono (by have := ha3.size; simp at this; omega) fun y hy hl => ⟨(ha3.block y (by simp; omega) (by omega)).trans (hba.block y hl), hy⟩
        have hrow3 : RowAt w3 (fun g => g ≠ M) 1 (.slice ya yn yc) m := HROW.out.mono (by have := ha3.size; simp at this; omega) fun y hy hl => ⟨(ha3.block y (by simp; omega) (by omega)).trans (hba.block y hl), hy.1⟩
        have hK3 : Kmap w3 M n1 (P1 ++ [{ kind := 91, text := x, at_ := a }]) := by
          obtain ⟨D, h1, h2⟩ := (HK.out.keep hba).ag ha3 (by omega)
          exact ⟨D, h1, h2.none _ rfl⟩
        have km := HCC.out m (by omega) M n1 w3 _ (P1 ++ [{ kind := 91, text := x, at_ := a }]) HVD.out.2.1 HWF.out.2.1 (by omega) hK3 (by omega) hrow3
        have HM3 : Hid (w3.ownsMap Tryz.prog 330 unitElem (w.heap.size + 1 + 1) (k + 1) (seenD (l ++ [x]))) := by
          show World.ownsMap _ _ _ _ _ _ _
          rw [seenD_snoc]
          exact hmap3
        have HVD2 : Hid (Vd r') := HVD.out.2.2
        have HWF2 : Hid (Wf true r') := HWF.out.2.2
        have HSO2 : Hid (∀ t ∈ l ++ [x], SelOk t) := fun t ht => by
          rcases List.mem_append.1 ht with h | h
          · exact HSO.out t h
          · rw [List.mem_singleton.1 h]; exact HVD.out.1
        clear hmap3 hgrow3 ha3 rb hba hrow3 hK3 HM HMA1 HMA2 HK HRC HRA HSL HREST HROW qb3 qc3 c0 c1 c2 c3 qc qa HVD HWF HSO
        refine km.mono ?_
        rintro e w5 ⟨ha5, hm5⟩
        have HA5 : Hid (Ag M w w5) := HA3.out.trans ha5
        have HRC5 : Hid (Row w5 w.heap.size #[.map (some M)]) := HRC3.out.ag ha5 (by omega)
        have HRA5 : Hid (Row w5 (w.heap.size + 1) #[.slice (some ⟨g, 0, none⟩) vn vc, .int .i64 e0]) := HRA3.out.ag ha5 (by omega)
        have HSL5 : Hid (SlAt w5 (fun g => g ≠ M ∧ g < w.heap.size) 4 (.slice (some ⟨g, 0, none⟩) vn vc) us) := HSL3.out.mono ha5.size fun y hy hl => ⟨ha5.block y hl hy.1, hy⟩
        have HRE5 : Hid (Lay w5 (fun g => g ≠ M ∧ g < w.heap.size) r' (us.drop ((k + 1) * 4))) := HRE3.out.mono ha5.size fun y hy hl => ⟨ha5.block y hl hy.1, hy⟩
        have HM5 : Hid (w5.ownsMap Tryz.prog 330 unitElem (w.heap.size + 1 + 1) (k + 1) (seenD (l ++ [x]))) := HM3.out.kept (row := some M) ⟨ha5.os, ha5.tape, ha5.output, ha5.size, fun k hk hk2 => ha5.block k hk (fun e => hk2 (by rw [e]))⟩ (by intro e; injection e with e; omega)
        have hz5 := ha5.size
        have hz35 := HA3.out.size
        clear km ha5 HRC3 HRA3 HSL3 HRE3 HM3 HRB3
        cases hc : ck id (P1 ++ [{ kind := 91, text := x, at_ := a }]) [] m with
        | some f =>
          obtain ⟨er, a2⟩ := f
          rw [hc] at hm5 HCK2
          obtain ⟨v, rfl, hv⟩ := hm5
          have HV5 : Hid (Flt w3.heap.size w5 v er a2) := hv
          have HR0 : Hid (R = some (er, a2)) := HCK2.out.symm
          obtain ⟨b, rfl, _⟩ := hv
          clear hc HCK2
          go_wp2
          go_ret
          refine ⟨HA5.out, ?_⟩
          rw [HR0.out]
          exact ⟨_, rfl, HV5.out.mono (by omega)⟩
        | none =>
          rw [hc] at hm5 HCK2
          obtain ⟨rfl, n2, hn2, D, hD1, hD2⟩ := hm5
          have HK5 : Hid (Kmap w5 M n2 (P1 ++ flat id (.br x a m .nil))) := by
            show Kmap _ _ _ _
            rw [hfb]
            exact ⟨D, hD1, hD2.none _ rfl⟩
          have HC5 : Hid (brFin (ck id (P1 ++ flat id (.br x a m .nil)) (l ++ [x]) r') ((l ++ [x]) ++ keys r') e0 = R) := HCK2
          clear hc hD1 hD2 HCK2
          go_wp2
          go_roundw
          case rel => exact ⟨k + 1, n2, r', P1 ++ flat id (.br x a m .nil), l ++ [x], by go_num, hlt, by omega, by omega, HC5, HQ2, HVD2, HWF2, HSO2, HRE5, HSL5, HK5, HRC5, HRA5, HA5, HM5, by omega⟩
          case measure => simp [intOf]; omega
    · have hlt' : ¬ (k : Int) < vn := by omega
      have hr0 : r = .nil := lay_end (by have := HLY.out; rw [List.drop_eq_nil_of_le (by omega)] at this; exact this)
      have HQ0 : Hid (Q = P1) := by show _ = _; rw [← HQ.out, hr0]; simp [flat]
      have hasE := has_seen l Dk.otherW HSO.out other_ok
      have hkey := sel_key Dk.otherW 0 (by decide) (by decide)
      have HKEY : Hid (keyOf Tryz.prog 330 (.agg #[.string ⟨#[111, 116, 104, 101, 114]⟩, .int .u32 0]) = some (.string (selB Dk.otherW))) := hkey
      have qa := HRA.out.2.1
      by_cases ho : Dk.otherW ∈ l
      · rw [decide_eq_true ho] at hasE
        have HR0 : Hid (R = none) := by show _ = _; rw [← HCK.out, hr0]; simp [brFin, ck, keys, ho]
        have HAS : Hid (Maps.has (seenD l) (.string (selB Dk.otherW)) = true) := hasE
        clear hr0 HCK HQ hasE hkey ho
        go_wp2_with (at_lookup; refine wpList_lookup_own_unit _ rfl _ _ 381 rfl 330 172 law Tryz.underlying381 (HZU.out _) (w.heap.size + 1 + 1) k _ rfl HM.out _ _ rfl HKEY.out ?_; rw [HAS.out])
        go_ret
        refine ⟨HA.out.then (allocB _ _), ?_⟩
        rw [HR0.out, HQ0.out]
        exact ⟨rfl, n1, by omega, HK.out.keep (allocB _ _)⟩
      · rw [decide_eq_false ho] at hasE
        have HR0 : Hid (R = some (6, e0)) := by show _ = _; rw [← HCK.out, hr0]; simp [brFin, ck, keys, ho]
        have HAS : Hid (Maps.has (seenD l) (.string (selB Dk.otherW)) = false) := hasE
        have kf := fun W => pfault_any W 6 e0
        have hzz : w.heap.size + 1 < wr.heap.size := by omega
        have qa2 := (HRA.out.alloc (.cells #[] 172)).2.1
        clear hr0 HCK HQ hasE hkey ho
        go_wp2_with (first | (at_lookup; refine wpList_lookup_own_unit _ rfl _ _ 381 rfl 330 172 law Tryz.underlying381 (HZU.out _) (w.heap.size + 1 + 1) k _ rfl HM.out _ _ rfl HKEY.out ?_; rw [HAS.out]) | (go_at_call 158; refine (kf _).mono ?_; rintro e w4 ⟨⟨v, rfl, hv⟩, hb4⟩))
        go_ret
        refine ⟨(HA.out.then (allocB _ _)).then hb4, ?_⟩
        rw [HR0.out]
        exact ⟨_, rfl, hv.mono (HA.out.then (allocB _ _)).size⟩
end Go.Proofs.YtaepcfidpekflaaGreatDoor
