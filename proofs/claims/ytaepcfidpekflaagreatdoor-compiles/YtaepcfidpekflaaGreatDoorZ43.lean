/-
  Several texts in one (Sm). By the verifier.
-/
import Derived.Test.YtaepcfidpekflaaGreatDoorZ42
namespace Go.Proofs.YtaepcfidpekflaaGreatDoor
open Go.RowKit
theorem dec_len (n:Nat) (h:n ≤ 30):(Lib.decDigits n).length ≤ 30:=by
 rw [Lib.decDigits]
 split
 ·simp
 ·rw [Lib.decDigits]
  split
  ·simp
  ·omega
theorem opA_digs {t:Pr.T} {o:Pr.Opd} (h:Pr.opd t = some o) (a b:Pr.T) (ha:Canon a) (hda:Digs a) (hb:Digs b):Digs (opA t a b):=by
 obtain ⟨_,_,hc⟩:=opd_link h a b ha hb
 refine ⟨hc.2.1,?_⟩
 have hs:=short_digs b hb
 have pl:∀ x:Pr.T,x.length ≤ 30 → (plainD x).length ≤ 30:=by
  intro x hx
  unfold plainD
  split
  ·simp
  ·exact Nat.le_trans (List.dropWhile_suffix _).length_le hx
 unfold opA
 split
 ·exact hda.2
 split
 ·exact hda.2
 split
 ·exact dec_len _ hb.2
 split
 ·exact dec_len _ hs.2
 split
 ·exact pl _ hb.2
 split
 ·exact pl _ hs.2
 ·simp
theorem canon_zero:Canon [48]:=⟨by simp,by decide,.inl rfl⟩
theorem fig_zero {v:Pr.T} {m:Nat} (h:Pr.fig v = some m):(v == [48]) = decide (m = 0):=by
 obtain ⟨hc,hv⟩:=canon_fig h
 have h0:Pr.val [48] = 0:=rfl
 by_cases hl:v.length = 1
 ·have e:=(canon_less hc canon_zero (by simpa using hl)).2
  rw [h0,hv] at e
  by_cases hm:m = 0
  ·rw [e.2 hm];simp [hm]
  ·have:v ≠ [48]:=fun x=>hm (e.1 x)
   simp [hm,this]
 ·have h1:([48]:Pr.T).length < v.length:=by
   have:v.length ≠ 0:=fun x=>hc.1 (List.length_eq_zero_iff.1 x)
   simp;omega
  have h2:=canon_len canon_zero hc h1
  have:v ≠ [48]:=fun x=>hl (by rw [x];rfl)
  have hm:m ≠ 0:=by omega
  simp [hm,this]
theorem fig_small {v:Pr.T} {m:Nat} (h:Pr.fig v = some m):(∀ c ∈ v,Pn.isDig c = true) ∧ v.length ≤ 9 ∧ m ≤ 1000000000 ∧ Pr.val v = m:=by
 obtain ⟨hc,hv⟩:=canon_fig h
 have h9:v.length ≤ 9:=by
  unfold Pr.fig at h
  split at h
  ·rename_i c;exact c.2.1
  ·cases h
 have hlt:=val_lt v hc.2.1
 have hp:10 ^ v.length ≤ 10 ^ 9:=Nat.pow_le_pow_right (by omega) h9
 exact ⟨hc.2.1,h9,by omega,hv⟩
def RelCut (w wc:World) (blk:Nat) (br:Bool) (S:Bool × Bool) (x y:Value):Prop:=∃ (T U:Pr.T) (R:List Pr.T) (o C:Nat) (A:Pr.T),x = .slice (some ⟨blk,o,none⟩) (R.length + 2:Nat) C ∧ y = .string ⟨A.toArray⟩ ∧ R.length + 2 ≤ C ∧ R.length ≤ 900 ∧ Canon A ∧ Below w.heap.size w wc ∧ (∀ j,j < R.length + 2 → wc.cell? ⟨blk,o + j,none⟩ = some (strV ((T :: U :: R).getD j []))) ∧ (∀ z ∈ T :: U :: R,z.length ≤ 1000) ∧ howS (Pr.val A) br T U R = S
def modR (A:Nat) (br:Bool) (v:Pr.T) (r:List Pr.T):Bool × Bool:=match Pr.fig v,r with
 | some m,t' :: u' :: r'=>if m = 0 then (false,false) else howS (A % m) br t' u' r'
 | _,_=>(false,false)
theorem modR_none (A:Nat) (br:Bool) (v:Pr.T) (r:List Pr.T) (h:Pr.fig v = none):modR A br v r = (false,false):=by simp [modR,h]
theorem modR_zero (A:Nat) (br:Bool) (v:Pr.T) (r:List Pr.T) (h:Pr.fig v = some 0):modR A br v r = (false,false):=by
 match r with
 | []=>simp [modR,h]
 | [_]=>simp [modR,h]
 | _ :: _ :: _=>simp [modR,h]
theorem modR_short (A:Nat) (br:Bool) (v:Pr.T) (r:List Pr.T) (h:r.length < 2):modR A br v r = (false,false):=by
 match r,h with
 | [],_=>cases hf:Pr.fig v <;> simp [modR,hf]
 | [_],_=>cases hf:Pr.fig v <;> simp [modR,hf]
theorem modR_some (A:Nat) (br:Bool) (v T U:Pr.T) (R:List Pr.T) (m:Nat) (h:Pr.fig v = some m) (hm:¬ m = 0):modR A br v (T :: U :: R) = howS (A % m) br T U R:=by simp [modR,h,hm]
theorem mod_yes (a b t u v:Pr.T) (r:List Pr.T) (hok:opOk t = true) (hm:u = [109,111,100] ∨ u = [37]):relS a b (t :: u :: v :: r) = modR (Pr.val (opA t a b)) (!Pn.zeroB (opF t b)) v r:=by simp only [relS,hok,if_pos hm];rfl
theorem mod_no (a b t u v:Pr.T) (r:List Pr.T) (hok:opOk t = true) (hm:¬ (u = [109,111,100] ∨ u = [37])):relS a b (t :: u :: v :: r) = howS (Pr.val (opA t a b)) (!Pn.zeroB (opF t b)) u v r:=by simp only [relS,hok,if_neg hm];rfl
set_option maxHeartbeats 6400000 in
set_option maxRecDepth 100000 in
theorem relation_some (w:World) (blk off c:Nat) (t u v:Pr.T) (r:List Pr.T) (m:Bool) (a b:Pr.T) (hl:r.length ≤ 900) (hs:∀ x ∈ t :: u :: v :: r,x.length ≤ 1000) (hc:r.length + 3 ≤ c) (hbl:blk < w.heap.size) (hcell:∀ j,j < r.length + 3 → w.cell? ⟨blk,off + j,none⟩ = some (strV ((t :: u :: v :: r).getD j []))) (ha:Canon a) (hda:Digs a) (hb:Digs b):
  Calls Tryz.prog 90 #[.slice (some ⟨blk,off,none⟩) (r.length + 3:Nat) c,.agg #[.bool m,.string ⟨a.toArray⟩,.string ⟨b.toArray⟩]] w fun e w'=>e = .returned (.tuple #[.bool (relS a b (t :: u :: v :: r)).1,.bool (relS a b (t :: u :: v :: r)).2]) ∧ Below w.heap.size w w':=by
 obtain ⟨S,hS⟩:∃ S,Hid (relS a b (t :: u :: v :: r) = S):=⟨_,rfl⟩
 rw [hS.out]
 have hw:=(Below.refl w.heap.size w).alloc (Nat.le_refl _) (.cells #[.bool m,.string ⟨a.toArray⟩,.string ⟨b.toArray⟩] 62)
 have q0:=(row_at w #[.bool m,.string ⟨a.toArray⟩,.string ⟨b.toArray⟩] 62).2.1
 have c0:w.cell? ⟨blk,off,none⟩ = some (.string ⟨t.toArray⟩):=hcell 0 (by omega)
 have d0:=(World.cell?_alloc_lt w (.cells #[.bool m,.string ⟨a.toArray⟩,.string ⟨b.toArray⟩] 62) ⟨blk,off,none⟩ hbl).trans c0
 have HC:Hid (∀ j,j < r.length + 3 → w.cell? ⟨blk,off + j,none⟩ = some (strV ((t :: u :: v :: r).getD j []))):=hcell
 have HL:Hid (∀ x ∈ t :: u :: v :: r,x.length ≤ 1000):=hs
 clear hcell hs c0
 go_enter Tryz.func90,Tryz.ntmps90
 go_wp2_with fail
 go_cut [6,7,8] (fun x y z wc=>x = .string ⟨(opA t a b).toArray⟩ ∧ y = .string ⟨(opF t b).toArray⟩ ∧ z = .bool (opOk t) ∧ Below w.heap.size w wc)
 case first=>
  clear hS HC HL hl
  go_region_with (go_at_call 116;refine (operand_any m a b t hda hb _).mono ?_;rintro e w1 ⟨rfl,hb1⟩)
  all_goals go_wp2
  all_goals go_meet
  all_goals first
   | exact ⟨rfl,rfl,rfl,below_of hw hb1⟩
   | exact ⟨rfl,rfl,rfl,(below_of hw hb1).drew⟩
   | exact ⟨rfl,rfl,rfl,below_of hw.drew hb1⟩
 case rest=>
  obtain ⟨rfl,rfl,rfl,hbc⟩:=hcut
  clear q0 d0 hw
  cases hok:opOk t with
  | false=>
   have hF:Hid (S = (false,false)):=by show _ = _;rw [← hS.out];simp [relS,hok]
   clear hS hok HC HL
   go_wp2
   go_ret2
   exact ⟨by rw [hF.out];rfl,hbc⟩
  | true=>
   obtain ⟨o,ho⟩:∃ o,Pr.opd t = some o:=Option.isSome_iff_exists.1 hok
   obtain ⟨_,_,hcan⟩:=opd_link ho a b ha hb
   have HX:Hid (Canon (opA t a b) ∧ Digs (opA t a b)):=⟨hcan,opA_digs ho a b ha hda hb⟩
   have c1:wc.cell? ⟨blk,off + 1,none⟩ = some (.string ⟨u.toArray⟩):=(hbc.cell (p:=⟨blk,off + 1,none⟩) hbl).trans (HC.out 1 (by omega))
   have c2:wc.cell? ⟨blk,off + 1 + 1,none⟩ = some (.string ⟨v.toArray⟩):=(hbc.cell (p:=⟨blk,off + 2,none⟩) hbl).trans (HC.out 2 (by omega))
   have HY:Hid (u = [109,111,100] ∨ u = [37] → modR (Pr.val (opA t a b)) (!Pn.zeroB (opF t b)) v r = S):=fun h=>by rw [← hS.out,mod_yes a b t u v r hok h]
   have HN:Hid (¬ (u = [109,111,100] ∨ u = [37]) → howS (Pr.val (opA t a b)) (!Pn.zeroB (opF t b)) u v r = S):=fun h=>by rw [← hS.out,mod_no a b t u v r hok h]
   have HV:Hid (v.length ≤ 1000):=HL.out v (by simp)
   have hcc:¬ c = 1:=by omega
   have hc3:¬ c - 1 = 2 ∨ r.length = 0:=by omega
   have HF:Hid ((opF t b).length ≤ 1000):=by
    show _ ≤ _
    have:=hb.2
    unfold opF
    split
    ·omega
    ·simp
   clear hS hcan ho hda ha hb hok
   generalize opA t a b = A at *
   generalize opF t b = F at *
   obtain ⟨B,hB⟩:∃ B:Bool,Hid ((u == [109,111,100] || u == [37]) = B):=⟨_,rfl⟩
   go_upto_region 7 with fail
   go_cut [44] (fun z wd=>z = .bool B ∧ wd = wc)
   case first=>
    clear HX HY HN HV HF HC HL
    by_cases hu:u = [109,111,100]
    ·have y1:(u == [109,111,100]) = true:=by rw [hu];rfl
     have hF:Hid (B = true):=by show _ = _;rw [← hB.out,y1];rfl
     clear hB hu
     go_wp2
     go_meet
     case rel=>exact ⟨by rw [hF.out],rfl⟩
    ·have n1:(u == [109,111,100]) = false:=by rw [beq_eq_false_iff_ne];exact hu
     have hF:Hid (B = (u == [37])):=by show _ = _;rw [← hB.out,n1];rfl
     clear hB hu
     go_wp2
     go_meet
     case rel=>exact ⟨by rw [hF.out],rfl⟩
   case rest=>
    obtain ⟨rfl,rfl⟩:=hcut
    go_upto_if 44 with fail
    go_cut [0,6] (fun x y wd=>RelCut w wd blk (!Pn.zeroB F) S x y)
    case first=>
     cases B with
     | true=>
      have HY2:=HY.out (by
       have h:=hB.out
       rw [Bool.or_eq_true,beq_iff_eq,beq_iff_eq] at h
       exact h)
      clear HN HY hB c1
      cases hf:Pr.fig v with
      | none=>
       have hF:Hid (S = (false,false)):=by show _ = _;rw [← HY2,modR_none _ _ _ _ hf]
       have fc:=figure_any v HV.out wc
       rw [hf] at fc
       clear HY2 hf HC HL
       go_wp2_with (go_at_call 117;refine fc.mono ?_;rintro e w2 ⟨rfl,hb2⟩)
       go_ret2
       exact ⟨by rw [hF.out];rfl,below_of hbc hb2⟩
      | some m=>
       obtain ⟨vd,v9,m9,vv⟩:=fig_small hf
       have vz:=fig_zero hf
       have fc:=figure_any v HV.out wc
       rw [hf] at fc
       by_cases hm0:m = 0
       ·have hF:Hid (S = (false,false)):=by
         show _ = _
         rw [hm0] at hf
         rw [← HY2,modR_zero _ _ _ _ hf]
        have vz':(v == [48]) = true:=by rw [vz];simp [hm0]
        clear HY2 hf HC HL vz vd vv
        go_wp2_with (go_at_call 117;refine fc.mono ?_;rintro e w2 ⟨rfl,hb2⟩)
        go_ret2
        exact ⟨by rw [hF.out];rfl,below_of hbc hb2⟩
       ·have vz':(v == [48]) = false:=by rw [vz];simp [hm0]
        by_cases hr2:r.length < 2
        ·have hF:Hid (S = (false,false)):=by
          show _ = _
          rw [← HY2,modR_short _ _ _ _ hr2]
         have hr2':(r.length:Int) + 2 < 4:=by omega
         clear HY2 hf HC HL vz vd vv
         go_wp2_with (go_at_call 117;refine fc.mono ?_;rintro e w2 ⟨rfl,hb2⟩)
         go_ret2
         exact ⟨by rw [hF.out];rfl,below_of hbc hb2⟩
        ·obtain ⟨T,U,R,rfl⟩:∃ T U R,r = T :: U :: R:=by
          match r,hr2 with
          | T :: U :: R,_=>exact ⟨T,U,R,rfl⟩
          | [],h=>simp at h
          | [_],h=>simp at h
         have HZ:Hid (howS (Pr.val A % m) (!Pn.zeroB F) T U R = S):=by show _ = _;rw [← HY2,modR_some _ _ _ _ _ _ _ hf hm0]
         have sm:=fun W=>small_any v vd v9 W
         rw [vv] at sm
         have lf:=fun W=>left_any A m HX.out.2 (by omega) m9 W
         have hlt:Pr.val A % m < m:=Nat.mod_lt _ (by omega)
         have dm:=fun W=>decimal_any (Pr.val A % m) W (by omega)
         have HK:Hid (Canon (Lib.decDigits (Pr.val A % m)) ∧ Pr.val (Lib.decDigits (Pr.val A % m)) = Pr.val A % m):=⟨canon_dec _ (by omega),(dec_val _).1⟩
         have hr3:¬ (R.length:Int) + 4 < 4:=by omega
         simp only [List.length_cons] at hc hl HC
         have hc4:¬ c - 1 = 2:=by omega
         clear HY2 hf vz vd vv HX hr2 hm0
         generalize Pr.val A % m = q at *
         go_wp2_with (first | (go_at_call 117;refine fc.mono ?_;rintro e w2 ⟨rfl,hb2⟩) | (go_at_call 118;refine (sm _).mono ?_;rintro e w3 ⟨rfl,rfl⟩) | (go_at_call 119;refine (lf _).mono ?_;rintro e w4 ⟨rfl,rfl⟩) | (go_at_call 120;refine (dm _).mono ?_;rintro e w5 ⟨rfl,hb5⟩))
         have hbz:=below_of hbc (below_of hb2 hb5)
         go_meet
         case rel=>
          refine ⟨T,U,R,off + 3,c - 3,Lib.decDigits q,?_,rfl,by omega,by omega,HK.out.1,hbz,(fun j hj=>(hbz.cell (p:=⟨blk,off + 3 + j,none⟩) hbl).trans (by rw [show off + 3 + j = off + (3 + j) by omega];rw [HC.out (3 + j) (by omega),show 3 + j = j + 3 by omega];rfl)),fun z hz=>HL.out z (List.mem_cons_of_mem _ (List.mem_cons_of_mem _ (List.mem_cons_of_mem _ hz))),by rw [HK.out.2];exact HZ.out⟩
          first | rfl | (congr 2 <;> omega)
     | false=>
      have HZ:=HN.out (by
       have h:=hB.out
       rw [Bool.or_eq_false_iff,beq_eq_false_iff_ne,beq_eq_false_iff_ne] at h
       exact fun x=>x.elim h.1 h.2)
      have HZ2:Hid (howS (Pr.val A) (!Pn.zeroB F) u v r = S):=HZ
      clear HN HY HZ hB
      go_wp2
      go_meet
      case rel=>exact ⟨u,v,r,off + 1,c - 1,A,rfl,rfl,by omega,hl,HX.out.1,hbc,fun j hj=>(hbc.cell (p:=⟨blk,off + 1 + j,none⟩) hbl).trans (by rw [show off + 1 + j = off + (1 + j) by omega,HC.out (1 + j) (by omega),show 1 + j = j + 1 by omega];rfl),fun z hz=>HL.out z (List.mem_cons_of_mem _ hz),HZ2.out⟩
    case rest=>
     obtain ⟨T,U,R,o,C,A2,rfl,rfl,hC,hR,hA2,hbd,hcl,hz,hS2⟩:=hcut
     have HS:Hid (howS (Pr.val A2) (!Pn.zeroB F) T U R = S):=hS2
     have hbl2:blk < wc.heap.size:=Nat.lt_of_lt_of_le hbl hbd.size
     have mt:Calls Tryz.prog 121 #[.slice (some ⟨blk,o,none⟩) (R.length + 2:Nat) C] wc _:=manner_two blk o C T (U :: R) wc (hcl 0 (by omega)) U (hcl 1 (by omega)) (by simp) (by simp;omega)
     have h3:(mannerS T U).2.2.2 = 0 ∨ (mannerS T U).2.2.2 = 1 ∨ (mannerS T U).2.2.2 = 2:=by
      unfold mannerS
      repeat' split
      all_goals simp
     unfold howS at HS
     have HSL:Hid (∀ k,k ≤ 2 → ¬ C = k → SlV wc (.slice (some ⟨blk,o + k,none⟩) (R.length + 2 - k) (C - k)) ((T :: U :: R).drop k)):=by
      intro k hk hCk
      have h:=seg_slv wc blk o C (T :: U :: R) k (R.length + 2) (by omega) (by simp) (by simpa using hC) hbl2 (by simpa using hcl)
      rw [List.take_of_length_le (by simp)] at h
      exact h
     have HSE:Hid (C = 2 → SlV wc (.slice (some ⟨blk,o,none⟩) 0 0) ((T :: U :: R).drop 2)):=by
      intro h2
      have:R = []:=List.length_eq_zero_iff.1 (by omega)
      subst this
      exact seg_empty wc blk o hbl2
     have HZ:Hid (∀ z ∈ T :: U :: R,z.length ≤ 1000):=hz
     generalize mannerS T U = M at *
     obtain ⟨M1,M2,M3,n⟩:=M
     simp only at mt h3 HS
     clear hcl hS2 HX HY HN HC HL hz c1 c2 hbc
     by_cases hn0:n = 0
     ·have hF:Hid (S = (false,false)):=by show _ = _;rw [← HS.out,if_pos hn0]
      have hn0':((n:Int) == 0) = true:=by rw [hn0];rfl
      clear HS hn0 h3 HSL HSE
      go_wp2_with (go_at_call 121;refine mt.mono ?_;rintro e w2 ⟨rfl,hb2⟩)
      go_ret2
      exact ⟨by rw [hF.out];rfl,below_of hbd hb2⟩
     ·have hn0':((n:Int) == 0) = false:=by rw [beq_eq_false_iff_ne];omega
      have HS2:Hid (((listedS (Pr.val A2) (!Pn.zeroB F) M2 M3 (Pr.partsAt [44] ((T :: U :: R).drop n))).1 != M1,(listedS (Pr.val A2) (!Pn.zeroB F) M2 M3 (Pr.partsAt [44] ((T :: U :: R).drop n))).2) = S):=by show _ = _;rw [← HS.out,if_neg hn0]
      have hdl:((T :: U :: R).drop n).length ≤ 1000:=by simp;omega
      have hds:∀ z ∈ (T :: U :: R).drop n,z.length ≤ 1000:=fun z hz=>HZ.out z (List.drop_subset _ _ hz)
      clear HS
      by_cases hCn:C = n
      ·have hn2:n = 2:=by omega
       subst hn2
       subst hCn
       obtain rfl:R = []:=List.length_eq_zero_iff.1 (by omega)
       have ls:∀ W,Below wc.heap.size wc W → _:=fun W h=>listed_any W (.slice (some ⟨blk,o,none⟩) 0 0) [] A2 F M2 M3 (by simp) (fun z hz=>by cases hz) ((HSE.out rfl).keep h) hA2 HF.out
       have HS3:Hid (((listedS (Pr.val A2) (!Pn.zeroB F) M2 M3 (Pr.partsAt [44] [])).1 != M1,(listedS (Pr.val A2) (!Pn.zeroB F) M2 M3 (Pr.partsAt [44] [])).2) = S):=HS2
       have mt2:Calls Tryz.prog 121 #[.slice (some ⟨blk,o,none⟩) 2 2] wc _:=mt
       obtain ⟨X,hX⟩:∃ X,Hid (listedS (Pr.val A2) (!Pn.zeroB F) M2 M3 (Pr.partsAt [44] []) = X):=⟨_,rfl⟩
       rw [hX.out] at HS3 ls
       clear HSL HSE hX h3 HS2 mt HZ hdl hds
       simp only [List.length_nil] at *
       go_wp2_with (first | (go_at_call 121;refine mt2.mono ?_;rintro e w2 ⟨rfl,hb2⟩) | (go_at_call 122;refine (ls _ hb2).mono ?_;rintro e w3 ⟨rfl,hb3⟩))
       go_ret2
       exact ⟨by rw [← HS3.out];rfl,below_of hbd (below_of hb2 hb3)⟩
      ·have ls:=fun W (h:Below wc.heap.size wc W)=>listed_any W _ ((T :: U :: R).drop n) A2 F M2 M3 hdl hds ((HSL.out n (by omega) hCn).keep h) hA2 HF.out
       have hlen:((T :: U :: R).drop n).length = R.length + 2 - n:=by simp
       obtain ⟨X,hX⟩:∃ X,Hid (listedS (Pr.val A2) (!Pn.zeroB F) M2 M3 (Pr.partsAt [44] ((T :: U :: R).drop n)) = X):=⟨_,rfl⟩
       rw [hX.out] at HS2 ls
       clear HSL HSE hX
       go_wp2_with (first | (go_at_call 121;refine mt.mono ?_;rintro e w2 ⟨rfl,hb2⟩) | (go_at_call 122;refine (ls _ hb2).mono ?_;rintro e w3 ⟨rfl,hb3⟩))
       go_ret2
       exact ⟨by rw [← HS2.out];rfl,below_of hbd (below_of hb2 hb3)⟩
end Go.Proofs.YtaepcfidpekflaaGreatDoor
