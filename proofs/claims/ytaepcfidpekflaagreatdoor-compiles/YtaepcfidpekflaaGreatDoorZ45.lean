/-
  Several texts in one (Su). By the verifier.
-/
import Derived.Test.YtaepcfidpekflaaGreatDoorZ44
namespace Go.Proofs.YtaepcfidpekflaaGreatDoor
open Go.RowKit
set_option maxHeartbeats 6400000 in
set_option maxRecDepth 100000 in
theorem rholds_any (w:World) (s:Pr.T) (m:Bool) (a b:Pr.T) (hs:s.length ≤ 1000000) (ha:Canon a) (hda:Digs a) (hb:Digs b):
  Calls Tryz.prog 60 #[.string ⟨s.toArray⟩,.agg #[.bool m,.string ⟨a.toArray⟩,.string ⟨b.toArray⟩]] w fun e w'=>e = .returned (.tuple #[.bool (holdsS a b s).1,.bool (holdsS a b s).2]) ∧ Below w.heap.size w w':=by
 obtain ⟨S,hS⟩:∃ S,Hid (holdsS a b s = S):=⟨_,rfl⟩
 rw [hS.out]
 have hw:=(Below.refl w.heap.size w).alloc (Nat.le_refl _) (.cells #[.bool m,.string ⟨a.toArray⟩,.string ⟨b.toArray⟩] 62)
 have r0:=row_at w #[.bool m,.string ⟨a.toArray⟩,.string ⟨b.toArray⟩] 62
 have cw:=words_any s hs (w.alloc (.cells #[.bool m,.string ⟨a.toArray⟩,.string ⟨b.toArray⟩] 62))
 go_enter Tryz.func60,Tryz.ntmps60
 go_wp2_with fail
 refine cw.mono ?_
 rintro e w1 ⟨hb1,hs1⟩
 clear cw
 replace r0:=r0.keep hb1
 have hB1:=below_of hw hb1
 clear hw hb1
 cases hW:wGo [] 3 (Lib.cut s [64]).1 with
 | none=>
  rw [hW] at hs1
  obtain rfl:=hs1
  have hF:Hid (S = (false,false)):=by show _ = _;rw [← hS.out,holds_bad a b s hW]
  clear hS hW r0
  go_wp2
  go_ret2
  exact ⟨by rw [hF.out];rfl,hB1⟩
 | some ts=>
  rw [hW] at hs1
  obtain ⟨v,rfl,hp⟩:=hs1
  by_cases h200:200 < s.length
  ·have h200':(200:Int) < s.length:=by omega
   have hF:Hid (S = (false,false)):=by show _ = _;rw [← hS.out,holds_long a b s h200]
   clear hS hW r0 hp
   go_wp2
   go_ret2
   exact ⟨by rw [hF.out];rfl,hB1⟩
  ·have h200':¬ (200:Int) < s.length:=by omega
   have HS:Hid (pairB (orGo a b false (Pr.partsAt [111,114] ts)) = S):=by show _ = _;rw [← hS.out,holds_go a b s ha hb h200 ts hW]
   have hcl:=cut64_len s
   obtain ⟨hn1,hn2⟩:=toks_small _ _ (Nat.le_refl _) ts (by rw [← words_toks];exact hW)
   have cp:=parts_any w1 v ts [111,114] (by omega) (parts_slv hp)
   have hne:=Pr.parts_ne [111,114] ts
   have hpm:Hid (∀ p ∈ Pr.partsAt [111,114] ts,p.length ≤ 900 ∧ ∀ t ∈ p,t.length ≤ 1000):=fun p hp=>⟨by have:=(parts_len [111,114] ts).2 p hp;omega,fun t ht=>by have:=hn2 t (parts_mem [111,114] ts p hp t ht);omega⟩
   have hpl:(Pr.partsAt [111,114] ts).length ≤ 1000:=by have:=(parts_len [111,114] ts).1;omega
   clear hS hW hp hn1 hn2 hcl h200
   generalize Pr.partsAt [111,114] ts = ps at *
   go_wp2_with fail
   refine cp.mono ?_
   rintro e w2 ⟨⟨va,rfl,vs,hvl,hown,hsl⟩,hb2⟩
   clear cp
   replace r0:=r0.keep hb2
   have hB2:=below_of hB1 hb2
   have hlt:=World.ownsRow.lt hown
   have hown2:=hown
   rcases hown.2 with ⟨rfl,h0⟩ | ⟨g,cap,cur,rfl,hgc⟩
   ·exact absurd (List.length_eq_zero_iff.1 h0) hne
   have hrc:Hid (∀ j,j < ps.length → w2.cell? ⟨g,j,none⟩ = vs[j]?):=fun j hj=>hown2.cellAt j (by omega)
   have HSl:Hid (∀ j,j < ps.length → SlV w2 (vs.getD j undef) (ps.getD j [])):=fun j hj=>(hsl j hj).keep hb2
   have hgl:g < w2.heap.size:=(hlt g rfl).2
   obtain ⟨Sx,hSx⟩:∃ Sx,Hid (orGo a b false ps = Sx):=⟨_,rfl⟩
   rw [hSx.out] at HS
   have R0:Hid (Row w2 w.heap.size #[.bool m,.string ⟨a.toArray⟩,.string ⟨b.toArray⟩]):=r0
   clear hown hown2 hgc hsl hlt hb2 hB1 r0
   go_wp2_with fail
   go_loopg [8,10] ps.length (fun n x i wr=>∃ (k:Nat) (bb:Bool),n + k = ps.length ∧ x = .bool bb ∧ i = .int .i64 k ∧ Below w2.heap.size w2 wr ∧ Hid (orGo a b bb (ps.drop k) = Sx))
   case atStart=>exact ⟨0,false,rfl,rfl,rfl,Below.refl _ _,hSx⟩
   case round=>
    obtain ⟨k,bb,hnk,rfl,rfl,hbw,HG⟩:=hrel
    clear hSx
    by_cases hk:k < ps.length
    ·have hk':(k:Int) < ps.length:=by omega
     obtain ⟨x,hx⟩:∃ x,vs[k]? = some x:=⟨_,List.getElem?_eq_getElem (by omega)⟩
     have hcx:wr.cell? ⟨g,k,none⟩ = some x:=((hbw.cell (p:=⟨g,k,none⟩) hgl).trans (hrc.out k hk)).trans hx
     have hsx:SlV wr x (ps.getD k []):=by
      have h:=HSl.out k hk
      rw [show vs.getD k undef = x by simp [hx]] at h
      exact h.keep hbw
     have hgd:ps.getD k [] = ps[k]:=by simp [List.getD_eq_getElem?_getD,hk]
     have HG2:Hid (orNext a b bb (ps.drop (k + 1)) (andGo a b true (Pr.partsAt [97,110,100] (ps.getD k []))) = Sx):=by
      show _ = _
      rw [← HG.out,List.drop_eq_getElem_cons hk,orGo_cons,hgd]
     obtain ⟨hq1,hq2⟩:(ps.getD k []).length ≤ 900 ∧ ∀ t ∈ ps.getD k [],t.length ≤ 1000:=by rw [hgd];exact hpm.out _ (List.getElem_mem hk)
     clear HG hgd
     generalize ps.getD k [] = p at *
     have cq:=parts_any wr x p [97,110,100] (by omega) hsx
     have hqe:=Pr.parts_ne [97,110,100] p
     have hqm:Hid (∀ q ∈ Pr.partsAt [97,110,100] p,q.length ≤ 900 ∧ ∀ t ∈ q,t.length ≤ 1000):=fun q hq=>⟨by have:=(parts_len [97,110,100] p).2 q hq;omega,fun t ht=>hq2 t (parts_mem [97,110,100] p q hq t ht)⟩
     have hql:(Pr.partsAt [97,110,100] p).length ≤ 1000:=by have:=(parts_len [97,110,100] p).1;omega
     obtain ⟨xa,xc,rfl⟩:=hsx.form
     clear hsx hx hq2
     generalize Pr.partsAt [97,110,100] p = qs at *
     go_wp2_with fail
     refine cq.mono ?_
     rintro e w3 ⟨⟨vb,rfl,us,hul,hown3,hsl3⟩,hb3⟩
     clear cq hcx
     have hB3:=below_of hbw hb3
     have hlt3:=World.ownsRow.lt hown3
     have hown4:=hown3
     rcases hown3.2 with ⟨rfl,h0⟩ | ⟨g3,cap3,cur3,rfl,hgc3⟩
     ·exact absurd (List.length_eq_zero_iff.1 h0) hqe
     have hrc3:Hid (∀ j,j < qs.length → w3.cell? ⟨g3,j,none⟩ = us[j]?):=fun j hj=>hown4.cellAt j (by omega)
     have HSl3:Hid (∀ j,j < qs.length → SlV w3 (us.getD j undef) (qs.getD j [])):=fun j hj=>(hsl3 j hj).keep hb3
     have hgl3:g3 < w3.heap.size:=(hlt3 g3 rfl).2
     have R3:Hid (Row w3 w.heap.size #[.bool m,.string ⟨a.toArray⟩,.string ⟨b.toArray⟩]):=R0.out.keep hB3
     clear hown3 hown4 hgc3 hsl3 hlt3 hb3 hbw
     go_upto_block 2 with fail
     go_cut [12] (fun z wd=>∃ cc:Bool,z = .bool cc ∧ Below w3.heap.size w3 wd ∧ Hid (orGo a b (bb || cc) (ps.drop (k + 1)) = Sx))
     case first=>
      go_wp2_with fail
      go_loopg [12,13] qs.length (fun n z i wr2=>∃ (k2:Nat) (cc:Bool),n + k2 = qs.length ∧ z = .bool cc ∧ i = .int .i64 k2 ∧ Below w3.heap.size w3 wr2 ∧ Hid (orNext a b bb (ps.drop (k + 1)) (andGo a b cc (qs.drop k2)) = Sx))
      case atStart=>exact ⟨0,true,rfl,rfl,rfl,Below.refl _ _,HG2⟩
      case round=>
       obtain ⟨k2,cc,hnk2,rfl,rfl,hbw2,HA⟩:=hrel
       clear HG2
       by_cases hk2:k2 < qs.length
       ·have hk2':(k2:Int) < qs.length:=by omega
        obtain ⟨y,hy⟩:∃ y,us[k2]? = some y:=⟨_,List.getElem?_eq_getElem (by omega)⟩
        have hcy:wr.cell? ⟨g3,k2,none⟩ = some y:=((hbw2.cell (p:=⟨g3,k2,none⟩) hgl3).trans (hrc3.out k2 hk2)).trans hy
        have hsy:SlV wr y (qs.getD k2 []):=by
         have h:=HSl3.out k2 hk2
         rw [show us.getD k2 undef = y by simp [hy]] at h
         exact h.keep hbw2
        have hgd:qs.getD k2 [] = qs[k2]:=by simp [List.getD_eq_getElem?_getD,hk2]
        have HA2:Hid (orNext a b bb (ps.drop (k + 1)) (andNext a b cc (qs.drop (k2 + 1)) (optB (relS a b (qs.getD k2 [])))) = Sx):=by
         show _ = _
         rw [← HA.out,List.drop_eq_getElem_cons hk2,andGo_cons,hgd]
        obtain ⟨hq3,hq4⟩:(qs.getD k2 []).length ≤ 900 ∧ ∀ t ∈ qs.getD k2 [],t.length ≤ 1000:=by rw [hgd];exact hqm.out _ (List.getElem_mem hk2)
        clear HA hgd
        generalize qs.getD k2 [] = q at *
        have rel:=fun W (h:Below wr.heap.size wr W)=>rrelation_any W y q m a b hq3 hq4 (hsy.keep h) ha hda hb
        obtain ⟨ya,yc,rfl⟩:=hsy.form
        generalize relS a b q = X at *
        obtain ⟨hh,ff⟩:=X
        simp only at rel
        have q0:=(R3.out.keep hbw2).2.1
        have hw2:IntKind.i64.wrap ((k2:Int) + 1) = k2 + 1:=by rw [IntKind.wrap_i64];omega
        have hBB:=below_of hB2 (below_of hB3 hbw2)
        clear hq3 hq4 hsy hy hgl3 hB2 hB3 hgl
        cases ff with
        | false=>
         have hF:Hid (S = (false,false)):=by
          show _ = _
          rw [← HS.out,← HA2.out]
          rfl
         clear HA2 HS hbw2
         go_wp2
         go_region_with (go_at_call 90;refine (rel _ (by first | exact Below.refl _ _ | exact (Below.refl _ _).drew)).mono ?_;rintro e w5 ⟨rfl,hb5⟩)
         all_goals go_wp2
         all_goals go_ret2
         all_goals first
          | exact ⟨by rw [hF.out];rfl,below_of hBB hb5⟩
          | exact ⟨by rw [hF.out];rfl,(below_of hBB hb5).drew⟩
          | exact ⟨by rw [hF.out];rfl,below_of hBB.drew hb5⟩
        | true=>
         have HA3:Hid (orNext a b bb (ps.drop (k + 1)) (andGo a b (cc && hh) (qs.drop (k2 + 1))) = Sx):=HA2
         clear HA2 HS hBB
         cases cc with
         | true=>
          go_wp2
          go_region_with (go_at_call 90;refine (rel _ (by first | exact Below.refl _ _ | exact (Below.refl _ _).drew)).mono ?_;rintro e w5 ⟨rfl,hb5⟩)
          all_goals go_wp2
          all_goals go_roundg (gk - 1)
          all_goals first
           | omega
           | exact ⟨k2 + 1,hh,by omega,rfl,by simp,below_of hbw2 hb5,HA3⟩
           | exact ⟨k2 + 1,hh,by omega,rfl,by simp,(below_of hbw2 hb5).drew,HA3⟩
           | exact ⟨k2 + 1,hh,by omega,rfl,by simp,below_of hbw2.drew hb5,HA3⟩
         | false=>
          go_wp2
          go_region_with (go_at_call 90;refine (rel _ (by first | exact Below.refl _ _ | exact (Below.refl _ _).drew)).mono ?_;rintro e w5 ⟨rfl,hb5⟩)
          all_goals go_wp2
          all_goals go_roundg (gk - 1)
          all_goals first
           | omega
           | exact ⟨k2 + 1,false,by omega,rfl,by simp,below_of hbw2 hb5,HA3⟩
           | exact ⟨k2 + 1,false,by omega,rfl,by simp,(below_of hbw2 hb5).drew,HA3⟩
           | exact ⟨k2 + 1,false,by omega,rfl,by simp,below_of hbw2.drew hb5,HA3⟩
       ·have hk2':¬ (k2:Int) < qs.length:=by omega
        have HA2:Hid (orGo a b (bb || cc) (ps.drop (k + 1)) = Sx):=by
         show _ = _
         rw [← HA.out,show qs.drop k2 = [] from List.drop_eq_nil_of_le (by omega)]
         rfl
        clear HA
        go_wp2
        go_meet
        case rel=>exact ⟨cc,rfl,hbw2,HA2⟩
     case rest=>
      obtain ⟨cc,rfl,hb4,HG3⟩:=hcut
      have hB4:=below_of hB3 hb4
      have hw1:IntKind.i64.wrap ((k:Int) + 1) = k + 1:=by rw [IntKind.wrap_i64];omega
      clear HG2 hrc3 HSl3 R3 hgl3 hB3 hb4
      cases bb with
      | true=>
       go_wp2
       go_roundg (gk - 1)
       case measure=>omega
       case rel=>exact ⟨k + 1,true,by omega,rfl,by simp,hB4,HG3⟩
      | false=>
       go_wp2
       go_roundg (gk - 1)
       case measure=>omega
       case rel=>exact ⟨k + 1,cc,by omega,rfl,by simp,hB4,by simpa using HG3⟩
    ·have hk':¬ (k:Int) < ps.length:=by omega
     have hF:Hid (S = (bb,true)):=by
      show _ = _
      rw [← HS.out,← HG.out,List.drop_eq_nil_of_le (by omega)]
      rfl
     clear HS HG
     go_wp2
     go_ret2
     exact ⟨by rw [hF.out];rfl,below_of hB2 hbw⟩
end Go.Proofs.YtaepcfidpekflaaGreatDoor
