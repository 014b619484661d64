/-
  Several texts in one (Mo, Mp, Mq, Mr, Shq). By the verifier.
-/
import Derived.Test.YtaepcfidpekflaaGreatDoorZ22
import Derived.Shelf.Unicode.DecodeAny
import Derived.Shelf.GgClosure.StringsIndexFuncTop
import Derived.Shelf.Strings.Replace
import Derived.Shelf.Strings.BuilderK
import Derived.Test.YtaepcfidpekflaaGreatDoorZ04
namespace Go.Proofs.YtaepcfidpekflaaGreatDoor
open Go.RowKit Pg
def KindSaid (P:Nat) (rs:List Pg.T) (d p k:Nat) (n:Pg.T) (w:World) (e:Ending) (w':World):Prop:=Ag P w w' ∧ ∃ res,(∀ q,nameR rs (bl rs (p + 1)) = .inr (n,q) → rs[bl rs q]? = some [44] → k = bl rs (bl rs q + 1) → Rd rs (.arg d) p res) ∧ match res with
 | .ok t q=>∃ v,e = .returned (.tuple #[v,.nilIface]) ∧ Scn P w' rs q ∧ k ≤ q ∧ Lay w' (fun g=>w.heap.size ≤ g) t [v]
 | .bad er a=>∃ u v,e = .returned (.tuple #[u,v]) ∧ Flt w.heap.size w' v er a
 | .okB _ _ _=>False
theorem KindSaid.bad {P:Nat} {rs:List Pg.T} {d p k er a:Nat} {n:Pg.T} {w w':World} {u v:Value} (hr:∀ q,nameR rs (bl rs (p + 1)) = .inr (n,q) → rs[bl rs q]? = some [44] → k = bl rs (bl rs q + 1) → Rd rs (.arg d) p (.bad er a)) (ha:Ag P w w') (hv:Flt w.heap.size w' v er a):KindSaid P rs d p k n w (.returned (.tuple #[u,v])) w':=⟨ha,_,hr,u,v,rfl,hv⟩
theorem Node.tup {P:Nat} {rs:List Pg.T} {d p:Nat} {num:Bool} {mk:Value → Nat → Value} {w w':World} {e:Ending} (h:Node P rs d num p mk w e w'):∃ x y,e = .returned (.tuple #[x,y]):=by
 obtain ⟨res,_,h⟩:=h
 cases res with
 | ok=>exact h.elim
 | okB=>obtain ⟨v,h,_⟩:=h;exact ⟨_,_,h⟩
 | bad=>obtain ⟨u,v,h,_⟩:=h;exact ⟨_,_,h⟩
theorem SelSaidN.tup {P:Nat} {rs:List Pg.T} {d p a:Nat} {n:Pg.T} {w w':World} {e:Ending} (h:SelSaidN P rs d p n a w e w'):∃ x y,e = .returned (.tuple #[x,y]):=by
 rcases h.2 with ⟨_,u,v,h,_⟩ | ⟨_,h⟩
 ·exact ⟨_,_,h⟩
 ·exact h.tup
theorem PluSaidN.tup {P:Nat} {rs:List Pg.T} {d p a:Nat} {n:Pg.T} {ord:Bool} {w w':World} {e:Ending} (h:PluSaidN P rs d p n a ord w e w'):∃ x y,e = .returned (.tuple #[x,y]):=by
 rcases h.2 with ⟨_,u,v,h,_⟩ | ⟨_,⟨x,u,v,_,h,_⟩ | ⟨_,_,_,_,h⟩⟩
 ·exact ⟨_,_,h⟩
 ·exact ⟨_,_,h⟩
 ·exact h.tup
theorem SelSaidN.kind {P:Nat} {rs:List Pg.T} {d p k:Nat} {n:Pg.T} {w w1 w':World} {e:Ending} (h:SelSaidN P rs d (k + (word rs k).length) n p w1 e w') (ha:Ag P w w1) (hw:(word rs k).flatten = selectW):KindSaid P rs d p k n w e w':=by
 obtain ⟨ha2,h⟩:=h
 have hz:=ha.size
 rcases h with ⟨hc,u,v,rfl,hv⟩ | ⟨hc,res,hrd,hm⟩
 ·exact KindSaid.bad (fun q h1 h2 h3=>.argC h1 h2 h3 (.inl hw) rfl hc) (ha.trans ha2) (hv.mono hz)
 ·have hR:∀ q,nameR rs (bl rs (p + 1)) = .inr (n,q) → rs[bl rs q]? = some [44] → k = bl rs (bl rs q + 1) → Rd rs (.arg d) p (res.sel n p):=fun q h1 h2 h3=>.sel h1 h2 h3 hw rfl hc hrd
  cases res with
  | ok=>exact hm.elim
  | bad er a=>
   obtain ⟨u,v,rfl,hv⟩:=hm
   exact KindSaid.bad hR (ha.trans ha2) (hv.mono hz)
  | okB t b q=>
   obtain ⟨v,rfl,hs,hlt,us,h1,h2⟩:=hm
   refine ⟨ha.trans ha2,_,hR,_,rfl,hs,?_,?_⟩
   ·have:=bl_ge rs (k + (word rs k).length)
    have:=bl_ge rs (bl rs (k + (word rs k).length) + 1)
    omega
   ·exact Lay.sel (h1.mono (Nat.le_refl _) fun g hg _=>⟨rfl,by omega⟩) (h2.mono (Nat.le_refl _) fun g hg _=>⟨rfl,by omega⟩) .nil
theorem PluSaidN.kind {P:Nat} {rs:List Pg.T} {d p k:Nat} {n:Pg.T} {ord:Bool} {w w1 w':World} {e:Ending} (h:PluSaidN P rs d (k + (word rs k).length) n p ord w1 e w') (ha:Ag P w w1) (hw:(word rs k).flatten = if ord = true then ordinalW else pluralW):KindSaid P rs d p k n w e w':=by
 obtain ⟨ha2,h⟩:=h
 have hz:=ha.size
 have hw2:(word rs k).flatten = pluralW ∨ (word rs k).flatten = ordinalW:=by cases ord;exact .inl hw;exact .inr hw
 rcases h with ⟨hc,u,v,rfl,hv⟩ | ⟨hc,⟨x,u,v,ho,rfl,hv⟩ | ⟨off,i,ho,hi,res,hrd,hm⟩⟩
 ·exact KindSaid.bad (fun q h1 h2 h3=>.argC h1 h2 h3 (.inr hw2) rfl hc) (ha.trans ha2) (hv.mono hz)
 ·exact KindSaid.bad (fun q h1 h2 h3=>.offB h1 h2 h3 hw2 rfl hc ho) (ha.trans ha2) (hv.mono hz)
 ·have hR:∀ q,nameR rs (bl rs (p + 1)) = .inr (n,q) → rs[bl rs q]? = some [44] → k = bl rs (bl rs q + 1) → Rd rs (.arg d) p (res.plu n p ord off):=fun q h1 h2 h3=>.plu h1 h2 h3 hw rfl hc ho hrd
  cases res with
  | ok=>exact hm.elim
  | bad er a=>
   obtain ⟨u,v,rfl,hv⟩:=hm
   exact KindSaid.bad hR (ha.trans ha2) (hv.mono hz)
  | okB t b q=>
   obtain ⟨v,rfl,hs,hlt,us,h1,h2⟩:=hm
   refine ⟨ha.trans ha2,_,hR,_,rfl,hs,?_,?_⟩
   ·have:=bl_ge rs (k + (word rs k).length)
    omega
   ·exact Lay.plu (h1.mono (Nat.le_refl _) fun g hg _=>⟨rfl,by omega⟩) (h2.mono (Nat.le_refl _) fun g hg _=>⟨rfl,by omega⟩) .nil
theorem known4 {t:Pg.T} (h1:t ≠ numberW) (h2:t ≠ selectW) (h3:t ≠ pluralW) (h4:t ≠ ordinalW):Dk.knownOf t = 4:=by
 unfold Dk.knownOf
 unfold numberW at h1
 unfold selectW at h2
 unfold pluralW at h3
 unfold ordinalW at h4
 rw [if_neg h1,if_neg h3,if_neg h4,if_neg h2]
set_option maxHeartbeats 6400000 in
theorem pkind_any (d:Nat) (hd:d ≤ 6) (hM:d < 6 → MsgOk (d + 1)) (P:Nat) (w:World) (rs:List Pg.T) (p k:Nat) (n:Pg.T) (h:Scn P w rs k):
  Calls Tryz.prog 222 #[.pointer (some ⟨P,0,none⟩),.agg #[.string ⟨n.toArray⟩,.int .i64 p],.int .i64 d] w fun e w'=>KindSaid P rs d p k n w e w':=by
 have hPl:=h.lt
 have hb0:=allocB w (.cells #[.string ⟨n.toArray⟩,.int .i64 p] 189)
 have r0:=row_at w #[.string ⟨n.toArray⟩,.int .i64 p] 189
 have h0:=h.then hb0
 have kw:=pword_any P _ rs k h0
 obtain ⟨a0,c0,q0,f0⟩:=h0.rows
 have hz0:(w.alloc (.cells #[.string ⟨n.toArray⟩,.int .i64 p] 189)).heap.size = w.heap.size + 1:=by simp
 clear h h0
 go_enter Tryz.func222,Tryz.ntmps222
 go_wp2_with fail
 refine kw.mono ?_
 rintro e w1 ⟨rfl,hs1,ha⟩
 have HR:Hid (Row w1 w.heap.size #[.string ⟨n.toArray⟩,.int .i64 p]):=r0.ag ha (by omega)
 have HA1:Hid (Ag P w w1):=(Ag.of hb0 (Nat.le_refl _)).trans ha
 have hz1:w.heap.size + 1 ≤ w1.heap.size:=by have:=ha.size;omega
 have HS1:Hid (Scn P w1 rs (k + (word rs k).length)):=hs1
 have q1:=HR.out.2.1
 clear kw r0 hb0 hz0 ha hs1 q0 f0
 by_cases e1:(word rs k).flatten = numberW
 ·have HW:Hid ((word rs k).flatten = numberW):=e1
  have t1:((word rs k).flatten == ([110,117,109,98,101,114]:Pg.T)) = true:=by rw [e1];rfl
  have kb:=pblanks_any P w1 rs _ HS1.out
  obtain ⟨j,hj⟩:∃ j,Hid (j = bl rs (k + (word rs k).length)):=⟨_,rfl⟩
  have hkj:k ≤ j:=by have:=hj.out;have:=bl_ge rs (k + (word rs k).length);omega
  rw [← hj.out] at kb
  obtain ⟨F,hF⟩:∃ F,Hid ((word rs k).flatten = F):=⟨_,rfl⟩
  rw [hF.out] at t1 ⊢
  clear e1
  go_wp2_with fail
  refine kb.mono ?_
  rintro e w2 ⟨rfl,hs2,ha2⟩
  have HR2:Hid (Row w2 w.heap.size #[.string ⟨n.toArray⟩,.int .i64 p]):=HR.out.ag ha2 (by omega)
  have HA2:Hid (Ag P w w2):=HA1.out.trans ha2
  have hz2:=ha2.size
  have HRdr:Hid (Row w2.drew w.heap.size #[.string ⟨n.toArray⟩,.int .i64 p]):=HR2.out.keep (Below.refl _ _).drew
  have kn:=fun W (hW:Below w2.heap.size w2 W)=>pneed_ret P W rs j 125 (by decide) (hs2.then hW)
  have q2:=HR2.out.2.1
  clear kb HR q1 ha2 hs2
  go_wp2_with fail
  go_region_with (go_at_call 241;refine (kn _ (Below.refl _ _).drew).mono ?_;rintro e w5 ⟨y,rfl,ha8,hn⟩;have HR5:Hid (Row w5 w.heap.size #[.string ⟨n.toArray⟩,.int .i64 p]):=HRdr.out.ag ha8 (by omega);have q5:=HR5.out.2.1)
  all_goals
   go_wp2
   go_ret2
   have hag:Ag P w w5:=(HA2.out.then (Below.refl _ _).drew).trans ha8
   have hzd:=(Below.refl w2.heap.size w2).drew.size
   rcases hn with ⟨hc5,rfl,hs5⟩ | ⟨hc5,hv5⟩
   ·exact ⟨hag,.ok (.num n p .nil) (j + 1),fun q h1 h2 h3=>.num h1 h2 h3 HW.out hj.out hc5,_,rfl,hs5,by omega,.num .nil⟩
   ·exact KindSaid.bad (fun q h1 h2 h3=>.numB h1 h2 h3 HW.out hj.out hc5) hag (hv5.mono (by omega))
 have t1:((word rs k).flatten == ([110,117,109,98,101,114]:Pg.T)) = false:=by rw [beq_eq_false_iff_ne];exact e1
 by_cases e2:(word rs k).flatten = selectW
 ·have HW:Hid ((word rs k).flatten = selectW):=e2
  have t2:((word rs k).flatten == ([115,101,108,101,99,116]:Pg.T)) = true:=by rw [e2];rfl
  have ks:=pselectOf_any d hd hM P w1 rs _ n p HS1.out
  obtain ⟨F,hF⟩:∃ F,Hid ((word rs k).flatten = F):=⟨_,rfl⟩
  rw [hF.out] at t1 t2 ⊢
  clear e1 e2
  go_wp2_with fail
  refine ks.mono ?_
  intro e w2 hs
  have HSN:Hid (SelSaidN P rs d (k + (word rs k).length) n p w1 e w2):=hs
  obtain ⟨x,y,rfl⟩:=hs.tup
  clear hs ks
  go_wp2
  go_ret2
  exact HSN.out.kind HA1.out HW.out
 have t2:((word rs k).flatten == ([115,101,108,101,99,116]:Pg.T)) = false:=by rw [beq_eq_false_iff_ne];exact e2
 by_cases e3:(word rs k).flatten = pluralW
 ·have HW:Hid ((word rs k).flatten = if false = true then ordinalW else pluralW):=e3
  have t3:((word rs k).flatten == ([112,108,117,114,97,108]:Pg.T)) = true:=by rw [e3];rfl
  have ks:=ppluralOf_any d hd hM P w1 rs _ n p false HS1.out
  obtain ⟨F,hF⟩:∃ F,Hid ((word rs k).flatten = F):=⟨_,rfl⟩
  rw [hF.out] at t1 t2 t3 ⊢
  clear e1 e2 e3
  go_wp2_with fail
  refine ks.mono ?_
  intro e w2 hs
  have HSN:Hid (PluSaidN P rs d (k + (word rs k).length) n p false w1 e w2):=hs
  obtain ⟨x,y,rfl⟩:=hs.tup
  clear hs ks
  go_wp2
  go_ret2
  exact HSN.out.kind HA1.out HW.out
 have t3:((word rs k).flatten == ([112,108,117,114,97,108]:Pg.T)) = false:=by rw [beq_eq_false_iff_ne];exact e3
 by_cases e4:(word rs k).flatten = ordinalW
 ·have HW:Hid ((word rs k).flatten = if true = true then ordinalW else pluralW):=e4
  have t4:((word rs k).flatten == ([115,101,108,101,99,116,111,114,100,105,110,97,108]:Pg.T)) = true:=by rw [e4];rfl
  have ks:=ppluralOf_any d hd hM P w1 rs _ n p true HS1.out
  obtain ⟨F,hF⟩:∃ F,Hid ((word rs k).flatten = F):=⟨_,rfl⟩
  rw [hF.out] at t1 t2 t3 t4 ⊢
  clear e1 e2 e3 e4
  go_wp2_with fail
  refine ks.mono ?_
  intro e w2 hs
  have HSN:Hid (PluSaidN P rs d (k + (word rs k).length) n p true w1 e w2):=hs
  obtain ⟨x,y,rfl⟩:=hs.tup
  clear hs ks
  go_wp2
  go_ret2
  exact HSN.out.kind HA1.out HW.out
 ·have t4:((word rs k).flatten == ([115,101,108,101,99,116,111,114,100,105,110,97,108]:Pg.T)) = false:=by rw [beq_eq_false_iff_ne];exact e4
  have HW:Hid (Dk.knownOf (word rs k).flatten = 4):=known4 e1 e2 e3 e4
  have kf:=pfault_any w1 3 k
  obtain ⟨F,hF⟩:∃ F,Hid ((word rs k).flatten = F):=⟨_,rfl⟩
  rw [hF.out] at t1 t2 t3 t4 ⊢
  clear e1 e2 e3 e4
  go_wp2_with (go_at_call 158;refine kf.mono ?_;rintro e w4 ⟨⟨v,rfl,hv⟩,hb4⟩)
  go_ret2
  exact KindSaid.bad (fun q h1 h2 h3=>.kindB h1 h2 h3 HW.out) (HA1.out.then hb4) (hv.mono (by omega))
end Go.Proofs.YtaepcfidpekflaaGreatDoor
namespace Go.Proofs.YtaepcfidpekflaaGreatDoor
open Go.RowKit Pg
set_option maxHeartbeats 6400000 in
theorem pargument_any (d:Nat) (hd:d ≤ 6) (hM:d < 6 → MsgOk (d + 1)) (P:Nat) (w:World) (rs:List Pg.T) (p:Nat) (h:Scn P w rs p) (hp:rs[p]? = some [123]):
  Calls Tryz.prog 193 #[.pointer (some ⟨P,0,none⟩),.int .i64 d] w fun e w'=>Rdn P rs (.arg d) p w e w':=by
 have hPl:=h.lt
 have hlt:=lt_of_some hp
 have hle:=h.pts.2.1
 obtain ⟨a0,c0,q0,f0⟩:=h.rows
 obtain ⟨hs1,ha1⟩:=h.inc hlt (Ag.refl P w)
 have hw:IntKind.i64.wrap ((p:Int) + 1) = (p:Int) + 1:=by rw [IntKind.wrap_i64];omega
 have hb1:=allocB (w.setCell ⟨P,1,none⟩ (.int .i64 ((p:Int) + 1))) (.cells #[.string ⟨#[]⟩,.int .i64 p] 189)
 have r1:=row_at (w.setCell ⟨P,1,none⟩ (.int .i64 ((p:Int) + 1))) #[.string ⟨#[]⟩,.int .i64 p] 189
 have hz1:(w.setCell ⟨P,1,none⟩ (.int .i64 ((p:Int) + 1))).heap.size = w.heap.size:=by simp
 rw [hz1] at r1
 have kb:=pblanks_any P _ rs (p + 1) (hs1.then hb1)
 have ha2:=ha1.then hb1
 clear h hs1
 go_enter Tryz.func193,Tryz.ntmps193
 go_wp2_with fail
 refine kb.mono ?_
 rintro e w2 ⟨rfl,hs2,ha3⟩
 have HR2:Hid (Row w2 w.heap.size #[.string ⟨#[]⟩,.int .i64 p]):=r1.ag ha3 (by omega)
 have HA2:Hid (Ag P w w2):=ha2.trans ha3
 have hz2:w.heap.size + 1 ≤ w2.heap.size:=by have:=ha3.size;simp at this;omega
 have hle2:=hs2.pts.2.2
 have kn:=pname_any P w2 rs (bl rs (p + 1)) hs2
 clear kb r1 hb1 ha1 ha2 ha3 hz1 q0 f0 hs2
 go_wp2_with fail
 refine kn.mono ?_
 rintro e w3 ⟨ha3,hm⟩
 have HR3:Hid (Row w3 w.heap.size #[.string ⟨#[]⟩,.int .i64 p]):=HR2.out.ag ha3 (by omega)
 have HA3:Hid (Ag P w w3):=HA2.out.trans ha3
 have hz3:=ha3.size
 clear kn HR2 HA2 ha3
 cases hn:nameR rs (bl rs (p + 1)) with
 | inl a=>
  rw [hn] at hm
  obtain ⟨v,rfl,hv⟩:=hm
  have HN:Hid (nameR rs (bl rs (p + 1)) = .inl a):=hn
  have HV:Hid (Flt w2.heap.size w3 v 3 a):=hv
  obtain ⟨b,rfl,_⟩:=hv
  clear hn
  go_wp2
  go_ret2
  exact ⟨HA3.out,_,.nameB HN.out,_,_,rfl,HV.out.mono (by omega),trivial⟩
 | inr x=>
  obtain ⟨n,q⟩:=x
  rw [hn] at hm
  obtain ⟨rfl,hs3⟩:=hm
  have HN:Hid (nameR rs (bl rs (p + 1)) = .inr (n,q)):=hn
  have hpq:p < q:=by
   have h1:=((nameR_le hle2).1 n q hn).1
   have:=bl_ge rs (p + 1)
   omega
  have hs4:=hs3.set (g:=w.heap.size) (j:=0) hPl (.string ⟨n.toArray⟩)
  have HA4:Hid (Ag P w (w3.setCell ⟨w.heap.size,0,none⟩ (.string ⟨n.toArray⟩))):=HA3.out.setNew (Nat.le_refl _) 0 _
  have HR4:Hid (Row (w3.setCell ⟨w.heap.size,0,none⟩ (.string ⟨n.toArray⟩)) w.heap.size #[.string ⟨n.toArray⟩,.int .i64 p]):=HR3.out.setC 0 _ (by simp)
  have hz4:(w3.setCell ⟨w.heap.size,0,none⟩ (.string ⟨n.toArray⟩)).heap.size = w3.heap.size:=by simp
  have kb:=pblanks_any P _ rs q hs4
  have q3:=HR3.out.2.1
  have f3:=HR3.out.2.2
  clear hn hs3 hs4
  go_wp2_with fail
  refine kb.mono ?_
  rintro e w5 ⟨rfl,hs5,ha5⟩
  have HR5:Hid (Row w5 w.heap.size #[.string ⟨n.toArray⟩,.int .i64 p]):=HR4.out.ag ha5 (by omega)
  have HA5:Hid (Ag P w w5):=HA4.out.trans ha5
  have hz5:w3.heap.size ≤ w5.heap.size:=by have:=ha5.size;omega
  have HS5:Hid (Scn P w5 rs (bl rs q)):=hs5
  have hbq:=bl_ge rs q
  have hbb:=bl_bl rs q
  have kt:=ptake_any P w5 rs (bl rs q) 125 (by decide) hs5
  clear kb HR4 HA4 HR3 HA3 hs5 ha5 q3 f3 hz4
  by_cases hc:rs[bl rs q]? = some [125]
  ·have HC:Hid (rs[bl rs q]? = some [125]):=hc
   rw [decide_eq_true hc,if_pos hc] at kt
   clear hc hbb
   go_wp2_with fail
   refine kt.mono ?_
   rintro e w6 ⟨rfl,hs6,ha6⟩
   have HR6:Hid (Row w6 w.heap.size #[.string ⟨n.toArray⟩,.int .i64 p]):=HR5.out.ag ha6 (by omega)
   have q6:=HR6.out.2.1
   go_wp2
   go_ret2
   exact ⟨HA5.out.trans ha6,_,.simple HN.out HC.out,_,rfl,hs6,by omega,.simple .nil⟩
  ·have HC:Hid (rs[bl rs q]? ≠ some [125]):=hc
   rw [decide_eq_false hc,if_neg hc] at kt
   clear hc
   go_wp2_with fail
   refine kt.mono ?_
   rintro e w6 ⟨rfl,hs6,ha6⟩
   have HR6:Hid (Row w6 w.heap.size #[.string ⟨n.toArray⟩,.int .i64 p]):=HR5.out.ag ha6 (by omega)
   have HA6:Hid (Ag P w w6):=HA5.out.trans ha6
   have hz6:=ha6.size
   have kc:=pcomma_any P w6 rs (bl rs q) hs6
   unfold Comma at kc
   rw [hbb] at kc
   have HBB:Hid (bl rs (bl rs q) = bl rs q):=hbb
   clear kt hs6 ha6 HR5 HA5 HS5 hbb
   go_wp2_with fail
   refine kc.mono ?_
   rintro e w7 ⟨ha7,hn⟩
   have HR7:Hid (Row w7 w.heap.size #[.string ⟨n.toArray⟩,.int .i64 p]):=HR6.out.ag ha7 (by omega)
   have HA7:Hid (Ag P w w7):=HA6.out.trans ha7
   have hz7:=ha7.size
   clear kc ha7 HR6 HA6
   rcases hn with ⟨h44,rfl,hs7⟩ | ⟨h44,v,rfl,hv⟩
   ·have H44:Hid (rs[bl rs q]? = some [44]):=h44
    have hbk:=bl_ge rs (bl rs q + 1)
    have kk:=pkind_any d hd hM P w7 rs p (bl rs (bl rs q + 1)) n hs7
    have q7:=HR7.out.2.1
    clear h44 hs7
    go_wp2_with fail
    refine kk.mono ?_
    rintro e w8 ⟨ha8,res,hrd,hm⟩
    have HRD:Hid (Rd rs (.arg d) p res):=hrd q HN.out H44.out rfl
    clear hrd kk
    cases res with
    | okB=>exact hm.elim
    | bad er a=>
     obtain ⟨u,v,rfl,hv⟩:=hm
     go_wp2
     go_ret2
     exact ⟨HA7.out.trans ha8,_,HRD.out,_,_,rfl,hv.mono (by omega),trivial⟩
    | ok t q2=>
     obtain ⟨v,rfl,hs8,hkq,hlay⟩:=hm
     have HLAY:Hid (Lay w8 (fun g=>w7.heap.size ≤ g) t [v]):=hlay
     clear hlay
     go_wp2
     go_ret2
     exact ⟨HA7.out.trans ha8,_,HRD.out,_,rfl,hs8,by omega,HLAY.out.mono (Nat.le_refl _) fun g hg _=>⟨rfl,by omega⟩⟩
   ·have H44:Hid (rs[bl rs q]? ≠ some [44]):=h44
    have HV:Hid (Flt w6.heap.size w7 v 3 (bl rs q)):=hv
    obtain ⟨b,rfl,_⟩:=hv
    clear h44
    go_wp2
    go_ret2
    exact ⟨HA7.out,_,.commaB HN.out HC.out H44.out,_,_,rfl,HV.out.mono (by omega),trivial⟩
end Go.Proofs.YtaepcfidpekflaaGreatDoor
namespace Go.Proofs.YtaepcfidpekflaaGreatDoor
open Go.RowKit Pg
theorem info_node:(Tryz.prog.info? 283).map (fun i=>(i.zero,i.size,i.bytes)) = some (some .nilIface,1,16):=by kernel_rfl
theorem said_pos (num:Bool) (c:Pg.T) (r:List Pg.T) (hs:spec num c = false):(saidGo num false (c :: r)).2 ≠ 0:=by
 unfold saidGo
 rw [if_neg (by rw [hs];simp)]
 split
 ·simp
 ·split
  ·simp
  ·split
   ·simp
   ·split <;> simp
structure Ms (rs:List Pg.T) (d:Nat) (num:Bool) (p q n:Nat) (t:Pg.Tr):Prop where
 more:∀ res,Rd rs (.msg d num) q res → Rd rs (.msg d num) p (res.pre t)
 small:n ≤ q
theorem Ms.start (rs:List Pg.T) (d:Nat) (num:Bool) (p:Nat):Ms rs d num p p 0 .nil:=⟨fun res h=>by rw [Res.pre_nil];exact h,Nat.zero_le _⟩
theorem Ms.next {rs:List Pg.T} {d:Nat} {num:Bool} {p q n q2:Nat} {t u:Pg.Tr} (h:Ms rs d num p q n t) (hq:q < q2) (hr:∀ res,Rd rs (.msg d num) q2 res → Rd rs (.msg d num) q (res.pre u)):Ms rs d num p q2 (n + 1) (t.app u):=by
 refine ⟨fun res h2=>?_,by have:=h.small;omega⟩
 have:=h.more _ (hr res h2)
 rw [Res.pre_pre] at this
 exact this
set_option maxHeartbeats 12800000 in
theorem pmessage_at (d:Nat) (hd:d ≤ 6) (hM:d < 6 → MsgOk (d + 1)):MsgOk d:=by
 intro P w rs p num h
 have hPl:=h.lt
 have HP:Hid (Pts rs):=h.pts.1
 have hrl:=h.pts.2.1
 have HS:Hid (Scn P w rs p):=h
 clear h
 go_enter Tryz.func160,Tryz.ntmps160
 go_wp2_with fail
 go_loopw [8] (fun x wr=>∃ (q n:Nat) (t:Pg.Tr) (vs:List Value) (lv:Value),x = lv ∧ Hid (Ms rs d num p q n t) ∧ Hid (Scn P wr rs q) ∧ Hid (Ag P w wr) ∧ Hid (Grow wr w.heap.size 283 1 lv n t vs)) (fun _ wr=>rs.length - posOf wr P)
 case atStart=>exact ⟨p,0,.nil,[],.slice none 0 0,rfl,Ms.start _ _ _ _,HS,Ag.refl _ _,Grow.nil _ _ _ _⟩
 case round=>
  clear HS
  obtain ⟨q,n,t,vs,lv,rfl,HB,HS,HA,HG⟩:=hrel
  obtain ⟨la,lc,rfl⟩:=HG.out.form
  have hpos:=HS.out.pos
  have hql:=HS.out.pts.2.2
  have hnq:=HB.out.small
  have kp:=peek_any P wr rs q 0 HS.out (by omega)
  rw [Nat.add_zero] at kp
  have bd:=pk_bd HP.out q
  obtain ⟨K,hKK⟩:∃ K,Hid (pk rs q = K):=⟨_,rfl⟩
  rw [hKK.out] at kp bd
  go_wp2_with fail
  refine kp.mono ?_
  rintro e w1 ⟨rfl,hb1⟩
  have HS1:Hid (Scn P w1 rs q):=HS.out.then hb1
  have HA1:Hid (Ag P w w1):=HA.out.then hb1
  have HG1:Hid (Grow w1 w.heap.size 283 1 (.slice la n lc) n t vs):=HG.out.ag (Ag.of (P:=P) hb1 (Nat.le_refl _)) hPl
  clear kp HS HA HG hb1
  cases hc:rs[q]? with
  | none=>
   have hK:K = -1:=by rw [← hKK.out];exact pk_none hc
   subst hK
   have hst:rs[q]? = none ∨ rs[q]? = some [125]:=.inl hc
   clear hc
   have HN:Hid (Rd rs (.msg d num) p (.ok t q)):=by
    have:=HB.out.more _ (.stop hst)
    rw [show (Res.ok .nil q).pre t = .ok t q from by show Res.ok (t.app .nil) _ = _;rw [Tr.app_nil]] at this
    exact this
   clear hst
   go_wp2
   go_ret2
   exact ⟨HA1.out,_,HN.out,_,rfl,HS1.out,HG1.out.row (by omega)⟩
  | some c=>
   have hKe:(K == -1) = false:=by rw [beq_eq_false_iff_ne,← hKK.out,pk_some hc];have:=rv_lo c;omega
   by_cases h125:c = [125]
   ·subst h125
    have hK:K = 125:=(pk_eq HP.out q 125 (by decide)).2 hc |> hKK.out.symm.trans
    subst hK
    have hst:rs[q]? = none ∨ rs[q]? = some [125]:=.inr hc
    clear hc
    have HN:Hid (Rd rs (.msg d num) p (.ok t q)):=by
     have:=HB.out.more _ (.stop hst)
     rw [show (Res.ok .nil q).pre t = .ok t q from by show Res.ok (t.app .nil) _ = _;rw [Tr.app_nil]] at this
     exact this
    clear hst
    go_wp2
    go_ret2
    exact ⟨HA1.out,_,HN.out,_,rfl,HS1.out,HG1.out.row (by omega)⟩
   have hK125:(K == 125) = false:=by rw [beq_eq_false_iff_ne,← hKK.out];exact fun e=>h125 (by have:=(pk_eq HP.out q 125 (by decide)).1 e;rw [hc] at this;injection this)
   by_cases h123:c = [123]
   ·subst h123
    have HC:Hid (rs[q]? = some [123]):=hc
    have hK:K = 123:=(pk_eq HP.out q 123 (by decide)).2 hc |> hKK.out.symm.trans
    subst hK
    have ka:=pargument_any d hd hM P w1 rs q HS1.out hc
    clear hc
    go_wp2_with fail
    refine ka.mono ?_
    rintro e w2 ⟨ha2,res,hrd,hm⟩
    have HA2:Hid (Ag P w w2):=HA1.out.trans ha2
    have HG2:Hid (Grow w2 w.heap.size 283 1 (.slice la n lc) n t vs):=HG1.out.ag ha2 hPl
    have HRD:Hid (Rd rs (.arg d) q res):=hrd
    have hob1:∀ g,(Value.slice la n lc).ownBlock = some g → g < w1.heap.size:=fun g e=>(World.ownsRow.lt HG1.out.own g e).2
    have hz1:=HA1.out.size
    clear ka hrd
    cases res with
    | okB=>exact absurd (fine_of HRD.out (lt_of_some HC.out)) (fun h=>h)
    | bad er a=>
     obtain ⟨u,v,rfl,hv,_⟩:=hm
     have HV:Hid (Flt w1.heap.size w2 v er a):=hv
     have HN:Hid (Rd rs (.msg d num) p (.bad er a)):=HB.out.more _ (.argB HC.out HRD.out)
     obtain ⟨b,rfl,_⟩:=hv
     go_wp2
     go_ret2
     exact ⟨HA2.out,_,HN.out,_,_,rfl,HV.out.mono (by omega),trivial⟩
    | ok tn q2=>
     obtain ⟨v,rfl,hs2,hlt,hlay⟩:=hm
     have HS2:Hid (Scn P w2 rs q2):=hs2
     have hq2:=hs2.pts.2.2
     have HB2:Hid (Ms rs d num p q2 (n + 1) (t.app tn)):=HB.out.next (by omega) fun res hr=>.argK HC.out HRD.out hr
     obtain ⟨vt,vx,rfl⟩:∃ vt vx,v = .iface vt vx:=by
      cases hlay <;> exact ⟨_,_,rfl⟩
     have HLY:Hid (Lay w2 (fun g=>w1.heap.size ≤ g) tn [.iface vt vx]):=hlay
     clear hs2 hlay
     have HG6:Hid (Grow (w2.alloc (.cells #[.iface vt vx] 283)) w.heap.size 283 1 (.slice la n lc) n t vs):=HG2.out.alloc _
     have HY:Hid (Lay (w2.alloc (.cells #[.iface vt vx] 283)) (fun g=>w.heap.size ≤ g ∧ (Value.slice la n lc).ownBlock ≠ some g) tn [.iface vt vx]):=HLY.out.mono (by simp) fun g hg hl=>⟨(allocB w2 _).block g hl,by omega,fun e=>by have:=hob1 g e;omega⟩
     obtain ⟨i0,hi0,hz0,hz1',hz2'⟩:=info_parts info_node
     have HI:Hid (Tryz.prog.info? 283 = some i0 ∧ i0.zero = some .nilIface ∧ i0.size = 1 ∧ i0.bytes = 16):=⟨hi0,hz0,hz1',hz2'⟩
     have hBz:w.heap.size ≤ w2.heap.size:=HA2.out.size
     clear hi0 hz0 hz1' hz2'
     go_wp2_with (at_builtin;refine wpList_append_own_at _ rfl _ _ 181 rfl w.heap.size 283 i0 .nilIface 1 16 Tryz.underlying181 HI.out.1 HI.out.2.1 HI.out.2.2.1 HI.out.2.2.2 rfl (by decide) (.slice la n lc) n vs rfl HG6.out.own ⟨w2.heap.size,0,none⟩ 1 1 [.iface vt vx] rfl rfl ?c1 ?c2 ?c3 ?c4 ?c5 ?_)
     case c1=>exact cells_new w2 _ [.iface vt vx] 283 (by simp)
     case c2=>intro u hu;rw [List.mem_singleton.1 hu];rfl
     case c3=>unfold maxLen;omega
     case c4=>omega
     case c5=>simp;omega
     intro v8 w8 hown8 hgrow8 _ hat8
     have hg8:=HG6.out.put HY.out hown8 hgrow8 (by simpa using hat8)
     have hob:∀ g,(Value.slice la n lc).ownBlock = some g → w.heap.size ≤ g:=fun g e=>(World.ownsRow.lt HG6.out.own g e).1
     have HS8:Hid (Scn P w8 rs q2):=(HS2.out.then (allocB _ (.cells #[.iface vt vx] 283))).grown hgrow8 (fun g e=>by have:=hob _ e;omega)
     have HA8:Hid (Ag P w w8):=(HA2.out.then (allocB _ (.cells #[.iface vt vx] 283))).grown hgrow8 (fun g e=>by have:=hob _ e;omega)
     have HG8:Hid (Grow w8 w.heap.size 283 1 v8 (n + 1) (t.app tn) (vs ++ [.iface vt vx])):=hg8
     have hpos8:=HS8.out.pos
     obtain ⟨va8,vc8,rfl⟩:=hg8.form
     clear hg8 hown8 hgrow8 hat8 HG6 HY hob
     go_wp2
     exact ⟨⟨q2,n + 1,_,_,.slice va8 (n + 1) vc8,rfl,HB2,HS8,HA8,HG8⟩,by rw [hpos8,hpos];omega⟩
   have hK123:(K == 123) = false:=by rw [beq_eq_false_iff_ne,← hKK.out];exact fun e=>h123 (by have:=(pk_eq HP.out q 123 (by decide)).1 e;rw [hc] at this;injection this)
   cases num with
   | true=>
    by_cases h35:c = [35]
    ·subst h35
     have HC:Hid (rs[q]? = some [35]):=hc
     have hK:K = 35:=(pk_eq HP.out q 35 (by decide)).2 hc |> hKK.out.symm.trans
     subst hK
     have hlt:=lt_of_some hc
     have hw3:IntKind.i64.wrap ((q:Int) + 1) = (q:Int) + 1:=by rw [IntKind.wrap_i64];omega
     obtain ⟨a1,c1,q1,f1⟩:=HS1.out.rows
     obtain ⟨hs2,ha2⟩:=HS1.out.inc hlt HA1.out
     have HS2:Hid (Scn P (w1.setCell ⟨P,1,none⟩ (.int .i64 ((q:Int) + 1))) rs (q + 1)):=hs2
     have HA2:Hid (Ag P w (w1.setCell ⟨P,1,none⟩ (.int .i64 ((q:Int) + 1)))):=ha2
     have HG2:Hid (Grow (w1.setCell ⟨P,1,none⟩ (.int .i64 ((q:Int) + 1))) w.heap.size 283 1 (.slice la n lc) n t vs):=HG1.out.set hPl _
     have HB2:Hid (Ms rs d true p (q + 1) (n + 1) (t.app (.sign .nil))):=HB.out.next (by omega) fun res hr=>.sign HC.out hr
     have hzz:(w1.setCell ⟨P,1,none⟩ (.int .i64 ((q:Int) + 1))).heap.size = w1.heap.size:=by simp
     clear hc hs2 ha2
     have HG6:Hid (Grow ((w1.setCell ⟨P,1,none⟩ (.int .i64 ((q:Int) + 1))).alloc (.cells #[.iface 287 (.agg #[])] 283)) w.heap.size 283 1 (.slice la n lc) n t vs):=HG2.out.alloc _
     have HY:Hid (Lay ((w1.setCell ⟨P,1,none⟩ (.int .i64 ((q:Int) + 1))).alloc (.cells #[.iface 287 (.agg #[])] 283)) (fun g=>w.heap.size ≤ g ∧ (Value.slice la n lc).ownBlock ≠ some g) (.sign .nil) [.iface 287 (.agg #[])]):=.sign .nil
     obtain ⟨i0,hi0,hz0,hz1',hz2'⟩:=info_parts info_node
     have HI:Hid (Tryz.prog.info? 283 = some i0 ∧ i0.zero = some .nilIface ∧ i0.size = 1 ∧ i0.bytes = 16):=⟨hi0,hz0,hz1',hz2'⟩
     have hBz:w.heap.size ≤ (w1.setCell ⟨P,1,none⟩ (.int .i64 ((q:Int) + 1))).heap.size:=HA2.out.size
     clear hi0 hz0 hz1' hz2'
     go_wp2_with (at_builtin;refine wpList_append_own_at _ rfl _ _ 181 rfl w.heap.size 283 i0 .nilIface 1 16 Tryz.underlying181 HI.out.1 HI.out.2.1 HI.out.2.2.1 HI.out.2.2.2 rfl (by decide) (.slice la n lc) n vs rfl HG6.out.own ⟨w1.heap.size,0,none⟩ 1 1 [.iface 287 (.agg #[])] rfl rfl ?c1 ?c2 ?c3 ?c4 ?c5 ?_)
     case c1=>exact cells_new (w1.setCell ⟨P,1,none⟩ (.int .i64 ((q:Int) + 1))) _ [.iface 287 (.agg #[])] 283 (by simp)
     case c2=>intro u hu;rw [List.mem_singleton.1 hu];rfl
     case c3=>unfold maxLen;omega
     case c4=>omega
     case c5=>simp;omega
     intro v8 w8 hown8 hgrow8 _ hat8
     have hg8:=HG6.out.put HY.out hown8 hgrow8 (by simpa using hat8)
     have hob:∀ g,(Value.slice la n lc).ownBlock = some g → w.heap.size ≤ g:=fun g e=>(World.ownsRow.lt HG6.out.own g e).1
     have HS8:Hid (Scn P w8 rs (q + 1)):=(HS2.out.then (allocB _ (.cells #[.iface 287 (.agg #[])] 283))).grown hgrow8 (fun g e=>by have:=hob _ e;omega)
     have HA8:Hid (Ag P w w8):=(HA2.out.then (allocB _ (.cells #[.iface 287 (.agg #[])] 283))).grown hgrow8 (fun g e=>by have:=hob _ e;omega)
     have HG8:Hid (Grow w8 w.heap.size 283 1 v8 (n + 1) (t.app (.sign .nil)) (vs ++ [.iface 287 (.agg #[])])):=hg8
     have hpos8:=HS8.out.pos
     obtain ⟨va8,vc8,rfl⟩:=hg8.form
     clear hg8 hown8 hgrow8 hat8 HG6 HY hob
     go_wp2
     exact ⟨⟨(q + 1),n + 1,_,_,.slice va8 (n + 1) vc8,rfl,HB2,HS8,HA8,HG8⟩,by rw [hpos8,hpos];omega⟩
    have hK35:(K == 35) = false:=by rw [beq_eq_false_iff_ne,← hKK.out];exact fun e=>h35 (by have:=(pk_eq HP.out q 35 (by decide)).1 e;rw [hc] at this;injection this)
    have hsp:spec true c = false:=by
     unfold spec
     simp [h125,h123,h35]
    clear h125 h123 h35
    have HC:Hid (rs[q]? = some c):=hc
    have ks:=psaid_any P w1 rs q true HS1.out
    have hlt:q < q + (saidGo true false (rs.drop q)).2:=by
     have h1:=said_ne true c (rs.drop (q + 1)) (by rw [← drop_at hc];exact (Pts.cps HP.out).drop q) hsp
     rw [← drop_at hc] at h1
     have h2:(saidGo true false (rs.drop q)).2 ≠ 0:=by
      rw [drop_at hc]
      exact said_pos true c _ hsp
     omega
    have HB2:Hid (Ms rs d true p (q + (saidGo true false (rs.drop q)).2) (n + 1) (t.app (.text (saidGo true false (rs.drop q)).1 .nil))):=HB.out.next hlt fun res hr=>.said HC.out hsp hr
    clear hc hsp
    generalize (saidGo true false (rs.drop q)).1 = TX at *
    generalize q + (saidGo true false (rs.drop q)).2 = q2 at *
    go_wp2_with fail
    refine ks.mono ?_
    rintro e w2 ⟨rfl,hs2,ha2⟩
    have HS2:Hid (Scn P w2 rs q2):=hs2
    have hq2:=hs2.pts.2.2
    have HA2:Hid (Ag P w w2):=HA1.out.trans ha2
    have HG2:Hid (Grow w2 w.heap.size 283 1 (.slice la n lc) n t vs):=HG1.out.ag ha2 hPl
    clear ks hs2 ha2
    have HG6:Hid (Grow (w2.alloc (.cells #[.iface 285 (.agg #[.string ⟨TX.toArray⟩])] 283)) w.heap.size 283 1 (.slice la n lc) n t vs):=HG2.out.alloc _
    have HY:Hid (Lay (w2.alloc (.cells #[.iface 285 (.agg #[.string ⟨TX.toArray⟩])] 283)) (fun g=>w.heap.size ≤ g ∧ (Value.slice la n lc).ownBlock ≠ some g) (.text TX .nil) [.iface 285 (.agg #[.string ⟨TX.toArray⟩])]):=.text .nil
    obtain ⟨i0,hi0,hz0,hz1',hz2'⟩:=info_parts info_node
    have HI:Hid (Tryz.prog.info? 283 = some i0 ∧ i0.zero = some .nilIface ∧ i0.size = 1 ∧ i0.bytes = 16):=⟨hi0,hz0,hz1',hz2'⟩
    have hBz:w.heap.size ≤ w2.heap.size:=HA2.out.size
    clear hi0 hz0 hz1' hz2'
    go_wp2_with (at_builtin;refine wpList_append_own_at _ rfl _ _ 181 rfl w.heap.size 283 i0 .nilIface 1 16 Tryz.underlying181 HI.out.1 HI.out.2.1 HI.out.2.2.1 HI.out.2.2.2 rfl (by decide) (.slice la n lc) n vs rfl HG6.out.own ⟨w2.heap.size,0,none⟩ 1 1 [.iface 285 (.agg #[.string ⟨TX.toArray⟩])] rfl rfl ?c1 ?c2 ?c3 ?c4 ?c5 ?_)
    case c1=>exact cells_new w2 _ [.iface 285 (.agg #[.string ⟨TX.toArray⟩])] 283 (by simp)
    case c2=>intro u hu;rw [List.mem_singleton.1 hu];rfl
    case c3=>unfold maxLen;omega
    case c4=>omega
    case c5=>simp;omega
    intro v8 w8 hown8 hgrow8 _ hat8
    have hg8:=HG6.out.put HY.out hown8 hgrow8 (by simpa using hat8)
    have hob:∀ g,(Value.slice la n lc).ownBlock = some g → w.heap.size ≤ g:=fun g e=>(World.ownsRow.lt HG6.out.own g e).1
    have HS8:Hid (Scn P w8 rs q2):=(HS2.out.then (allocB _ (.cells #[.iface 285 (.agg #[.string ⟨TX.toArray⟩])] 283))).grown hgrow8 (fun g e=>by have:=hob _ e;omega)
    have HA8:Hid (Ag P w w8):=(HA2.out.then (allocB _ (.cells #[.iface 285 (.agg #[.string ⟨TX.toArray⟩])] 283))).grown hgrow8 (fun g e=>by have:=hob _ e;omega)
    have HG8:Hid (Grow w8 w.heap.size 283 1 v8 (n + 1) (t.app (.text TX .nil)) (vs ++ [.iface 285 (.agg #[.string ⟨TX.toArray⟩])])):=hg8
    have hpos8:=HS8.out.pos
    obtain ⟨va8,vc8,rfl⟩:=hg8.form
    clear hg8 hown8 hgrow8 hat8 HG6 HY hob
    go_wp2
    exact ⟨⟨q2,n + 1,_,_,.slice va8 (n + 1) vc8,rfl,HB2,HS8,HA8,HG8⟩,by rw [hpos8,hpos];omega⟩
   | false=>
    have hsp:spec false c = false:=by
     unfold spec
     simp [h125,h123]
    clear h125 h123
    by_cases hK35:(K == 35) = true
    ·
     have HC:Hid (rs[q]? = some c):=hc
     have ks:=psaid_any P w1 rs q false HS1.out
     have hlt:q < q + (saidGo false false (rs.drop q)).2:=by
      have h1:=said_ne false c (rs.drop (q + 1)) (by rw [← drop_at hc];exact (Pts.cps HP.out).drop q) hsp
      rw [← drop_at hc] at h1
      have h2:(saidGo false false (rs.drop q)).2 ≠ 0:=by
       rw [drop_at hc]
       exact said_pos false c _ hsp
      omega
     have HB2:Hid (Ms rs d false p (q + (saidGo false false (rs.drop q)).2) (n + 1) (t.app (.text (saidGo false false (rs.drop q)).1 .nil))):=HB.out.next hlt fun res hr=>.said HC.out hsp hr
     clear hc hsp
     generalize (saidGo false false (rs.drop q)).1 = TX at *
     generalize q + (saidGo false false (rs.drop q)).2 = q2 at *
     go_wp2_with fail
     refine ks.mono ?_
     rintro e w2 ⟨rfl,hs2,ha2⟩
     have HS2:Hid (Scn P w2 rs q2):=hs2
     have hq2:=hs2.pts.2.2
     have HA2:Hid (Ag P w w2):=HA1.out.trans ha2
     have HG2:Hid (Grow w2 w.heap.size 283 1 (.slice la n lc) n t vs):=HG1.out.ag ha2 hPl
     clear ks hs2 ha2
     have HG6:Hid (Grow (w2.alloc (.cells #[.iface 285 (.agg #[.string ⟨TX.toArray⟩])] 283)) w.heap.size 283 1 (.slice la n lc) n t vs):=HG2.out.alloc _
     have HY:Hid (Lay (w2.alloc (.cells #[.iface 285 (.agg #[.string ⟨TX.toArray⟩])] 283)) (fun g=>w.heap.size ≤ g ∧ (Value.slice la n lc).ownBlock ≠ some g) (.text TX .nil) [.iface 285 (.agg #[.string ⟨TX.toArray⟩])]):=.text .nil
     obtain ⟨i0,hi0,hz0,hz1',hz2'⟩:=info_parts info_node
     have HI:Hid (Tryz.prog.info? 283 = some i0 ∧ i0.zero = some .nilIface ∧ i0.size = 1 ∧ i0.bytes = 16):=⟨hi0,hz0,hz1',hz2'⟩
     have hBz:w.heap.size ≤ w2.heap.size:=HA2.out.size
     clear hi0 hz0 hz1' hz2'
     go_wp2_with (at_builtin;refine wpList_append_own_at _ rfl _ _ 181 rfl w.heap.size 283 i0 .nilIface 1 16 Tryz.underlying181 HI.out.1 HI.out.2.1 HI.out.2.2.1 HI.out.2.2.2 rfl (by decide) (.slice la n lc) n vs rfl HG6.out.own ⟨w2.heap.size,0,none⟩ 1 1 [.iface 285 (.agg #[.string ⟨TX.toArray⟩])] rfl rfl ?c1 ?c2 ?c3 ?c4 ?c5 ?_)
     case c1=>exact cells_new w2 _ [.iface 285 (.agg #[.string ⟨TX.toArray⟩])] 283 (by simp)
     case c2=>intro u hu;rw [List.mem_singleton.1 hu];rfl
     case c3=>unfold maxLen;omega
     case c4=>omega
     case c5=>simp;omega
     intro v8 w8 hown8 hgrow8 _ hat8
     have hg8:=HG6.out.put HY.out hown8 hgrow8 (by simpa using hat8)
     have hob:∀ g,(Value.slice la n lc).ownBlock = some g → w.heap.size ≤ g:=fun g e=>(World.ownsRow.lt HG6.out.own g e).1
     have HS8:Hid (Scn P w8 rs q2):=(HS2.out.then (allocB _ (.cells #[.iface 285 (.agg #[.string ⟨TX.toArray⟩])] 283))).grown hgrow8 (fun g e=>by have:=hob _ e;omega)
     have HA8:Hid (Ag P w w8):=(HA2.out.then (allocB _ (.cells #[.iface 285 (.agg #[.string ⟨TX.toArray⟩])] 283))).grown hgrow8 (fun g e=>by have:=hob _ e;omega)
     have HG8:Hid (Grow w8 w.heap.size 283 1 v8 (n + 1) (t.app (.text TX .nil)) (vs ++ [.iface 285 (.agg #[.string ⟨TX.toArray⟩])])):=hg8
     have hpos8:=HS8.out.pos
     obtain ⟨va8,vc8,rfl⟩:=hg8.form
     clear hg8 hown8 hgrow8 hat8 HG6 HY hob
     go_wp2
     exact ⟨⟨q2,n + 1,_,_,.slice va8 (n + 1) vc8,rfl,HB2,HS8,HA8,HG8⟩,by rw [hpos8,hpos];omega⟩
    ·have hK35:(K == 35) = false:=by simpa using hK35
     have HC:Hid (rs[q]? = some c):=hc
     have ks:=psaid_any P w1 rs q false HS1.out
     have hlt:q < q + (saidGo false false (rs.drop q)).2:=by
      have h1:=said_ne false c (rs.drop (q + 1)) (by rw [← drop_at hc];exact (Pts.cps HP.out).drop q) hsp
      rw [← drop_at hc] at h1
      have h2:(saidGo false false (rs.drop q)).2 ≠ 0:=by
       rw [drop_at hc]
       exact said_pos false c _ hsp
      omega
     have HB2:Hid (Ms rs d false p (q + (saidGo false false (rs.drop q)).2) (n + 1) (t.app (.text (saidGo false false (rs.drop q)).1 .nil))):=HB.out.next hlt fun res hr=>.said HC.out hsp hr
     clear hc hsp
     generalize (saidGo false false (rs.drop q)).1 = TX at *
     generalize q + (saidGo false false (rs.drop q)).2 = q2 at *
     go_wp2_with fail
     refine ks.mono ?_
     rintro e w2 ⟨rfl,hs2,ha2⟩
     have HS2:Hid (Scn P w2 rs q2):=hs2
     have hq2:=hs2.pts.2.2
     have HA2:Hid (Ag P w w2):=HA1.out.trans ha2
     have HG2:Hid (Grow w2 w.heap.size 283 1 (.slice la n lc) n t vs):=HG1.out.ag ha2 hPl
     clear ks hs2 ha2
     have HG6:Hid (Grow (w2.alloc (.cells #[.iface 285 (.agg #[.string ⟨TX.toArray⟩])] 283)) w.heap.size 283 1 (.slice la n lc) n t vs):=HG2.out.alloc _
     have HY:Hid (Lay (w2.alloc (.cells #[.iface 285 (.agg #[.string ⟨TX.toArray⟩])] 283)) (fun g=>w.heap.size ≤ g ∧ (Value.slice la n lc).ownBlock ≠ some g) (.text TX .nil) [.iface 285 (.agg #[.string ⟨TX.toArray⟩])]):=.text .nil
     obtain ⟨i0,hi0,hz0,hz1',hz2'⟩:=info_parts info_node
     have HI:Hid (Tryz.prog.info? 283 = some i0 ∧ i0.zero = some .nilIface ∧ i0.size = 1 ∧ i0.bytes = 16):=⟨hi0,hz0,hz1',hz2'⟩
     have hBz:w.heap.size ≤ w2.heap.size:=HA2.out.size
     clear hi0 hz0 hz1' hz2'
     go_wp2_with (at_builtin;refine wpList_append_own_at _ rfl _ _ 181 rfl w.heap.size 283 i0 .nilIface 1 16 Tryz.underlying181 HI.out.1 HI.out.2.1 HI.out.2.2.1 HI.out.2.2.2 rfl (by decide) (.slice la n lc) n vs rfl HG6.out.own ⟨w2.heap.size,0,none⟩ 1 1 [.iface 285 (.agg #[.string ⟨TX.toArray⟩])] rfl rfl ?c1 ?c2 ?c3 ?c4 ?c5 ?_)
     case c1=>exact cells_new w2 _ [.iface 285 (.agg #[.string ⟨TX.toArray⟩])] 283 (by simp)
     case c2=>intro u hu;rw [List.mem_singleton.1 hu];rfl
     case c3=>unfold maxLen;omega
     case c4=>omega
     case c5=>simp;omega
     intro v8 w8 hown8 hgrow8 _ hat8
     have hg8:=HG6.out.put HY.out hown8 hgrow8 (by simpa using hat8)
     have hob:∀ g,(Value.slice la n lc).ownBlock = some g → w.heap.size ≤ g:=fun g e=>(World.ownsRow.lt HG6.out.own g e).1
     have HS8:Hid (Scn P w8 rs q2):=(HS2.out.then (allocB _ (.cells #[.iface 285 (.agg #[.string ⟨TX.toArray⟩])] 283))).grown hgrow8 (fun g e=>by have:=hob _ e;omega)
     have HA8:Hid (Ag P w w8):=(HA2.out.then (allocB _ (.cells #[.iface 285 (.agg #[.string ⟨TX.toArray⟩])] 283))).grown hgrow8 (fun g e=>by have:=hob _ e;omega)
     have HG8:Hid (Grow w8 w.heap.size 283 1 v8 (n + 1) (t.app (.text TX .nil)) (vs ++ [.iface 285 (.agg #[.string ⟨TX.toArray⟩])])):=hg8
     have hpos8:=HS8.out.pos
     obtain ⟨va8,vc8,rfl⟩:=hg8.form
     clear hg8 hown8 hgrow8 hat8 HG6 HY hob
     go_wp2
     exact ⟨⟨q2,n + 1,_,_,.slice va8 (n + 1) vc8,rfl,HB2,HS8,HA8,HG8⟩,by rw [hpos8,hpos];omega⟩
end Go.Proofs.YtaepcfidpekflaaGreatDoor
namespace Go.Proofs.YtaepcfidpekflaaGreatDoor
open Go.RowKit Pg
theorem msg_all:∀ k d,d + k = 6 → MsgOk d:=by
 intro k
 induction k with
 | zero=>intro d h;exact pmessage_at d (by omega) (fun h2=>by omega)
 | succ k ih=>intro d h;exact pmessage_at d (by omega) (fun _=>ih (d + 1) (by omega))
def Stops (rs:List Pg.T):Pg.Mode → Res → Prop
 | .msg _ _,.ok _ q=>rs[q]? = none ∨ rs[q]? = some [125]
 | _,_=>True
theorem stops_pre {rs:List Pg.T} {d:Nat} {num:Bool} {res:Res} (n:Pg.Tr) (h:Stops rs (.msg d num) res):Stops rs (.msg d num) (res.pre n):=by
 cases res with
 | ok=>exact h
 | okB=>trivial
 | bad=>trivial
theorem stops_of {rs:List Pg.T} {m:Pg.Mode} {p:Nat} {res:Res} (h:Rd rs m p res):Stops rs m res:=by
 induction h with
 | stop h=>exact h
 | argK _ _ _ _ ih=>exact stops_pre _ ih
 | sign _ _ ih=>exact stops_pre _ ih
 | said _ _ _ ih=>exact stops_pre _ ih
 | _=>trivial
inductive Whole (rs:List Pg.T):Sum (Nat × Nat) Pg.Tr → Prop
 | ok {t} (h:Rd rs (.msg 1 false) 0 (.ok t rs.length)):Whole rs (.inr t)
 | bad {e a} (h:Rd rs (.msg 1 false) 0 (.bad e a)):Whole rs (.inl (e,a))
 | brace {t q} (h:Rd rs (.msg 1 false) 0 (.ok t q)) (hq:rs[q]? = some [125]):Whole rs (.inl (3,q))
def ParseSaid (rs:List Pg.T) (w:World) (e:Ending) (w':World):Prop:=Below w.heap.size w w' ∧ ∃ r,Whole rs r ∧ match r with
 | .inr t=>∃ v,e = .returned (.tuple #[v,.nilIface]) ∧ RowAt w' (fun g=>w.heap.size ≤ g) 1 v t
 | .inl (er,a)=>∃ v,e = .returned (.tuple #[.slice none 0 0,v]) ∧ Flt w.heap.size w' v er a
set_option maxHeartbeats 3200000 in
theorem pparse_any (w:World) (rs:List Pg.T) (a:Option Addr) (c:Nat) (hr:Rns w.heap.size w a c rs) (hc:rs.length ≤ c) (hp:Pts rs) (hl:rs.length ≤ 1000):
  Calls Tryz.prog 127 #[.slice a rs.length c] w fun e w'=>ParseSaid rs w e w':=by
 have hb0:=allocB w (.cells #[.slice a rs.length c,.int .i64 0] 276)
 have hs0:Scn w.heap.size (w.alloc (.cells #[.slice a rs.length c,.int .i64 0] 276)) rs 0:=⟨a,c,row_at w _ _,hr.ag (Ag.of hb0 (Nat.le_refl _)),hc,hp,hl,Nat.zero_le _⟩
 have km:=msg_all 5 1 rfl w.heap.size _ rs 0 false hs0
 have hz0:(w.alloc (.cells #[.slice a rs.length c,.int .i64 0] 276)).heap.size = w.heap.size + 1:=by simp
 clear hs0 hr
 go_enter Tryz.func127,Tryz.ntmps127
 go_wp2_with fail
 refine km.mono ?_
 rintro e w1 ⟨ha,res,hrd,hm⟩
 have HB:Hid (Below w.heap.size w w1):=hb0.trans (ha.below (Nat.le_refl _) (by omega))
 have HRD:Hid (Rd rs (.msg 1 false) 0 res):=hrd
 rw [hz0] at hm
 have hst:=stops_of hrd
 clear km hrd hb0
 cases res with
 | okB=>exact absurd (fine_of HRD.out (Nat.zero_le _)) (fun h=>h)
 | bad er x=>
  obtain ⟨u,v,rfl,hv,_⟩:=hm
  have HV:Hid (Flt (w.heap.size + 1) w1 v er x):=hv
  obtain ⟨b,rfl,_⟩:=hv
  go_wp2
  go_ret2
  exact ⟨HB.out,_,.bad HRD.out,_,rfl,HV.out.mono (by omega)⟩
 | ok t q=>
  obtain ⟨v,rfl,hs,hrow⟩:=hm
  have HROW:Hid (RowAt w1 (fun g=>w.heap.size + 1 ≤ g) 1 v t):=hrow
  have HS:Hid (Scn w.heap.size w1 rs q):=hs
  have hql:=hs.pts.2.2
  obtain ⟨a1,c1,q1,f1⟩:=hs.rows
  have kw:=pwrong_any w.heap.size w1 rs q hs
  have hz1:w.heap.size + 1 ≤ w1.heap.size:=by have:=ha.size;omega
  obtain ⟨va,vn,vc,rfl⟩:∃ va vn vc,v = .slice va vn vc:=by
   obtain ⟨us,h1,_⟩:=hrow
   rcases h1 with ⟨_,h1⟩ | ⟨g,n,c,h1,_⟩
   ·exact ⟨_,_,_,h1⟩
   ·exact ⟨_,_,_,h1⟩
  clear hs hrow ha
  by_cases hlt:q < rs.length
  ·have hq:Hid (rs[q]? = some [125]):=by
    rcases hst with h | h
    ·rw [List.getElem?_eq_none_iff] at h;omega
    ·exact h
   have hlt':((q:Int) < rs.length) = True:=eq_true (by omega)
   clear hst
   go_wp2_with (go_at_call 161;refine kw.mono ?_;rintro e w2 ⟨⟨v,rfl,hv⟩,hb2⟩)
   go_ret2
   exact ⟨below_of HB.out hb2,_,.brace HRD.out hq.out,_,rfl,hv.mono (by omega)⟩
  ·have hq:q = rs.length:=by omega
   subst hq
   clear hst
   go_wp2
   go_ret2
   exact ⟨HB.out,_,.ok HRD.out,_,rfl,HROW.out.wide (fun g hg=>by omega)⟩
end Go.Proofs.YtaepcfidpekflaaGreatDoor
namespace Go.Proofs
open Go.Shelf
def Tryz.lays197_ren:Go.Shelf.Ren:=⟨fun | 197=>159 | 260=>191 | n=>n,fun | 9=>9 | 21=>21 | 3=>3 | 4=>4 | 5=>5 | 105=>272 | 119=>250 | 0=>0 | 46=>254 | 139=>253 | 138=>252 | n=>n,fun | 3=>1 | 4=>2 | n=>n⟩
theorem Tryz.lays197:Go.Proofs.Lays.n197 Tryz.prog Tryz.lays197_ren:={
 mixed:=by kernel_rfl
 f197:=Tryz.func159.trans (congrArg some (by kernel_rfl))
 f260:=Tryz.func191.trans (congrArg some (by kernel_rfl))
 t0:=Tryz.underlying0
 a0:=Tryz.isAgg0
 z0:=Tryz.sizeOf0
 v0:=Tryz.zeroValue0
 t3:=Tryz.underlying3
 a3:=Tryz.isAgg3
 z3:=Tryz.sizeOf3
 v3:=Tryz.zeroValue3
 t4:=Tryz.underlying4
 a4:=Tryz.isAgg4
 z4:=Tryz.sizeOf4
 v4:=Tryz.zeroValue4
 t5:=Tryz.underlying5
 a5:=Tryz.isAgg5
 z5:=Tryz.sizeOf5
 v5:=Tryz.zeroValue5
 t9:=Tryz.underlying9
 a9:=Tryz.isAgg9
 z9:=Tryz.sizeOf9
 v9:=Tryz.zeroValue9
 t21:=Tryz.underlying21
 a21:=Tryz.isAgg21
 z21:=Tryz.sizeOf21
 v21:=Tryz.zeroValue21
 t46:=Tryz.underlying254
 a46:=Tryz.isAgg254
 z46:=Tryz.sizeOf254
 v46:=Tryz.zeroValue254
 t105:=Tryz.underlying272
 a105:=Tryz.isAgg272
 z105:=Tryz.sizeOf272
 v105:=Tryz.zeroValue272
 t119:=Tryz.underlying250
 a119:=Tryz.isAgg250
 z119:=Tryz.sizeOf250
 t138:=Tryz.underlying252
 a138:=Tryz.isAgg252
 z138:=Tryz.sizeOf252
 v138:=Tryz.zeroValue252
 t139:=Tryz.underlying253
 a139:=Tryz.isAgg253
 z139:=Tryz.sizeOf253
 v139:=Tryz.zeroValue253
 g3:=by kernel_rfl
 g4:=by kernel_rfl }
open Go.RowKit Go.Lib in
theorem Tryz.utf8_DecodeRuneInString (s:ByteArray) (w:World) (hT:Lib.Utf8Tabs 1 2 w):
  Calls Tryz.prog 159 #[.string s] w fun e w'=>e = .returned (.tuple #[.int .i32 (Lib.decodeGo s).1,.int .i64 (Lib.decodeGo s).2]) ∧ Below w.heap.size w w':=Any.utf8_DecodeRuneInString Tryz.lays197 s w hT
end Go.Proofs
