import Derived.Test.YtaepcfidpekflabGreatDoorU00
import Derived.Test.YtaepcfidpekflabGreatDoorU12
import Derived.Test.YtaepcfidpekflabGreatDoorU03
import Derived.Test.YtaepcfidpekflabGreatDoorU02
open Array renaming size->Z
open Bool renaming false->V,true->Y
open Decidable renaming decide->am
open Go renaming Calls->af,Value->N,World->B
open Go.Ending renaming returned->ae
open Go.IntKind renaming i64->R
open Go.Obj renaming cells->an
open Go.Proofs.Tryz renaming prog->C
open Go.RowKit renaming Below->X,Hid->D
open Go.Value renaming agg->ai,bool->Q,int->I,slice->F,string->U,tuple->ak
open Go.World renaming alloc->ah,cell?->ac,heap->J
open List renaming length->G,toArray->E
open Option renaming none->O,some->K
set_option maxRecDepth 100000
set_option maxHeartbeats 0
set_option linter.all false
namespace Go.Proofs.YtaepcfidpekflabGreatDoor
section
open Pn Pr RowKit Tryz
def wD (A:Nat)(br wi:Bool):List H->Option Bool
 | [x,d,y]=>if d= [46,46]then match fy x,fy y with
   |some lo,K hi=>if hi<lo then O else K (vB A br wi lo hi)
   |_,_=>O
  else O
 |_=>O
def al1 (A br wi x):nr A br wi [x]=wD A br wi [x,[46,46],x]:=by cases h:fy x<;>simp[nr,wD,h]
def al2 (A br wi p)(h:G p≠1):nr A br wi p=wD A br wi p:=by match p,h with| [],_=>rfl| [_,_],_=>rfl| [_,_,_],_=>rfl|_::_::_::_::_,_=>{rfl}
def al3 (A br wi p)(h:G p≠3):wD A br wi p=O:=by match p,h with| [],_=>rfl| [_],_=>rfl| [_,_],_=>rfl|_::_::_::_::_,_=>{rfl}
def Rz (sep:H):∀c:List H,∀p∈b7 sep c,∀t∈p,t∈c:=by intro c;induction c with|nil=>intro p a t b;simp[b7]at a;subst a;exact b|cons h c d=>{intro p a t b;simp only[b7]at a;split at a;{rcases cL.1 a with rfl|a;{cases b};{exact mn _<|d p a t b}};{split at a;{rename_i f g e;rcases cL.1 a with rfl|a;{rcases cL.1 b with rfl|b;{exact sM};{exact mn _<|d f (by rw[e];exact sM) t b}};{exact mn _<|d p (by rw[e];exact mn _ a) t b}};{simp at a;subst a;simp at b;subst b;exact sM}}}
def afx (w)(t:H):jU (ah w<|an #[U ⟨E t⟩,U ⟨#[46,46]⟩,U ⟨E t⟩] 9).drew (F (K ⟨Z<|J w,0,O⟩) 3 3) [t,[46,46],t]:=by refine .inr ⟨Z<|J w,0,3,rfl,r _,by simp[World.drew],λb a=>?_⟩;have h:=(bx w #[U ⟨E t⟩,U ⟨#[46,46]⟩,U ⟨E t⟩] 9);match b,a with|0,_=>exact h.2.1 0|1,_=>exact h.2.1 1|2,_=>{exact h.2.1 2}
def afy {t:H}(h:G t<=1000):∀a∈[t,[46,46],t],G a<=1000:=by intro a hu;simp at hu;rcases hu with rfl|rfl|rfl;{exact h};{decide};{exact h}
def UD (x y):(pg x y= -1/\x<y)\/(pg x y=0/\x=y)\/(pg x y=1/\y<x):=by unfold pg;by_cases h:x<y;{exact .inl ⟨by simp[h],h⟩};{by_cases a:x=y;{exact .inr<|.inl ⟨by simp[a],a⟩};{exact .inr<|.inr ⟨by simp[h,a],S⟩}}
def aka (n:Nat):((n:Int) !=1)= !(n==1):=by by_cases h:n=1;{subst h;rfl};{have a:((n:Int) !=1)=Y:=xx;have b:(n==1)=V:=by{rw[g];exact h};rw[a,b];rfl}
def jU.form {w v l}(h:jU w v l):∃a c,v=F a (G l) c:=by rcases h with⟨rfl,rfl⟩|⟨b,off,c,rfl,_⟩;{exact⟨O,0,rfl⟩};{exact⟨_,c,rfl⟩}
def Zy (w v)(l:List asq)(a f:asq)(wi one)(hl:G l<=1000)(hs:∀t∈l,G t<=1000)(hv:jU w v l)(ha:Canon a)(hf:G f<=1000):af C 113 #[v,U ⟨E a⟩,U ⟨E f⟩,Q wi,Q one] w λj w'=>j=ae (ak #[Q (nV (Pr.val a) (!dW f) wi one<|b7 [44] l).1,Q (nV (Pr.val a) (!dW f) wi one<|b7 [44] l).2])/\X (Z<|J w) w w':=by obtain⟨S,hS⟩:=hidx<|nV (Pr.val a) (!dW f) wi one<|b7 [44] l;rw[hS.o];have cp:=RA w v l [44] hl hv;have aw:=AK [44] l;have Tf:D (∀p∈b7 [44] l,∀t∈p,G t<=1000):=λp hp t ht=>hs t<|Rz [44] l p hp t ht;generalize b7 [44] l=e at*;go_enter func113,ntmps113;go_wp2_with fail;refine cp.mono ?_;rintro j w1 ⟨⟨va,rfl,vs,aX,ao,dH⟩,H⟩;have aE:=dV ao;have A0:=ao;rcases ao.2 with⟨rfl,h0⟩|⟨g,aH,aI,rfl,aq⟩;{exact absurd (gU.1 h0) aw};have ar:D (∀ab,ab<G e->ac w1 ⟨g,ab,O⟩=vs[ab]?):=λab hj=>A0.cellAt ab aJ;have aB:=bY aq.2.2.1 aq.2.2.2.1;unfold maxLen at aB;clear ao A0 aq;go_upto_region 2 with fail;go_cut[38] (λt wc=>t=Q (ud one e)/\wc=w1);(case first=>have Fj:=pw.2 aw;cases one with|false=>go_wp2_with fail;go_meet;(case rel=>exact⟨rfl,rfl⟩)|true=>{by_cases y:G e=1;{have ax:=dH 0 Fj;have av:=ar.o 0 Fj;obtain⟨x0,ay⟩:∃x0,vs[0]? =K x0:=⟨_,bR aJ⟩;have aC:vs.getD 0 undef=x0:=by{simp[ay]};rw[aC]at ax;rw[ay]at av;have hR:D<|ud Y e= !(G (e.getD 0 [])==1):=by{show _=_;obtain⟨p,rfl⟩:=KK.1 y;by_cases j:G p=1<;>simp[ud,j]};obtain⟨xa,xc,rfl⟩:=ax.form;have hg:((G e:Int) !=1)=V:=by{rw[y];rfl};go_wp2_with fail;go_meet;(case rel=>exact⟨by rw[hR.o,show e.getD 0 []=e[0]by simp[iZ,Fj]];exact eD _<|aka _,rfl⟩)};{have hR:D<|ud Y e=Y:=by{show _=_;simp[ud,y]};have hg:((G e:Int) !=1)=Y:=xx;go_wp2_with fail;go_meet;(case rel=>exact⟨by rw[hR.o],rfl⟩)}});(case rest=>obtain⟨rfl,rfl⟩:=hcut;cases fS:ud one e with|true=>{have hF:D<|S=(V,V):=aK (by rw[<-hS.o];simp[nV,fS]);clear hS dH fS;go_wp2_with fail;go_ret2;exact⟨by rw[hF.o];rfl,H⟩}|false=>{have bP:D<|rR (Pr.val a) (!dW f) wi V e=S:=aK (by rw[<-hS.o];simp[nV,fS]);have BR:=aK dH;clear hS dH fS;have cn:=λW=>Mq ⟨E f⟩ W (by show f.toArray.size<=_;simp;omega);simp only[]at cn;generalize dW f=br at*;go_wp2_with(go_at_call 52;refine(cn _).mono ?_;rintro j w2 ⟨rfl,rfl⟩);go_loopg[13,15] (G e) (λn x i wr=>∃(k:Nat) (b:Bool),n+k=G e/\x=Q b/\i=I R k/\X (Z<|J w2) w2 wr/\D (rR (Pr.val a) (!br) wi b (e.drop k)=S));(case atStart=>exact⟨0,V,rfl,rfl,rfl,aT _ _,bP⟩);(case round=>obtain⟨k,b,aS,rfl,rfl,u,HS⟩:=hrel;by_cases P:k<G e;{have aD:(k:Int)<G e:=aJ;have lC:=(aE g rfl).2;obtain⟨x,hx⟩:∃x,vs[k]? =K x:=⟨_,bR aJ⟩;have Dq:=((u.cell (p:=⟨g,k,O⟩) lC).trans<|ar.o k P).trans hx;have zu:jU wr x<|e.getD k []:=by{have h:=BR.o k P;rw[show vs.getD k undef=x by simp[hx]]at h;exact h.keep<|bh H u};have eu:D<|(match nr (Pr.val a) (!br) wi (e.getD k [])with|none=>(V,V)|some c=>rR (Pr.val a) (!br) wi (b||c)<|e.drop<|k+1)=S:=by{show _=_;rw[<-HS.o,dG P,show e.getD k []=e[k]by simp[iZ,P]];rfl};have aF:∀t∈e.getD k [],G t<=1000:=by{rw[show e.getD k []=e[k]by simp[iZ,P]];exact Tf.o _<|ox P};generalize e.getD k []=p at*;have HX:=aK zu;obtain⟨xa,xc,SJ⟩:=zu.form;subst SJ;clear zu hx;have Vt:=aK aF;go_upto_if 54 with fail;go_cut[16] (λaz wd=>∃q:List asq,jU wd az q/\nr (Pr.val a) (!br) wi p=wD (Pr.val a) (!br) wi q/\X (Z<|J wr) wr wd/\∀t∈q,G t<=1000);(case first=>by_cases y:G p=1;{obtain⟨t,rfl⟩:=KK.1 y;rcases HX.o with⟨_,h⟩|⟨au,off,c,T,hc,cM,z⟩;{cases h};{have L:=z 0 aN;simp only[lr,bU,V8]at L;cases T;clear z HX y hc cM;go_wp2;go_region_with(fail);(all_goals go_wp2);(all_goals go_meet);all_goals exact⟨_,afx wr t,al1 _ _ _ _,((aT _ _).alloc (aO _) _).drew,afy<|Vt.o t aN⟩}};{have aR:((G p:Int)==1)=V:=eQ;go_wp2;go_meet;(case rel=>exact⟨p,HX,al2 _ _ _ _ y,aT _ _,Vt⟩)});(case rest=>obtain⟨q,hq,hit,ad,AY⟩:=hcut;have m:D<|(match wD (Pr.val a) (!br) wi q with|none=>(V,V)|some c=>rR (Pr.val a) (!br) wi (b||c)<|e.drop<|k+1)=S:=by{show _=_;rw[<-eu.o,hit]};clear hit eu HX Vt;have Vs:=aK AY;by_cases uo:G q=3;{obtain⟨x,d,r,rfl⟩:∃x d r,q= [x,d,r]:=by{match q,uo with| [x,d,r],_=>{exact⟨x,d,r,rfl⟩}};rcases hq with⟨_,h⟩|⟨au,off,c,T,hc,cM,z⟩;{cases h};{have L:=z 0 aN;have c1:=z 1 aN;have c2:=z 2 aN;simp only[lr,bU,V8,List.getD_cons_succ]at L c1 c2;subst T;have Fm:=Vs.o x aN;have ny:=Vs.o r aN;clear z Vs hc uo;by_cases hd:d= [46,46];{subst hd;go_wp2_with fail;refine(N2 x Fm _).mono ?_;rintro j w3 ⟨rfl,aU⟩;have d2:=(aU.cell (p:=⟨au,off+2,O⟩) cM).trans c2;go_wp2_with fail;refine(N2 r ny _).mono ?_;rintro j w4 ⟨rfl,bp⟩;have hB:=bh (bh H<|bh u ad)<|bh aU bp;have DC:=bh (bh u ad)<|bh aU bp;clear aU bp d2;cases s:fy x with|none=>{have hF:D<|S=(V,V):=by{show _=_;rw[<-m.o];simp[wD,s]};clear m s;go_wp2;go_ret2;exact⟨by rw[hF.o];rfl,hB⟩}|some lo=>{cases A:fy r with|none=>{have hF:D<|S=(V,V):=by{show _=_;rw[<-m.o];simp[wD,s,A]};clear m s A;go_wp2;go_ret2;exact⟨by rw[hF.o];rfl,hB⟩}|some hi=>{obtain⟨kx,vx⟩:=Om s;obtain⟨ky,vy⟩:=Om A;have M:=λW=>UC x r kx ky W;have e2:=λW=>UC a x ha kx W;have e3:=λW=>UC a r ha ky W;rw[vx,vy]at M;rw[vx]at e2;rw[vy]at e3;by_cases A5:hi<lo;{have hF:D<|S=(V,V):=by{show _=_;rw[<-m.o];simp[wD,s,A,A5]};have hr:pg lo hi=1:=by{unfold pg;rw[aL aJ,aL aJ]};rw[hr]at M;clear m s A e2 e3;go_wp2_with(go_at_call 135;refine(M _).mono ?_;rintro j w5 ⟨rfl,rfl⟩);go_ret2;exact⟨by rw[hF.o];rfl,hB⟩};{have vZ:D<|rR (Pr.val a) (!br) wi (b||vB (Pr.val a) (!br) wi lo hi) (e.drop<|k+1)=S:=by{show _=_;rw[<-m.o];simp[wD,s,A,A5]};have hr:¬0<pg lo hi:=by{rcases UD lo hi with h|h|h<;>omega};generalize pg lo hi=az at M hr;have aG:IntKind.i64.wrap ((k:Int)+1)=k+1:=bQ;go_wp2_with fail;refine(M _).mono ?_;rintro j w5 ⟨rfl,rfl⟩;clear M;go_wp2_with fail;refine(e2 _).mono ?_;rintro j w6 ⟨rfl,rfl⟩;go_wp2_with fail;refine(e3 _).mono ?_;rintro j w7 ⟨rfl,rfl⟩;clear e3;go_upto_region 23 with fail;go_cut[122] (λt we=>t=Q (vB (Pr.val a) (!br) wi lo hi)/\X (Z<|J w2) w2 we/\X (Z<|J w) w we);(case first=>clear vZ hr aG A5 kx ky vx vy BR ar;have g0:=UD (Pr.val a) lo;have g1:=UD (Pr.val a) hi;generalize pg (Pr.val a) lo=L at*;generalize pg (Pr.val a) hi=c1 at*;rcases g0 with⟨rfl,q0⟩|g0;{have hI:D<|vB (Pr.val a) (!br) wi lo hi=V:=by{show _=_;unfold vB;rw[jq (by omega:¬lo<=Pr.val a)];rfl};clear q0 g1;go_wp2;go_meet;(case rel=>exact⟨by rw[hI.o],DC,hB⟩)};{have av:(0:Int)<=L:=by{rcases g0 with h|h<;>omega};have q0:lo<=Pr.val a:=by{rcases g0 with h|h<;>omega};have hI:D<|vB (Pr.val a) (!br) wi lo hi=((am (c1<0)||(c1==0)&&br)&&(wi||br)):=by{show _=_;unfold vB;rw[jF q0];rcases g1 with⟨rfl,q1⟩|⟨rfl,q1⟩|⟨rfl,q1⟩;{simp[q1]};{rw[q1];simp};{rw[jq (by omega:¬Pr.val a<hi),jq (by omega:¬Pr.val a=hi)];simp}};have g2:c1= -1\/c1=0\/c1=1:=by{rcases g1 with h|h|h<;>simp[h.1]};clear g0 q0 g1;rcases g2 with rfl|rfl|rfl<;>cases br<;>cases wi;(all_goals go_wp2);(all_goals go_meet);all_goals exact⟨by rw[hI.o];rfl,DC,hB⟩});(case rest=>obtain⟨rfl,qV,DB⟩:=hcut;generalize vB (Pr.val a) (!br) wi lo hi=aA at*;generalize pg (Pr.val a) lo=L at*;generalize pg (Pr.val a) hi=c1 at*;cases aA with|true=>{rw[Bool.or_true]at vZ;go_wp2;go_roundg (gk-1);(case measure=>omega);(case rel=>exact⟨k+1,Y,aJ,rfl,aN,qV,vZ⟩)}|false=>{rw[Bool.or_false]at vZ;go_wp2;go_roundg (gk-1);(case measure=>omega);(case rel=>exact⟨k+1,b,aJ,rfl,aN,qV,vZ⟩)})}}}};{have hF:D<|S=(V,V):=by{show _=_;rw[<-m.o];simp[wD,hd]};have Nr:(d==[46,46])=V:=by{rw[aZ];exact hd};clear m hd;go_wp2;go_ret2;exact⟨by rw[hF.o];rfl,bh H<|bh u ad⟩}}};{have hF:D<|S=(V,V):=by{show _=_;rw[<-m.o,al3 _ _ _ _ uo]};obtain⟨ra,rc,T⟩:=hq.form;subst T;have h3:((G q:Int) !=3)=Y:=xx;go_wp2;go_ret2;exact⟨by rw[hF.o];rfl,bh H<|bh u ad⟩})};{have aD:¬(k:Int)<G e:=aJ;have hF:D<|S=(b,Y):=aK (by rw[<-HS.o,jm aJ];rfl);clear HS bP;go_wp2;go_ret2;exact⟨by rw[hF.o];rfl,bh H u⟩})})
end
section
open Pr RowKit
def pD (r:Bool×Bool):Option Bool:=if r.2 then K r.1 else O
def E0 (o n wi)(l:List H)(a b:H):(Pr.whole (iq o n wi) l).map (λg=>g a b)=pD ((nV (o a b).1 (o a b).2 wi V (b7 [44] l)).1 !=n,(nV (o a b).1 (o a b).2 wi V (b7 [44] l)).2):=by have d:=QN o wi a b (b7 [44] l)<|AK [44] l;have c:ud V (b7 [44] l)=V:=rfl;simp only[nV,c,uY,fX];rw[<-d,Q6];cases oM (Pr.whole<|gp o wi) nS (b7 [44] l)with|none=>rfl|some g=>{rfl}
def Rh (sep:H)(l p:List H)(h:b7 sep l= [p]):p=l:=by obtain⟨q,rest,_,c,a|a⟩:=Ry sep l;{obtain⟨d,b⟩:=a;rw[b]at h;simp at h;rw[c,d,<-h];simp};{obtain⟨e,_,b⟩:=a;rw[b]at h;simp at h;exact absurd h.2<|AK sep e}
def nf (o n)(l:List H)(a b:H):(Pr.whole (qO o n) l).map (λg=>g a b)=pD ((nV (o a b).1 (o a b).2 V Y (b7 [44] l)).1 !=n,(nV (o a b).1 (o a b).2 V Y (b7 [44] l)).2):=by by_cases e:G l=1;{obtain⟨v,rfl⟩:=KK.1 e;by_cases i:v= [44];{subst i;rfl};{have d:b7 [44] [v]= [[v]]:=by{simp[b7,i]};rw[d];cases c:fy v with|none=>simp[Pr.whole,qO,fj,dy,c,nV,ud,rR,nr,pD]|some x=>{have h:=SF o V x x a b;simp only[xW,uY,fX]at h;simp[Pr.whole,qO,fj,dy,c,nV,ud,rR,nr,pD,CC,h]}}};{have j:ud Y (b7 [44] l)=Y:=by{by_cases f:G (b7 [44] l)=1;{obtain⟨p,d⟩:=KK.1 f;have:=Rh _ _ _ d;subst this;rw[d];simp[ud,e]};{simp[ud,f]}};simp only[nV,j,eU,pD,uY,fX];match l,e with| [],_=>rfl|v::x::k,_=>{cases c:fy v with|none=>simp[Pr.whole,qO,fj,dy,c]|some m=>{simp[Pr.whole,qO,fj,dy,c]}}}
def nx (A:Nat)(br:Bool)(t u:H)(l:List H):Bool×Bool:=if(gE t u).2.2.2=0 then(V,V)else((nV A br (gE t u).2.1 (gE t u).2.2.1 (b7 [44]<|(t::u::l).drop (gE t u).2.2.2)).1 !=(gE t u).1,(nV A br (gE t u).2.1 (gE t u).2.2.1 (b7 [44]<|(t::u::l).drop (gE t u).2.2.2)).2)
def nl (o)(t c:H)(l:List H)(a b:H):(Pr.whole (ej o)<|t::c::l).map (λg=>g a b)=pD (nx (o a b).1 (o a b).2 t c l):=by have f:∀(n wi:Bool) (e:List H),ej o (t::c::l)=iq o n wi e->Pr.whole (ej o) (t::c::l)=Pr.whole (iq o n wi) e:=λn wi e h=>by{unfold Pr.whole;rw[h]};have u:∀(n:Bool) (e:List H),ej o (t::c::l)=qO o n e->Pr.whole (ej o) (t::c::l)=Pr.whole (qO o n) e:=λn e h=>by{unfold Pr.whole;rw[h]};have cE:ej o (t::c::l)=O->Pr.whole (ej o) (t::c::l)=O:=λh=>by{unfold Pr.whole;rw[h]};by_cases j:t= [61];{rw[f V V (c::l) (by simp[ej,j]),E0];simp[nx,gE,j]};by_cases k:t= [105,110];{rw[f V V (c::l) (by simp[ej,oF,k]),E0];simp[nx,gE,k]};by_cases m:t= [33,61];{rw[f Y V (c::l) (by simp[ej,m]),E0];simp[nx,gE,m]};by_cases p:t= [119,105,116,104,105,110];{rw[f V Y (c::l) (by simp[ej,oF,p]),E0];simp[nx,gE,p]};by_cases i:t= [105,115];{by_cases q:c= [110,111,116];{rw[u Y l (by simp[ej,Pr.cS,i,q]),nf];simp[nx,gE,i,q]};{rw[u V (c::l) (by simp[ej,Pr.cS,i,q]),nf];simp[nx,gE,i,q]}};by_cases d:t= [110,111,116];{by_cases r:c= [105,110];{rw[f Y V l (by simp[ej,oF,d,r]),E0];simp[nx,gE,d,r]};by_cases s:c= [119,105,116,104,105,110];{rw[f Y Y l (by simp[ej,oF,d,s]),E0];simp[nx,gE,d,s]};{rw[cE<|by simp[ej,oF,d,r,s]];simp[nx,gE,d,r,s,pD]}};{rw[cE<|by simp[ej,oF,j,k,m,p,i,d]];simp[nx,gE,j,k,m,p,i,d,pD]}
end
section
open Pn Pr RowKit
def agG (b:H):(jJ b).isEmpty=dW b:=by unfold jJ dW;rw[List.isEmpty_reverse];have h:∀a:H,(a.dropWhile (·==48)).isEmpty=a.all (·==48):=by{intro a;induction a with|nil=>rfl|cons c a e=>{by_cases d:c=48;{subst d;rw[GS (by rfl),e];rfl};{rw[En<|by simpa using d];simp[d]}}};rw[h,List.all_reverse]
def RI {t:H}{o}(h:ly t=K o)(a b)(l:Canon a)(d:ez b):(o a b).1=Pr.val (lz t a b)/\(o a b).2=(!dW (mw t b))/\Canon (lz t a b):=by have k:=EI b d;have n:=d.2;have m:=k.2;unfold ly at h;unfold lz mw;by_cases c:t= [110];{rw[aP c]at h;cases h;rw[aP c,aP c];exact⟨rfl,by rw[<-agG],l⟩};rw[A c]at h⊢;rw[A c];by_cases e:t= [105];{rw[aP e]at h;cases h;rw[aP e];exact⟨rfl,rfl,l⟩};rw[A e]at h⊢;by_cases f:t= [118];{rw[aP f]at h;cases h;rw[aP f];exact⟨(Bp _).1.symm,rfl,UJ _ S⟩};rw[A f]at h⊢;by_cases g:t= [119];{rw[aP g]at h;cases h;rw[aP g];exact⟨(Bp _).1.symm,rfl,UJ _ S⟩};rw[A g]at h⊢;by_cases i:t= [102];{rw[aP i]at h;cases h;rw[aP i];exact⟨(Ol b d.1).2.symm,rfl,(Ol b d.1).1⟩};rw[A i]at h⊢;by_cases j:t= [116];{rw[aP j]at h;cases h;rw[aP j];exact⟨(Ol _ k.1).2.symm,rfl,(Ol _ k.1).1⟩};rw[A j]at h;cases h
def ng (a b:H):List H->Bool×Bool
 |t::u::v::r=>if p_ t=V then(V,V)
  else if u= [109,111,100]\/u= [37]then match fy v,r with
   |some m,t'::u'::r'=>if m=0 then(V,V)else nx (Pr.val (lz t a b)%m) (!dW (mw t b)) t' u' r'
   |_,_=>(V,V)
  else nx (Pr.val<|lz t a b) (!dW (mw t b)) u v r
 |_=>(V,V)
def yd (o)(t:H):ej o [t]=O:=by have a:∀n wi,iq o n wi []=O:=λ_ _=>rfl;unfold ej;simp only[a];split;{rfl};split;{rfl};split;{rfl};split;{rfl};{simp only[oF,a];split;{rfl};split<;>rfl}
def Yp (l:List H)(a b)(w:Canon a)(y:ez b):(Pr.whole jb l).map (λg=>g a b)=pD (ng a b l):=by
 cases l with
 |nil=>rfl
 |cons t l=>
  cases i:ly t with
  |none=>
   have e:Pr.whole jb (t::l)=O:=by simp[Pr.whole,jb,i]
   rw[e]
   match l with
   | []=>rfl
   | [_]=>rfl
   |c::v::d=>simp[ng,p_,i,pD]
  |some o=>
   obtain⟨p,m,_⟩:=RI i a b w y
   have q:Pr.whole jb (t::l)=Pr.whole (mB o) l:=by simp[Pr.whole,jb,i]
   rw[q]
   clear q
   match l with
   | []=>rfl
   | [c]=>
    have e:mB o [c]=O:=by
     by_cases f:c= [109,111,100]\/c= [37]
     ·simp only[mB,aP f];rfl
     ·simp only[mB,A f];exact yd o c
    simp[Pr.whole,e,ng,pD]
   |c::v::d=>
    by_cases f:c= [109,111,100]\/c= [37]
    ·have k:ng a b (t::c::v::d)=match fy v,d with
       |some h,s::u::r=>if h=0 then(V,V)else nx (Pr.val (lz t a b)%h) (!dW (mw t b)) s u r
       |_,_=>(V,V):=by simp only[ng,p_,i,aP f];rfl
     rw[k]
     cases n:fy v with
     |none=>
      have e:mB o (c::v::d)=O:=by simp only[mB,aP f,fj,dy,n]
      simp[Pr.whole,e,pD]
     |some h=>
      have e:mB o (c::v::d)=if h=0 then O else ej (zl o h) d:=by simp only[mB,aP f,fj,dy,n]
      by_cases j:h=0
      ·rw[aP j]at e
       have:Pr.whole (mB o) (c::v::d)=O:=by simp[Pr.whole,e]
       rw[this]
       match d with
       | []=>rfl
       | [_]=>rfl
       |_::_::_=>simp[j,pD]
      ·rw[A j]at e
       have:Pr.whole (mB o) (c::v::d)=Pr.whole (ej<|zl o h) d:=by simp[Pr.whole,e]
       rw[this]
       match d with
       | []=>rfl
       | [x]=>simp[Pr.whole,yd,pD]
       |s::u::r=>
        rw[nl]
        simp only[zl,p,m,A j]
    ·have e:Pr.whole (mB o) (c::v::d)=Pr.whole (ej o) (c::v::d):=by simp only[Pr.whole,mB,A f]
     rw[e,nl,p,m]
     have k:ng a b (t::c::v::d)=nx (Pr.val<|lz t a b) (!dW (mw t b)) c v d:=by simp only[ng,p_,i,A f];rfl
     rw[k]
end
section
open Pn Pr RowKit Tryz
def v6 (n)(h:n<=30):G (Lib.decDigits n)<=30:=by rw[Lib.decDigits];split;{simp};{rw[Lib.decDigits];split;{simp};{omega}}
def ajz {t:H}{o}(h:ly t=K o)(a b)(g:Canon a)(d:sH a)(c:ez b):sH<|lz t a b:=by obtain⟨_,_,i⟩:=RI h a b g c;refine⟨i.2.1,?_⟩;have e:=EI b c;have f:∀x:H,G x<=30->G (jc x)<=30:=by{intro x j;unfold jc;split;{simp};{exact bY (Aq _).length_le j}};unfold lz;split;{exact d.2};split;{exact d.2};split;{exact bY (v6 _ c.2) P};split;{exact bY (v6 _ e.2) P};split;{exact bY (f _ c.2) P};split;{exact bY (f _ e.2) P};{simp}
def wa:Canon [48]:=⟨z,P,.inl rfl⟩
def aoA {v:H}{m}(h:fy v=K m):(v==[48])=am (m=0):=by obtain⟨c,g⟩:=Om h;have e:Pr.val [48]=0:=rfl;by_cases d:G v=1;{have b:=(li c wa<|by simpa using d).2;rw[e,g]at b;by_cases a:m=0;{rw[b.2 a];simp[a]};{have:v≠[48]:=λx=>a<|b.1 x;simp[a,this]}};{have f:G ([48]:H)<G v:=by{have:G v≠0:=λx=>c.1<|gU.1 x;simp;omega};have i:=UI wa c f;have:v≠[48]:=λx=>d (by rw[x];rfl);have a:m≠0:=S;simp[a,this]}
def aoC {v:H}{m}(h:fy v=K m):(∀c∈v,bu c=Y)/\G v<=9/\m<=1000000000/\Pr.val v=m:=by obtain⟨b,d⟩:=Om h;have a:G v<=9:=by{unfold fy at h;split at h;{rename_i c;exact c.2.1};{cases h}};have e:=xI v b.2.1;have f:10^G v<=10^9:=tQ S a;exact⟨b.2.1,a,S,d⟩
def arP (w wc:B)(blk:Nat)(br:Bool)(S:Bool×Bool)(x y:N):Prop:=∃(T U:H) (R:List H) (o C:Nat) (A:H),x=F (K ⟨blk,o,O⟩) (G R+2:Nat) C/\y=Value.string ⟨E A⟩/\G R+2<=C/\G R<=900/\Canon A/\X (Z<|J w) w wc/\(∀j,j<G R+2->ac wc ⟨blk,o+j,O⟩=K (bU<|(T::U::R).getD j []))/\(∀z∈T::U::R,G z<=1000)/\nx (Pr.val A) br T U R=S
def ug (A:Nat)(br:Bool)(v:H)(r:List H):Bool×Bool:=match fy v,r with
 |some m,t'::u'::r'=>if m=0 then(V,V)else nx (A%m) br t' u' r'
 |_,_=>(V,V)
def aku (A br)(v:H)(r)(h:fy v=O):ug A br v r=(V,V):=by simp[ug,h]
def akr (A br)(v:H)(r)(h:fy v=K 0):ug A br v r=(V,V):=by match r with| []=>simp[ug,h]| [_]=>simp[ug,h]|_::_::_=>{simp[ug,h]}
def akt (A br v r)(h:G r<2):ug A br v r=(V,V):=by match r,h with| [],_=>cases a:fy v<;>simp[ug,a]| [_],_=>{cases a:fy v<;>simp[ug,a]}
def aks (A br)(v T b:H)(a m)(h:fy v=K m)(c:¬m=0):ug A br v (T::b::a)=nx (A%m) br T b a:=by simp[ug,h,c]
def akp (a b t c v:H)(r)(e:p_ t=Y)(d:c= [109,111,100]\/c= [37]):ng a b (t::c::v::r)=ug (Pr.val<|lz t a b) (!dW (mw t b)) v r:=by simp only[ng,e,aP d];rfl
def akq (a b t c v:H)(r)(e:p_ t=Y)(d:¬(c= [109,111,100]\/c= [37])):ng a b (t::c::v::r)=nx (Pr.val<|lz t a b) (!dW (mw t b)) c v r:=by simp only[ng,e,A d];rfl
def Ad (w f off c)(t g v:asq)(r m a b)(hl:G r<=900)(hs:∀x∈t::g::v::r,G x<=1000)(hc:G r+3<=c)(cM:f<Z (J w))(aw:∀i,i<G r+3->ac w ⟨f,off+i,O⟩=K (bU<|(t::g::v::r).getD i []))(ha:Canon a)(ax:sH a)(hb:ez b):af C 77 #[F (K ⟨f,off,O⟩) (G r+3:Nat) c,ai #[Q m,U ⟨E a⟩,U ⟨E b⟩]] w λl w'=>l=ae (ak #[Q (ng a b<|t::g::v::r).1,Q (ng a b<|t::g::v::r).2])/\X (Z<|J w) w w':=by obtain⟨S,hS⟩:=hidx<|ng a b<|t::g::v::r;rw[hS.o];have hw:=(aT (Z<|J w) w).alloc (aO _)<|an #[Q m,U ⟨E a⟩,U ⟨E b⟩] 78;have q0:=(bx w #[Q m,U ⟨E a⟩,U ⟨E b⟩] 78).2.1;have c0:ac w ⟨f,off,O⟩=K (U ⟨E t⟩):=aw 0 aJ;have d0:=(fZ w (an #[Q m,U ⟨E a⟩,U ⟨E b⟩] 78) ⟨f,off,O⟩ cM).trans c0;have s:=aK aw;have H:=aK hs;clear aw hs c0;go_enter func77,ntmps77;go_wp2_with fail;go_cut[6,7,8] (λx az y wc=>x=U ⟨E<|lz t a b⟩/\az=U ⟨E<|mw t b⟩/\y=Q (p_ t)/\X (Z<|J w) w wc);(case first=>clear hS s H hl;go_region_with(go_at_call 109;refine(ajv m a b t ax hb _).mono ?_;rintro l w1 ⟨rfl,aR⟩);(all_goals go_wp2);(all_goals go_meet);all_goals first|exact⟨rfl,rfl,rfl,bh hw aR⟩|exact⟨rfl,rfl,rfl,(bh hw aR).drew⟩|exact⟨rfl,rfl,rfl,bh hw.drew aR⟩);(case rest=>obtain⟨rfl,rfl,rfl,L⟩:=hcut;clear q0 d0 hw;cases ad:p_ t with|false=>{have hF:D<|S=(V,V):=aK (by rw[<-hS.o];simp[ng,ad]);clear hS ad s H;go_wp2;go_ret2;exact⟨by rw[hF.o];rfl,L⟩}|true=>{obtain⟨o,ho⟩:∃o,ly t=K o:=Option.isSome_iff_exists.1 ad;obtain⟨_,_,aC⟩:=RI ho a b ha hb;have HX:D<|Canon (lz t a b)/\sH (lz t a b):=⟨aC,ajz ho a b ha ax hb⟩;have c1:ac wc ⟨f,off+1,O⟩=K (U ⟨E g⟩):=(L.cell (p:=⟨f,off+1,O⟩) cM).trans<|s.o 1 aJ;have c2:ac wc ⟨f,off+1+1,O⟩=K (U ⟨E v⟩):=(L.cell (p:=⟨f,off+2,O⟩) cM).trans<|s.o 2 aJ;have HY:D<|g= [109,111,100]\/g= [37]->ug (Pr.val<|lz t a b) (!dW (mw t b)) v r=S:=λh=>by{rw[<-hS.o,akp a b t g v r ad h]};have HN:D<|¬(g= [109,111,100]\/g= [37])->nx (Pr.val<|lz t a b) (!dW (mw t b)) g v r=S:=λh=>by{rw[<-hS.o,akq a b t g v r ad h]};have HV:=aK<|H.o v aN;have ur:¬c=1:=aJ;have qT:¬c-1=2\/G r=0:=aJ;have HF:D<|G (mw t b)<=1000:=by{show _<=_;have:=hb.2;unfold mw;split;{omega};{simp}};clear hS aC ho ax ha hb ad;generalize lz t a b=A at*;generalize mw t b=z at*;obtain⟨aq,hB⟩:=hidx ((g==[109,111,100]||g==[37]):Bool);go_upto_region 7 with fail;go_cut[44] (λy wd=>y=Q aq/\wd=wc);(case first=>clear HX HY HN HV HF s H;by_cases hu:g= [109,111,100];{have y1:(g==[109,111,100])=Y:=by{rw[hu];rfl};have hF:D<|aq=Y:=aK (by rw[<-hB.o,y1];rfl);clear hB hu;go_wp2;go_meet;(case rel=>exact⟨by rw[hF.o],rfl⟩)};{have n1:(g==[109,111,100])=V:=by{rw[aZ];exact hu};have hF:D<|aq=(g==[37]):=aK (by rw[<-hB.o,n1];rfl);clear hB hu;go_wp2;go_meet;(case rel=>exact⟨by rw[hF.o],rfl⟩)});(case rest=>obtain⟨rfl,rfl⟩:=hcut;go_upto_if 44 with fail;go_cut[0,6] (λx az wd=>arP w wd f (!dW z) S x az);(case first=>cases aq with|true=>{have gQ:=HY.o (by{have h:=hB.o;rw[qC,ef,ef]at h;exact h});clear HN HY hB c1;cases u:fy v with|none=>{have hF:D<|S=(V,V):=aK (by rw[<-gQ,aku _ _ _ _ u]);have fc:=N2 v HV.o wc;rw[u]at fc;clear gQ u s H;go_wp2_with(go_at_call 110;refine fc.mono ?_;rintro l w2 ⟨rfl,j⟩);go_ret2;exact⟨by rw[hF.o];rfl,bh L j⟩}|some m=>{obtain⟨vd,v9,m9,vv⟩:=aoC u;have vz:=aoA u;have fc:=N2 v HV.o wc;rw[u]at fc;by_cases ao:m=0;{have hF:D<|S=(V,V):=by{show _=_;rw[ao]at u;rw[<-gQ,akr _ _ _ _ u]};have aX:(v==[48])=Y:=by{rw[vz];simp[ao]};clear gQ u s H vz vd vv;go_wp2_with(go_at_call 110;refine fc.mono ?_;rintro l w2 ⟨rfl,j⟩);go_ret2;exact⟨by rw[hF.o];rfl,bh L j⟩};{have aX:(v==[48])=V:=by{rw[vz];simp[ao]};by_cases ay:G r<2;{have hF:D<|S=(V,V):=by{show _=_;rw[<-gQ,akt _ _ _ _ ay]};have a0:(G r:Int)+2<4:=aJ;clear gQ u s H vz vd vv;go_wp2_with(go_at_call 110;refine fc.mono ?_;rintro l w2 ⟨rfl,j⟩);go_ret2;exact⟨by rw[hF.o];rfl,bh L j⟩};{obtain⟨T,e,d,rfl⟩:∃T e d,r=T::e::d:=by{match r,ay with|T::e::d,_=>exact⟨T,e,d,rfl⟩| [],h=>simp at h| [_],h=>{simp at h}};have HZ:D<|nx (Pr.val A%m) (!dW z) T e d=S:=aK (by rw[<-gQ,aks _ _ _ _ _ _ _ u ao]);have sm:=λW=>QT v vd v9 W;rw[vv]at sm;have lf:=λW=>akZ A m HX.o.2 aJ m9 W;have a2:Pr.val A%m<m:=Ar _ aJ;have dm:=λW=>JA (Pr.val A%m) W aJ;have HK:D<|Canon (Lib.decDigits<|Pr.val A%m)/\Pr.val (Lib.decDigits<|Pr.val A%m)=Pr.val A%m:=⟨UJ _ aJ,(Bp _).1⟩;simp only[bB]at hc hl s;have qe:¬c-1=2:=aJ;clear gQ u vz vd vv HX ay ao;generalize Pr.val A%m=q at*;go_wp2_with(first|(go_at_call 110;refine fc.mono ?_;rintro l w2 ⟨rfl,j⟩)|(go_at_call 84;refine(sm _).mono ?_;rintro l w3 ⟨rfl,rfl⟩)|(go_at_call 111;refine(lf _).mono ?_;rintro l w4 ⟨rfl,rfl⟩)|(go_at_call 53;refine(dm _).mono ?_;rintro l w5 ⟨rfl,bf⟩));have aB:=bh L<|bh j bf;go_meet;(case rel=>refine⟨T,e,d,off+3,c-3,Lib.decDigits q,?_,rfl,aJ,aJ,HK.o.1,aB,(λi hj=>(aB.cell (p:=⟨f,off+3+i,O⟩) cM).trans (by rw[show off+3+i=off+(3+i) from aJ];rw[s.o (3+i) aJ,show 3+i=i+3 from aJ];rfl)),λy M=>H.o y<|mn _<|mn _<|mn _ M,by rw[HK.o.2];exact HZ.o⟩;first|rfl|(congr 2<;>omega))}}}}|false=>{have HZ:=HN.o (by{have h:=hB.o;rw[Py,aZ,aZ]at h;exactλx=>x.elim h.1 h.2});have Va:=aK HZ;clear HN HY HZ hB;go_wp2;go_meet;(case rel=>exact⟨g,v,r,off+1,c-1,A,rfl,rfl,aJ,hl,HX.o.1,L,λi hj=>(L.cell (p:=⟨f,off+1+i,O⟩) cM).trans (by rw[show off+1+i=off+(1+i) from aJ,s.o (1+i) aJ,show 1+i=i+1 from aJ];rfl),λy M=>H.o y<|mn _ M,Va.o⟩)});(case rest=>obtain⟨T,e,d,o,ab,N,rfl,rfl,hC,hR,wO,ar,au,M,zG⟩:=hcut;have HS:=aK zG;have Ji:=du cM ar.size;have mt:af C 112 #[F (K ⟨f,o,O⟩) (G d+2:Nat) ab] wc _:=FW f o ab T (e::d) wc (au 0 aJ) e (au 1 aJ) aN aV;have h3:(gE T e).2.2.2=0\/(gE T e).2.2.2=1\/(gE T e).2.2.2=2:=by{unfold gE;(repeat' split);all_goals simp};unfold nx at HS;have jC:D (∀k,k<=2->¬ab=k->jU wc (F (K ⟨f,o+k,O⟩) (G d+2-k)<|ab-k) ((T::e::d).drop k)):=by{intro k hk a1;have h:=Q0 wc f o ab (T::e::d) k (G d+2) aJ aN (by simpa using hC) Ji (by simpa using au);rw[jY aN]at h;exact h};have OS:D<|ab=2->jU wc (F (K ⟨f,o,O⟩) 0 0) ((T::e::d).drop 2):=by{intro h2;have:d= []:=gU.1 aJ;subst this;exact XV wc f o Ji};have HZ:=aK M;generalize gE T e=aF at*;obtain⟨M1,P,M3,n⟩:=aF;simp only at mt h3 HS;clear au zG HX HY HN s H M c1 c2 L;by_cases av:n=0;{have hF:D<|S=(V,V):=aK (by rw[<-HS.o,aP av]);have aH:((n:Int)==0)=Y:=by{rw[av];rfl};clear HS av h3 jC OS;go_wp2_with(go_at_call 112;refine mt.mono ?_;rintro l w2 ⟨rfl,j⟩);go_ret2;exact⟨by rw[hF.o];rfl,bh ar j⟩};{have aH:((n:Int)==0)=V:=eQ;have bP:D<|((nV (Pr.val N) (!dW z) P M3<|b7 [44]<|(T::e::d).drop n).1 !=M1,(nV (Pr.val N) (!dW z) P M3<|b7 [44]<|(T::e::d).drop n).2)=S:=aK (by rw[<-HS.o,aL av]);have aD:G ((T::e::d).drop n)<=1000:=aV;have aE:∀y∈(T::e::d).drop n,G y<=1000:=λy M=>HZ.o y<|List.drop_subset _ _ M;clear HS;by_cases aA:ab=n;{have aI:n=2:=aJ;subst aI;subst aA;obtain rfl:d= []:=gU.1 aJ;have ls:∀W,X (Z<|J wc) wc W->_:=λW h=>Zy W (F (K ⟨f,o,O⟩) 0 0) [] N z P M3 aN (λy M=>by cases M) ((OS.o rfl).keep h) wO HF.o;have eu:D<|((nV (Pr.val N) (!dW z) P M3<|b7 [44] []).1 !=M1,(nV (Pr.val N) (!dW z) P M3<|b7 [44] []).2)=S:=bP;have aS:af C 112 #[F (K ⟨f,o,O⟩) 2 2] wc _:=mt;obtain⟨aG,hX⟩:=hidx<|nV (Pr.val N) (!dW z) P M3<|b7 [44] [];rw[hX.o]at eu ls;clear jC OS hX h3 bP mt HZ aD aE;simp only[jE]at*;go_wp2_with(first|(go_at_call 112;refine aS.mono ?_;rintro l w2 ⟨rfl,j⟩)|(go_at_call 113;refine(ls _ j).mono ?_;rintro l w3 ⟨rfl,aU⟩));go_ret2;exact⟨by rw[<-eu.o];rfl,bh ar<|bh j aU⟩};{have ls:=λW (h:X (Z<|J wc) wc W)=>Zy W _ ((T::e::d).drop n) N z P M3 aD aE ((jC.o n aJ aA).keep h) wO HF.o;obtain⟨aG,hX⟩:=hidx<|nV (Pr.val N) (!dW z) P M3<|b7 [44]<|(T::e::d).drop n;rw[hX.o]at bP ls;clear jC OS hX;go_wp2_with(first|(go_at_call 112;refine mt.mono ?_;rintro l w2 ⟨rfl,j⟩)|(go_at_call 113;refine(ls _ j).mono ?_;rintro l w3 ⟨rfl,aU⟩));go_ret2;exact⟨by rw[<-bP.o];rfl,bh ar<|bh j aU⟩}}))})
end
section
open Pr RowKit
def tr (a b:H)(acc:Bool):List (List H)->Option Bool
 | []=>K acc
 |p::ps=>match pD (ng a b p)with
  |none=>O
  |some h=>tr a b (acc&&h) ps
def sW (a b:H)(acc:Bool):List (List H)->Option Bool
 | []=>K acc
 |p::ps=>match tr a b Y (b7 [97,110,100] p)with
  |none=>O
  |some h=>sW a b (acc||h) ps
def Hd (a b)(d:Canon a)(e:ez b):∀(c:List<|List H) (f:Pr.Sem),(se (Pr.whole jb) uE f c).map (λg=>g a b)=tr a b (f a b) c:=by intro c;induction c with|nil=>intro f;rfl|cons p c i=>{intro f;have h:=Yp p a b d e;rw[tr,<-h,se];cases Pr.whole jb p with|none=>rfl|some g=>{exact i<|uE f g}}
def lE (a b)(d:Canon a)(e:ez b)(c:List<|List H)(f:c≠[]):(oM (Pr.whole jb) uE c).map (λg=>g a b)=tr a b Y c:=by cases c with|nil=>exact absurd rfl f|cons p c=>{have h:=Yp p a b d e;rw[tr,<-h,oM];cases Pr.whole jb p with|none=>rfl|some g=>{exact Hd a b d e c g}}
def He (a b)(d:Canon a)(e:ez b):∀(c:List<|List H) (f:Pr.Sem),(se (λp=>oM (Pr.whole jb) uE<|b7 [97,110,100] p) nS f c).map (λg=>g a b)=sW a b (f a b) c:=by intro c;induction c with|nil=>intro f;rfl|cons p c i=>{intro f;have h:=lE a b d e (b7 [97,110,100] p)<|AK _ _;rw[sW,<-h,se];cases oM (Pr.whole jb) uE (b7 [97,110,100] p)with|none=>rfl|some g=>{exact i<|nS f g}}
def Hf (a b)(c:Canon a)(d:ez b)(l:List H):(wW l).map (λg=>g a b)=sW a b V (b7 [111,114] l):=by rw[Hg];have e:=AK [111,114] l;cases f:b7 [111,114] l with|nil=>exact absurd f e|cons p i=>{have h:=lE a b c d (b7 [97,110,100] p)<|AK _ _;rw[sW,<-h,oM];cases oM (Pr.whole jb) uE (b7 [97,110,100] p)with|none=>rfl|some g=>{exact He a b c d i g}}
def Io:Option Bool->Bool×Bool
 |none=>(V,V)
 |some h=>(h,Y)
def qQ (a b s:H):Bool×Bool:=Io<|(nK s).map<|λg=>g a b
def Do (a b s):(qQ a b s).2=(nK s).isSome:=by unfold qQ;cases nK s<;>rfl
def Hh (a b s:H)(h:200<G s):qQ a b s=(V,V):=by simp[qQ,nK,h,Io]
def Hs (a b s:H)(h:f_ [] 3 (Lib.cut s [64]).1=O):qQ a b s=(V,V):=by rw[Qc]at h;simp[qQ,nK,h,Io]
def H1 (a b s:H)(e:Canon a)(f:ez b)(d:¬200<G s)(c)(h:f_ [] 3 (Lib.cut s [64]).1=K c):qQ a b s=Io (sW a b V<|b7 [111,114] c):=by rw[Qc]at h;rw[qQ,<-Hf a b e f c];simp[nK,h,d]
end
section
open Pr RowKit Tryz
def Rb (w d n c m)(a b:H)(g:n<3):af C 77 #[F d n c,ai #[Q m,U ⟨E a⟩,U ⟨E b⟩]] w λe w'=>e=ae (ak #[Q V,Q V])/\X (Z<|J w) w w':=by have f:=(s (Z<|J w) w).alloc (r _)<|an #[Q m,U ⟨E a⟩,U ⟨E b⟩] 78;have h:(n:Int)<3:=S;go_enter func77,ntmps77;go_wp2;go_ret2;exact⟨rfl,f⟩
def Ab (w v)(l:List H)(m a b)(f:G l<=900)(g:∀x∈l,G x<=1000)(d:jU w v l)(n:Canon a)(r:sH a)(o:ez b):af C 77 #[v,ai #[Q m,U ⟨E a⟩,U ⟨E b⟩]] w λk w'=>k=ae (ak #[Q (ng a b l).1,Q (ng a b l).2])/\X (Z<|J w) w w':=by match l,f,g,d with| [],_,_,d=>{obtain⟨e,c,rfl⟩:=d.form;exact Rb w e 0 c m a b S}| [_],_,_,d=>{obtain⟨e,c,rfl⟩:=d.form;exact Rb w e 1 c m a b S}| [_,_],_,_,d=>{obtain⟨e,c,rfl⟩:=d.form;exact Rb w e 2 c m a b S}|t::u::x::s,f,g,d=>{rcases d with⟨_,h⟩|⟨i,off,c,rfl,p,j,q⟩;{cases h};{simp only[bB]at f;exact Ad w i off c t u x s m a b S g p j q n r o}}
def YL {w b v a}(h:oO w b v a):jU w v a:=by have m:=h;unfold oO at h;rcases h.2 with⟨rfl,j⟩|⟨g,c,l,rfl,d⟩;{exact .inl ⟨rfl,gU.1<|by simpa using j⟩};{have i:=dV h g rfl;have f:=d.2.2.1;refine .inr ⟨g,0,c,rfl,f,i.2,λk e=>?_⟩;rw[lu,h.cellAt k S];simp[iZ,bR e]}
def AC:∀(n:Nat) (b:H),G b<=n->∀e,d8 b=K e->G e<=G b/\∀t∈e,G t<=G b:=by intro n;induction n with|zero=>{intro b h e a;have:b= []:=gU.1 S;subst this;have:e= []:=by{simpa[Pr.d8,lY]using a.symm};subst this;exact⟨r _,λt a=>by cases a⟩}|succ n k=>{intro b h e a;cases b with|nil=>{have:e= []:=by{simpa[Pr.d8,lY]using a.symm};subst this;exact⟨r _,λt a=>by cases a⟩}|cons c d=>{have i:=AF<|c::d;rw[EE]at a;split at a;{cases a};{rename_i m;have hd:G ((c::d).drop<|dX<|c::d)=G d+1-dX (c::d):=z;cases f:d8 ((c::d).drop<|dX<|c::d)with|none=>rw[f]at a;cases a|some l=>{rw[f]at a;simp only[bB]at h i⊢;obtain⟨j,g⟩:=k _ (by rw[hd];omega) l f;rw[hd]at j g;injection a with a;subst a;split;{exact⟨S,λt a=>by have:=g t a;omega⟩};{refine⟨q,λt a=>?_⟩;rcases cL.1 a with rfl|a;{simp only[gT,bB];omega};{have:=g t a;omega}}}}}}
def Mf (sep:H):∀b:List H,G (b7 sep b)<=G b+1/\∀p∈b7 sep b,G p<=G b:=by intro b;induction b with|nil=>{exact⟨by simp[b7],λp a=>by simp[b7]at a;subst a;simp⟩}|cons t b c=>{simp only[b7];split;{refine⟨by simp;exact c.1,λp a=>?_⟩;rcases cL.1 a with rfl|a;{simp};{exact Pe<|c.2 p a}};{split;{rename_i e f d;rw[d]at c;refine⟨by simp at c⊢;omega,λp a=>?_⟩;rcases cL.1 a with rfl|a;{have:=c.2 e z;simp;omega};{exact Pe<|c.2 p<|mn _ a}};{exact⟨z,λp a=>by simp at a;subst a;simp⟩}}}
def jp (a b:H)(acc:Bool)(ps:List<|List H):Option Bool->Option Bool
 |none=>O
 |some h=>tr a b (acc&&h) ps
def Ir (a b:H)(acc:Bool)(ps:List<|List H):Option Bool->Option Bool
 |none=>O
 |some h=>sW a b (acc||h) ps
def AX (a b c p d):tr a b c (p::d)=jp a b c d (pD<|ng a b p):=by rw[tr];cases pD (ng a b p)<;>rfl
def A1 (a b c p d):sW a b c (p::d)=Ir a b c d (tr a b Y<|b7 [97,110,100] p):=by rw[sW];cases tr a b Y (b7 [97,110,100] p)<;>rfl
def Yk (w)(s:asq)(m a b)(hs:G s<=1000000)(ha:Canon a)(aF:sH a)(hb:ez b):af C 58 #[U ⟨E s⟩,ai #[Q m,U ⟨E a⟩,U ⟨E b⟩]] w λH w'=>H=ae (ak #[Q (qQ a b s).1,Q (qQ a b s).2])/\X (Z<|J w) w w':=by obtain⟨S,hS⟩:=hidx<|qQ a b s;rw[hS.o];have hw:=(aT (Z<|J w) w).alloc (aO _)<|an #[Q m,U ⟨E a⟩,U ⟨E b⟩] 78;have A:=bx w #[Q m,U ⟨E a⟩,U ⟨E b⟩] 78;have cw:=adG s hs<|ah w<|an #[Q m,U ⟨E a⟩,U ⟨E b⟩] 78;go_enter func58,ntmps58;go_wp2_with fail;refine cw.mono ?_;rintro H w1 ⟨aR,aq⟩;clear cw;replace A:=A.keep aR;have NR:=bh hw aR;clear hw aR;cases z:f_ [] 3 (Lib.cut s [64]).1 with|none=>{rw[z]at aq;obtain rfl:=aq;have hF:D<|S=(V,V):=aK (by rw[<-hS.o,Hs a b s z]);clear hS z A;go_wp2;go_ret2;exact⟨by rw[hF.o];rfl,NR⟩}|some y=>{rw[z]at aq;obtain⟨v,rfl,P⟩:=aq;by_cases Ug:200<G s;{have aB:(200:Int)<G s:=aJ;have hF:D<|S=(V,V):=aK (by rw[<-hS.o,Hh a b s Ug]);clear hS z A P;go_wp2;go_ret2;exact⟨by rw[hF.o];rfl,NR⟩};{have aB:¬(200:Int)<G s:=aJ;have M:D<|Io (sW a b V<|b7 [111,114] y)=S:=aK (by rw[<-hS.o,H1 a b s ha hb Ug y z]);have aE:=sq s;obtain⟨qR,ay⟩:=AC _ _ (aO _) y (by rw[<-Qc];exact z);have cp:=RA w1 v y [111,114] aJ<|YL P;have aI:=AK [111,114] y;have Tf:D (∀p∈b7 [111,114] y,G p<=900/\∀t∈p,G t<=1000):=λp P=>⟨by have:=(Mf [111,114] y).2 p P;omega,λt ht=>by have:=ay t<|Rz [111,114] y p P t ht;omega⟩;have a9:G (b7 [111,114] y)<=1000:=by{have:=(Mf [111,114] y).1;omega};clear hS z P qR ay aE Ug;generalize b7 [111,114] y=e at*;go_wp2_with fail;refine cp.mono ?_;rintro H w2 ⟨⟨va,rfl,vs,bb,ao,dH⟩,aS⟩;clear cp;replace A:=A.keep aS;have DC:=bh NR aS;have ax:=dV ao;have A0:=ao;rcases ao.2 with⟨rfl,h0⟩|⟨g,a5,a6,rfl,aG⟩;{exact absurd (gU.1 h0) aI};have a1:D (∀d,d<G e->ac w2 ⟨g,d,O⟩=vs[d]?):=λd hj=>A0.cellAt d aJ;have BR:D (∀d,d<G e->jU w2 (vs.getD d undef) (e.getD d [])):=λd hj=>(dH d hj).keep aS;have lC:=(ax g rfl).2;obtain⟨F,TR⟩:=hidx<|sW a b V e;rw[TR.o]at M;have R0:=aK A;clear ao A0 aG dH ax aS NR A;go_wp2_with fail;go_loopg[8,10] (G e) (λn x i wr=>∃(k:Nat) (r:Bool),n+k=G e/\x=Q r/\i=I R k/\X (Z<|J w2) w2 wr/\D (sW a b r (e.drop k)=F));(case atStart=>exact⟨0,V,rfl,rfl,rfl,aT _ _,TR⟩);(case round=>obtain⟨k,r,a8,rfl,rfl,a_,HG⟩:=hrel;clear TR;by_cases hk:k<G e;{have aH:(k:Int)<G e:=aJ;obtain⟨x,hx⟩:∃x,vs[k]? =K x:=⟨_,bR aJ⟩;have Dq:=((a_.cell (p:=⟨g,k,O⟩) lC).trans<|a1.o k hk).trans hx;have zu:jU wr x<|e.getD k []:=by{have h:=BR.o k hk;rw[show vs.getD k undef=x by simp[hx]]at h;exact h.keep a_};have L:e.getD k []=e[k]:=by{simp[iZ,hk]};have b_:D<|Ir a b r (e.drop<|k+1) (tr a b Y<|b7 [97,110,100]<|e.getD k [])=F:=by{show _=_;rw[<-HG.o,dG hk,A1,L]};obtain⟨ba,rW⟩:G (e.getD k [])<=900/\∀t∈e.getD k [],G t<=1000:=by{rw[L];exact Tf.o _<|ox hk};clear HG L;generalize e.getD k []=p at*;have cq:=RA wr x p [97,110,100] aJ zu;have aX:=AK [97,110,100] p;have a0:D (∀q∈b7 [97,110,100] p,G q<=900/\∀t∈q,G t<=1000):=λq hq=>⟨by have:=(Mf [97,110,100] p).2 q hq;omega,λt ht=>rW t<|Rz [97,110,100] p q hq t ht⟩;have AY:G (b7 [97,110,100] p)<=1000:=by{have:=(Mf [97,110,100] p).1;omega};obtain⟨xa,xc,rfl⟩:=zu.form;clear zu hx rW;generalize b7 [97,110,100] p=f at*;go_wp2_with fail;refine cq.mono ?_;rintro H w3 ⟨⟨vb,rfl,us,SU,gZ,au⟩,aU⟩;clear cq Dq;have qV:=bh a_ aU;have x9:=dV gZ;have vI:=gZ;rcases gZ.2 with⟨rfl,h0⟩|⟨g3,BA,a4,rfl,aD⟩;{exact absurd (gU.1 h0) aX};have av:D (∀d,d<G f->ac w3 ⟨g3,d,O⟩=us[d]?):=λd hj=>vI.cellAt d aJ;have aw:D (∀d,d<G f->jU w3 (us.getD d undef) (f.getD d [])):=λd hj=>(au d hj).keep aU;have Tq:=(x9 g3 rfl).2;have R3:=aK<|R0.o.keep qV;clear gZ vI aD au x9 aU a_;go_upto_block 2 with fail;go_cut[12] (λar wd=>∃j:Bool,ar=Q j/\X (Z<|J w3) w3 wd/\D (sW a b (r||j) (e.drop<|k+1)=F));(case first=>go_wp2_with fail;go_loopg[12,13] (G f) (λn ar i a2=>∃(c:Nat) (j:Bool),n+c=G f/\ar=Q j/\i=I R c/\X (Z<|J w3) w3 a2/\D (Ir a b r (e.drop<|k+1) (tr a b j<|f.drop c)=F));(case atStart=>exact⟨0,Y,rfl,rfl,rfl,aT _ _,b_⟩);(case round=>obtain⟨c,j,a3,rfl,rfl,l,HA⟩:=hrel;clear b_;by_cases ab:c<G f;{have aC:(c:Int)<G f:=aJ;obtain⟨ad,hy⟩:∃ad,us[c]? =K ad:=⟨_,bR aJ⟩;have a7:=((l.cell (p:=⟨g3,c,O⟩) Tq).trans<|av.o c ab).trans hy;have SW:jU wr ad<|f.getD c []:=by{have h:=aw.o c ab;rw[show us.getD c undef=ad by simp[hy]]at h;exact h.keep l};have L:f.getD c []=f[c]:=by{simp[iZ,ab]};have N:D<|Ir a b r (e.drop<|k+1) (jp a b j (f.drop<|c+1)<|pD<|ng a b<|f.getD c [])=F:=by{show _=_;rw[<-HA.o,dG ab,AX,L]};obtain⟨uo,az⟩:G (f.getD c [])<=900/\∀t∈f.getD c [],G t<=1000:=by{rw[L];exact a0.o _<|ox ab};clear HA L;generalize f.getD c []=q at*;have rel:=λW (h:X (Z<|J wr) wr W)=>Ab W ad q m a b uo az (SW.keep h) ha aF hb;obtain⟨ya,yc,rfl⟩:=SW.form;generalize ng a b q=aA at*;obtain⟨hh,ff⟩:=aA;simp only at rel;have q0:=(R3.o.keep l).2.1;have dD:IntKind.i64.wrap ((c:Int)+1)=c+1:=bQ;have NQ:=bh DC<|bh qV l;clear uo az SW hy Tq DC qV lC;cases ff with|false=>{have hF:D<|S=(V,V):=by{show _=_;rw[<-M.o,<-N.o];rfl};clear N M l;go_wp2;go_region_with(go_at_call 77;refine(rel _<|by first|exact aT _ _|exact(aT _ _).drew).mono ?_;rintro H w5 ⟨rfl,u⟩);(all_goals go_wp2);(all_goals go_ret2);all_goals first|exact⟨by rw[hF.o];rfl,bh NQ u⟩|exact⟨by rw[hF.o];rfl,(bh NQ u).drew⟩|exact⟨by rw[hF.o];rfl,bh NQ.drew u⟩}|true=>{have T:D<|Ir a b r (e.drop<|k+1) (tr a b (j&&hh)<|f.drop<|c+1)=F:=N;clear N M NQ;cases j with|true=>{go_wp2;go_region_with(go_at_call 77;refine(rel _<|by first|exact aT _ _|exact(aT _ _).drew).mono ?_;rintro H w5 ⟨rfl,u⟩);(all_goals go_wp2);(all_goals go_roundg (gk-1));all_goals first|omega|exact⟨c+1,hh,aJ,rfl,aN,bh l u,T⟩|exact⟨c+1,hh,aJ,rfl,aN,(bh l u).drew,T⟩|exact⟨c+1,hh,aJ,rfl,aN,bh l.drew u,T⟩}|false=>{go_wp2;go_region_with(go_at_call 77;refine(rel _<|by first|exact aT _ _|exact(aT _ _).drew).mono ?_;rintro H w5 ⟨rfl,u⟩);(all_goals go_wp2);(all_goals go_roundg (gk-1));all_goals first|omega|exact⟨c+1,V,aJ,rfl,aN,bh l u,T⟩|exact⟨c+1,V,aJ,rfl,aN,(bh l u).drew,T⟩|exact⟨c+1,V,aJ,rfl,aN,bh l.drew u,T⟩}}};{have aC:¬(c:Int)<G f:=aJ;have N:D<|sW a b (r||j) (e.drop<|k+1)=F:=by{show _=_;rw[<-HA.o,show f.drop c= []from jm aJ];rfl};clear HA;go_wp2;go_meet;(case rel=>exact⟨j,rfl,l,N⟩)}));(case rest=>obtain⟨j,rfl,bp,lT⟩:=hcut;have DB:=bh qV bp;have bc:IntKind.i64.wrap ((k:Int)+1)=k+1:=bQ;clear b_ av aw R3 Tq qV bp;cases r with|true=>{go_wp2;go_roundg (gk-1);(case measure=>omega);(case rel=>exact⟨k+1,Y,aJ,rfl,aN,DB,lT⟩)}|false=>{go_wp2;go_roundg (gk-1);(case measure=>omega);(case rel=>exact⟨k+1,j,aJ,rfl,aN,DB,by simpa using lT⟩)})};{have aH:¬(k:Int)<G e:=aJ;have hF:D<|S=(r,Y):=by{show _=_;rw[<-M.o,<-HG.o,jm aJ];rfl};clear M HG;go_wp2;go_ret2;exact⟨by rw[hF.o];rfl,bh DC a_⟩})}}
def kq (n):n∈vT.take 5↔lQ n=Y:=by unfold vT lQ;simp
def Dm (w)(s:H)(d:G s<=1000000):af C 107 #[U ⟨E s⟩] w λa w'=>a=ae (Q (nK s).isSome)/\X (Z<|J w) w w':=by have b:=λW=>Yk W s V [48] [] d ⟨z,P,.inl rfl⟩ ⟨P,P⟩ ⟨z,z⟩;rw[Do]at b;generalize(qQ [48] [] s).1=e at*;generalize(nK s).isSome=f at*;go_enter func107,ntmps107;go_wp2_with(go_at_call 58;refine(b _).mono ?_;rintro a g ⟨rfl,c⟩);go_ret;exact⟨rfl,c⟩
def Q8 (b:List H)(n s:H)(r:List<|H×H)(h:¬n∈vT.take 5\/n∈b\/(nK s).isSome=V):(eR b<|(n,s)::r).isSome=V:=by rw[eR];split;{rfl};{rename_i a;rcases h with h|h|h;{rw[kq]at h;exact absurd (.inr<|by simpa using h) a};{exact absurd (.inl h) a};{cases c:nK s with|none=>rfl|some f=>{rw[c]at h;cases h}}}
def ahK (a:List H)(n s:H)(r:List<|H×H)(b:n∈vT.take 5)(d:¬n∈a)(c:(nK s).isSome=Y):(eR a<|(n,s)::r).isSome=(eR (a++[n]) r).isSome:=by rw[kq]at b;rw[eR,A (by rintro(h|h);(exact d h);(rw[b]at h;cases h))];cases e:nK s with|none=>rw[e]at c;cases c|some f=>{simp only;cases eR (a++[n]) r<;>rfl}
def ahI (w r off c)(l:List<|asq×asq)(hl:G l<=100000)(ns:∀q∈l,G q.1<1000000/\G q.2<1000000)(cM:r<Z (J w))(ad:∀b,b<G l->ac w ⟨r,off+b*2,O⟩=K (bU (l.getD b ([],[])).1)/\ac w ⟨r,off+b*2+1,O⟩=K (bU (l.getD b ([],[])).2)):af C 70 #[F (K ⟨r,off,O⟩) (G l) c] w λf w'=>f=ae (Q (eR [] l).isSome)/\X (Z<|J w) w w':=by obtain⟨z,bZ,ar,au,cC⟩:=eH SD;have L:D<|C.info? 9=K z/\z.zero=K (U ⟨#[]⟩)/\z.size=1/\z.bytes=16:=⟨bZ,ar,au,cC⟩;have HC:=aK ad;have HM:=aK ns;obtain⟨S,hS⟩:=hidx<|(eR [] l).isSome;rw[hS.o];clear bZ ar au cC ad ns;go_enter func70,ntmps70;go_wp2_with fail;refine(JD w).mono ?_;rintro f H ⟨rfl,aR,Nk,gP⟩;have HK:D<|jU H (F (K ⟨Z<|J w,0,O⟩) 5 6)<|vT.take 5:=by{refine .inr ⟨Z<|J w,0,6,rfl,aM,Nk,λb t=>?_⟩;have av:b<5:=t;rw[lu,gP b aJ];match b,av with|0,_=>rfl|1,_=>rfl|2,_=>rfl|3,_=>rfl|4,_=>{rfl}};clear gP;go_wp2_with fail;go_loopw[3,5] (λv i wr=>∃(k:Nat) (a:List asq),k<=G l/\i=I R k/\G a<=k/\oO wr (Z<|J H) v a/\X (Z<|J H) H wr/\D ((eR a<|l.drop k).isSome=S)) (λ_ i _=>G l-(intOf i).toNat);(case atStart=>exact⟨0,[],dF _,rfl,aO _,fQ _ _ _ _,aT _ _,hS⟩);(case round=>obtain⟨k,a,hk,rfl,ay,ab,N,M⟩:=hrel;clear hS;by_cases y:k<G l;{have aw:(k:Int)<G l:=aJ;have E:=bh aR N;obtain⟨W,d1⟩:=HC.o k y;obtain⟨m0,m1⟩:=HM.o (l.getD k ([],[])) (by rw[iZ,bR y];exact ox y);have e:D<|(eR a<|((l.getD k ([],[])).1,(l.getD k ([],[])).2)::l.drop (k+1)).isSome=S:=by{show _=_;rw[<-M.o,dG y,show l.getD k ([],[])=l[k]by simp[iZ,bR y]]};unfold bU at W d1;generalize(l.getD k ([],[])).1=n at*;generalize(l.getD k ([],[])).2=s at*;have c0:=(E.cell (p:=⟨r,off+k*2,O⟩) cM).trans W;have c1:=(E.cell (p:=⟨r,off+k*2+1,O⟩) cM).trans d1;have p1:=Rt wr _ (vT.take 5) n aM<|HK.o.keep N;have p2:=Rt wr _ a n aJ<|YL ab;have A:=Dm wr s aJ;have az:IntKind.i64.wrap ((k:Int)+1)=k+1:=bQ;clear W d1 M m0;generalize m:(nK s).isSome=ok at*;go_wp2_with fail;refine p1.mono ?_;rintro f w2 ⟨⟨k1,rfl,u⟩,rfl⟩;clear p1;go_wp2_with fail;refine p2.mono ?_;rintro f w3 ⟨⟨k2,rfl,x⟩,rfl⟩;clear p2;by_cases g:n∈vT.take 5;{have y1:¬k1<0:=by{have:=u.2 g;omega};by_cases j:n∈a;{have y2:=x.2 j;have hF:D<|S=V:=aK (by rw[<-e.o];exact Q8 a n s _<|.inr<|.inl j);clear e u x g j m;go_wp2_with(go_at_call 107;refine A.mono ?_;rintro f P ⟨rfl,d⟩);go_ret;exact⟨by rw[hF.o];rfl,bh E d⟩};{have y2:¬0<=k2:=λh=>j<|x.1 h;cases ok with|false=>{have hF:D<|S=V:=aK (by rw[<-e.o];exact Q8 a n s _<|.inr<|.inr m);clear e u x g j m;go_wp2_with(go_at_call 107;refine A.mono ?_;rintro f P ⟨rfl,d⟩);go_ret;exact⟨by rw[hF.o];rfl,bh E d⟩}|true=>{have b_:D<|(eR (a++[n])<|l.drop<|k+1).isSome=S:=aK (by rw[<-e.o];exact(ahK a n s _ g j m).symm);clear e u x g j m;go_wp2_with fail;refine A.mono ?_;rintro f P ⟨rfl,d⟩;have vI:=ab.keep d;have T:=bh N d;clear A ab d;go_wp2_with(first|(at_builtin;refine rH _ rfl _ _ 22 rfl (Z<|J H) 9 z (U ⟨#[]⟩) 1 16 underlying22 L.o.1 L.o.2.1 L.o.2.2.1 L.o.2.2.2 rfl aM _ _ _ rfl (dc vI _) ⟨Z<|J P,0,O⟩ 1 1 [bU n] rfl rfl ?c1 ?c2 ?c3 ?c4 ?c5 ?_)|go_in);(case c1=>intro b ax t;match b,t with|0,t=>{simp at t;subst t;simp[Addr.add,bU]});(case c2=>intro ax hu;simp at hu;subst hu;rfl);(case c3=>unfold maxLen;omega);(case c4=>omega);(case c5=>have:=T.size;simp;omega);{intro v' w5 aq ao _;obtain⟨g1,g2⟩:=zf vI T (by have:=T.size;omega) aq ao;clear aq ao vI;go_wp2;go_roundw;(case rel=>exact⟨k+1,a++[n],aJ,bo,aV,g1,g2,b_⟩);(case measure=>simp[intOf]<;>omega)}}}};{have y1:k1<0:=by{rcases K9 k1 0 with h|h;{exact h};{exact absurd (u.1 h) g}};have hF:D<|S=V:=aK (by rw[<-e.o];exact Q8 a n s _<|.inl g);clear e u x g m;go_wp2_with(go_at_call 107;refine A.mono ?_;rintro f P ⟨rfl,d⟩);go_ret;exact⟨by rw[hF.o];rfl,bh E d⟩}};{have aw:¬(k:Int)<G l:=aJ;have hF:D<|S=Y:=aK (by rw[<-M.o,jm aJ];rfl);clear M;go_wp2;go_ret;exact⟨by rw[hF.o];rfl,bh aR N⟩})
def ahJ (w a c):af C 70 #[F a 0 c] w λb w'=>b=ae (Q Y)/\X (Z<|J w) w w':=by go_enter func70,ntmps70;go_wp2_with fail;refine(JD w).mono ?_;rintro b g ⟨rfl,d,f,e⟩;clear e;go_wp2_with fail;refine ww 1 ?_;rw[u_];go_wp2;go_ret;exact⟨rfl,d⟩
def X8 (w a c l)(b:sB w a l):af C 70 #[F a (G l) c] w λe w'=>e=ae (Q (eR [] l).isSome)/\X (Z<|J w) w w':=by rcases b.at_ with rfl|⟨d,off,rfl,f,g⟩;{exact ahJ w a c};{exact ahI w d off c l b.len b.small f g}
end
section
open RowKit Tryz
def tV (a b:H):List (H×H)->H
 | []=>other
 |(n,s)::r=>if(qQ a b s).1 then n else tV a b r
def XN (a b n s r):tV a b ((n,s)::r)=if(qQ a b s).1 then n else tV a b r:=rfl
def agl (w e off c)(l:List<|asq×asq)(m a b)(hl:G l<=100000)(ns:∀q∈l,G q.1<1000000/\G q.2<1000000)(v:e<Z (J w))(N:∀t,t<G l->ac w ⟨e,off+t*2,O⟩=K (bU (l.getD t ([],[])).1)/\ac w ⟨e,off+t*2+1,O⟩=K (bU (l.getD t ([],[])).2))(ha:Canon a)(ad:sH a)(hb:ez b):
  af C 30 #[F (K ⟨e,off,O⟩) (G l) c,ai #[Q m,U ⟨E a⟩,U ⟨E b⟩]] w λz w'=>z=ae (U ⟨E<|tV a b l⟩)/\X (Z<|J w) w w':=by
 have Y:=aK N
 have HM:=aK ns
 obtain⟨S,hS⟩:=hidx<|tV a b l
 rw[hS.o]
 have P:=(aT (Z<|J w) w).alloc (aO _)<|an #[Q m,U ⟨E a⟩,U ⟨E b⟩] 78
 have R0:=aK<|bx w #[Q m,U ⟨E a⟩,U ⟨E b⟩] 78
 clear N ns
 go_enter func30,ntmps30
 go_wp2_with fail
 generalize ah w (an #[Q m,U ⟨E a⟩,U ⟨E b⟩] 78)=V at*
 go_loopw[5] (λi wr=>∃k:Nat,k<=G l/\i=I R k/\X (Z<|J V) V wr/\D (tV a b (l.drop k)=S)) (λi _=>G l-(intOf i).toNat)
 case atStart=>exact⟨0,dF _,rfl,aT _ _,hS⟩
 case round=>
  obtain⟨k,hk,rfl,f,u⟩:=hrel
  clear hS
  by_cases r:k<G l
  ·have ao:(k:Int)<G l:=aJ
   have g:=bh P f
   obtain⟨x,y⟩:=Y.o k r
   obtain⟨m0,m1⟩:=HM.o (l.getD k ([],[])) (by rw[iZ,bR r];exact ox r)
   have M:D<|tV a b (((l.getD k ([],[])).1,(l.getD k ([],[])).2)::l.drop (k+1))=S:=by
    show _=_
    rw[<-u.o,dG r,show l.getD k ([],[])=l[k]by simp[iZ,bR r]]
   unfold bU at x y
   generalize(l.getD k ([],[])).1=n at*
   generalize(l.getD k ([],[])).2=s at*
   have c1:=(g.cell (p:=⟨e,off+k*2+1,O⟩) v).trans y
   have q0:=(R0.o.keep f).2.1
   have L:=aK x
   have H:=λW=>Yk W s m a b aJ ha ad hb
   have aq:IntKind.i64.wrap ((k:Int)+1)=k+1:=bQ
   have j:D<|(if(qQ a b s).1 then n else tV a b (l.drop<|k+1))=S:=aK (by rw[<-M.o,XN])
   generalize qQ a b s=ab at*
   obtain⟨h,ok⟩:=ab
   simp only at H j
   clear x y u m0 M
   cases h with
   |true=>
    have hF:D<|S=n:=j.o.symm
    clear j
    go_wp2
    go_region_with(go_at_call 58;refine(H _).mono ?_;rintro z T ⟨rfl,d⟩)
    all_goals
     have c0:ac T ⟨e,off+k*2,O⟩=K (U ⟨E n⟩):=by
      first
      |exact((bh g d).cell (p:=⟨e,off+k*2,O⟩) v).trans L.o
      |exact((bh g.drew d).cell (p:=⟨e,off+k*2,O⟩) v).trans L.o
     clear q0 c1
     go_wp2
     go_ret
     first
     |exact⟨by rw[hF.o];rfl,bh g d⟩
     |exact⟨by rw[hF.o];rfl,(bh g d).drew⟩
     |exact⟨by rw[hF.o];rfl,bh g.drew d⟩
   |false=>
    have A:D<|tV a b (l.drop<|k+1)=S:=j
    clear j
    go_wp2
    go_region_with(go_at_call 58;refine(H _).mono ?_;rintro z T ⟨rfl,d⟩)
    all_goals go_wp2
    all_goals go_roundw
    all_goals first
     |exact⟨k+1,aJ,bo,bh f d,A⟩
     |exact⟨k+1,aJ,bo,(bh f d).drew,A⟩
     |exact⟨k+1,aJ,bo,bh f.drew d,A⟩
     |(simp[intOf]<;>omega)
  ·have ao:¬(k:Int)<G l:=aJ
   have hF:D<|S=other:=aK (by rw[<-u.o,jm aJ];rfl)
   clear u
   go_wp2
   go_ret
   exact⟨by rw[hF.o];rfl,bh P f⟩
def ago (w d c m)(a b:H):af C 30 #[F d 0 c,ai #[Q m,U ⟨E a⟩,U ⟨E b⟩]] w λe w'=>e=ae (U ⟨E<|other⟩)/\X (Z<|J w) w w':=by have f:=(s (Z<|J w) w).alloc (r _)<|an #[Q m,U ⟨E a⟩,U ⟨E b⟩] 78;go_enter func30,ntmps30;go_wp2_with fail;refine ww 1 ?_;rw[u_];go_wp2;go_ret;exact⟨rfl,f⟩
def XL (w d c l m a b)(e:sB w d l)(j:Canon a)(n:sH a)(k:ez b):af C 30 #[F d (G l) c,ai #[Q m,U ⟨E a⟩,U ⟨E b⟩]] w λg w'=>g=ae (U ⟨E<|tV a b l⟩)/\X (Z<|J w) w w':=by rcases e.at_ with rfl|⟨f,off,rfl,h,i⟩;{exact ago w d c m a b};{exact agl w f off c l m a b e.len e.small h i j n k}
end
section
open Cd Maps Pr RowKit Shelf
def me (w:B)(b:Nat)(a:Option Addr)(l:List<|H×H):Prop:=sB w a l/\(l≠[]->∀blk off,a=K ⟨blk,off,O⟩->blk<b)
def me.at {w W b a l}(h:me w b a l)(e:X b w W):sB W a l:=by obtain⟨⟨m,n,o⟩,q⟩:=h;refine⟨m,n,?_⟩;rcases o with h|⟨c,off,f,r,g⟩;{exact .inl h};{by_cases j:l= [];{exact .inl j};{have k:=q j c off f;exact .inr ⟨c,off,f,du r e.size,λd i=>⟨(e.cell (p:=⟨c,off+d*2,O⟩) k).trans (g d i).1,(e.cell (p:=⟨c,off+d*2+1,O⟩) k).trans (g d i).2⟩⟩}}
def vk (lc lo:List<|H×H)(ord:Bool)(z:cN):H:=tV z.2.1 z.2.2<|if ord=Y then lo else lc
def QR {w b e j c d a lo}(n:me w b c a)(o:me w b d lo):uF w b (F c (G a) e) (F d (G lo) j)<|vk a lo:=by intro p q W i f g h;obtain⟨k,l,m⟩:=q;cases p with|true=>exact XL W d j lo k l m (o.at i) f g h|false=>{exact XL W c e a k l m (n.at i) f g h}
def XM (a b):∀c:List<|H×H,(∀q∈c,lQ q.1=Y)->tV a b c∈fO:=by intro c;induction c with|nil=>intro _;simp only[tV];decide|cons q g f=>{intro h;obtain⟨n,s⟩:=q;rw[XN];split;{have d:=h (n,s) sM;unfold lQ at d;simp at d;rcases d with rfl|rfl|rfl|rfl|rfl<;>decide};{exact f λq e=>h q<|mn _ e}}
def agp {a lo}(b:∀q∈a,lQ q.1=Y)(c:∀q∈lo,lQ q.1=Y)(ord z):vk a lo ord z∈fO:=by unfold vk;cases ord;{exact XM _ _ a b};{exact XM _ _ lo c}
end
end Go.Proofs.YtaepcfidpekflabGreatDoor
