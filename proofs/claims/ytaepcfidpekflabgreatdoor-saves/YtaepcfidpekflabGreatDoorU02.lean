import Derived.Test.YtaepcfidpekflabGreatDoorU00
import Derived.Test.YtaepcfidpekflabGreatDoorU01
import Derived.WalkSpells
import Derived.WalkLawsBesides
import Derived.Deep.DeepCutAuto
import Derived.Deep.CutBlock
import Derived.Deep.RegionWith
import Derived.Outline
import Derived.Laws.AppendOwn
import Derived.Laws.OwnMore
import Derived.OwnWalk
import Derived.Maps.OwnSet
import Derived.Maps.AppendAt
import Derived.StringKeys
import Derived.Laws.EntriesVeiled
import Derived.Test.YtaepcfidpekflabGreatDoorProg
import Derived.WalkKit
import Derived.BigQuiet
import Derived.Laws.AppendOwnNone
import Derived.Deep.RegionLaw
import Derived.Lib.MapLaws
import Derived.Lib.ValidLaws
import Derived.Lib.RuneCount
open Array renaming size->Z
open Bool renaming false->V,true->Y
open Decidable renaming decide->am
open Go renaming Calls->af,Value->N,World->B
open Go.Ending renaming returned->ae
open Go.IntKind renaming i32->ap,i64->R
open Go.Obj renaming cells->an
open Go.Proofs.Tryz renaming prog->C
open Go.RowKit renaming Below->X,Hid->D
open Go.Value renaming agg->ai,bool->Q,int->I,slice->F,string->U,tuple->ak
open Go.World renaming alloc->ah,cell?->ac,heap->J
open List renaming length->G,toArray->E
open Option renaming none->O,some->K
set_option maxRecDepth 100000
set_option maxHeartbeats 0
set_option linter.all false
namespace Go.Proofs.YtaepcfidpekflabGreatDoor
section
open Pn Pr RowKit Tryz
def amv (p)(g:∀x,p x=Y->x<128)(s):∀(f a:Nat),a<=s.size->s.size<=a+f->Lib.idxFuncFrom p V s f a=if a+G ((s.data.toList.drop a).takeWhile λc=>p c.toNat)=s.size then-1 else((a+G ((s.data.toList.drop a).takeWhile λc=>p c.toNat):Nat):Int):=by intro f;induction f with|zero=>{intro a h j;have:a=s.size:=S;subst this;rw[jm (by rw[dJ];exact r _)];simp[Lib.idxFuncFrom]}|succ f n=>{intro a h j;by_cases b:a<s.size;{have m:a<G s.data.toList:=by{rw[<-dJ];exact b};rw[dG m];have l:s.data.toList[a]=s[a]:=rfl;rw[l];simp only[Lib.idxFuncFrom,b,eU];by_cases k:s[a].toNat<128;{rw[decode_ascii s a b k];simp only[];cases e:p s[a].toNat with|false=>{rw[t rfl,G3<|by simp[e]];simp;omega}|true=>{rw[A z,n (a+1) S S,Lc<|by simp[e]];simp only[bB];rw[show a+(G ((s.data.toList.drop<|a+1).takeWhile λc=>p c.toNat)+1)=a+1+G ((s.data.toList.drop<|a+1).takeWhile λc=>p c.toNat) from S]}};{have hd:=(decode_high s a b S).1;have i:p (Utf8.decode s a).1=V:=by{cases d:p (Utf8.decode s a).1 with|false=>rfl|true=>{have:=g _ d;omega}};have o:p s[a].toNat=V:=by{cases d:p s[a].toNat with|false=>rfl|true=>{have:=g _ d;omega}};rw[t i,G3<|by simp[o]];simp;omega}};{have:a=s.size:=S;subst this;rw[Lib.idxFuncFrom_end _ _ _ _ _ b,jm (by rw[dJ];exact r _)];simp}}
def afm (p)(b:∀x,p x=Y->x<128)(s):(Lib.trimLeftF p s).size=s.size-G (s.data.toList.takeWhile λc=>p c.toNat):=by have h:=amv p b s s.size 0 (dF _) S;simp only[uW,lu]at h;have d:G (s.data.toList.takeWhile λc=>p c.toNat)<=s.size:=by{rw[dJ];exact(pT _).length_le};unfold Lib.trimLeftF Lib.idxFunc;rw[h];split;{rename_i a;rw[t rfl,a];simp;rfl};{rw[A S];simp}
def zn (x:Nat):Bool:=am<|97<=x/\x<=122
def zM (x:Nat):Bool:=am<|48<=x/\x<=57
def aph:Enters 174:=lJ func174 x rfl
def apj:Enters 176:=lJ func176 x rfl
def L_ {a b}(h:a=b):Ending.returned (Q b)=ae (Q a):=by rw[h]
def tb (x:Nat)(w):af C 174 #[I ap x] w λc w'=>c=ae (Q<|zn x)/\w'=w:=by by_cases b:97<=x;{have d:(97:Int)<=x:=S;have a:D<|zn x=am ((x:Int)<=122):=by{show _=_;simp only[zn,decide_eq_decide];omega};clear b;go_enter func174,ntmps174;go_wp2;go_ret;exact⟨L_ a.o,rfl⟩};{have d:¬(97:Int)<=x:=S;have a:D<|zn x=V:=by{show _=_;simp only[zn,G2];omega};clear b;go_enter func174,ntmps174;go_wp2;go_ret;exact⟨L_ a.o,rfl⟩}
def te (x:Nat)(w):af C 176 #[I ap x] w λc w'=>c=ae (Q<|zM x)/\w'=w:=by by_cases b:48<=x;{have d:(48:Int)<=x:=S;have a:D<|zM x=am ((x:Int)<=57):=by{show _=_;simp only[zM,decide_eq_decide];omega};clear b;go_enter func176,ntmps176;go_wp2;go_ret;exact⟨L_ a.o,rfl⟩};{have d:¬(48:Int)<=x:=S;have a:D<|zM x=V:=by{show _=_;simp only[zM,G2];omega};clear b;go_enter func176,ntmps176;go_wp2;go_ret;exact⟨L_ a.o,rfl⟩}
def air (g:Nat)(p)(h:∀(x:Nat) (w:B),af C g #[I ap x] w λb w'=>b=ae (Q<|p x)/\w'=w)(w):PredAt C g #[] encR p w:=λW x _=>
 (h x W).mono λ_ _ a=>⟨a.1,0,a.2⟩
def ZA (g)(p:Nat->Bool)(f:Enters g)(i:∀x,p x=Y->x<128)(h:∀(x:Nat) (w:B),af C g #[I ap x] w λa w'=>a=ae (Q<|p x)/\w'=w)(s)(k:s.size<=1000)(w):af C 175 #[U s,.func (.func g) #[] #[]] w λa w'=>a=ae (I R<|G<|s.data.toList.takeWhile λc=>p c.toNat)/\X (Z<|J w) w w':=by have b:=λW=>strings_TrimLeftFunc g #[] f p s W<|air g p h W;have d:=afm p i s;have j:G (s.data.toList.takeWhile λc=>p c.toNat)<=s.size:=by{rw[dJ];exact(pT _).length_le};generalize G (s.data.toList.takeWhile λc=>p c.toNat)=n at*;generalize Lib.trimLeftF p s=q at*;have l:IntKind.i64.wrap ((s.size:Int)-(q.size:Int))=n:=by{rw[Cf,d];omega};clear d;go_enter func175,ntmps175;go_wp2_with fail;refine(b _).mono ?_;rintro a m ⟨rfl,e⟩;clear b;go_wp2;go_ret;exact⟨rfl,e⟩
def anY (c x y r):Lib.hasPrefix (c::r) [x,y]=am (c=x/\r.head?=K y):=by unfold Lib.hasPrefix;cases r with|nil=>simp[List.isPrefixOf]|cons d r=>{by_cases h:x=c;{subst h;by_cases b:y=d;{subst b;simp[List.isPrefixOf]};{have:¬d=y:=λa=>b a.symm;simp[List.isPrefixOf,b,this]}};{have:¬c=x:=λa=>h a.symm;simp[List.isPrefixOf,h,this]}}
def akY (c r)(hs:G r<1000)(w):af C 158 #[U ⟨E<|c::r⟩] w λa w'=>a=ae (I R<|dX<|c::r)/\X (Z<|J w) w w':=by obtain⟨s,F⟩:∃s:ByteArray,D<|s=⟨E<|c::r⟩:=⟨_,rfl⟩;rw[<-F.o];have hz:s.size=G r+1:=by{rw[F.o];show(c::r).toArray.size=_;simp};have z:s.data.toList=c::r:=by{rw[F.o]};have h0:∀h,(s[0]'h).toNat=c.toNat:=λh=>by{have:s[0]=s.data.toList[0]'(by rw[z];simp):=rfl;rw[this];simp[z]};have y:=λW=>ZA 174 zn aph (λx h=>by simp[zn]at h;omega) tb s aJ W;have v:=λW=>ZA 176 zM apj (λx h=>by simp[zM]at h;omega) te s aJ W;rw[z]at y v;have d:=λW=>strings_HasPrefix s ⟨#[33,61]⟩ W;have f:=λW=>strings_HasPrefix s ⟨#[46,46]⟩ W;simp only[z]at d f;rw[anY]at d f;obtain⟨n,t⟩:=hidx<|dX<|c::r;rw[t.o];clear z;have hq:=Cm c;have g:=tb c.toNat;have id:=te c.toNat;cases j:zn c.toNat with|true=>{rw[j]at g;have e:D<|n=G ((c::r).takeWhile λc=>zn c.toNat):=by{show _=_;rw[<-t.o,dX,aP<|show ge c=Y from j];rfl};simp only[<-e.o]at y;clear v d f id;go_enter func158,ntmps158;go_wp2_with(first|(go_at_call 174;refine(g _).mono ?_;rintro a b ⟨rfl,rfl⟩)|(go_at_call 175;refine(y _).mono ?_;rintro a i ⟨rfl,A⟩));go_ret;exact⟨rfl,A⟩}|false=>{rw[j]at g;have m:ge c≠Y:=by{rw[show ge c=V from j];simp};cases k:zM c.toNat with|true=>{rw[k]at id;have e:D<|n=G ((c::r).takeWhile λc=>zM c.toNat):=by{show _=_;rw[<-t.o,dX,aL m,aP<|show bu c=Y from k];rfl};simp only[<-e.o]at v;clear y d f;go_enter func158,ntmps158;go_wp2_with(first|(go_at_call 174;refine(g _).mono ?_;rintro a b ⟨rfl,rfl⟩)|(go_at_call 176;refine(id _).mono ?_;rintro a b ⟨rfl,rfl⟩)|(go_at_call 175;refine(v _).mono ?_;rintro a i ⟨rfl,A⟩));go_ret;exact⟨rfl,A⟩}|false=>{rw[k]at id;have u:bu c≠Y:=by{rw[show bu c=V from k];simp};clear y v;cases l:am (c=33/\r.head?=K 61)with|true=>{rw[l]at d;have e:D<|n=2:=by{show _=_;rw[<-t.o,dX,aL m,aL u,aP<|.inl<|xD l]};clear j k l m u;go_enter func158,ntmps158;go_wp2_with(first|(go_at_call 174;refine(g _).mono ?_;rintro a b ⟨rfl,rfl⟩)|(go_at_call 176;refine(id _).mono ?_;rintro a b ⟨rfl,rfl⟩));refine(d _).mono ?_;rintro a i ⟨rfl,rfl⟩;go_wp2;go_ret;exact⟨by rw[e.o];rfl,aT _ _⟩}|false=>{rw[l]at d;cases p:am (c=46/\r.head?=K 46)with|true=>{rw[p]at f;have e:D<|n=2:=by{show _=_;rw[<-t.o,dX,aL m,aL u,aP<|.inr<|xD p]};clear j k l p m u;go_enter func158,ntmps158;go_wp2_with(first|(go_at_call 174;refine(g _).mono ?_;rintro a b ⟨rfl,rfl⟩)|(go_at_call 176;refine(id _).mono ?_;rintro a b ⟨rfl,rfl⟩));refine(d _).mono ?_;rintro a i ⟨rfl,rfl⟩;go_wp2_with fail;refine(f _).mono ?_;rintro a w3 ⟨rfl,rfl⟩;go_wp2;go_ret;exact⟨by rw[e.o];rfl,aT _ _⟩}|false=>{rw[p]at f;have O:¬(c=33/\r.head?=K 61\/c=46/\r.head?=K 46):=λh=>h.elim (Eo l)<|Eo p;have e:D<|n=if c.toNat=32\/c.toNat=61\/c.toNat=37\/c.toNat=44 then 1 else 0:=by{show _=_;rw[<-t.o,dX,aL m,aL u,aL O];simp only[<-iY];rfl};clear j k l p m u O;generalize c.toNat=q at*;by_cases H:q=32;{subst H;go_enter func158,ntmps158;go_wp2_with(first|(go_at_call 174;refine(g _).mono ?_;rintro a b ⟨rfl,rfl⟩)|(go_at_call 176;refine(id _).mono ?_;rintro a b ⟨rfl,rfl⟩));refine(d _).mono ?_;rintro a i ⟨rfl,rfl⟩;go_wp2_with fail;refine(f _).mono ?_;rintro a w3 ⟨rfl,rfl⟩;go_wp2;go_ret;exact⟨by rw[e.o];rfl,aT _ _⟩};by_cases L:q=61;{subst L;go_enter func158,ntmps158;go_wp2_with(first|(go_at_call 174;refine(g _).mono ?_;rintro a b ⟨rfl,rfl⟩)|(go_at_call 176;refine(id _).mono ?_;rintro a b ⟨rfl,rfl⟩));refine(d _).mono ?_;rintro a i ⟨rfl,rfl⟩;go_wp2_with fail;refine(f _).mono ?_;rintro a w3 ⟨rfl,rfl⟩;go_wp2;go_ret;exact⟨by rw[e.o];rfl,aT _ _⟩};by_cases M:q=37;{subst M;go_enter func158,ntmps158;go_wp2_with(first|(go_at_call 174;refine(g _).mono ?_;rintro a b ⟨rfl,rfl⟩)|(go_at_call 176;refine(id _).mono ?_;rintro a b ⟨rfl,rfl⟩));refine(d _).mono ?_;rintro a i ⟨rfl,rfl⟩;go_wp2_with fail;refine(f _).mono ?_;rintro a w3 ⟨rfl,rfl⟩;go_wp2;go_ret;exact⟨by rw[e.o];rfl,aT _ _⟩};by_cases N:q=44;{subst N;go_enter func158,ntmps158;go_wp2_with(first|(go_at_call 174;refine(g _).mono ?_;rintro a b ⟨rfl,rfl⟩)|(go_at_call 176;refine(id _).mono ?_;rintro a b ⟨rfl,rfl⟩));refine(d _).mono ?_;rintro a i ⟨rfl,rfl⟩;go_wp2_with fail;refine(f _).mono ?_;rintro a w3 ⟨rfl,rfl⟩;go_wp2;go_ret;exact⟨by rw[e.o];rfl,aT _ _⟩};have P:D<|n=0:=by{show _=_;rw[e.o,aL aJ]};have Q:((q:Int)==32)=V:=eQ;have S:((q:Int)==61)=V:=eQ;have T:((q:Int)==37)=V:=eQ;have f4:((q:Int)==44)=V:=eQ;clear H L M N;go_enter func158,ntmps158;go_wp2_with(first|(go_at_call 174;refine(g _).mono ?_;rintro a b ⟨rfl,rfl⟩)|(go_at_call 176;refine(id _).mono ?_;rintro a b ⟨rfl,rfl⟩));refine(d _).mono ?_;rintro a i ⟨rfl,rfl⟩;go_wp2_with fail;refine(f _).mono ?_;rintro a w3 ⟨rfl,rfl⟩;go_wp2;go_ret;exact⟨by rw[P.o];rfl,aT _ _⟩}}}}
def SD:(C.info? 9).map (λi=>(i.zero,i.size,i.bytes))=K (K<|U ⟨#[]⟩,1,16):=x
def zK (t:H)(n):(⟨E t⟩:ByteArray).extract 0 n=⟨E<|t.take n⟩:=by rw[Wa];simp
def vS (t:H)(n):(⟨E t⟩:ByteArray).extract n (G t)=⟨E<|t.drop n⟩:=by rw[Wa];simp;rw[jY z]
def ai8 (l:H):dX l<=G l:=by cases l with|nil=>simp[dX]|cons c e=>{by_cases a:ge c=Y;{rw[dX,t a];exact(pT _).length_le};{by_cases b:bu c=Y;{rw[dX,A a,t b];exact(pT _).length_le};{rw[dX,A a,A b];split;{rename_i h;cases e with|nil=>{rcases h with⟨_,h⟩|⟨_,h⟩<;>cases h}|cons d e=>{simp}};{split<;>simp}}}}
def bU (t:H):N:=U ⟨E t⟩
def agc (k):lY k []=K []:=by cases k<;>rfl
def age (k c)(r:H)(h:dX (c::r)=0):lY (k+1) (c::r)=O:=by simp[lY,h]
def agb (k c)(r:H)(h:dX (c::r)≠0)(a:List H):(lY (k+1)<|c::r).map (a++·)=(lY k<|(c::r).drop<|dX<|c::r).map ((if c=32 then a else a++[(c::r).take<|dX<|c::r])++·):=by simp only[lY,h,fX];cases lY k ((c::r).drop<|dX<|c::r)with|none=>rfl|some d=>{by_cases b:c=32;{simp[b]};{simp[b]}}
def oO (w:World)(B:Nat)(v:N)(ps:List H):Prop:=w.ownsRow B 9 1 v (G ps)<|ps.map bU
def oO.keep {w d b v c}(h:oO w b v c)(a:X (Z<|J w) w d):oO d b v c:=by refine wv (row:=O) h ⟨a.os,a.tape,a.output,a.size,λk e _=>a.block k e⟩ ?_;cases f:v.ownBlock with|none=>exact .inl rfl|some _=>{exact .inr z}
def arN (w:B)(x:Option<|List H)(e:Ending)(w':B):Prop:=X (Z<|J w) w w'/\match x with
 |none=>e=ae (ak #[F O 0 0,jR])
 |some ts=>∃v,e=ae (ak #[v,.nilIface])/\oO w' (Z<|J w) v ts/\G ts<=1000/\∀t∈ts,G t<=1000
def zf {w c d a v e b x o}(j:oO c a v b)(g:X a w c)(f:a<=Z (J c))(l:d.ownsRow a 9 1 e (G b+1)<|b.map bU++[bU x])(h:(ah c o).grownBy d v.ownBlock):oO d a e (b++[x])/\X a w d:=by refine⟨by unfold oO;simpa using l,(g.alloc f o).grown h q λk i=>(dV j k i).1⟩
def akw (c)(r:H)(n)(a:n≠0)(h:n<=G r+1):(⟨E<|(c::r).drop n⟩:ByteArray).size<(⟨E<|c::r⟩:ByteArray).size:=by show((c::r).drop n).toArray.size<(c::r).toArray.size;simp;omega
def agf (l:asq)(hl:G l<=1000)(w):af C 144 #[U ⟨E l⟩] w λM w'=>arN w (d8 l) M w':=by obtain⟨n,W,aq,ar,cC⟩:=eH SD;have p:D<|C.info? 9=K n/\n.zero=K (U ⟨#[]⟩)/\n.size=1/\n.bytes=16:=⟨W,aq,ar,cC⟩;clear W aq ar cC;obtain⟨S,hS⟩:=hidx<|d8 l;rw[hS.o];go_enter func144,ntmps144;go_wp2;go_loopw[0,4] (λx v wr=>∃(t:asq) (b:List asq) (k:Nat),x=U ⟨E t⟩/\G t<=k/\G b+G t<=G l/\D (∀t∈b,G t<=1000)/\oO wr (Z<|J w) v b/\X (Z<|J w) w wr/\D (S=(lY k t).map (b++·))) (λx _ _=>match x with|U s=>s.size|_=>0);(case atStart=>exact⟨l,[],G l,rfl,aO _,aN,λt d=>(by cases d),fQ _ _ _ _,aT _ _,by show _=_;rw[<-hS.o];simp[Pr.d8]⟩);(case round=>obtain⟨t,b,k,rfl,hk,P,ns,T,f,e⟩:=hrel;cases t with|nil=>{have g:D<|S=K b:=aK (by rw[e.o,agc];simp);have z:G b<=1000:=by{simp at P;omega};clear e P;go_wp2;go_ret2;refine⟨f,?_⟩;rw[g.o];exact⟨_,rfl,T,z,ns.o⟩}|cons c a=>{obtain⟨k,rfl⟩:∃k',k=k'+1:=⟨k-1,by simp at hk;omega⟩;simp only[bB]at hk P;have ad:=akY c a aJ wr;have z:=ai8<|c::a;have h0:∀h,((⟨E<|c::a⟩:ByteArray)[0]'h).toNat=c.toNat:=λh=>rfl;have d:=zK (c::a)<|dX<|c::a;have hd:=vS (c::a)<|dX<|c::a;have y:=akw c a<|dX<|c::a;have A:=age k c a;have m:=agb k c a;simp only[bB]at z hd;generalize hN:dX (c::a)=N at*;go_wp2_with fail;refine ad.mono ?_;rintro M w1 ⟨rfl,L⟩;have q:=T.keep L;replace f:=bh f L;clear ad T L;by_cases j:N=0;{have av:((N:Int)==0)=Y:=by{rw[j];rfl};have g:D<|S=O:=aK (by rw[e.o,A j];rfl);clear e A m y;go_wp2;go_ret2;refine⟨f,?_⟩;rw[g.o];rfl};{have av:((N:Int)==0)=V:=eQ;have r:=y j z;by_cases i:c=32;{have o8:((c.toNat:Int)==32)=Y:=by{rw[i];rfl};have g:D (S=(lY k<|(c::a).drop N).map (b++·)):=by{show _=_;rw[e.o,m j b,aP i]};have H:=aK r;clear e A m y r i d;go_wp2;go_roundw;(case rel=>exact⟨(c::a).drop N,b,k,rfl,aV,aV,ns,q,f,g⟩);(case measure=>exact H.o)};{have o8:((c.toNat:Int)==32)=V:=by{rw[aZ];intro M;exact i<|iY.1 (by show c.toNat=32;omega)};have g:D (S=(lY k<|(c::a).drop N).map (b++[(c::a).take N]++·)):=by{show _=_;rw[e.o,m j b,aL i]};have H:=aK r;have au:D (∀t∈b++[(c::a).take N],G t<=1000):=λt d=>by{rcases dU.1 d with d|d;{exact ns.o t d};{rw[eG]at d;rw[d];simp;omega}};clear e A m y r i ns;go_wp2_with(first|(at_builtin;refine rH _ rfl _ _ 22 rfl (Z<|J w) 9 n (U ⟨#[]⟩) 1 16 underlying22 p.o.1 p.o.2.1 p.o.2.2.1 p.o.2.2.2 rfl aM _ _ _ rfl (dc q _) ⟨Z<|J w1,0,O⟩ 1 1 [bU<|(c::a).take N] rfl rfl ?c1 ?c2 ?c3 ?c4 ?c5 ?_)|go_in);(case c1=>intro aw ax u;match aw,u with|0,u=>{simp at u;subst u;simp[Addr.add,bU]});(case c2=>intro ax hu;simp at hu;subst hu;rfl);(case c3=>unfold maxLen;omega);(case c4=>omega);(case c5=>have:=f.size;simp;omega);{intro v' w2 ao ab _;obtain⟨g1,g2⟩:=zf q f (by have:=f.size;omega) ao ab;clear ao ab q;go_wp2;go_roundw;(case rel=>exact⟨(c::a).drop N,b++[(c::a).take N],k,rfl,aV,aV,au,g1,g2,g⟩);(case measure=>exact H.o)}}}})
end
section
open Pr RowKit Tryz
def vm:List H:=[[122,101,114,111],[111,110,101],[116,119,111],[102,101,119],[109,97,110,121],[111,116,104,101,114]]
def H5:Array N:=#[U ⟨#[122,101,114,111]⟩,U ⟨#[111,110,101]⟩,U ⟨#[116,119,111]⟩,U ⟨#[102,101,119]⟩,U ⟨#[109,97,110,121]⟩,U ⟨#[111,116,104,101,114]⟩]
def mE (w):af C 155 #[] w λa w'=>a=ae (F (K ⟨Z<|J w,0,O⟩) 6 6)/\Row w' (Z<|J w) H5/\X (Z<|J w) w w':=by go_enter func155,ntmps155;go_wp2;go_ret;exact⟨rfl,bx w H5 _,(s _ _).alloc (r _) _⟩
def mI (n:H)(w):af C 142 #[U ⟨E n⟩] w λb w'=>b=ae (Q<|am<|n∈vm)/\X (Z<|J w) w w':=by have g:D<|Lib.containsS ((vm.map λt=>(⟨E t⟩:ByteArray)).take 6) ⟨E n⟩=am (n∈vm):=by{show _=_;rw[At,GW,xB];simp[vm]};go_enter func142,ntmps142;go_wp2_with fail;refine(mE w).mono ?_;rintro b c ⟨rfl,i,e⟩;have f:∀a,a<G (vm.map λt=>(⟨E t⟩:ByteArray))->ac c ⟨Z<|J w,0+a,O⟩=K (U<|(vm.map λt=>(⟨E t⟩:ByteArray)).getD a ByteArray.empty):=by{intro a h;rw[lu,i.2.1 a];match a,h with|0,_=>rfl|1,_=>rfl|2,_=>rfl|3,_=>rfl|4,_=>rfl|5,_=>{rfl}};have d:=slices_Contains_string (Z<|J w) 0 6 6 (vm.map λt=>(⟨E t⟩:ByteArray)) ⟨E n⟩ c (by simp[vm]) P f;go_wp2_with fail;refine d.mono ?_;rintro b j ⟨rfl,rfl⟩;go_wp2;go_ret;exact⟨by rw[g.o];rfl,e⟩
def LE (n:H)(h:n≠[111,116,104,101,114]):am (n∈vm)=lQ n:=by unfold vm lQ;simp[h]
def LT (n:H)(w):af C 122 #[U ⟨E n⟩] w λa w'=>a=ae (Q<|lQ n)/\X (Z<|J w) w w':=by by_cases h:n= [111,116,104,101,114];{subst h;go_enter func122,ntmps122;go_wp2;go_ret;exact⟨rfl,s _ _⟩};{have b:=mI n w;rw[LE n h]at b;have e:(n==[111,116,104,101,114])=V:=by{simpa using h};clear h;generalize lQ n=d at*;go_enter func122,ntmps122;go_wp2_with fail;refine b.mono ?_;rintro a f ⟨rfl,c⟩;go_wp2;go_ret;exact⟨rfl,c⟩}
def yK (w:B)(v:N)(f:Pr.Sem)(P E:Nat):Prop:=E<=Z (J w)/\∃g lb,v=.func (.func g) #[] lb/\Enters g/\∀W,fV W->(∀k,P<k->k<E->W.heap[k]? =w.heap[k]?)->∀m a b,ez a->ez b->af C g (#[jM m a b]++lb) W λe w'=>e=ae (Q<|f a b)/\X (Z<|J W) W w'
def yK.of {P w v f}(h:ou P w v f):yK w v f P<|Z<|J w:=by obtain⟨g,l,c,d,e⟩:=h;exact⟨r _,g,l,c,d,λW i j=>e W i λk a b=>j k a b⟩
def yK.move {w w' v f P c}(h:yK w v f P c)(o:Z (J w)<=Z (J w'))(n:∀k,P<k->k<c->w'.heap[k]? =w.heap[k]?):yK w' v f P c:=by obtain⟨d,g,p,e,i,j⟩:=h;exact⟨bY d o,g,p,e,i,λW l m=>j W l λk a b=>(m k a b).trans<|n k a b⟩
def yK.later {w w' v f P a}(h:yK w v f P a)(c:X (Z<|J w) w w'):yK w' v f P a:=
 h.move c.size λk _ b=>c.block k<|du b h.1
def ai1 {w l v d}(h:oO w l v d)(P)(t:Z (J w)<=P):∃a c,v=F a (G d) c/\G d<=c/\BJ P w a d:=by obtain⟨r,f⟩:=h;rcases f with⟨rfl,f⟩|⟨g,m,j,rfl,s,e,n,u,x,q⟩;{exact⟨O,0,by rw[f],S,.inl<|gU.1 f⟩};{refine⟨_,m,rfl,n,.inr ⟨g,0,rfl,?_,?_,?_⟩⟩;{have:g<Z (J w):=by{rcases dM g (Z<|J w) with b|b;{exact b};{rw[qI b]at e;cases e}};omega};{rcases dM g (Z<|J w) with b|b;{exact b};{rw[qI b]at e;cases e}};{intro i o;have p:j[i]? =K (U ⟨E<|d.getD i []⟩):=by{have k:(j.toList.take<|G d*1)[i]? =K (bU<|d.getD i []):=by{rw[q];simp[iR,bR o,iZ]};rw[V_ S]at k;simpa[bU]using k};simp[World.cell?,e,p]}}
def wn (w:B)(x:Option Pr.Sem)(e:Ending)(w':B):Prop:=X (Z<|J w) w w'/\match x with
 |none=>e=ae (ak #[.nilFunc,jR])
 |some f=>∃v P,e=ae (ak #[v,.nilIface])/\Z (J w)<=P/\yK w' v f P (Z<|J w')
def aq1 {w}(b:fV w)(o):nG (Z<|J w)<|ah w o:=λW a=>b.below<|((s (Z<|J w) w).alloc (r _) o).trans<|a.below (r _) z
def aje (w)(l:List asq)(a c)(z:fV w)(A:G l<=c)(E:G l<=1000)(d:∀t∈l,G t<=1000)(s:BJ (Z<|J w) w a l):af C 145 #[F a (G l) c] w λn w'=>wn w (wW l) n w':=by obtain⟨S,hS⟩:=hidx<|wW l;rw[hS.o];have q:=(aT (Z<|J w) w).alloc (aO _)<|an #[F a (G l) c] 325;have p:Left (Z<|J w) (ah w<|an #[F a (G l) c] 325) l:=⟨a,c,bx _ _ _,A,⟨E,d⟩,s.ag<|.of q<|aO _⟩;have m:=ajo (Z<|J w) _ l (aq1 z _) p;clear p s d;go_enter func145,ntmps145;go_wp2_with fail;refine m.mono ?_;rintro n R ⟨u,d⟩;clear m;have j:=q.trans<|u.below (aO _) aN;cases b:CR l with|none=>{rw[b]at d;obtain rfl:=d;have e:D<|S=O:=W (by rw[<-hS.o];simp[wW,b]);clear b;unfold jR;go_wp2;go_ret2;refine⟨j,?_⟩;rw[e.o];rfl}|some L=>{obtain⟨f,k⟩:=L;rw[b]at d;obtain⟨v,rfl,r,y⟩:=d;obtain⟨M,c1,I,x,N,P⟩:=y;have H:=I.2.1;cases k with|nil=>{have e:D<|S=K f:=W (by rw[<-hS.o];simp[wW,b]);clear b;obtain⟨g,i,rfl⟩:∃g i,v=.func (.func g) #[] i:=by{obtain⟨g,i,h,_⟩:=r;exact⟨g,i,h⟩};go_wp2;go_ret2;refine⟨j,?_⟩;rw[e.o];exact⟨_,_,rfl,aO _,.of r⟩}|cons t k=>{have e:D<|S=O:=W (by rw[<-hS.o];simp[wW,b]);clear b;simp only[bB]at H x;have Q:(0:Int)<G k+1:=aJ;go_wp2;go_ret2;refine⟨j,?_⟩;rw[e.o];rfl}}
def apK (l w)(c:G l<4294967281)(b:fV w):af C 143 #[U ⟨E l⟩,U ⟨#[64]⟩] w λa w'=>a=ae (ak #[U ⟨(Lib.cut l [64]).1.toArray⟩,U ⟨(Lib.cut l [64]).2.1.toArray⟩,Q (Lib.cut l [64]).2.2])/\X (Z<|J w) w w':=by obtain⟨_,⟨e,d⟩,_⟩:=b;refine(strings_Cut ⟨E l⟩ ⟨#[64]⟩ e w (by rw[GR];exact c) d).mono ?_;rintro a w' ⟨rfl,n,rfl⟩;exact⟨rfl,by first|exact below_drewN (s _ _) n|exact below_drewN w n⟩
def apS (l):(Lib.cut l [64]).1.length<=G l:=by unfold Lib.cut;split;{simp[gT];omega};{exact r _}
def ap8 (w)(l:asq)(ab:G l<1000000)(x:fV w):af C 123 #[U ⟨E l⟩] w λh w'=>wn w (nK l) h w':=by obtain⟨S,hS⟩:=hidx<|nK l;rw[hS.o];by_cases u:200<G l;{have T:(200:Int)<G l:=aJ;have e:D<|S=O:=aK (by rw[<-hS.o,nK,aP u]);go_enter func123,ntmps123;go_wp2;go_ret2;refine⟨aT _ _,?_⟩;rw[e.o];rfl};{have T:¬(200:Int)<G l:=aJ;have r:=apK l w aJ x;have X:=apS l;have j:D<|S=match d8 (Lib.cut l [64]).1 with|none=>O|some k=>wW k:=by{show _=_;rw[<-hS.o,nK,aL u];cases d8 (Lib.cut l [64]).1<;>rfl};clear hS;generalize(Lib.cut l [64]).1=t at*;generalize(Lib.cut l [64]).2.1=t2 at*;generalize(Lib.cut l [64]).2.2=t3 at*;go_enter func123,ntmps123;go_wp2_with fail;refine r.mono ?_;rintro h W ⟨rfl,p⟩;clear r;have s:=agf t aJ W;go_wp2_with fail;refine s.mono ?_;rintro h A ⟨g,d⟩;clear s;replace g:=bh p g;clear p;cases b:d8 t with|none=>{rw[b]at d;obtain rfl:=d;have e:D<|S=O:=aK (by rw[j.o,b]);clear b j;unfold jR;go_wp2;go_ret2;refine⟨g,?_⟩;rw[e.o];rfl}|some k=>{rw[b]at d;obtain⟨v,rfl,y,L,q⟩:=d;have n:D<|S=wW k:=aK (by rw[j.o,b]);clear b j;obtain⟨a,c,rfl,N,z⟩:=ai1 y (Z<|J A)<|aO _;have m:=aje A k a c (x.below g) N L q z;rw[<-n.o]at m;clear y z q n;go_wp2_with fail;refine m.mono ?_;rintro h w9 ⟨i,d⟩;clear m;replace i:=bh g i;cases b:S with|none=>rw[b]at d;obtain rfl:=d;have e:=aK b;clear b;unfold jR;go_wp2;go_ret2;refine⟨i,?_⟩;rw[e.o];rfl|some f=>{rw[b]at d;obtain⟨v,H,rfl,M,P⟩:=d;have e:=aK b;clear b;go_wp2;go_ret2;refine⟨i,?_⟩;rw[e.o];exact⟨_,H,rfl,bY g.size M,P⟩}}}
end
section
open Maps Pr RowKit Tryz
def Gd (w:B)(a:Option Addr)(l:List<|H×H):Prop:=l= []\/∃blk off,a=K ⟨blk,off,O⟩/\blk<Z (J w)/\∀j,j<G l->ac w ⟨blk,off+j*2,O⟩=K (bU (l.getD j ([],[])).1)/\ac w ⟨blk,off+j*2+1,O⟩=K (bU (l.getD j ([],[])).2)
def Gd.keep {w w' a l}(h:Gd w a l)(e:X (Z<|J w) w w'):Gd w' a l:=by rcases h with h|⟨c,off,i,d,f⟩;{exact .inl h};{exact .inr ⟨c,off,i,du d e.size,λb g=>⟨(e.cell (p:=⟨c,off+b*2,O⟩) d).trans (f b g).1,(e.cell (p:=⟨c,off+b*2+1,O⟩) d).trans (f b g).2⟩⟩}
structure tz where
 n:H
 v:N
 f:Pr.Sem
 P:Nat
 E:Nat
def F5 (qs:List tz):List N:=qs.flatMap λq=>[bU q.n,q.v]
def CH (qs:List tz):List<|H×Pr.Sem:=qs.map λq=>(q.n,q.f)
def xU (qs:List tz):List H:=qs.map (·.n)
def vW (w:B)(M:Nat)(g:Option Nat)(qs:List tz):Prop:=∀q∈qs,yK w q.v q.f q.P q.E/\M<=q.P/\∀b,g=K b->b<=q.P\/q.E<=b
def yZ (qs:List tz):DataW Unit:=setOf (.agg [])<|(xU qs).map Lit.string
def wM (x:H):∀d:List H,d.any ((λc:Lit=>c.sameKey<|.string x)∘Lit.string)=am (x∈d)
 | []=>rfl
 |a::f=>by
  rw[Lj,wM x f]
  have:((λc:Lit=>c.sameKey<|.string x)∘Lit.string) a=am (x=a):=by
   show(Lit.string a).sameKey (.string x)=_
   by_cases b:x=a
   ·subst b;simp[Lit.sameKey]
   ·have e:¬a=x:=λh=>b h.symm
    simp[Lit.sameKey,b,e]
  rw[this]
  simp
def wP (a)(x:H):Maps.has (yZ a) (.string x)=am (x∈xU a):=by unfold yZ;rw[has_setOf _ _ _ (λb hy=>by obtain⟨_,_,rfl⟩:=oy.1 hy;trivial),List.any_map];exact wM x _
def agP (a q):yZ (a++[q])=(yZ a).put (.string q.n) (.agg []):=by unfold yZ xU;rw[eC,eC,Li,Li,setOf_snoc]
def aqm (a q):F5 (a++[q])=F5 a++[bU q.n,q.v]:=by simp[F5]
def Ui {w b}(a:X (Z<|J w) w b):w.grownBy b O:=⟨a.os,a.tape,a.output,a.size,λk c _=>a.block k c⟩
def RE {w b a e s v n c}(h:w.ownsRow a e s v n c)(d:X (Z<|J w) w b):b.ownsRow a e s v n c:=by refine wv (row:=O) h (Ui d) ?_;cases e:v.ownBlock with|none=>exact .inl rfl|some _=>{exact .inr z}
def vW.later {w c M g b}(h:vW w M g b)(d:X (Z<|J w) w c):vW c M g b:=λq a=>⟨(h q a).1.later d,(h q a).2⟩
def vW.map {w i M g f}(h:vW w M g f)(e:w.grownBy i<|K M):vW i M g f:=λq c=>
 ⟨(h q c).1.move e.size λk a b=>e.block k (du b (h q c).1.1) (by have:=(h q c).2.1;intro d;injection d with d;omega),(h q c).2⟩
def vW.row {w m M g e l}(h:vW w M g l)(j:w.grownBy m g)(d:e=g\/e=K (Z<|J w)):vW m M e l:=λq o=>by
 obtain⟨f,n,i⟩:=h q o
 refine⟨f.move j.size λk a b=>j.block k (du b f.1) ?_,n,?_⟩
 ·intro c
  rcases i k c.symm with h|h<;>omega
 ·intro b c
  rcases d with d|d
  ·exact i b (by rw[<-d];exact c)
  ·rw[d]at c
   injection c with c
   have:=f.1
   right;omega
def X7 (seen:List H)(n s:H)(r:List<|H×H)(h:n∈seen\/lQ n=V):eR seen ((n,s)::r)=O:=by rw[eR,t h]
def ahF (seen:List H)(n s:H)(r:List<|H×H)(h:nK s=O):eR seen ((n,s)::r)=O:=by rw[eR];split;{rfl};{rw[h]}
def ahG (seen:List H)(n s:H)(r:List<|H×H)(f)(h:¬(n∈seen\/lQ n=V))(a:nK s=K f)(rs:List<|H×Pr.Sem):(eR seen<|(n,s)::r).map (rs++·)=(eR (seen++[n]) r).map (rs++[(n,f)]++·):=by rw[eR,A h,a];cases eR (seen++[n]) r<;>simp
def JX (w:World)(v:N)(rs:List<|H×Pr.Sem):Prop:=∃B M g qs,rs=CH qs/\w.ownsRow B 247 2 v (G qs) (F5 qs)/\vW w M g qs
def J0 (w:B)(x:Option<|List<|H×Pr.Sem)(e:Ending)(w':B):Prop:=X (Z<|J w) w w'/\match x with
 |none=>e=ae (.tuple #[.slice O 0 0,jR])
 |some rs=>∃v,e=ae (.tuple #[v,.nilIface])/\JX w' v rs
def amg:(C.info? 247).map (λi=>(i.zero,i.size,i.bytes))=K (K<|ai #[U ⟨#[]⟩,.nilFunc],2,24):=x
def P9 (w):(zeroValue 188).run C w=.ok (ai #[]) w:=x
def Hc (w y off)(l:List<|asq×asq)(c)(hl:G l<=100000)(aX:∀q∈l,G q.1<1000000/\G q.2<1000000)(hB:fV w)(aF:y<Z (J w))(aG:∀d,d<G l->ac w ⟨y,off+d*2,O⟩=K (bU (l.getD d ([],[])).1)/\ac w ⟨y,off+d*2+1,O⟩=K (bU (l.getD d ([],[])).2)):af C 87 #[.slice (K ⟨y,off,O⟩) (G l) c] w λP w'=>J0 w (eR [] l) P w':=by have aI:=@Eu C;obtain⟨i0,bZ,a0,a1,cC⟩:=eH amg;have HI:D<|C.info? 247=K i0/\i0.zero=K (ai #[U ⟨#[]⟩,.nilFunc])/\i0.size=2/\i0.bytes=24:=⟨bZ,a0,a1,cC⟩;have HS:=aK aX;have HC:=aK aG;clear bZ a0 a1 cC aX aG;obtain⟨S,hS⟩:=hidx<|eR [] l;rw[hS.o];have av:=KY underlying9;go_enter func87,ntmps87;go_wp2_with fail;go_loopw[4,15] (λv i wr=>∃(k:Nat) (e:List tz),k<=G l/\i=.int R k/\G e=k/\wr.ownsMap C 9 unitElem (Z<|J w) k (yZ e)/\wr.ownsRow (Z (J w)+1) 247 2 v k (F5 e)/\X (Z<|J w) w wr/\Z (J w)+1<=Z (J wr)/\vW wr (Z<|J w) v.ownBlock e/\D (S=(eR (xU e)<|l.drop k).map (CH e++·))) (λ_ i _=>G l-(intOf i).toNat);(case atStart=>exact⟨0,[],dF _,rfl,rfl,G7 _ _ _ _,fQ _ _ _ _,(aT _ _).alloc (aO _) _,aN,λq z=>(by cases z),by show _=_;rw[<-hS.o];simp[CH,xU]⟩);(case round=>obtain⟨k,e,hk,rfl,Tb,ad,au,hb,a8,ay,T⟩:=hrel;by_cases ar:k<G l;{obtain⟨n,hn⟩:∃n,(l.getD k ([],[])).1=n:=⟨_,rfl⟩;obtain⟨s,A⟩:∃s,(l.getD k ([],[])).2=s:=⟨_,rfl⟩;have ax:l.getD k ([],[])=(n,s):=by{rw[<-hn,<-A]};have aH:(n,s)∈l:=by{rw[<-ax,iZ,bR ar];exact ox _};have mM:l.drop k=(n,s)::l.drop (k+1):=by{rw[dG ar];congr 1;rw[<-ax,iZ,bR ar];rfl};obtain⟨qR,a6⟩:=HS.o _ aH;simp only at qR a6;obtain⟨c1,c2⟩:=HC.o k ar;rw[hn]at c1;rw[A]at c2;have d1:ac wr ⟨y,off+k*2,O⟩=K (U ⟨E n⟩):=(hb.cell (p:=⟨y,off+k*2,O⟩) aF).trans c1;have d2:ac wr ⟨y,off+k*2+1,O⟩=K (U ⟨E s⟩):=(hb.cell (p:=⟨y,off+k*2+1,O⟩) aF).trans c2;have aq:keyOf C 9 (U ⟨E n⟩)=K (.string n):=Ps underlying9 (by show n.toArray.size<=maxLen;unfold maxLen;simp;omega);have a5:(k:Int)<G l:=aJ;have HD:=aK mM;clear c1 c2 hn A ax aH HC HS mM aI;have aS:X (Z<|J w) w<|(ah wr<|an #[U ⟨E n⟩,U ⟨E s⟩] 132).alloc<|an #[] 188:=(hb.alloc hb.size _).alloc aV _;by_cases ab:n∈xU e;{have a3:Maps.has (yZ e) (.string n)=Y:=by{rw[wP];exact jF ab};have u:D<|S=O:=by{show _=_;rw[T.o,HD.o,X7 _ _ _ _<|.inl ab];rfl};clear ab;go_wp2_with(at_lookup;refine Co _ rfl _ _ 240 rfl 9 188 av underlying240 (P9 _) (Z<|J w) k _ rfl (ad.alloc _) _ _ rfl aq ?_);go_ret2;refine⟨aS,?_⟩;rw[u.o];rfl};{have a3:Maps.has (yZ e) (.string n)=V:=by{rw[wP];exact jq ab};have cm:=λW=>LT n W;cases gP:lQ n with|false=>{have u:D<|S=O:=by{show _=_;rw[T.o,HD.o,X7 _ _ _ _<|.inr gP];rfl};simp only[gP]at cm;clear ab gP;go_wp2_with(at_lookup;refine Co _ rfl _ _ 240 rfl 9 188 av underlying240 (P9 _) (Z<|J w) k _ rfl (ad.alloc _) _ _ rfl aq ?_);refine(cm _).mono ?_;rintro P w1 ⟨rfl,N⟩;have eE:=bh aS N;clear N aS;go_wp2;go_ret2;refine⟨eE,?_⟩;rw[u.o];rfl}|true=>{simp only[gP]at cm;have a2:D<|¬(n∈xU e\/lQ n=V):=by{rintro(h|h);{exact ab h};{rw[gP]at h;cases h}};clear ab gP;go_wp2_with(at_lookup;refine Co _ rfl _ _ 240 rfl 9 188 av underlying240 (P9 _) (Z<|J w) k _ rfl (ad.alloc _) _ _ rfl aq ?_);refine(cm _).mono ?_;rintro P w1 ⟨rfl,N⟩;have s1:=N.size;simp only[ep]at s1;have zC:=(((aT (Z<|J wr) wr).alloc (aO _)<|an #[U ⟨E n⟩,U ⟨E s⟩] 132).alloc aN<|an #[] 188).trans<|N.mono aV;have aE:=ad.kept (Ui zC) aN;have wG:=RE au zC;have aC:=ay.later zC;have q1:=(((bx wr #[U ⟨E n⟩,U ⟨E s⟩] 132).alloc<|an #[] 188).keep N).2.1;have az:=bh hb zC;have ao:=au.lt;clear N zC cm au ay ad aS;go_wp2_with(at_mapUpdate;refine G5 _ rfl _ _ _ 240 rfl 9 188 av underlying240 (unitElem (H:=Unit)) (Z<|J w) k _ rfl aE (by unfold maxLen;omega) _ _ _ rfl rfl aq _ [] unitElem_mk ?_;intro w3 vJ dK;have q3:∀d,ac w3 ⟨Z<|J wr,d,O⟩=#[U ⟨E n⟩,U ⟨E s⟩][d]? :=λd=>(jo<|dK.block (Z<|J wr) aJ (by intro P;injection P with P;omega)).trans<|q1 d);have s3:=dK.size;have aU:=az.grown dK aJ (λd m=>by cases m;exact aO _);have IZ:=wG.kept dK (.inr λt=>by have:=(ao _ t).1;omega);have aB:=aC.map dK;have cc:=ap8 w3 s aJ<|hB.below aU;clear wG aC az aE dK q1;refine cc.mono ?_;rintro P x ⟨r,A⟩;clear cc;have q4:∀d,ac x ⟨Z<|J wr,d,O⟩=#[U ⟨E n⟩,U ⟨E s⟩][d]? :=λd=>(r.cell (p:=⟨Z<|J wr,d,O⟩) (by show Z (J wr)<Z (J w3);omega)).trans<|q3 d;have Fg:=RE IZ r;have aA:=aB.later r;have aD:=vJ.kept (Ui r) aN;have s4:=r.size;replace r:=bh aU r;clear q3 aU IZ aB vJ;cases hv:nK s with|none=>{rw[hv]at A;obtain rfl:=A;have u:D<|S=O:=by{show _=_;rw[T.o,HD.o,ahF _ _ _ _ hv];rfl};clear hv;unfold jR;go_wp2;go_ret2;refine⟨r,?_⟩;rw[u.o];rfl}|some f=>{rw[hv]at A;obtain⟨v4,M,rfl,hP,aw⟩:=A;have u:D (S=(eR (xU e++[n])<|l.drop<|k+1).map (CH e++[(n,f)]++·)):=by{show _=_;rw[T.o,HD.o,ahG _ _ _ _ f a2.o hv]};clear hv T;obtain⟨g,j,rfl⟩:∃g j,v4=.func (.func g) #[] j:=by{obtain⟨_,g,j,h,_⟩:=aw;exact⟨g,j,h⟩};go_wp2_with(at_builtin;refine ic _ rfl _ _ 106 rfl (Z (J w)+1) 247 i0 (ai #[U ⟨#[]⟩,.nilFunc]) 2 24 underlying106 HI.o.1 HI.o.2.1 HI.o.2.2.1 HI.o.2.2.2 rfl aM _ _ _ rfl (Fg.alloc _) ⟨Z<|J x,0,O⟩ 1 1 [bU n,.func (.func g) #[] j] rfl rfl ?c1 ?c2 ?c3 ?c4 ?c5 ?_);(case c1=>intro d a7 m;match d,m with|0,m=>simp at m;subst m;simp[Addr.add,bU]|1,m=>{simp at m;subst m;simp[Addr.add]});(case c2=>intro a7 hu;simp at hu;rcases hu with rfl|rfl<;>rfl);(case c3=>unfold maxLen;omega);(case c4=>omega);(case c5=>simp;omega);{intro v' w6 aR L _ fS;have s6:=L.size;simp only[ep]at s6;have hA:=(aT (Z<|J x) x).alloc (aO _)<|an #[U ⟨E n⟩,.func (.func g) #[] j] 247;have g1:=(aD.alloc<|an #[U ⟨E n⟩,.func (.func g) #[] j] 247).kept L (λt=>by have:=(ao _ t.symm).1;omega);have g2:=(r.alloc r.size _).grown L aV (λd m=>by have:=(ao d m).1;omega);have g3:vW w6 (Z<|J w) v'.ownBlock<|e++[⟨n,.func (.func g) #[] j,f,M,Z<|J x⟩]:=by{intro q z;rcases dU.1 z with z|z;{exact(aA.later hA).row L (by simpa using fS) q z};{rw[eG]at z;subst z;refine⟨(aw.later hA).move L.size λk a b=>L.block k aV (λt=>by have:=(ao _ t.symm).2;omega),by show Z (J w)<=M;omega,λb t=>?_⟩;rcases fS with fS|fS;{left;have:=(ao b<|fS.symm.trans t).2;show b<=M;omega};{right;rw[fS]at t;injection t with t;show Z (J x)<=b;omega}}};have g4:w6.ownsRow (Z (J w)+1) 247 2 v' (k+1)<|F5<|e++[⟨n,.func (.func g) #[] j,f,M,Z<|J x⟩]:=by{rw[aqm];exact aR};have g5:w6.ownsMap C 9 unitElem (Z<|J w) (k+1)<|yZ<|e++[⟨n,.func (.func g) #[] j,f,M,Z<|J x⟩]:=by{rw[agP];exact g1};have g6:D (S=(eR (xU<|e++[⟨n,.func (.func g) #[] j,f,M,Z<|J x⟩])<|l.drop<|k+1).map (CH (e++[⟨n,.func (.func g) #[] j,f,M,Z<|J x⟩])++·)):=by{show _=_;rw[u.o];simp[xU,CH]};clear aR L aA aw aD Fg g1 u q4;go_wp2;go_roundw;(case rel=>exact⟨k+1,_,aJ,bo,by simp[Tb],g5,g4,g2,aJ,g3,g6⟩);(case measure=>simp[intOf];omega)}}}}};{have a4:k=G l:=aJ;have a5:¬(k:Int)<G l:=aJ;have u:D<|S=K (CH e):=by{show _=_;rw[T.o,a4,GQ];simp[eR]};clear T aI;go_wp2;go_ret2;refine⟨hb,?_⟩;rw[u.o];subst Tb;exact⟨_,rfl,_,_,_,e,rfl,au,ay⟩})
def GT (w a c):af C 87 #[F a 0 c] w λb w'=>J0 w (eR [] []) b w':=by have e:=@Eu C;go_enter func87,ntmps87;go_wp2_with fail;refine ww 1 ?_;rw[u_];go_wp2;go_ret2;exact⟨(s _ _).alloc (r _) _,_,rfl,0,0,O,[],rfl,fQ _ _ _ _,λq d=>(by cases d)⟩
def Zh (w a l c)(i:G l<=100000)(j:∀q∈l,G q.1<1000000/\G q.2<1000000)(g:fV w)(h:Gd w a l):af C 87 #[F a (G l) c] w λd w'=>J0 w (eR [] l) d w':=by rcases h with rfl|⟨b,off,rfl,e,f⟩;{exact GT w a c};{exact Hc w b off l c i j g e f}
end
section
open RowKit
def other:H:=[111,116,104,101,114]
structure sB (w:B)(a:Option Addr)(l:List<|H×H):Prop where
 len:G l<=100000
 small:∀q∈l,G q.1<1000000/\G q.2<1000000
 at_:Gd w a l
def sB.keep {w w' a l}(h:sB w a l)(b:X (Z<|J w) w w'):sB w' a l:=⟨h.len,h.small,h.at_.keep b⟩
def ph (w:B)(v:N)(l:List H):Prop:=(∃a c,v=F a 0 c/\l= [])\/∃blk off c,v=F (K ⟨blk,off,O⟩) (G l) c/\G l<=c/\blk<Z (J w)/\∀j,j<G l->ac w ⟨blk,off+j,O⟩=K (bU<|l.getD j [])
def ph.keep {w w' v l}(h:ph w v l)(d:X (Z<|J w) w w'):ph w' v l:=by rcases h with h|⟨a,off,c,f,g,b,i⟩;{exact .inl h};{exact .inr ⟨a,off,c,f,g,du b d.size,λe j=>(d.cell (p:=⟨a,off+e,O⟩) b).trans<|i e j⟩}
end
section
open Pn RowKit Tryz
def Aa (p)(s:ByteArray)(k)(h:k<s.size):(s.data.toList.take<|k+1).all p=((s.data.toList.take k).all p&&p s[k]):=by rw[K7 (by simpa using h),List.all_append];simp;rfl
def all_false (p)(s:ByteArray)(k)(h:k<s.size)(a:p s[k]=V):s.data.toList.all p=V:=by rw[List.all_eq_false];refine⟨s[k],?_,by simp[a]⟩;have:s[k]=s.data.toList[k]'(by simpa using h):=rfl;rw[this];exact ox _
def rb {a b}(h:a=b):Ending.returned (Q a)=ae (Q b):=by rw[h]
def Y9 (s w)(m:s.size<=1000000):af C 51 #[U s] w λb w'=>b=ae (Q<|gJ s.data.toList)/\w'=w:=by go_enter func51,ntmps51;go_wp2;go_loop[3] (λt=>∃k:Nat,k<=s.size/\t=I R k/\D ((s.data.toList.take k).all bu=Y)) (λt=>s.size-(intOf t).toNat);(case atStart=>exact⟨0,dF _,rfl,by show _=_;simp⟩);(case round=>obtain⟨k,l,rfl,e⟩:=hrel;by_cases d:k<s.size;{by_cases hd:48<=s[k].toNat/\s[k].toNat<=57;{have i:D<|(s.data.toList.take<|k+1).all bu=Y:=by{show _=_;rw[Aa _ s k d,e.o,(gF _).2 hd];rfl};obtain⟨f,g⟩:=hd;have j:¬(s[k].toNat:Int)<48:=S;have p:¬(57:Int)<s[k].toNat:=S;go_wp2;go_round;(case rel=>exact⟨k+1,d,bo,i⟩);(case measure=>simp[intOf];omega)};{have a:D<|gJ s.data.toList=V:=by{show _=_;have:bu s[k]=V:=by{cases b:bu s[k]with|false=>rfl|true=>{exact absurd ((gF _).1 b) hd}};rw[gJ,all_false _ s k d this,Bool.and_false]};by_cases f:(s[k].toNat:Int)<48;{clear hd;go_wp2;go_ret;exact⟨rb a.o.symm,rfl⟩};{have g:(57:Int)<s[k].toNat:=S;clear hd;go_wp2;go_ret;exact⟨rb a.o.symm,rfl⟩}}};{have a:D<|gJ s.data.toList=am ((0:Int)<s.size):=by{show _=_;have h:=e.o;rw[jY q]at h;rw[gJ,h,Au,dJ];cases s.data.toList with|nil=>rfl|cons c n=>{simp}};go_wp2;(all_goals go_ret);all_goals exact⟨rb (by rw[a.o];simp),rfl⟩})
def Mq (s w)(j:s.size<=1000000):af C 52 #[U s] w λb w'=>b=ae (Q<|dW s.data.toList)/\w'=w:=by go_enter func52,ntmps52;go_wp2;go_loop[3] (λt=>∃k:Nat,k<=s.size/\t=I R k/\D ((s.data.toList.take k).all (·==48)=Y)) (λt=>s.size-(intOf t).toNat);(case atStart=>exact⟨0,dF _,rfl,by show _=_;simp⟩);(case round=>obtain⟨k,i,rfl,d⟩:=hrel;by_cases c:k<s.size;{by_cases hd:s[k].toNat=48;{have e:s[k]=48:=iY.1 hd;have g:D ((s.data.toList.take<|k+1).all (·==48)=Y):=by{show _=_;rw[Aa _ s k c,d.o,e];rfl};have f:((s[k].toNat:Int) !=48)=V:=q;clear hd e;go_wp2;go_round;(case rel=>exact⟨k+1,c,bo,g⟩);(case measure=>simp[intOf];omega)};{have a:D<|dW s.data.toList=V:=by{show _=_;refine all_false _ s k c ?_;rw[aZ];intro b;exact hd (by rw[b];rfl)};have f:((s[k].toNat:Int) !=48)=Y:=q;clear hd;go_wp2;go_ret;exact⟨rb a.o.symm,rfl⟩}};{have a:D<|dW s.data.toList=Y:=by{show _=_;have h:=d.o;rw[jY q]at h;exact h};go_wp2;(all_goals go_ret);all_goals exact⟨rb a.o.symm,rfl⟩})
def apO (l k)(f:k<G l)(d:∀a (b:a<G l),a<k->l[a]≠46)(e:l[k]=46):Lib.cut l [46]=(l.take k,l.drop<|k+1,Y):=by have hi:Lib.index l [46]=k:=by{refine PE S ?_ ?_;{rw[Lib.occAt,dG f,e];simp[List.isPrefixOf]};{intro a b;rw[Lib.occAt,dG S];have:=d a S b;simp only[List.isPrefixOf,Au,g];exactλc=>this c.symm}};unfold Lib.cut;rw[hi,t S];simp
def apM (l)(c:∀a (d:a<G l),l[a]≠46):Lib.cut l [46]=(l,[],V):=by have hi:Lib.index l [46]= -1:=by{refine PD ?_;intro a d;rw[Lib.occAt];rcases dM a (G l) with h|h;{rw[dG h];have:=c a h;simp only[List.isPrefixOf,Au,g];exactλb=>this b.symm};{rw[jm h];rfl}};unfold Lib.cut;rw[hi,A S]
def Yn {l a b s t p q}(h:Lib.cut l [46]=(a,b,p))(d:s=⟨E a⟩)(e:t=⟨E b⟩)(c:q=p):Ending.returned (ak #[U s,U t,Q q])=ae (ak #[U ⟨(Lib.cut l [46]).1.toArray⟩,U ⟨(Lib.cut l [46]).2.1.toArray⟩,Q (Lib.cut l [46]).2.2]):=by rw[h,d,e,c]
def Yq (s w)(q:s.size<=1000000):af C 50 #[U s,I .u8 46] w λg w'=>g=ae (ak #[U ⟨(Lib.cut s.data.toList [46]).1.toArray⟩,U ⟨(Lib.cut s.data.toList [46]).2.1.toArray⟩,Q (Lib.cut s.data.toList [46]).2.2])/\X (Z<|J w) w w':=by go_enter func50,ntmps50;go_wp2;go_loop[7] (λt=>∃k:Nat,k<=s.size/\t=I R k/\D (∀a (b:a<G s.data.toList),a<k->s.data.toList[a]≠46)) (λt=>s.size-(intOf t).toNat);(case atStart=>exact⟨0,dF _,rfl,λa _ h=>S⟩);(case round=>obtain⟨k,p,rfl,e⟩:=hrel;by_cases j:k<s.size;{have l:k<G s.data.toList:=by{rw[<-dJ];exact j};have c:s.data.toList[k]=s[k]:=rfl;by_cases d:s[k].toNat=46;{have n:((s[k].toNat:Int)==46)=Y:=aV;have f:=W (apO _ k l e.o (by rw[c];exact iY.1 d));clear d c;go_wp2;go_quiet(fail);go_wp2;go_ret3;exact⟨Yn f.o (by rw[Pk]) (by rw[GP]) rfl,cH _ _⟩};{have n:((s[k].toNat:Int)==46)=V:=aV;have m:D (∀a (b:a<G s.data.toList),a<k+1->s.data.toList[a]≠46):=by{intro a b h;by_cases g:a=k;{subst g;intro i;rw[c]at i;exact d (by rw[i];rfl)};{exact e.o a b S}};clear d c;go_wp2;go_round;(case rel=>exact⟨k+1,j,bo,m⟩);(case measure=>simp[intOf];omega)}};{have f:=W (apM _<|λa b=>e.o a b (by rw[<-dJ]at b;omega));go_wp2;go_ret3;exact⟨Yn f.o (by rw[Pj]) rfl rfl,aT _ _⟩})
def t_ (r w):af C 71 #[I ap r] w λb w'=>b=ae (Q<|Lib.validRune r)/\w'=w:=by by_cases c:0<=r;{by_cases d:r<=1114111;{by_cases e:r<55296;{have a:D<|Y=Lib.validRune r:=W (by symm;simp[Lib.validRune];omega);go_enter func71,ntmps71;go_wp2;go_ret;exact⟨rb a.o,rfl⟩};{by_cases f:57343<r;{have a:D<|Y=Lib.validRune r:=W (by symm;simp[Lib.validRune];omega);go_enter func71,ntmps71;go_wp2;go_ret;exact⟨rb a.o,rfl⟩};{have a:D<|V=Lib.validRune r:=W (by symm;simp[Lib.validRune];omega);go_enter func71,ntmps71;go_wp2;go_ret;exact⟨rb a.o,rfl⟩}}};{have a:D<|V=Lib.validRune r:=W (by symm;simp[Lib.validRune];omega);go_enter func71,ntmps71;go_wp2;go_ret;exact⟨rb a.o,rfl⟩}};{have a:D<|V=Lib.validRune r:=W (by symm;simp[Lib.validRune];omega);go_enter func71,ntmps71;go_wp2;go_ret;exact⟨rb a.o,rfl⟩}
end
section
open Pn Pr RowKit Tryz
def de (c:UInt8):Nat:=if ge c then 1 else if bu c then 2 else if c=32 then 3 else 0
def SA (c):ge c=Y↔97<=c.toNat/\c.toNat<=122:=by simp[ge]
def MM (c w):af C 108 #[I .u8 c.toNat] w λd w'=>d=ae (I R<|de c)/\w'=w:=by obtain⟨i,g⟩:=hidx<|de c;rw[g.o];have t:=Cm c;by_cases e:ge c=Y;{have d:D<|i=1:=W (by rw[<-g.o,de,aP e]);obtain⟨a,b⟩:=(SA c).1 e;have a':(97:Int)<=c.toNat:=S;have p:(c.toNat:Int)<=122:=S;go_enter func108,ntmps108;go_wp2;go_ret;exact⟨by rw[d.o];rfl,rfl⟩};{by_cases f:bu c=Y;{have d:D<|i=2:=W (by rw[<-g.o,de,A e,aP f]);obtain⟨a,b⟩:=(gF c).1 f;have m:¬(97:Int)<=c.toNat:=S;have a':(48:Int)<=c.toNat:=S;have p:(c.toNat:Int)<=57:=S;clear e;go_enter func108,ntmps108;go_wp2;go_ret;exact⟨by rw[d.o];rfl,rfl⟩};{have k:¬(97<=c.toNat/\c.toNat<=122):=λh=>e<|(SA c).2 h;have l:¬(48<=c.toNat/\c.toNat<=57):=λh=>f<|(gF c).2 h;by_cases j:c.toNat=32;{have d:D<|i=3:=by{show _=_;rw[<-g.o,de,A e,A f,aP<|iY.1 j]};have m:¬(97:Int)<=c.toNat:=S;have s:¬(48:Int)<=c.toNat:=S;have n:((c.toNat:Int)==32)=Y:=by{rw[ef];omega};clear e f j k l;go_enter func108,ntmps108;go_wp2;go_ret;exact⟨by rw[d.o];rfl,rfl⟩};{have d:D<|i=0:=by{show _=_;rw[<-g.o,de,A e,A f,A<|λh=>j (by rw[h];rfl)]};have n:((c.toNat:Int)==32)=V:=eQ;clear e f j;by_cases u:(97:Int)<=c.toNat;{have v:¬(c.toNat:Int)<=122:=S;have q:(48:Int)<=c.toNat:=S;have r:¬(c.toNat:Int)<=57:=S;clear k l;go_enter func108,ntmps108;go_wp2;go_ret;exact⟨by rw[d.o];rfl,rfl⟩};{by_cases q:(48:Int)<=c.toNat;{have r:¬(c.toNat:Int)<=57:=S;clear k l;go_enter func108,ntmps108;go_wp2;go_ret;exact⟨by rw[d.o];rfl,rfl⟩};{clear k l;go_enter func108,ntmps108;go_wp2;go_ret;exact⟨by rw[d.o];rfl,rfl⟩}}}}}
def aoB (t:H):(fy t).isSome=(gJ t&&(am (G t<=9)&&(am (G t=1)||t.head? !=K 48))):=by unfold fy;split;{rename_i h;obtain⟨c,b,a⟩:=h;rw[c,jF b];rcases a with a|a;{simp[a]};{simp[a]}};{rename_i h;cases c:gJ t with|false=>rfl|true=>{by_cases b:G t<=9;{by_cases a:G t=1;{exact absurd ⟨c,b,.inl a⟩ h};{have e:t.head?=K 48:=by{cases d:am (t.head?=K 48)with|true=>exact xD d|false=>{exact absurd ⟨c,b,.inr<|Eo d⟩ h}};simp[b,a,e]}};{simp[b]}}}
def N2 (t:H)(n:G t<=1000)(w):af C 110 #[U ⟨E t⟩] w λd w'=>d=ae (ak #[U ⟨E t⟩,Q (fy t).isSome])/\X (Z<|J w) w w':=by have b:=λW=>Y9 ⟨E t⟩ W (by show t.toArray.size<=_;simp;omega);simp only[]at b;rw[aoB];cases hd:gJ t with|false=>rw[hd]at b;go_enter func110,ntmps110;go_wp2_with(go_at_call 51;refine(b _).mono ?_;rintro d j ⟨rfl,rfl⟩);go_quiet(fail);go_wp2;go_ret2;exact⟨rfl,cH _ _⟩|true=>{rw[hd]at b;cases t with|nil=>cases hd|cons c a=>{obtain⟨g,e⟩:=hidx<|(Y&&(am (G (c::a)<=9)&&(am (G (c::a)=1)||(c::a).head? !=K 48)));rw[e.o];simp only[bB]at n e;by_cases m:(G a:Int)+1<=9;{by_cases f:G a=0;{have hF:D<|g=Y:=aK (by rw[<-e.o];simp[f]);have l:((G a:Int)+1==1)=Y:=by{rw[ef];omega};clear f;go_enter func110,ntmps110;go_wp2_with(go_at_call 51;refine(b _).mono ?_;rintro d j ⟨rfl,rfl⟩);go_quiet(fail);go_wp2;go_ret2;exact⟨by rw[hF.o];rfl,cH _ _⟩};{have hF:D<|g= !((c.toNat:Int)==48):=by{show _=_;rw[<-e.o];have k:G a+1<=9:=S;by_cases i:c=48;{simp[f,k,i]};{have:((c.toNat:Int)==48)=V:=by{rw[aZ];intro d;exact i<|iY.1 (by show c.toNat=48;omega)};simp[k,i,this]}};have l:((G a:Int)+1==1)=V:=eQ;have q:∀h,((⟨E<|c::a⟩:ByteArray)[0]'h).toNat=c.toNat:=λh=>rfl;clear f;go_enter func110,ntmps110;go_wp2_with(go_at_call 51;refine(b _).mono ?_;rintro d j ⟨rfl,rfl⟩);go_quiet(fail);go_wp2;go_ret2;exact⟨by rw[hF.o];rfl,cH _ _⟩}};{have hF:D<|g=V:=by{show _=_;rw[<-e.o];have:¬G a+1<=9:=S;simp[this]};have p:=jq m;have r:¬(G a:Int)<=8:=S;go_enter func110,ntmps110;go_wp2_with(go_at_call 51;refine(b _).mono ?_;rintro d j ⟨rfl,rfl⟩);go_quiet(fail);go_wp2;go_ret2;exact⟨by rw[hF.o];rfl,cH _ _⟩}}}
end
section
open Pn RowKit Tryz
def QT (t:asq)(hd:∀c∈t,bu c=Y)(h:G t<=9)(w):af C 84 #[U ⟨E t⟩] w λu w'=>u=ae (I R<|Pr.val t)/\w'=w:=by obtain⟨s,e⟩:∃s:ByteArray,s=⟨E t⟩:=⟨_,rfl⟩;have b:s.data.toList=t:=by{rw[e]};rw[<-e];have f:D (∀c∈s.data.toList,bu c=Y):=by{rw[b];exact hd};have p:D<|Pr.val s.data.toList=Pr.val t:=W (by rw[b]);have O:s.size<=9:=by{rw[dJ,b];exact h};generalize Pr.val t=r at*;clear b e hd h;go_enter func84,ntmps84;go_wp2;go_loop[3,4] (λv i=>∃k:Nat,k<=s.size/\i=I R k/\∃x:Nat,v=I R x/\D (x=Pr.val (s.data.toList.take k))/\x<1000000000) (λ_ i=>s.size-(intOf i).toNat);(case atStart=>exact⟨0,dF _,rfl,0,rfl,by show _=_;simp[Pr.val],aJ⟩);(case round=>obtain⟨k,M,rfl,x,rfl,a,Q⟩:=hrel;by_cases d:k<s.size;{have g:bu s[k]=Y:=f.o _ (by{have:s[k]=s.data.toList[k]'(by simpa using d):=rfl;rw[this];exact ox _});have l:=Qi s k d;have z:=xI (s.data.toList.take<|k+1)<|λc y=>f.o c<|Lg y;have j:G (s.data.toList.take<|k+1)<=9:=by{rw[gT,<-dJ];omega};have A:10^G (s.data.toList.take<|k+1)<=10^9:=tQ aJ j;obtain⟨K,L⟩:=(gF _).1 g;have H:(k:Int)<s.size:=aJ;have m:D<|10*x+(s[k].toNat-48)=Pr.val (s.data.toList.take<|k+1):=W (by rw[l,a.o]);have F:10*x+(s[k].toNat-48)<1000000000:=by{rw[m.o];omega};generalize N:s[k].toNat=q at*;have P:IntKind.u8.wrap ((q:Int)-48)=(q:Int)-48:=by{rw[GO];omega};have J:IntKind.i64.wrap (10*(x:Int))=10*(x:Int):=bQ;have S:IntKind.i64.wrap (10*(x:Int)+((q:Int)-48))=10*(x:Int)+((q:Int)-48):=bQ;clear l z j A g a;go_wp2;go_round;(case rel=>exact⟨k+1,d,bo,10*x+(q-48),by congr 1;omega,m,F⟩);(case measure=>simp[intOf];omega)};{have H:¬(k:Int)<s.size:=aJ;have n:D<|x=r:=by{show _=_;rw[a.o,jY (by rw[<-dJ];omega),p.o]};clear a;go_wp2;go_ret;exact⟨by rw[n.o];rfl,rfl⟩})
def Uy (k)(h:k<10):(⟨#[48,49,50,51,52,53,54,55,56,57]⟩:ByteArray).extract k (k+1)=⟨#[UInt8.ofNat<|48+k]⟩:=by match k,h with|0,_=>decide|1,_=>decide|2,_=>decide|3,_=>decide|4,_=>decide|5,_=>decide|6,_=>decide|7,_=>decide|8,_=>decide|9,_=>{decide}
def JA:∀(v:Nat) (w:B),v<=1000000000->af C 53 #[I R v] w λa w'=>a=ae (U ⟨E<|Lib.decDigits v⟩)/\X (Z<|J w) w w':=by intro v;induction v using Nat.strongRecOn with|_ v c=>{intro w l;have f:((v:Int).tmod 10)=((v%10:Nat):Int):=rfl;have g:=Uy (v%10) S;by_cases h:v<10;{have e:(v:Int)<10:=S;have b:D<|Lib.decDigits v= [UInt8.ofNat<|48+v]:=aK (by rw[Lib.decDigits,dif_pos h]);rw[Cg h]at f g;clear c;go_enter func53,ntmps53;go_wp2;go_ret;exact⟨by rw[b.o];simp[KQ],s _ _⟩};{have e:¬(v:Int)<10:=S;have b:D<|Lib.decDigits v=Lib.decDigits (v/10)++[UInt8.ofNat<|48+v%10]:=aK (by rw[Lib.decDigits,dif_neg h]);have j:(v:Int).tdiv 10=((v/10:Nat):Int):=rfl;have c1:∀W,af C 53 #[I R<|(v:Int)/10] W λa w'=>a=ae (U ⟨E<|Lib.decDigits<|v/10⟩)/\X (Z<|J W) W w':=λW=>by{have:=c (v/10) S W S;rw[show((v/10:Nat):Int)=(v:Int)/10 from rfl]at this;exact this};clear c;go_enter func53,ntmps53;go_wp2_with fail;refine(c1 _).mono ?_;rintro a m ⟨rfl,d⟩;have i:(⟨E<|Lib.decDigits<|v/10⟩:ByteArray)++⟨#[48+UInt8.ofNat (v%10)]⟩=⟨E<|Lib.decDigits v⟩:=by{rw[b.o];apply mY;simp[Ph,KQ]};have k:=(F0 (v/10) S).2;clear c1 b;go_wp2;go_ret;exact⟨rfl,d⟩}}
def jc (t:H):H:=if t.dropWhile (·==48)= []then[48]else t.dropWhile (·==48)
def aiJ (r:H):jc (48::r)=jc r:=by unfold jc;rw[GS<|by rfl]
def aiK (c):jc [c]= [c]:=by unfold jc;by_cases h:c=48;{subst h;rfl};{rw[En<|by simpa using h];simp}
def aiI (c)(r:H)(h:c≠48):jc (c::r)=c::r:=by unfold jc;rw[En<|by simpa using h];simp
def Rr (t:H)(m:G t<=1000)(w):af C 56 #[U ⟨E t⟩] w λi w'=>i=ae (U ⟨E<|jc t⟩)/\w'=w:=by obtain⟨g,j⟩:=hidx<|jc t;rw[j.o];go_enter func56,ntmps56;go_wp2;go_loop[0] (λx=>∃e:H,x=U ⟨E e⟩/\G e<=1000/\D (jc e=g)) (λx=>match x with|U s=>s.size|_=>0);(case atStart=>exact⟨t,rfl,m,j⟩);(case round=>obtain⟨e,rfl,hu,b⟩:=hrel;cases e with|nil=>{have hF:D<|g= [48]:=b.o.symm;go_wp2;go_ret;exact⟨by rw[hF.o];rfl,rfl⟩}|cons c a=>{simp only[bB]at hu;have p:∀h,((⟨E<|c::a⟩:ByteArray)[0]'h).toNat=c.toNat:=λh=>rfl;have hd:=vS (c::a) 1;simp only[bB,xA,uW]at hd;by_cases f:G a=0;{have k:¬(1:Int)<G a+1:=S;have l:=gU.1 f;subst l;have hF:=W<|b.o.symm.trans<|aiK c;clear f b;go_wp2;go_ret;exact⟨by rw[hF.o];rfl,rfl⟩};{have k:(1:Int)<G a+1:=S;by_cases d:c=48;{have n:((c.toNat:Int)==48)=Y:=by{rw[d];rfl};have hF:D<|jc a=g:=by{show _=_;rw[<-b.o,d,aiJ a]};clear f b d;go_wp2;go_round;(case rel=>exact⟨a,rfl,S,hF⟩);(case measure=>show a.toArray.size<(c::a).toArray.size;simp)};{have n:((c.toNat:Int)==48)=V:=by{rw[aZ];intro i;exact d<|iY.1 (by show c.toNat=48;omega)};have hF:=W<|b.o.symm.trans<|aiI c a d;clear f b d;go_wp2;go_ret;exact⟨by rw[hF.o];rfl,rfl⟩}}})
def sH (a:H):Prop:=(∀c∈a,bu c=Y)/\G a<=60
def ez.long {a}(h:ez a):sH a:=⟨h.1,by have:=h.2;omega⟩
def akZ (t)(m:Nat)(hd:sH t)(P:1<=m)(ab:m<=1000000000)(w):af C 111 #[U ⟨E t⟩,I R m] w λK w'=>K=ae (I R (Pr.val t%m:Nat))/\w'=w:=by obtain⟨s,j⟩:∃s:ByteArray,s=⟨E t⟩:=⟨_,rfl⟩;have d:s.data.toList=t:=by{rw[j]};rw[<-j];have z:D (∀c∈s.data.toList,bu c=Y):=by{rw[d];exact hd.1};have A:D<|Pr.val s.data.toList=Pr.val t:=aK (by rw[d]);have ad:s.size<=60:=by{rw[dJ,d];exact hd.2};generalize Pr.val t=G at*;clear d j hd;go_enter func111,ntmps111;go_wp2;go_loop[5,6] (λv i=>∃k:Nat,k<=s.size/\i=I R k/\∃x:Nat,v=I R x/\D (x=Pr.val (s.data.toList.take k)%m)/\x<m) (λ_ i=>s.size-(intOf i).toNat);(case atStart=>exact⟨0,dF _,rfl,0,rfl,by show _=_;simp[Pr.val],aJ⟩);(case round=>obtain⟨k,hk,rfl,x,rfl,b,hx⟩:=hrel;by_cases h:k<s.size;{have u:bu s[k]=Y:=z.o _ (by{have:s[k]=s.data.toList[k]'(by simpa using h):=rfl;rw[this];exact ox _});have y:=Qi s k h;obtain⟨Z,h2⟩:=(gF _).1 u;have T:(k:Int)<s.size:=aJ;have S:D<|(10*x+(s[k].toNat-48))%m=Pr.val (s.data.toList.take<|k+1)%m:=by{show _=_;rw[y,b.o,KR,GU,Nat.mod_mod,<-GU,<-KR]};generalize hq:s[k].toNat=q at*;have ao:IntKind.u8.wrap ((q:Int)-48)=(q:Int)-48:=by{rw[GO];omega};have W:IntKind.i64.wrap ((x:Int)*10)=(x:Int)*10:=bQ;have jN:IntKind.i64.wrap ((x:Int)*10+((q:Int)-48))=(x:Int)*10+((q:Int)-48):=bQ;have hN:(x:Int)*10+((q:Int)-48)=((10*x+(q-48):Nat):Int):=aJ;have O:10*x+(q-48)<=20000000000:=aJ;clear y u b;generalize r:Pr.val (s.data.toList.take<|k+1)%m=g at*;go_wp2_with fail;go_loop[5] (λv=>∃a:Nat,v=I R a/\D (a%m=g)/\a<=20000000000) (λv=>(intOf v).toNat);(case atStart=>exact⟨10*x+(q-48),by congr 1,S,O⟩);(case round=>obtain⟨a,rfl,f,hy⟩:=hrel;by_cases F:m<=a;{have J:(m:Int)<=a:=aJ;go_wp2_with fail;go_loop[7] (λl=>∃p:Nat,l=I R p/\p<=a/\1<=p/\D (p%m=0)) (λl=>a-(intOf l).toNat);(case atStart=>exact⟨m,rfl,F,P,by show _=_;simp⟩);(case round=>obtain⟨p,rfl,Q,X,n⟩:=hrel;have vC:IntKind.i64.wrap ((p:Int)*2)=(p:Int)*2:=bQ;have rU:IntKind.i64.wrap ((a:Int)-p)=(a:Int)-p:=bQ;by_cases M:p*2<=a;{have H:(p:Int)*2<=a:=aJ;have V:D<|p*2%m=0:=aK (by rw[GU,n.o];simp);go_wp2;go_round;(case rel=>exact⟨p*2,by congr 1,M,aJ,V⟩);(case measure=>simp[intOf];omega)};{have H:¬(p:Int)*2<=a:=aJ;have L:D<|(a-p)%m=g:=by{show _=_;rw[<-f.o];have hd:=Nat.dvd_of_mod_eq_zero n.o;obtain⟨aq,rfl⟩:=hd;exact Nat.sub_mul_mod Q};go_wp2;go_round;(case rel=>exact⟨a-p,by congr 1;omega,L,aJ⟩);(case measure=>simp[intOf];omega)})};{have J:¬(m:Int)<=a:=aJ;have e:D<|a=g:=aK (by rw[<-f.o,Cg aJ]);have N:=aK r;clear r f;go_wp2;go_round;(case rel=>exact⟨k+1,h,bo,a,rfl,by show _=_;rw[N.o,e.o],aJ⟩);(case measure=>simp[intOf];omega)})};{have T:¬(k:Int)<s.size:=aJ;have e:D<|x=G%m:=by{show _=_;rw[b.o,jY (by rw[<-dJ];omega),A.o]};clear b;go_wp2;go_ret;exact⟨by rw[e.o];rfl,rfl⟩})
def Canon (a:H):Prop:=a≠[]/\(∀c∈a,bu c=Y)/\(G a=1\/a.head?≠K 48)
def akW:∀(a b:H) (x f:Nat),G a=G b->(∀c∈a,bu c=Y)->(∀c∈b,bu c=Y)->x<f->a.foldl (λv c=>10*v+(c.toNat-48)) x<b.foldl (λv c=>10*v+(c.toNat-48)) f:=by intro a;induction a with|nil=>intro b x f e _ _ h;have:b= []:=gU.1 e.symm;subst this;exact h|cons c o l=>{intro b x f e j k h;cases b with|nil=>simp at e|cons d s=>{have m:=(gF c).1 (j c z);have n:=(gF d).1 (k d z);simp only[iQ];exact l s _ _ (by simpa using e) (λi g=>j i<|by simp[g]) (λi g=>k i<|by simp[g]) S}}
def Fi:∀(a b:H) (x e:Nat),G a=G b->(∀c∈a,bu c=Y)->(∀c∈b,bu c=Y)->(x<e->a.foldl (λv c=>10*v+(c.toNat-48)) x<b.foldl (λv c=>10*v+(c.toNat-48)) e)/\(x=e->(Op.bytesLess a b=Y↔a.foldl (λv c=>10*v+(c.toNat-48)) x<b.foldl (λv c=>10*v+(c.toNat-48)) e)/\(a=b↔a.foldl (λv c=>10*v+(c.toNat-48)) x=b.foldl (λv c=>10*v+(c.toNat-48)) e)):=by intro a;induction a with|nil=>intro b x e j _ _;have:b= []:=gU.1 j.symm;subst this;refine⟨λh=>h,λh=>?_⟩;subst h;simp[Op.bytesLess]|cons c t r=>{intro b x e j k l;cases b with|nil=>simp at j|cons d s=>{have u:=(gF c).1 (k c aN);have w:=(gF d).1 (l d aN);have n:=r s (10*x+(c.toNat-48)) (10*e+(d.toNat-48)) (by simpa using j) (λg f=>k g<|by simp[f]) (λg f=>l g<|by simp[f]);simp only[iQ];refine⟨λh=>n.1 S,λh=>?_⟩;subst h;by_cases i:c=d;{subst i;have:=n.2 rfl;simp only[Op.bytesLess];refine⟨?_,?_⟩;{rw[<-this.1];simp};{rw[<-this.2];simp}};{have A:c.toNat≠d.toNat:=λo=>i<|iY.1 o;rcases dM c.toNat d.toNat with q|z;{have p:=n.1 S;have m:=V9.2 q;refine⟨?_,?_⟩;{simp[Op.bytesLess,m,p]};{simp[i];omega}};{have y:=(akW s t (10*x+(d.toNat-48)) (10*x+(c.toNat-48)) (by simpa using j.symm) (λg f=>l g<|by simp[f])<|λg f=>k g<|by simp[f]) S;have m:¬c<d:=λh=>by{have:=V9.1 h;omega};refine⟨?_,?_⟩;{simp[Op.bytesLess,m,i];omega};{simp[i];omega}}}}}
end
section
open Pn Pr RowKit Tryz
def UI {a b}(e:Canon a)(f:Canon b)(h:G a<G b):Pr.val a<Pr.val b:=by have k:=xI a e.2.1;cases b with|nil=>simp at h|cons c g=>{have j:c≠48:=by{rcases f.2.2 with d|d;{simp only[bB]at d h;have:G a≠0:=λi=>e.1<|gU.1 i;omega};{simpa using d}};have d:=W6 c g f.2.1 j;simp only[bB]at h;have l:10^G a<=10^G g:=tQ S S;omega}
def pg (x y:Nat):Int:=if x<y then-1 else if x=y then 0 else 1
def li {a b}(c:Canon a)(d:Canon b)(h:G a=G b):(Op.bytesLess a b=Y↔Pr.val a<Pr.val b)/\(a=b↔Pr.val a=Pr.val b):=(Fi a b 0 0 h c.2.1 d.2.1).2 rfl
def UC (a b)(n:Canon a)(p:Canon b)(w):af C 135 #[U ⟨E a⟩,U ⟨E b⟩] w λl w'=>l=ae (I R<|pg (Pr.val a)<|Pr.val b)/\w'=w:=by obtain⟨g,f⟩:=hidx<|pg (Pr.val a)<|Pr.val b;rw[f.o];by_cases c:G a<G b;{have hF:D<|g= -1:=W (by rw[<-f.o,pg,aP<|UI n p c]);have r:(G a:Int)<G b:=S;clear c;go_enter func135,ntmps135;go_wp2;go_ret;exact⟨by rw[hF.o];rfl,rfl⟩};{have r:¬(G a:Int)<G b:=S;by_cases d:G a=G b;{have t:((G a:Int)==G b)=Y:=by{rw[ef];omega};obtain⟨i,j⟩:=li n p d;cases m:Op.bytesLess a b with|true=>{have hF:D<|g= -1:=W (by rw[<-f.o,pg,aP<|i.1 m]);clear c d i j;go_enter func135,ntmps135;go_wp2;go_ret;exact⟨by rw[hF.o];rfl,rfl⟩}|false=>{have k:¬Pr.val a<Pr.val b:=λh=>by{rw[i.2 h]at m;cases m};by_cases e:a=b;{have hF:D<|g=0:=W (by rw[<-f.o,pg,A k,aP<|j.1 e]);have q:(a==b)=Y:=by{rw[ef];exact e};clear c d i j e k;go_enter func135,ntmps135;go_wp2;go_ret;exact⟨by rw[hF.o];rfl,rfl⟩};{have hF:D<|g=1:=W (by rw[<-f.o,pg,A k,A<|λh=>e<|j.2 h]);have q:(a==b)=V:=by{rw[aZ];exact e};clear c d i j e k;go_enter func135,ntmps135;go_wp2;go_ret;exact⟨by rw[hF.o];rfl,rfl⟩}}};{have t:((G a:Int)==G b)=V:=eQ;have s:=UI p n S;have hF:D<|g=1:=W (by rw[<-f.o,pg,A S,A S]);have q:(a==b)=V:=by{rw[aZ];intro l;exact d<|by rw[l]};clear c d s;go_enter func135,ntmps135;go_wp2;go_ret;exact⟨by rw[hF.o];rfl,rfl⟩}}
def UJ (a)(hu:a<18446744073709551616):Canon<|Lib.decDigits a:=by refine⟨?_,(Bp a).2,?_⟩;{rw[Lib.decDigits];split<;>simp};{induction a using Nat.strongRecOn with|_ a k=>{by_cases h:a<10;{left;rw[Lib.decDigits,dif_pos h];rfl};{right;rw[Lib.decDigits,dif_neg h];rcases k (a/10) S S with b|b;{cases d:Lib.decDigits (a/10)with|nil=>rw[d]at b;simp at b|cons c f=>{rw[d]at b;have j:f= []:=by{simpa using b};subst j;have e:=(Bp<|a/10).1;rw[d]at e;have i:10*0+(c.toNat-48)=a/10:=e;simp;intro g;rw[g]at i;have:(48:UInt8).toNat=48:=rfl;omega}};{cases d:Lib.decDigits (a/10)with|nil=>exfalso;have:=d;rw[Lib.decDigits]at this;split at this<;>simp at this|cons c f=>{rw[d]at b;simpa using b}}}}}
def Ol (t)(h:∀c∈t,bu c=Y):Canon (jc t)/\Pr.val (jc t)=Pr.val t:=by have f:=(Aq (·==(48:UInt8)) (l:=t));have a:=val_zero t;unfold Lib.trimLeftB at a;unfold jc;split;{rename_i b;rw[b]at a;exact⟨⟨z,P,.inl rfl⟩,by rw[<-a];rfl⟩};{rename_i b;refine⟨⟨b,λc e=>h c<|f.subset e,.inr λd=>?_⟩,a⟩;have:=Pl (·==(48:UInt8)) t;rw[d]at this;simp at this}
def Om {t:H}{v}(h:fy t=K v):Canon t/\Pr.val t=v:=by unfold fy at h;split at h;{rename_i c;injection h with h;have hd:=(N_ t).1 c.1;exact⟨⟨hd.1,hd.2,c.2.2⟩,h⟩};{cases h}
end
section
open Pr RowKit Tryz
def agI (l:H):jJ (l++[48])=jJ l:=by unfold jJ;rw[Pf];simp
def agH (l:H)(c:UInt8)(h:c≠48):jJ (l++[c])=l++[c]:=by unfold jJ;rw[Pf];simp[h]
def ak7 (l:H)(c:UInt8)(h:G l<(⟨E<|l++[c]⟩:ByteArray).size):(⟨E<|l++[c]⟩:ByteArray)[G l]=c:=by show(l++[c]).toArray[G l]=c;simp
def lz (t:H)(a b:H):H:=if t= [110]then a else if t= [105]then a else if t= [118]then Lib.decDigits (G b) else if t= [119]then Lib.decDigits (G<|jJ b) else if t= [102]then jc b else if t= [116]then jc (jJ b)else[]
def mw (t:H)(b:H):H:=if t= [110]then b else[]
def p_ (t:H):Bool:=(ly t).isSome
def ajv (m)(a b t:asq)(_ha:sH a)(hb:ez b)(w):af C 109 #[ai #[Q m,U ⟨E a⟩,U ⟨E b⟩],U ⟨E t⟩] w λz w'=>z=ae (ak #[U ⟨E<|lz t a b⟩,U ⟨E<|mw t b⟩,Q<|p_ t])/\X (Z<|J w) w w':=by have y:=(aT (Z<|J w) w).alloc (aO _)<|an #[Q m,U ⟨E a⟩,U ⟨E b⟩] 78;have wQ:=hb.2;obtain⟨A,f⟩:=hidx<|lz t a b;obtain⟨r,hF⟩:=hidx<|mw t b;obtain⟨v,g⟩:=hidx<|p_ t;rw[f.o,hF.o,g.o];have q0:=(bx w #[Q m,U ⟨E a⟩,U ⟨E b⟩] 78).2.1;go_enter func109,ntmps109;go_upto_block 0 with fail;go_cut[7] (λx wc=>x=U ⟨E<|jJ b⟩/\wc=ah w (an #[Q m,U ⟨E a⟩,U ⟨E b⟩] 78));(case first=>go_wp2;go_loop[7] (λx=>∃M:asq,x=U ⟨E M⟩/\G M<=30/\D (jJ M=jJ b)) (λx=>match x with|U s=>s.size|_=>0);(case atStart=>exact⟨b,rfl,wQ,rfl⟩);(case round=>obtain⟨M,rfl,hu,u⟩:=hrel;rcases qB M with rfl|⟨n,c,rfl⟩;{have T:D<|jJ b= []:=u.o.symm;clear u;go_wp2;go_meet;(case rel=>exact⟨by rw[T.o],rfl⟩)};{simp only[sO,aW,fW]at hu u⊢;have aq:=ak7 n c;have ad:=zK (n++[c])<|G n;rw[Cn]at ad;have ar:IntKind.i64.wrap ((G n:Int)+1-1)=G n:=bQ;by_cases H:c=48;{have o8:((c.toNat:Int)==48)=Y:=by{rw[H];rfl};have sD:D<|jJ n=jJ b:=aK (by rw[<-u.o,H,agI]);clear u H;go_wp2;go_round;(case rel=>exact⟨n,rfl,aJ,sD⟩);(case measure=>show n.toArray.size<(n++[c]).toArray.size;simp)};{have o8:((c.toNat:Int)==48)=V:=by{rw[aZ];intro z;exact H<|iY.1 (by show c.toNat=48;omega)};have T:D<|jJ b=n++[c]:=aK (by rw[<-u.o,agH n c H]);clear u H;go_wp2;go_meet;(case rel=>exact⟨by rw[T.o],rfl⟩)}}));(case rest=>obtain⟨rfl,rfl⟩:=hcut;have h2:=(EI b hb).2;by_cases d:t= [110];{have i:D<|A=a:=aK (by rw[<-f.o];simp[lz,d]);have j:D<|r=b:=aK (by rw[<-hF.o];simp[mw,d]);have k:D<|v=Y:=aK (by rw[<-g.o];simp[p_,ly,d]);have N:(t==[110])=Y:=by{rw[d];rfl};clear f hF g d;go_wp2;go_quiet(fail);go_wp2;go_ret3;exact⟨by rw[i.o,j.o,k.o];rfl,bh y<|cH _ _⟩};by_cases e:t= [105];{have i:D<|A=a:=aK (by rw[<-f.o];simp[lz,e]);have j:D<|r= []:=aK (by rw[<-hF.o];simp[mw,e]);have k:D<|v=Y:=aK (by rw[<-g.o];simp[p_,ly,e]);have N:(t==[105])=Y:=by{rw[e];rfl};have L:(t==[110])=V:=by{rw[aZ];exact d};clear f hF g d e;go_wp2;go_ret3;exact⟨by rw[i.o,j.o,k.o];rfl,y⟩};by_cases h:t= [118];{have i:D<|A=Lib.decDigits (G b):=aK (by rw[<-f.o];simp[lz,h]);have j:D<|r= []:=aK (by rw[<-hF.o];simp[mw,h]);have k:D<|v=Y:=aK (by rw[<-g.o];simp[p_,ly,h]);have N:(t==[118])=Y:=by{rw[h];rfl};have L:(t==[110])=V:=by{rw[aZ];exact d};have P:(t==[105])=V:=by{rw[aZ];exact e};clear f hF g d e h;go_wp2_with(go_at_call 53;refine(JA (G b) _ aJ).mono ?_;rintro z w1 ⟨rfl,S⟩);go_ret3;exact⟨by rw[i.o,j.o,k.o];rfl,bh y S⟩};by_cases l:t= [119];{have i:D<|A=Lib.decDigits (G<|jJ b):=aK (by rw[<-f.o];simp[lz,l]);have j:D<|r= []:=aK (by rw[<-hF.o];simp[mw,l]);have k:D<|v=Y:=aK (by rw[<-g.o];simp[p_,ly,l]);have N:(t==[119])=Y:=by{rw[l];rfl};have L:(t==[110])=V:=by{rw[aZ];exact d};have P:(t==[105])=V:=by{rw[aZ];exact e};have W:(t==[118])=V:=by{rw[aZ];exact h};clear f hF g d e h l;go_wp2_with(go_at_call 53;refine(JA (G<|jJ b) _ aJ).mono ?_;rintro z w1 ⟨rfl,S⟩);go_ret3;exact⟨by rw[i.o,j.o,k.o];rfl,bh y S⟩};by_cases p:t= [102];{have i:D<|A=jc b:=aK (by rw[<-f.o];simp[lz,p]);have j:D<|r= []:=aK (by rw[<-hF.o];simp[mw,p]);have k:D<|v=Y:=aK (by rw[<-g.o];simp[p_,ly,p]);have N:(t==[102])=Y:=by{rw[p];rfl};have L:(t==[110])=V:=by{rw[aZ];exact d};have P:(t==[105])=V:=by{rw[aZ];exact e};have W:(t==[118])=V:=by{rw[aZ];exact h};have ab:(t==[119])=V:=by{rw[aZ];exact l};clear f hF g d e h l p;go_wp2_with(go_at_call 56;refine(Rr b aJ _).mono ?_;rintro z w1 ⟨rfl,rfl⟩);go_ret3;exact⟨by rw[i.o,j.o,k.o];rfl,y⟩};by_cases q:t= [116];{have i:D<|A=jc (jJ b):=aK (by rw[<-f.o];simp[lz,q]);have j:D<|r= []:=aK (by rw[<-hF.o];simp[mw,q]);have k:D<|v=Y:=aK (by rw[<-g.o];simp[p_,ly,q]);have N:(t==[116])=Y:=by{rw[q];rfl};have L:(t==[110])=V:=by{rw[aZ];exact d};have P:(t==[105])=V:=by{rw[aZ];exact e};have W:(t==[118])=V:=by{rw[aZ];exact h};have ab:(t==[119])=V:=by{rw[aZ];exact l};have ao:(t==[102])=V:=by{rw[aZ];exact p};clear f hF g d e h l p q;go_wp2_with(go_at_call 56;refine(Rr (jJ b) aJ _).mono ?_;rintro z w1 ⟨rfl,rfl⟩);go_ret3;exact⟨by rw[i.o,j.o,k.o];rfl,y⟩};have i:D<|A= []:=aK (by rw[<-f.o];simp only[lz,d,e,h,l,p,q,fX]);have j:D<|r= []:=aK (by rw[<-hF.o];simp only[mw,d,fX]);have k:D<|v=V:=aK (by rw[<-g.o];simp only[p_,ly,d,e,h,l,p,q,fX];rfl);have L:(t==[110])=V:=by{rw[aZ];exact d};have P:(t==[105])=V:=by{rw[aZ];exact e};have W:(t==[118])=V:=by{rw[aZ];exact h};have ab:(t==[119])=V:=by{rw[aZ];exact l};have ao:(t==[102])=V:=by{rw[aZ];exact p};have au:(t==[116])=V:=by{rw[aZ];exact q};clear f hF g d e h l p q;go_wp2;go_ret3;exact⟨by rw[i.o,j.o,k.o];rfl,y⟩)
def jU (w:B)(v:N)(l:List H):Prop:=(v=F O 0 0/\l= [])\/∃blk off c,v=F (K ⟨blk,off,O⟩) (G l) c/\G l<=c/\blk<Z (J w)/\∀j,j<G l->ac w ⟨blk,off+j,O⟩=K (bU<|l.getD j [])
def jU.keep {w w' v l}(h:jU w v l)(d:X (Z<|J w) w w'):jU w' v l:=by rcases h with h|⟨a,off,c,f,g,b,i⟩;{exact .inl h};{exact .inr ⟨a,off,c,f,g,du b d.size,λe j=>(d.cell (p:=⟨a,off+e,O⟩) b).trans<|i e j⟩}
def lD:(C.info? 22).map (λi=>(i.zero,i.size,i.bytes))=K (K<|F O 0 0,1,24):=x
def apD (l:List H)(a k)(h:a<=k)(b:k<G l):l.drop a=(l.drop a).take (k-a)++l.getD k []::l.drop (k+1):=by(conv=>lhs;rw[<-pu (k-a)<|l.drop a]);rw[sP,show a+(k-a)=k from S,dG b];simp[iZ,bR b]
def XU (l:List H)(b n t)(h:∀a,b<=a->a<b+n->a<G l->l.getD a []≠t):∀c∈(l.drop b).take n,c≠t:=by intro c hu;obtain⟨a,d,rfl⟩:=Cv hu;simp only[gT,ml]at d;have:=h (b+a) S S S;rw[iZ,bR S]at this;simpa using this
def ai6 (l:List H)(a k t)(h:a<=k)(d:k<G l)(f:l.getD k []=t)(e:∀b,a<=b->b<k->l.getD b []≠t):b7 t (l.drop a)=(l.drop a).take (k-a)::b7 t (l.drop<|k+1):=by(conv=>lhs;rw[apD l a k h d,f]);exact Mh t _ _<|XU l a (k-a) t<|λb c g _=>e b c S
def ai5 (l:List H)(b t)(e:∀a,b<=a->a<G l->l.getD a []≠t):b7 t (l.drop b)= [l.drop b]:=by refine Mg t _ λf hu=>?_;have:=XU l b (G l) t (λa c _ d=>e a c d) f;rw[jY z]at this;exact this hu
def Q0 (w d off c l a k)(h:a<=k)(m:k<=G l)(j:G l<=c)(f:d<Z (J w))(g:∀b,b<G l->ac w ⟨d,off+b,O⟩=K (bU<|l.getD b [])):jU w (F (K ⟨d,off+a,O⟩) (k-a)<|c-a)<|(l.drop a).take<|k-a:=by have e:G ((l.drop a).take<|k-a)=k-a:=q;refine .inr ⟨d,off+a,c-a,by rw[e],by rw[e];omega,f,λb i=>?_⟩;rw[e]at i;have:=g (a+b) S;rw[show off+a+b=off+(a+b) from S,this];congr 2;simp only[iZ];rw[V_ S,uX]
def XV (w a off)(b:a<Z (J w)):jU w (F (K ⟨a,off,O⟩) 0 0) []:=.inr ⟨a,off,0,rfl,r _,b,λ_ c=>absurd c<|yT _⟩
def BK (w wr:B)(v:N)(ps:List<|List H):Prop:=∃vs:List N,G vs=G ps/\wr.ownsRow (Z<|J w) 22 1 v (G ps) vs/\∀j,j<G ps->jU w (vs.getD j undef) (ps.getD j [])
def ahQ {w vs b x p}(e:G vs=G b)(h:∀a,a<G b->jU w (vs.getD a undef) (b.getD a []))(f:jU w x p):∀a,a<G (b++[p])->jU w ((vs++[x]).getD a undef) ((b++[p]).getD a []):=by intro a d;simp only[j,fW]at d;by_cases c:a<G b;{have:=h a c;simp only[iZ]at this⊢;rw[oU S,oU c];exact this};{have:a=G b:=S;subst this;simp only[iZ];rw[qE S,qE S,e];simpa using f}
def ayq (w j off c l)(t:asq)(hl:G l<=1000)(hc:G l<=c)(hb:j<Z (J w))(ar:∀b,b<G l->ac w ⟨j,off+b,O⟩=K (bU<|l.getD b [])):af C 76 #[F (K ⟨j,off,O⟩) (G l) c,U ⟨E t⟩] w λad w'=>(∃v,ad=ae v/\BK w w' v (b7 t l))/\X (Z<|J w) w w':=by obtain⟨H,bZ,aw,ax,cC⟩:=eH lD;have g:D<|C.info? 22=K H/\H.zero=K (F O 0 0)/\H.size=1/\H.bytes=24:=⟨bZ,aw,ax,cC⟩;have HC:=aK ar;clear bZ aw ax cC ar;go_enter func76,ntmps76;go_wp2_with fail;go_loopw[5,6,7] (λv f i wr=>∃(k a:Nat) (e:List<|List asq),k<=G l+1/\a<=k/\f=I R a/\i=I R k/\G e<=k/\BK w wr v e/\X (Z<|J w) w wr/\D (k<=G l->(∀b,a<=b->b<k->l.getD b []≠t)/\b7 t l=e++b7 t (l.drop a))/\D (G l<k->b7 t l=e)) (λ_ _ i _=>G l+1-(intOf i).toNat);(case atStart=>exact⟨0,0,[],dF _,aO _,rfl,rfl,aO _,⟨[],rfl,fQ _ _ _ _,λb d=>absurd d<|yT _⟩,aT _ _,λ_=>⟨λb _ h=>absurd h<|yT _,aN⟩,λh=>absurd h<|yT _⟩);(case round=>obtain⟨k,a,e,hk,Jd,rfl,rfl,aC,⟨vs,ab,q,dH⟩,n,HA,HZ⟩:=hrel;have BR:=aK dH;clear dH;by_cases av:k<=G l;{have az:(k:Int)<=G l:=aJ;obtain⟨HN,HP⟩:=HA.o av;have A:=aK HN;have L:=aK HP;clear HN HP HA HZ;have z:∀(x:N) (p:List asq) (s:N) (m:B) (o:Obj),jU w x p->m.ownsRow (Z<|J w) 22 1 s (G e+1) (vs++[x])->(ah wr o).grownBy m u5.ownBlock->BK w m s (e++[p])/\X (Z<|J w) w m:=λx p s m o hx ho hg=>⟨⟨vs++[x],by simp[ab],by simpa using ho,ahQ ab BR.o hx⟩,(n.alloc n.size o).grown hg (by have:=n.size;simp;omega) λb d=>(dV q b d).1⟩;by_cases ao:k=G l;{subst ao;have HL:D<|b7 t l=e++[(l.drop a).take<|G l-a]:=by{show _=_;rw[L.o,ai5 l a t<|λb T h2=>A.o b T h2,jY aN]};by_cases Nu:c=a;{have W:D<|jU w (F (K ⟨j,off,O⟩) 0 0)<|(l.drop a).take<|G l-a:=by{have:(l.drop a).take (G l-a)= []:=by{rw[show G l-a=0 from aJ];simp};rw[this];exact XV w j off hb};clear A L;have aA:a=G l:=aJ;subst aA;subst Nu;go_wp2_with(at_builtin;refine rH _ rfl _ _ 164 rfl (Z<|J w) 22 H (F O 0 0) 1 24 underlying164 g.o.1 g.o.2.1 g.o.2.2.1 g.o.2.2.2 rfl aM _ _ _ rfl (dc q _) ⟨Z<|J wr,0,O⟩ 1 1 [F (K ⟨j,off,O⟩) 0 0] rfl rfl ?c1 ?c2 ?c3 ?c4 ?c5 ?_);(case c1=>intro b r d;match b,d with|0,d=>{simp at d;subst d;simp[Addr.add]});(case c2=>intro r hu;simp at hu;subst hu;rfl);(case c3=>unfold maxLen;omega);(case c4=>omega);(case c5=>have:=n.size;simp;omega);{intro s m y u _;obtain⟨P,S⟩:=z _ _ s m _ W.o y u;clear y u z q;go_wp2;go_roundw;(case rel=>exact⟨G l+1,G l+1,_,aO _,aO _,bo,bo,aV,P,S,λh=>absurd h aJ,λ_=>HL.o⟩);(case measure=>simp[intOf]<;>omega)}};{have W:=aK<|Q0 w j off c l a (G l) Jd (aO _) hc hb HC.o;clear A L;go_wp2_with(at_builtin;refine rH _ rfl _ _ 164 rfl (Z<|J w) 22 H (F O 0 0) 1 24 underlying164 g.o.1 g.o.2.1 g.o.2.2.1 g.o.2.2.2 rfl aM _ _ _ rfl (dc q _) ⟨Z<|J wr,0,O⟩ 1 1 [F (K ⟨j,off+a,O⟩) (G l-a)<|c-a] rfl rfl ?c1 ?c2 ?c3 ?c4 ?c5 ?_);(case c1=>intro b r d;match b,d with|0,d=>{simp at d;subst d;simp[Addr.add]});(case c2=>intro r hu;simp at hu;subst hu;rfl);(case c3=>unfold maxLen;omega);(case c4=>omega);(case c5=>have:=n.size;simp;omega);{intro s m y u _;obtain⟨P,S⟩:=z _ _ s m _ W.o y u;clear y u z q;go_wp2;go_roundw;(case rel=>exact⟨G l+1,G l+1,e++[(l.drop a).take<|G l-a],aO _,aO _,bo,bo,aV,P,S,λh=>absurd h aJ,λ_=>HL.o⟩);(case measure=>simp[intOf]<;>omega)}}};{have aB:((k:Int)==G l)=V:=eQ;have au:k<G l:=aJ;have o6:(k:Int)<G l:=aJ;have ay:ac wr ⟨j,off+k,O⟩=K (U ⟨E<|l.getD k []⟩):=(n.cell (p:=⟨j,off+k,O⟩) hb).trans<|HC.o k au;obtain⟨r,hu⟩:=hidx<|l.getD k [];rw[hu.o]at ay;by_cases M:r=t;{have Db:(r==t)=Y:=by{rw[ef];exact M};have Nu:¬c=a:=aJ;have HL:D<|b7 t l=e++[(l.drop a).take<|k-a]++b7 t (l.drop<|k+1):=by{show _=_;rw[L.o,ai6 l a k t Jd au (hu.o.trans M) A.o];simp};have W:=aK<|Q0 w j off c l a k Jd av hc hb HC.o;clear A L ao M;go_wp2_with(at_builtin;refine rH _ rfl _ _ 164 rfl (Z<|J w) 22 H (F O 0 0) 1 24 underlying164 g.o.1 g.o.2.1 g.o.2.2.1 g.o.2.2.2 rfl aM _ _ _ rfl (dc q _) ⟨Z<|J wr,0,O⟩ 1 1 [F (K ⟨j,off+a,O⟩) (k-a)<|c-a] rfl rfl ?c1 ?c2 ?c3 ?c4 ?c5 ?_);(case c1=>intro b r d;match b,d with|0,d=>{simp at d;subst d;simp[Addr.add]});(case c2=>intro r hu;simp at hu;subst hu;rfl);(case c3=>unfold maxLen;omega);(case c4=>omega);(case c5=>have:=n.size;simp;omega);{intro s m y u _;obtain⟨P,S⟩:=z _ _ s m _ W.o y u;clear y u z q;go_wp2;go_roundw;(case rel=>exact⟨k+1,k+1,e++[(l.drop a).take<|k-a],aJ,aO _,bo,bo,aV,P,S,λ_=>⟨λb T h2=>absurd T aJ,HL.o⟩,λh=>absurd h aJ⟩);(case measure=>simp[intOf]<;>omega)}};{have Db:(r==t)=V:=by{rw[aZ];exact M};have sG:D (∀b,a<=b->b<k+1->l.getD b []≠t):=λb T h2=>by{by_cases ad:b=k;{subst ad;rw[hu.o];exact M};{exact A.o b T aJ}};have aq:BK w wr u5 e:=⟨vs,ab,q,BR.o⟩;clear M ao A z;go_wp2;go_roundw;(case rel=>exact⟨k+1,a,e,aJ,aJ,rfl,bo,aJ,aq,n,λ_=>⟨sG.o,L.o⟩,λh=>absurd h aJ⟩);(case measure=>simp[intOf];omega)}}};{have az:¬(k:Int)<=G l:=aJ;have hE:=aK<|HZ.o aJ;have aq:BK w wr u5 e:=⟨vs,ab,q,BR.o⟩;clear HA HZ;go_wp2;go_ret;exact⟨⟨_,rfl,by rw[hE.o];exact aq⟩,n⟩})
end
section
open RowKit Tryz
def Zs {l:List H}{k}(a:k<G l):l.getD k []∈l:=by rw[iZ,bR a];exact ox a
def Zr {l:List H}{t}(h:∀a,a<G l->l.getD a []≠t):t∉l:=by intro c;obtain⟨a,b,rfl⟩:=Cv c;exact h a b (by rw[iZ,bR b];rfl)
def arQ (l:List H)(t:H)(e:Ending):Prop:=∃k:Int,e=ae (I R k)/\(0<=k↔t∈l)
def Rt (w v l)(t:asq)(H:G l<=1000000)(u:jU w v l):af C 32 #[v,U ⟨E t⟩] w λf w'=>arQ l t f/\w'=w:=by rcases u with⟨rfl,rfl⟩|⟨y,off,c,rfl,A,z,n⟩;{go_enter func32,ntmps32;go_wp2_with fail;refine ww 1 ?_;rw[u_];go_wp2;go_ret;exact⟨⟨-1,rfl,aN⟩,rfl⟩};{have q:=W n;clear n;go_enter func32,ntmps32;go_wp2_with fail;go_loop[5] (λi=>∃k:Nat,k<=G l/\i=I R k/\D (∀a,a<k->l.getD a []≠t)) (λi=>G l-(intOf i).toNat);(case atStart=>exact⟨0,dF _,rfl,λa h=>absurd h<|yT _⟩);(case round=>obtain⟨k,F,rfl,d⟩:=hrel;by_cases g:k<G l;{have s:(k:Int)<G l:=S;have ck:=q.o k g;have j:=Zs g;unfold bU at ck;generalize hu:l.getD k []=m at*;by_cases b:m=t;{have p:(m==t)=Y:=by{rw[ef];exact b};have e:D<|t∈l:=by{show _∈_;rw[<-b];exact j};clear b j hu d;go_wp2;go_ret;exact⟨⟨k,rfl,by constructor;(exactλ_=>e.o);(intro _;omega)⟩,rfl⟩};{have p:(m==t)=V:=by{rw[aZ];exact b};have x:D (∀a,a<k+1->l.getD a []≠t):=by{intro a r;by_cases f:a=k;{rw[f,hu];exact b};{exact d.o a S}};clear b j hu d;go_wp2;go_round;(case rel=>exact⟨k+1,g,bo,x⟩);(case measure=>simp[intOf];omega)}};{have s:¬(k:Int)<G l:=S;have e:=W<|Zr<|λa r=>d.o a S;clear d;go_wp2;go_ret;exact⟨⟨-1,rfl,by constructor;(intro h;omega);(exactλh=>absurd h e.o)⟩,rfl⟩})}
def vT:List H:=[[122,101,114,111],[111,110,101],[116,119,111],[102,101,119],[109,97,110,121],[111,116,104,101,114]]
def JD (w):af C 31 #[] w λc w'=>c=ae (F (K ⟨Z<|J w,0,O⟩) 6 6)/\X (Z<|J w) w w'/\Z (J w)<Z (J w')/\∀a,a<6->ac w' ⟨Z<|J w,a,O⟩=K (bU<|vT.getD a []):=by have h:=bx w #[U ⟨#[122,101,114,111]⟩,U ⟨#[111,110,101]⟩,U ⟨#[116,119,111]⟩,U ⟨#[102,101,119]⟩,U ⟨#[109,97,110,121]⟩,U ⟨#[111,116,104,101,114]⟩] 9;have d:=(s (Z<|J w) w).alloc (r _)<|an #[U ⟨#[122,101,114,111]⟩,U ⟨#[111,110,101]⟩,U ⟨#[116,119,111]⟩,U ⟨#[102,101,119]⟩,U ⟨#[109,97,110,121]⟩,U ⟨#[111,116,104,101,114]⟩] 9;have H:D (∀a,a<6->(ah w<|an #[U ⟨#[122,101,114,111]⟩,U ⟨#[111,110,101]⟩,U ⟨#[116,119,111]⟩,U ⟨#[102,101,119]⟩,U ⟨#[109,97,110,121]⟩,U ⟨#[111,116,104,101,114]⟩] 9).cell? ⟨Z<|J w,a,O⟩=K (bU<|vT.getD a [])):=by{intro a e;rw[h.2.1 a];match a,e with|0,_=>rfl|1,_=>rfl|2,_=>rfl|3,_=>rfl|4,_=>rfl|5,_=>{rfl}};have b:=W h.1;clear h;go_enter func31,ntmps31;go_wp2;go_ret;exact⟨rfl,d,b.o,H.o⟩
def bG:List H->List (H×H)
 |n::s::r=>(n,s)::bG r
 |_=>[]
def YM (l)(h:G l<2):bG l= []:=by match l,h with| [],_=>rfl| [_],_=>{rfl}
def YN:∀(k:Nat) (c:List H),G c<=k->G (bG c)<=G c/\∀q∈bG c,q.1∈c/\q.2∈c:=by intro k;induction k with|zero=>{intro c h;rw[YM c S];exact⟨z,λq d=>by cases d⟩}|succ k f=>{intro c h;match c,h with| [],_=>{exact⟨by simp[bG],λq d=>by cases d⟩}| [_],_=>{exact⟨by simp[bG],λq d=>by cases d⟩}|n::s::g,h=>{simp only[bB]at h;obtain⟨i,e⟩:=f g S;refine⟨by simp[bG];omega,λq d=>?_⟩;rcases cL.1 d with rfl|d;{simp};{obtain⟨a,b⟩:=e q d;simp[a,b]}}}
def nP:List (H×H)->List N
 | []=>[]
 |q::r=>bU q.1::bU q.2::nP r
def X9 (l):G (nP l)=G l*2:=by induction l with|nil=>rfl|cons q b a=>{simp[nP,a];omega}
def ahO (l r):nP (l++r)=nP l++nP r:=by induction l with|nil=>rfl|cons q l a=>{simp[nP,a]}
def ahN:∀(b:List<|H×H) (a:Nat),a<G b->(nP b)[a*2]? =K (bU (b.getD a ([],[])).1)/\(nP b)[a*2+1]? =K (bU (b.getD a ([],[])).2):=by intro b;induction b with|nil=>intro a h;simp at h|cons q d c=>{intro a h;cases a with|zero=>exact⟨rfl,rfl⟩|succ a=>{have:=c a (by simpa using h);rw[show(a+1)*2=a*2+2 from S];exact this}}
def D0:∀(b:List<|H×H) (a:N),a∈nP b->∃t:H,a=bU t:=by intro b;induction b with|nil=>intro a h;cases h|cons q d c=>{intro a h;rcases cL.1 h with rfl|h;{exact⟨_,rfl⟩};{rcases cL.1 h with rfl|h;{exact⟨_,rfl⟩};{exact c a h}}}
def gw (w:World)(B:Nat)(v:N)(ps:List<|H×H):Prop:=w.ownsRow B 132 2 v (G ps)<|nP ps
def gw.form {w f v b}(h:gw w f v b):∃a c,v=F a (G b) c/\Gd w a b:=by have d:w.ownsRow f 132 2 v (G b)<|nP b:=h;rcases d.2 with⟨rfl,i⟩|⟨g,j,m,rfl,n⟩;{exact⟨O,0,by rw[i],.inl<|gU.1 i⟩};{have l:=dV d g rfl;refine⟨_,j,rfl,.inr ⟨g,0,rfl,l.2,λe k=>?_⟩⟩;rw[lu,d.cellAt (e*2) S,d.cellAt (e*2+1) S];exact ahN b e k}
def gw.keep {w d b v c}(h:gw w b v c)(a:X (Z<|J w) w d):gw d b v c:=by refine wv (row:=O) h ⟨a.os,a.tape,a.output,a.size,λk e _=>a.block k e⟩ ?_;cases f:v.ownBlock with|none=>exact .inl rfl|some _=>{exact .inr z}
def ku:(C.info? 132).map (λi=>(i.zero,i.size,i.bytes))=K (K<|ai #[U ⟨#[]⟩,U ⟨#[]⟩],2,32):=x
def ajg (l k)(h:k+1<G l):bG (l.drop k)=(l.getD k [],l.getD (k+1) [])::bG (l.drop<|k+2):=by rw[dG S,dG h];simp[bG,iZ,bR h,bR<|show k<G l from S]
def XE {P p o a w k Q q}(H:o.guard=O)(s x t)(M:o.op=.call {callee:=.builtin .append,args:=#[s,x],argTypes:=#[t,t]})(base e i z size bytes)(V:P.underlying t=K (.slice e))(hi:P.info? e=K i)(hz:i.zero=K z)(T:i.size=size)(D:i.bytes=bytes)(ab:z.cells.size=size)(U:0<size)(v n j)(S:a.eval s=v)(R:w.ownsRow base e size v n j)(g m c b)(X:a.eval x=F (K g) m c)(I:G b=m*size)(L:∀l d,b[l]? =K d->ac w (g.add l)=K d)(r:∀d∈b,d.oneCell'=Y)(A:n+m<=maxLen)(E:(n+m)*bytes<=140737488355328)(C:base<=Z (J w))(h:∀f w',w'.ownsRow base e size f (n+m) (j++b)->w.grownBy w' v.ownBlock->k (a.put o.dst f) w'):if Region.wanted o (yielded p a.tmps)=Y then Oper.wp P o a w k Q else q:=by have W:Region.wanted o (yielded p a.tmps)=Y:=by{simp[Region.wanted,H]};rw[aP W];exact wp_append_own w s x t M base e i z size bytes V hi hz T D ab U v n j S R g m c b X I L r A E C λf w' u y _=>h f w' u y
def ahE (w f off c l)(hl:G l<=100000)(y:f<Z (J w))(z:∀e,e<G l->ac w ⟨f,off+e,O⟩=K (bU<|l.getD e [])):af C 40 #[F (K ⟨f,off,O⟩) (G l) c] w λN w'=>(∃v,N=ae v/\gw w' (Z<|J w) v (bG l))/\X (Z<|J w) w w':=by obtain⟨g,t,L,M,x⟩:=eH ku;have h:D<|C.info? 132=K g/\g.zero=K (ai #[U ⟨#[]⟩,U ⟨#[]⟩])/\g.size=2/\g.bytes=32:=⟨t,L,M,x⟩;have r:=aK z;obtain⟨S,hS⟩:=hidx<|bG l;rw[hS.o];clear t L M x z;go_enter func40,ntmps40;go_wp2_with fail;go_loopw[3,4] (λv i wr=>∃(k:Nat) (a:List<|asq×asq),k<=G l+1/\i=I R k/\G a<=k/\gw wr (Z<|J w) v a/\X (Z<|J w) w wr/\D (a++bG (l.drop k)=S)) (λ_ i _=>G l+2-(intOf i).toNat);(case atStart=>exact⟨0,[],dF _,rfl,aO _,fQ _ _ _ _,aT _ _,hS⟩);(case round=>obtain⟨k,a,hk,rfl,ao,q,d,j⟩:=hrel;clear hS;have aq:IntKind.i64.wrap ((k:Int)+1)=k+1:=bQ;have dD:IntKind.i64.wrap ((k:Int)+2)=k+2:=bQ;by_cases E:k+1<G l;{have W:(k:Int)+1<G l:=aJ;have A5:(k:Int)<G l:=aJ;have ad:(0:Int)<=(k:Int)+1:=aJ;have u:=(d.cell (p:=⟨f,off+k,O⟩) y).trans<|r.o k aJ;have c1:=(d.cell (p:=⟨f,off+(k+1),O⟩) y).trans<|r.o (k+1) E;have lh:D<|a++[(l.getD k [],l.getD (k+1) [])]++bG (l.drop<|k+2)=S:=by{show _=_;rw[<-j.o,ajg l k E];simp};unfold bU at u c1;generalize l.getD k []=n at*;generalize l.getD (k+1) []=s at*;clear j;have m:wr.ownsRow (Z<|J w) 132 2 u3 (G a)<|nP a:=q;go_wp2;go_region_law(refine XE rfl (.tmp 12) (.tmp 23) 24 rfl (Z<|J w) 132 g (ai #[U ⟨#[]⟩,U ⟨#[]⟩]) 2 32 underlying24 h.o.1 h.o.2.1 h.o.2.2.1 h.o.2.2.2 rfl aM u3 (G a) (nP a) (by simp[Act.eval]) (by first|exact dc m _|exact dc (qH m) _) ⟨Z<|J wr,0,O⟩ 1 1 [bU n,bU s] (by simp[Act.eval]) rfl (by{intro e ab b;match e,b with|0,b=>simp at b;subst b;simp[Addr.add,bU]|1,b=>{simp at b;subst b;simp[Addr.add,bU]}}) (by intro ab hu;simp at hu;rcases hu with rfl|rfl<;>rfl) (by unfold maxLen;omega) aJ (by have:=d.size;simp;omega) ?_;intro v' w2 H A);all_goals{have P:gw w2 (Z<|J w) v'<|a++[(n,s)]:=by{unfold gw;rw[ahO];simpa[nP]using H};have T:=(d.drew.alloc (by have:=d.size;simpa using this) _).grown A (by have:=d.size;simp;omega) λe b=>(dV m e b).1;clear H A q m u c1;go_wp2;go_roundw;(case rel=>exact⟨k+2,a++[(n,s)],aJ,bo,aV,P,T,lh⟩);(case measure=>simp[intOf]<;>omega)}};{have W:¬(k:Int)+1<G l:=aJ;have hF:D<|S=a:=by{show _=_;rw[<-j.o,YM _ aV];simp};clear j;go_wp2;go_ret;exact⟨⟨_,rfl,by rw[hF.o];exact q⟩,d⟩})
def ahH (w a c):af C 40 #[F a 0 c] w λb w'=>(∃v,b=ae v/\gw w' (Z<|J w) v [])/\X (Z<|J w) w w':=by go_enter func40,ntmps40;go_wp2_with fail;refine ww 1 ?_;rw[u_];go_wp2;go_ret;exact⟨⟨_,rfl,fQ _ _ _ _⟩,s _ _⟩
def X6 (w v l)(g:G l<=100000)(h:ph w v l):af C 40 #[v] w λd w'=>(∃v,d=ae v/\gw w' (Z<|J w) v (bG l))/\X (Z<|J w) w w':=by rcases h with⟨a,c,rfl,rfl⟩|⟨b,off,c,rfl,_,e,f⟩;{exact ahH w a c};{exact ahE w b off c l g e f}
def U6 (l:List H)(e:Ending):Prop:=∃n:Nat,e=ae (I R n)/\(n<=65536->G l<=65536/\∀t∈l,G t<=65536)
def agq (w j off c)(l:List asq)(v:G l<2^47)(q:∀t∈l,G t<2^47)(p:∀a,a<G l->ac w ⟨j,off+a,O⟩=K (bU<|l.getD a [])):af C 16 #[F (K ⟨j,off,O⟩) (G l) c] w λf w'=>U6 l f/\w'=w:=by have r:=W p;have s:=W q;clear p q;go_enter func16,ntmps16;go_wp2_with fail;go_loop[3,4] (λx i=>∃(k n:Nat),k<=G l/\i=I R k/\x=I R n/\(n<=65536\/k=0)/\G l<=n/\n<2^47/\D (∀a,a<k->G (l.getD a [])<=n)) (λ_ i=>G l-(intOf i).toNat);(case atStart=>exact⟨0,G l,dF _,rfl,rfl,.inr rfl,aO _,v,λa d=>absurd d<|yT _⟩);(case round=>obtain⟨k,n,L,rfl,rfl,N,M,E,e⟩:=hrel;by_cases g:k<G l;{have y:(k:Int)<G l:=S;have ck:=r.o k g;have J:=s.o _<|Zs g;unfold bU at ck;have A:D (∀a,a<k+1->G (l.getD a [])<=n+G (l.getD k [])):=by{intro a d;by_cases f:a=k;{rw[f];omega};{have:=e.o a S;omega}};generalize l.getD k []=b at*;have P:IntKind.i64.wrap ((n:Int)+G b)=n+G b:=bQ;have H:IntKind.i64.wrap ((k:Int)+1)=k+1:=bQ;clear e;by_cases m:n+G b<=65536;{have u:¬(65536:Int)<(n:Int)+G b:=S;go_wp2;go_round;(case rel=>exact⟨k+1,n+G b,g,bo,bo,.inl m,S,S,A⟩);(case measure=>simp[intOf];omega)};{have u:(65536:Int)<(n:Int)+G b:=S;go_wp2;go_ret;exact⟨⟨n+G b,bo,λh=>absurd h m⟩,rfl⟩}};{have y:¬(k:Int)<G l:=S;go_wp2;go_ret;refine⟨⟨n,rfl,λh=>⟨S,λt z=>?_⟩⟩,rfl⟩;obtain⟨a,d,rfl⟩:=Cv z;have:=e.o a S;rw[iZ,bR d]at this;exact bY this h})
def ags (w a c):af C 16 #[F a 0 c] w λb w'=>U6 [] b/\w'=w:=by go_enter func16,ntmps16;go_wp2_with fail;refine ww 1 ?_;rw[u_];go_wp2;go_ret;exact⟨⟨0,rfl,λ_=>⟨z,λt d=>by cases d⟩⟩,rfl⟩
def QV (w v)(l:List H)(f:G l<2^47)(g:∀t∈l,G t<2^47)(h:ph w v l):af C 16 #[v] w λd w'=>U6 l d/\w'=w:=by rcases h with⟨a,c,rfl,rfl⟩|⟨b,off,c,rfl,_,i,e⟩;{exact ags w a c};{exact agq w b off c l f g e}
def agF (b off len a k:Nat)(x w)(h:(k:Int)<len)(d:ac w ⟨b,off+k,O⟩=K (I R x)):af C 41 #[F (K ⟨b,off,O⟩) len a,I R k] w λc w'=>c=ae (I ap<|wrap32 x)/\w'=w:=by go_enter func41,ntmps41;go_wp2;go_ret;exact⟨rfl,rfl⟩
end
namespace Dk
open Pn Pr
abbrev T:=List UInt8
structure da where
 kind:UInt8
 text:T:=[]
 name:T:=[]
 how:T:=[]
 offset:T:=[]
 at_:Nat:=0
structure Sc where
 i:Nat
 o:List da
 opens:List Bool
 err:Nat
 place:Nat
def Sc.fault (x:Sc)(e p:Nat):Sc:=if x.err=0 then{x with err:=e,place:=p}else x
def Sc.kG (x:Sc):Bool:=x.opens.getLastD V
def kJ (out:List da)(t:T):List da:=match out.getLast? with
 |some m=>if m.kind=116 then out.dropLast++[{m with text:=m.text++t}]else out++[{kind:=116,text:=t}]
 |none=>[{kind:=116,text:=t}]
def Sc.say (x:Sc)(t:T):Sc:=if t= []then x else{x with o:=kJ x.o t}
def Sc.put (x:Sc)(m:da):Sc:={x with o:=x.o++[m]}
def Sc.go (x:Sc)(n:Nat):Sc:={x with i:=x.i+n}
def jy (c:UInt8):Bool:=c==32||c==9||c==10||c==13
def Sc.bD (s:T)(x:Sc):Sc:=x.go ((s.drop x.i).takeWhile jy).length
def eF (c:UInt8):Bool:=am (97<=c.toNat/\c.toNat<=122)||am (65<=c.toNat/\c.toNat<=90)||c==95
def nT (n:Nat):T->Nat
 | []=>n
 |c::r=>if n<16/\(eF c=Y\/n≠0/\bu c=Y)then nT (n+1) r else n
def eO (l:T):Nat:=nT 0 l
def Sc.next (s:T)(x:Sc)(n:Nat):T:=(s.drop x.i).take n
def Sc.name (s:T)(x:Sc):Sc:=(if eO (s.drop x.i)=0 then x.fault 3 x.i else x).go<|eO<|s.drop x.i
def Sc.fm (s:T)(x:Sc):T:=x.next s<|eO<|s.drop x.i
def oz (z:Bool)(n:Nat):T->Nat
 | []=>n
 |c::r=>if n<9/\bu c=Y/\¬(n=1/\z=Y)then oz z (n+1) r else n
def rK (l:T):Nat:=oz (l.head?==K 48) 0 l
def Sc.whole (s:T)(x:Sc):Sc:=(if rK (s.drop x.i)=0 then x.fault 3 x.i else x).go<|rK<|s.drop x.i
def Sc.m_ (s:T)(x:Sc):T:=x.next s<|rK<|s.drop x.i
def Sc.needs (s:T)(x:Sc)(c:UInt8):Sc:=if s[x.i]? =K c then x.go 1 else x.fault 3 x.i
def fo (t:T):Nat:=if t= [110,117,109,98,101,114]then 0 else if t= [112,108,117,114,97,108]then 1 else if t= [115,101,108,101,99,116,111,114,100,105,110,97,108]then 2 else if t= [115,101,108,101,99,116]then 3 else 4
def mF (t:T):Bool:=lQ t||t==[111,116,104,101,114]
def Sc.opened (s:T)(x:Sc)(num:Bool)(m:da):Sc:=
 let y:=x.bD s
 let z:=y.needs s 123
 let z:=if 6<G z.opens+2 then z.fault 4 y.i else z
 {z with opens:=z.opens++[num],o:=z.o++[m]}
def Sc.branch (s:T)(x:Sc)(num:Bool):Sc:=
 if x.err≠0 then x
 else if num=Y/\s[x.i]? =K 61 then((x.go 1).whole s).opened s num {kind:=91,text:=61::(x.go 1).m_ s,at_:=x.i}
 else
  let y:=x.name s
  let y:=if num=Y/\mF (x.fm s)=V then y.fault 3 x.i else y
  y.opened s num {kind:=91,text:=x.fm s,at_:=x.i}
def Sc.behind (s:T)(x:Sc):Sc:=
 let y:=({x with opens:=x.opens.dropLast}:Sc).bD s
 if s[y.i]? =K 125 then(y.put {kind:=41,at_:=y.i}).go 1 else y.branch s x.kG
def zj:T:=[111,102,102,115,101,116,58]
def Sc.args (s:T)(x:Sc)(known:Nat)(m:da):Sc:=
 let y:=(x.needs s 44).bD s
 if known<3/\y.next s 7=zj then
  let z:=(y.go 7).bD s
  let u:=(z.whole s).bD s
  (u.put {m with offset:=z.m_ s}).branch s Y
 else(y.put {m with offset:=[48]}).branch s (am<|known<3)
def Sc.mU (s:T)(x:Sc):Sc:=
 let a:=(x.go 1).bD s
 let b:=(a.name s).bD s
 if b.err≠0 then b
 else if s[b.i]?≠K 44 then(b.needs s 125).put {kind:=112,name:=a.fm s,at_:=x.i}
 else
  let c:=(b.go 1).bD s
  let d:=c.name s
  let how:=c.fm s
  if fo how=4 then d.fault 3 c.i
  else
   let e:=d.bD s
   if fo how=0 then(e.needs s 125).put {kind:=110,name:=a.fm s,how:=how,at_:=x.i}
   else e.args s (fo how) {kind:=40,name:=a.fm s,how:=how,at_:=x.i}
def Sc.nh (x:Sc):Nat->T->Sc
 |0,_=>x
 |k+1,rest=>
  let a:=(Lib.cut rest [39]).1
  let b:=(Lib.cut rest [39]).2.1
  let y:=(x.say a).go<|G a
  if(Lib.cut rest [39]).2.2=V then y
  else
   let z:=y.go 1
   match b with
   |c::r=>if c=39 then((z.say [39]).go 1).nh k r else z
   | []=>z
def Sc.sx (s:T)(x:Sc)(num:Bool):Sc:=
 let y:=x.go 1
 match s.drop y.i with
 | []=>y.say [39]
 |c::r=>if c=39 then(y.go 1).say [39]
  else if c=123\/c=125\/c=35/\num=Y then y.nh (G r+2) (c::r)
  else y.say [39]
def Sc.one (s:T)(x:Sc):Sc:=
 match s[x.i]?with
 |none=>x
 |some c=>
  if c=39 then x.sx s x.kG
  else if c=123 then x.mU s
  else if c=125/\x.opens= []then x.fault 3 x.i
  else if c=125 then((x.go 1).put {kind:=93}).behind s
  else if c=35/\x.kG=Y then(x.go 1).put {kind:=35}
  else(x.go 1).say [c]
def rQ (s:T):Nat->Sc->Sc
 |0,x=>x
 |k+1,x=>if x.err=0/\x.i<G s then rQ s k (x.one s)else x
def eb (s:T):Sc:=
 let x:=rQ s (G s) {i:=0,o:=[],opens:=[],err:=0,place:=0}
 if x.err=0/\x.opens≠[]then x.fault 3 (G s) else x
end Dk
namespace Pg
open Dk Pn
abbrev T:=List UInt8
inductive Tr where
 |nil
 |text (t:T) (r:Tr)
 |sign (r:Tr)
 |simple (n:T) (a:Nat) (r:Tr)
 |num (n:T) (a:Nat) (r:Tr)
 |bj (n:T) (a:Nat) (bs:Tr) (e:Nat) (r:Tr)
 |bk (n:T) (a:Nat) (ord:Bool) (off:T) (bs:Tr) (e:Nat) (r:Tr)
 |br (w:T) (a:Nat) (m:Tr) (r:Tr)
def Tr.app:Tr->Tr->Tr
 |nil,u=>u
 |text t r,u=>text t<|r.app u
 |sign r,u=>sign<|r.app u
 |simple n a r,u=>simple n a<|r.app u
 |num n a r,u=>num n a<|r.app u
 |bj n a bs e r,u=>bj n a bs e<|r.app u
 |bk n a ord off bs e r,u=>bk n a ord off bs e<|r.app u
 |br w a m r,u=>br w a m<|r.app u
def Tr.UY (t:Tr):t.app nil=t:=by induction t<;>simp_all [Tr.app]
def Tr.arw (t a v:Tr):(t.app a).app v=t.app (a.app v):=by induction t<;>simp_all [Tr.app]
def nj:T:=[110,117,109,98,101,114]
def fk:T:=[112,108,117,114,97,108]
def dR:T:=[115,101,108,101,99,116,111,114,100,105,110,97,108]
def fC:T:=[115,101,108,101,99,116]
def flat (o:Nat->Nat):Tr->List da
 |.nil=>[]
 |.text t r=>{kind:=116,text:=t}::flat o r
 |.sign r=>{kind:=35}::flat o r
 |.simple n a r=>{kind:=112,name:=n,at_:=o a}::flat o r
 |.num n a r=>{kind:=110,name:=n,how:=nj,at_:=o a}::flat o r
 |.bj n a bs e r=>{kind:=40,name:=n,how:=fC,offset:=[48],at_:=o a}::(flat o bs++{kind:=41,at_:=o e}::flat o r)
 |.bk n a ord off bs e r=>{kind:=40,name:=n,how:=if ord then dR else fk,offset:=off,at_:=o a}::(flat o bs++{kind:=41,at_:=o e}::flat o r)
 |.br w a m r=>{kind:=91,text:=w,at_:=o a}::(flat o m++{kind:=93}::flat o r)
def Jw (o t a):flat o (t.app a)=flat o t++flat o a:=by induction t<;>simp_all [Tr.app,flat]
def bE (f:UInt8->Bool)(c:T):Bool:=match c with| [b]=>f b|_=>V
def cS (c:UInt8):Bool:=eF c||bu c
def bl (rs:List T)(p:Nat):Nat:=p+((rs.drop p).takeWhile<|bE jy).length
def cD (rs:List T)(p:Nat):List T:=(rs.drop p).takeWhile<|bE cS
def iy (rs:List T)(p:Nat):List T:=(rs.drop p).takeWhile<|bE bu
def fF (rs:List T)(p:Nat)(f:UInt8->Bool):Bool:=match rs[p]?with|some c=>bE f c|none=>V
def dS (rs:List T)(p:Nat):Sum Nat<|T×Nat:=if fF rs p bu=Y then .inl p else if G (cD rs p)=0 then .inl p else if 16<G (cD rs p) then .inl (p+16)else .inr ((cD rs p).flatten,p+G (cD rs p))
def i6 (rs:List T)(p:Nat):Sum Nat<|T×Nat:=if G (iy rs p)=0 then .inl p else if 1<G (iy rs p)/\rs[p]? =K [48]then .inl (p+1)else if 9<G (iy rs p) then .inl (p+9)else .inr ((iy rs p).flatten,p+G (iy rs p))
def io (num:Bool)(rs:List T)(p:Nat):Sum Nat<|T×Nat:=
 if num=V then dS rs p
 else if rs[p]? =K [61]then match i6 rs (p+1)with|.inl a=>.inl a|.inr (t,q)=>.inr (61::t,q)
 else if mF (cD rs p).flatten=Y then .inr ((cD rs p).flatten,p+G (cD rs p))else .inl p
def pE:T:=[111,102,102,115,101,116]
def lM (rs:List T)(p:Nat):Sum Nat<|T×Nat:=if(cD rs p).flatten=pE/\rs[p+G (cD rs p)]? =K [58]then i6 rs (bl rs<|p+G (cD rs p)+1)else .inr ([48],p)
def dk (num:Bool)(c:T):Bool:=c==[123]||c==[125]||(c==[35]&&num)
def bJ (num:Bool):Bool->List T->T×Nat
 |_,[]=>([],0)
 |q,c::r=>
  if q=V/\dk num c=Y then([],0)
  else if c≠[39]then(c++(bJ num q r).1,(bJ num q r).2+1)
  else match r with
   | []=>if q=Y then([],1)else([39],1)
   |d::r'=>if d= [39]then(39::(bJ num q r').1,(bJ num q r').2+2)
    else if q=Y\/dk num d=Y then((bJ num (!q)<|d::r').1,(bJ num (!q)<|d::r').2+1)
    else(39::(bJ num q<|d::r').1,(bJ num q<|d::r').2+1)
inductive dh where
 |ok (t:Tr) (q:Nat)
 |okB (t:Tr) (e q:Nat)
 |bad (e a:Nat)
def dh.pre (n:Tr):dh->dh
 |.ok t q=>.ok (n.app t) q
 |.okB t e q=>.okB (n.app t) e q
 |.bad e a=>.bad e a
def dh.bj (n:T)(p:Nat):dh->dh
 |.okB t e q=>.ok (.bj n p t e .nil) q
 |.ok t q=>.ok t q
 |.bad e a=>.bad e a
def dh.bk (n:T)(p:Nat)(ord:Bool)(off:T):dh->dh
 |.okB t e q=>.ok (.bk n p ord off t e .nil) q
 |.ok t q=>.ok t q
 |.bad e a=>.bad e a
def dh.Ro (a b)(r:dh):(r.pre b).pre a=r.pre (a.app b):=by cases r<;>simp[dh.pre,Tr.arw]
def dh.YB (r:dh):r.pre .nil=r:=by cases r<;>rfl
inductive Mode where
 |msg (d:Nat) (num:Bool)
 |arg (d:Nat)
 |dI (d:Nat) (num first:Bool)
inductive Rd (rs:List T):Mode->Nat->dh->Prop
 |stop {d num p} (h:rs[p]? =O\/rs[p]? =K [125]):Rd rs (.msg d num) p<|.ok .nil p
 |Oz {d num p e a} (h:rs[p]? =K [123]) (h1:Rd rs (.arg d) p<|.bad e a):Rd rs (.msg d num) p<|.bad e a
 |tp {d num p n q res} (h:rs[p]? =K [123]) (h1:Rd rs (.arg d) p<|.ok n q) (h2:Rd rs (.msg d num) q res):Rd rs (.msg d num) p<|res.pre n
 |sign {d p res} (h:rs[p]? =K [35]) (h1:Rd rs (.msg d Y) (p+1) res):Rd rs (.msg d Y) p<|res.pre<|.sign .nil
 |said {d num p c res} (h:rs[p]? =K c) (hs:dk num c=V) (h1:Rd rs (.msg d num) (p+(bJ num V<|rs.drop p).2) res):Rd rs (.msg d num) p<|res.pre<|.text (bJ num V<|rs.drop p).1 .nil
 |MC {d p a} (h:dS rs (bl rs<|p+1)=.inl a):Rd rs (.arg d) p<|.bad 3 a
 |simple {d p n q} (h:dS rs (bl rs<|p+1)=.inr (n,q)) (h1:rs[bl rs q]? =K [125]):Rd rs (.arg d) p<|.ok (.simple n p .nil)<|bl rs q+1
 |Oe {d p n q} (h:dS rs (bl rs<|p+1)=.inr (n,q)) (h1:rs[bl rs q]?≠K [125]) (h2:rs[bl rs q]?≠K [44]):Rd rs (.arg d) p<|.bad 3<|bl rs q
 |C5 {d p n q k} (h:dS rs (bl rs<|p+1)=.inr (n,q)) (h2:rs[bl rs q]? =K [44]) (hk:k=bl rs (bl rs q+1)) (h3:fo (cD rs k).flatten=4):Rd rs (.arg d) p<|.bad 3 k
 |Mo {d p n q k j} (h:dS rs (bl rs<|p+1)=.inr (n,q)) (h2:rs[bl rs q]? =K [44]) (hk:k=bl rs (bl rs q+1)) (h3:(cD rs k).flatten=nj) (hj:j=bl rs (k+G (cD rs k))) (h4:rs[j]?≠K [125]):Rd rs (.arg d) p<|.bad 3 j
 |num {d p n q k j} (h:dS rs (bl rs<|p+1)=.inr (n,q)) (h2:rs[bl rs q]? =K [44]) (hk:k=bl rs (bl rs q+1)) (h3:(cD rs k).flatten=nj) (hj:j=bl rs (k+G (cD rs k))) (h4:rs[j]? =K [125]):Rd rs (.arg d) p<|.ok (.num n p .nil)<|j+1
 |JU {d p n q k j} (h:dS rs (bl rs<|p+1)=.inr (n,q)) (h2:rs[bl rs q]? =K [44]) (hk:k=bl rs (bl rs q+1)) (h3:(cD rs k).flatten=fC\/(cD rs k).flatten=fk\/(cD rs k).flatten=dR) (hj:j=bl rs (k+G (cD rs k))) (h4:rs[j]?≠K [44]):Rd rs (.arg d) p<|.bad 3 j
 |bj {d p n q k j res} (h:dS rs (bl rs<|p+1)=.inr (n,q)) (h2:rs[bl rs q]? =K [44]) (hk:k=bl rs (bl rs q+1)) (h3:(cD rs k).flatten=fC) (hj:j=bl rs (k+G (cD rs k))) (h4:rs[j]? =K [44]) (h5:Rd rs (.dI d V Y) (bl rs<|j+1) res):Rd rs (.arg d) p<|res.bj n p
 |Mm {d p n q k j a} (h:dS rs (bl rs<|p+1)=.inr (n,q)) (h2:rs[bl rs q]? =K [44]) (hk:k=bl rs (bl rs q+1)) (h3:(cD rs k).flatten=fk\/(cD rs k).flatten=dR) (hj:j=bl rs (k+G (cD rs k))) (h4:rs[j]? =K [44]) (h5:lM rs (bl rs<|j+1)=.inl a):Rd rs (.arg d) p<|.bad 3 a
 |bk {d p n q k j ord off i res} (h:dS rs (bl rs<|p+1)=.inr (n,q)) (h2:rs[bl rs q]? =K [44]) (hk:k=bl rs (bl rs q+1)) (h3:(cD rs k).flatten=if ord=Y then dR else fk) (hj:j=bl rs (k+G (cD rs k))) (h4:rs[j]? =K [44]) (h5:lM rs (bl rs<|j+1)=.inr (off,i)) (h6:Rd rs (.dI d Y Y) i res):Rd rs (.arg d) p<|res.bk n p ord off
 |DS {d num p} (h:rs[bl rs p]? =K [125]):Rd rs (.dI d num V) p<|.okB .nil (bl rs p)<|bl rs p+1
 |JH {d num first p a} (h:first=Y\/rs[bl rs p]?≠K [125]) (h1:io num rs (bl rs p)=.inl a):Rd rs (.dI d num first) p<|.bad 3 a
 |JI {d num first p w q} (h:first=Y\/rs[bl rs p]?≠K [125]) (h1:io num rs (bl rs p)=.inr (w,q)) (h2:rs[bl rs q]?≠K [123]):Rd rs (.dI d num first) p<|.bad 3<|bl rs q
 |JK {num first p w q} (h:first=Y\/rs[bl rs p]?≠K [125]) (h1:io num rs (bl rs p)=.inr (w,q)) (h2:rs[bl rs q]? =K [123]):Rd rs (.dI 6 num first) p<|.bad 4<|bl rs q
 |JJ {d num first p w q e a} (h:first=Y\/rs[bl rs p]?≠K [125]) (h1:io num rs (bl rs p)=.inr (w,q)) (h2:rs[bl rs q]? =K [123]) (hd:d<6) (h3:Rd rs (.msg (d+1) num) (bl rs q+1)<|.bad e a):Rd rs (.dI d num first) p<|.bad e a
 |JL {d num first p w q m j} (h:first=Y\/rs[bl rs p]?≠K [125]) (h1:io num rs (bl rs p)=.inr (w,q)) (h2:rs[bl rs q]? =K [123]) (hd:d<6) (h3:Rd rs (.msg (d+1) num) (bl rs q+1)<|.ok m j) (h4:rs[j]?≠K [125]):Rd rs (.dI d num first) p<|.bad 3 j
 |dI {d num first p w q m j res} (h:first=Y\/rs[bl rs p]?≠K [125]) (h1:io num rs (bl rs p)=.inr (w,q)) (h2:rs[bl rs q]? =K [123]) (hd:d<6) (h3:Rd rs (.msg (d+1) num) (bl rs q+1)<|.ok m j) (h4:rs[j]? =K [125]) (h5:Rd rs (.dI d num V) (j+1) res):Rd rs (.dI d num first) p<|res.pre<|.br w (bl rs p) m .nil
def Cp (c:T):Prop:=(∃b:UInt8,c= [b]/\b.toNat<128)\/(2<=G c/\∀b∈c,128<=b.toNat)
def eT (rs:List T):Prop:=∀c∈rs,Cp c
def o (rs:List T)(p:Nat):Nat:=((rs.take p).flatten).length
def Cp.ne {c}(h:Cp c):c≠[]:=by rcases h with⟨b,rfl,_⟩|⟨h,_⟩;{simp};{rintro rfl;simp at h}
def qL {rs:List T}{p:Nat}{c}(h:rs[p]? =K c):o rs (p+1)=o rs p+G c:=by have b:p<G rs:=by{rcases dM p (G rs) with a|a;{exact a};{rw[iH a]at h;cases h}};rw[bR b]at h;injection h with h;unfold o;rw[K7 b,rE,h];simp
def uA (rs:List T)(p):rs.flatten.drop (o rs p)=(rs.drop p).flatten:=by unfold o;(conv=>lhs;rw[<-pu p rs,rE]);rw[pu];simp
def RM (rs p)(h:G rs<=p):o rs p=G rs.flatten:=by unfold o;rw[jY h]
def RN (rs p):o rs p<=G rs.flatten:=by unfold o;(conv=>rhs;rw[<-pu p rs,rE,j]);exact rD _ _
def ue {rs}(b:eT rs){p c}(h:rs[p]? =K c):o rs p<G rs.flatten:=by have d:=qL h;have e:=RN rs<|p+1;have a:=(b c<|fP h).ne;have:0<G c:=pw.2 a;omega
def kV {rs}(e:eT rs)(p):rs.flatten[o rs p]? =(rs[p]?).bind List.head?:=by have h:=eD List.head?<|uA rs p;rw[rG]at h;rw[h];cases hd:rs.drop p with|nil=>have:G rs<=p:=wq.1 hd;rw[iH this];rfl|cons c f=>{have a:rs[p]? =K c:=by{have:=eD List.head? hd;rw[rG]at this;simpa using this};rw[a];have d:=(e c<|fP a).ne;cases c with|nil=>exact absurd rfl d|cons b f=>{simp}}
def gr {rs}(f:eT rs)(p b)(k:b.toNat<128):rs.flatten[o rs p]? =K b↔rs[p]? =K [b]:=by rw[kV f];cases h:rs[p]?with|none=>simp|some c=>{rcases f c (fP h)with⟨j,rfl,l⟩|⟨e,g⟩;{simp};{cases c with|nil=>simp at e|cons d i=>{have:=g d z;constructor;{intro a;have a:d=b:=by{simpa using a};rw[a]at this;omega};{intro a;have a:d::i= [b]:=by{simpa using a};rw[a]at e;simp at e}}}}
def tw (f)(m:∀b,f b=Y->b.toNat<128):∀(a:List T),eT a->a.flatten.takeWhile f=(a.takeWhile<|bE f).flatten/\(a.takeWhile<|bE f).flatten.length=G (a.takeWhile<|bE f):=by intro a;induction a with|nil=>intro _;exact⟨rfl,rfl⟩|cons c a p=>{intro h;obtain⟨n,o⟩:=p<|λc l=>h c<|mn _ l;rcases h c z with⟨b,rfl,k⟩|⟨e,i⟩;{by_cases d:f b=Y;{simp[bE,d,n,o]};{simp[bE,d]}};{have j:bE f c=V:=by{unfold bE;split;{simp at e};{rfl}};cases c with|nil=>simp at e|cons b q=>{have k:=i b z;have d:¬f b=Y:=λg=>by{have:=m b g;omega};simp[j,d]}}}
def eT.drop {rs}(h:eT rs)(p):eT<|rs.drop p:=λc a=>h c<|K6 a
def zk {rs}(f p n)(j:n<=G ((rs.drop p).takeWhile<|bE f)):o rs (p+n)=o rs p+n:=by induction n with|zero=>rfl|succ n h=>{have i:=h S;have b:n<G ((rs.drop p).takeWhile<|bE f):=S;have a:bE f (((rs.drop p).takeWhile<|bE f)[n])=Y:=by{have:=K5 (l:=rs.drop p) (p:=bE f);exact K4.1 this _<|ox b};have d:(rs.drop p)[n]? =K (((rs.drop p).takeWhile<|bE f)[n]):=by{have:=(pT (bE f) (l:=rs.drop p)).getElem b;rw[bR<|du b (pT _).length_le];rw[this]};rw[uX]at d;have e:=qL d;have g:G (((rs.drop p).takeWhile<|bE f)[n])=1:=by{generalize((rs.drop p).takeWhile<|bE f)[n]=c at a⊢;unfold bE at a;split at a;{rfl};{cases a}};rw[g]at e;rw[<-qD];omega}
def kE (b)(h:jy b=Y):b.toNat<128:=by simp only[jy,qC,ef]at h;rcases h with((rfl|rfl)|rfl)|rfl<;>decide
def C7 (b)(h:bu b=Y):b.toNat<128:=by simp only[bu,xB]at h;omega
def al7 (b)(h:eF b=Y):b.toNat<128:=by simp only[eF,qC,xB,ef]at h;rcases h with(h|h)|rfl;{omega};{omega};{decide}
def rS (b)(h:cS b=Y):b.toNat<128:=by simp only[cS,qC]at h;rcases h with h|h;{exact al7 b h};{exact C7 b h}
end Pg
namespace Pg
open Dk Pn Pr
def uD {rs}(a:eT rs){x:Dk.Sc}{p}(hi:x.i=o rs p):x.bD rs.flatten={x with i:=o rs<|bl rs p}:=by unfold Dk.Sc.bD Dk.Sc.go bl;rw[hi,uA,(tw _ kE _<|a.drop p).1,(tw _ kE _<|a.drop p).2,zk jy p _<|r _]
def UZ (c)(h:eF c=Y):bu c=V:=by simp only[eF,qC,xB,ef]at h;simp only[bu,G2];rcases h with(h|h)|rfl;{omega};{omega};{decide}
def D3:∀(b:T) (n:Nat),1<=n->n<=16->nT n b=min 16 (n+G (b.takeWhile cS)):=by intro b;induction b with|nil=>intro n _ h;simp[nT];omega|cons c j f=>{intro n g i;rw[nT];by_cases a:cS c=Y;{have e:eF c=Y\/n≠0/\bu c=Y:=by{simp only[cS,qC]at a;rcases a with h|h;{exact .inl h};{exact .inr ⟨S,h⟩}};by_cases d:n<16;{rw[t ⟨d,e⟩,f (n+1) S S,jl,t a];simp only[bB];omega};{rw[A<|λh=>d h.1];omega}};{rw[A ?_,jl,A a];{simp;omega};{rintro⟨_,h|h⟩;{exact a<|by simp[cS,h]};{exact a<|by simp[cS,h.2]}}}}
def Zk (l:T):eO l=if(l.head?.any bu)=Y then 0 else min 16 (G<|l.takeWhile cS):=by cases l with|nil=>rfl|cons c b=>{unfold eO;rw[nT,show((c::b).head?.any bu)=bu c from rfl];by_cases a:eF c=Y;{rw[t ⟨S,.inl a⟩,D3 b 1 S S,A (by rw[UZ c a];simp),jl,t<|by simp[cS,a]];simp only[bB];omega};{rw[A (by rintro⟨_,h|h⟩;exact a h;exact h.1 rfl)];by_cases hd:bu c=Y;{rw[t hd]};{rw[A hd,jl,A<|by simp[cS,a,hd]];rfl}}}
def D9 (z):∀(b:T) (n:Nat),1<=n->n<=9->(z=Y->2<=n)->oz z n b=min 9 (n+G (b.takeWhile bu)):=by intro b;induction b with|nil=>intro n _ h _;simp[oz];omega|cons c j f=>{intro n g i d;rw[oz];by_cases a:bu c=Y;{by_cases e:n<9;{rw[t ⟨e,a,λh=>by have:=d h.2;omega⟩,f (n+1) S S (λh=>by have:=d h;omega),jl,t a];simp only[bB];omega};{rw[A<|λh=>e h.1];omega}};{rw[A<|λh=>a h.2.1,jl,A a];simp;omega}}
def WO (l:T):rK l=if l.head?=K 48 then 1 else min 9 (G<|l.takeWhile bu):=by cases l with|nil=>rfl|cons c a=>{unfold rK;obtain⟨e,f⟩:∃e,((c::a).head?==K (48:UInt8))=e:=⟨_,rfl⟩;rw[f,oz];by_cases hd:bu c=Y;{rw[t ⟨S,hd,S⟩];by_cases b:c=48;{have j:e=Y:=by{rw[<-f,b];rfl};rw[t (show(c::a).head?=K 48 by rw[b];rfl),j];cases a with|nil=>rfl|cons d a=>{rw[oz,A];simp}};{have i:e=V:=by{rw[<-f];simpa using b};rw[A (show¬(c::a).head?=K 48 by simpa using b),i,D9 V a 1 S S z,jl,t hd];simp only[bB];omega}};{rw[A<|λh=>hd h.2.1,jl,A hd,A<|show¬(c::a).head?=K 48 fromλg=>hd<|by{have:c=48:=by{simpa using g};rw[this];decide}];rfl}}
def Ea {rs}(g:eT rs)(p f)(l:∀b,f b=Y->b.toNat<128):((rs.drop p).flatten.head?.any f)=fF rs p f:=by rw[<-uA,rG,kV g,fF];cases h:rs[p]?with|none=>rfl|some c=>{rcases g c (fP h)with⟨b,rfl,e⟩|⟨a,k⟩;{rfl};{cases c with|nil=>simp at a|cons b i=>{cases i with|nil=>simp at a|cons d i=>{have:=k b z;have e:f b=V:=by{cases j:f b with|false=>rfl|true=>{have:=l b j;omega}};simp[bE,e]}}}}
def LM {rs}(a:eT rs)(f)(c:∀b,f b=Y->b.toNat<128)(p):((rs.flatten).drop<|o rs p).take (G<|(rs.drop p).takeWhile<|bE f)=((rs.drop p).takeWhile<|bE f).flatten:=by rw[uA,<-(tw f c _<|a.drop p).2,<-(tw f c _<|a.drop p).1];exact(Wi.1<|pT f).symm
def DV {rs}(f p n)(a:n<G ((rs.drop p).takeWhile<|bE f)):fF rs (p+n) f=Y:=by have c:bE f (((rs.drop p).takeWhile<|bE f)[n])=Y:=by{have:=K5 (l:=rs.drop p) (p:=bE f);exact K4.1 this _<|ox a};have b:(rs.drop p)[n]? =K (((rs.drop p).takeWhile<|bE f)[n]):=by{have:=(pT (bE f) (l:=rs.drop p)).getElem a;rw[bR<|du a (pT _).length_le];rw[this]};rw[uX]at b;unfold fF;rw[b];exact c
def RR {rs}(c:eT rs){x:Dk.Sc}{p}(hi:x.i=o rs p)(g:x.err=0):(∀n q,dS rs p=.inr (n,q)->x.name rs.flatten={x with i:=o rs q}/\x.fm rs.flatten=n)/\(∀a,dS rs p=.inl a->x.name rs.flatten={x with err:=3,place:=o rs a}/\a=p/\x.fm rs.flatten= []\/x.name rs.flatten={x with i:=o rs a}/\fF rs a cS=Y/\G (x.fm rs.flatten)=16):=by have k:eO (rs.flatten.drop x.i)=if fF rs p bu=Y then 0 else min 16 (G<|cD rs p):=by{rw[hi,uA,Zk,Ea c p _ C7,(tw _ rS _<|c.drop p).1,(tw _ rS _<|c.drop p).2];rfl};have j:((rs.flatten).drop x.i).take (G<|cD rs p)=(cD rs p).flatten:=by{rw[hi];exact LM c cS rS p};have l:G ((rs.flatten).drop x.i)>=G (cD rs p):=by{rw[hi,uA];have b:(cD rs p).flatten.length<=(rs.drop p).flatten.length:=by{have:=(tw _ rS _<|c.drop p).1;show((rs.drop p).takeWhile<|bE cS).flatten.length<=_;rw[<-this];exact(pT _).length_le};have d:(cD rs p).flatten.length=G (cD rs p):=(tw _ rS _<|c.drop p).2;omega};unfold dS Dk.Sc.name Dk.Sc.fm Dk.Sc.next;rw[k];constructor;{intro n q h;split at h;{cases h};rename_i b;split at h;{cases h};rename_i d;split at h;{cases h};rename_i f;injection h with h;injection h with h4 h5;have e:min 16 (G<|cD rs p)=G (cD rs p):=S;rw[A b,e,A d];refine⟨?_,by rw[j,h4]⟩;rw[<-h5,Dk.Sc.go,hi,<-zk cS p (G<|cD rs p)<|r _]};{intro a h;split at h;{rename_i b;injection h with h;left;rw[t b];simp only[eU,Dk.Sc.fault,t g,Dk.Sc.go,lr,yS,Av,<-h];rw[hi]};rename_i b;split at h;{rename_i d;injection h with h;left;rw[A b,d];simp only[Nat.min_zero,eU,Dk.Sc.fault,t g,Dk.Sc.go,lr,yS,Av,<-h];rw[hi]};rename_i d;split at h;{rename_i f;injection h with h;right;have e:min 16 (G<|cD rs p)=16:=S;rw[A b,e,A S,<-h];refine⟨?_,DV cS p 16 f,by rw[gT];omega⟩;rw[Dk.Sc.go,zk cS p 16 (by show 16<=G (cD rs p);omega),hi]};{cases h}}
def WK {rs}(e:eT rs){x:Dk.Sc}{p}(hi:x.i=o rs p)(r:x.err=0):(∀n q,i6 rs p=.inr (n,q)->x.whole rs.flatten={x with i:=o rs q}/\x.m_ rs.flatten=n)/\(∀a,i6 rs p=.inl a->x.whole rs.flatten={x with err:=3,place:=o rs a}\/x.whole rs.flatten={x with i:=o rs a}/\fF rs a bu=Y):=by have m:((rs.flatten).drop x.i).take (G<|iy rs p)=(iy rs p).flatten:=by{rw[hi];exact LM e bu C7 p};have s:(rs.drop p).flatten.head?=K 48↔rs[p]? =K [48]:=by{rw[<-uA,rG];exact gr e p 48 P};have t:rK (rs.flatten.drop x.i)=if rs[p]? =K [48]then 1 else min 9 (G<|iy rs p):=by{rw[hi,uA,WO,(tw _ C7 _<|e.drop p).1,(tw _ C7 _<|e.drop p).2];simp only[s];rfl};have l:rs[p]? =K [48]->1<=G (iy rs p):=by{intro h;have hd:rs.drop p= [48]::rs.drop (p+1):=by{have k:p<G rs:=by{rcases dM p (G rs) with f|f;{exact f};{rw[iH f]at h;cases h}};rw[dG k];rw[bR k]at h;injection h with h;rw[h]};unfold iy;rw[hd,jl,aP P];simp};unfold i6 Dk.Sc.whole Dk.Sc.m_ Dk.Sc.next;rw[t];constructor;{intro n q h;split at h;{cases h};rename_i g;split at h;{cases h};rename_i b;split at h;{cases h};rename_i j;injection h with h;injection h with h4 h5;have d:(if rs[p]? =K [48]then 1 else min 9 (G<|iy rs p))=G (iy rs p):=by{split;{rename_i c;have:¬1<G (iy rs p):=λh=>b ⟨h,c⟩;omega};{omega}};rw[d,A g];refine⟨?_,by rw[m,h4]⟩;rw[<-h5,Dk.Sc.go,hi,<-zk bu p (G<|iy rs p)<|aO _]};{intro a h;split at h;{rename_i g;injection h with h;left;have d:(if rs[p]? =K [48]then 1 else min 9 (G<|iy rs p))=0:=by{split;{rename_i c;have:=l c;omega};{omega}};rw[d];simp only[eU,Dk.Sc.fault,aP r,Dk.Sc.go,lr];rw[hi,h]};rename_i g;split at h;{rename_i b;injection h with h;right;rw[aP b.2,A S,<-h];refine⟨?_,DV bu p 1 b.1⟩;rw[Dk.Sc.go,zk bu p 1 (by show 1<=G (iy rs p);omega),hi]};rename_i b;split at h;{rename_i j;injection h with h;right;have c:¬rs[p]? =K [48]:=λh=>b ⟨S,h⟩;have d:min 9 (G<|iy rs p)=9:=S;rw[A c,d,A S,<-h];refine⟨?_,DV bu p 9 j⟩;rw[Dk.Sc.go,zk bu p 9 (by show 9<=G (iy rs p);omega),hi]};{cases h}}
def dt (x:Dk.Sc)(e a:Nat):Prop:=x.err=e/\x.place=a/\e≠0
def dt.go {x e a}(h:dt x e a)(n):dt (x.go n) e a:=h
def dt.put {x e a}(h:dt x e a)(m):dt (x.put m) e a:=h
def dt.bD {x e a}(h:dt x e a)(s:T):dt (x.bD s) e a:=h
def dt.fault {x e a}(h:dt x e a)(f b):dt (x.fault f b) e a:=by unfold Dk.Sc.fault;rw[A (by rw[h.1];exact h.2.2)];exact h
def dt.new {x:Dk.Sc}(b:x.err=0)(e a)(h:e≠0):dt (x.fault e a) e a:=by unfold Dk.Sc.fault;rw[t b];exact⟨rfl,rfl,h⟩
def dt.name {x e a}(h:dt x e a)(s:T):dt (x.name s) e a:=by unfold Dk.Sc.name;split;{exact(h.fault _ _).go _};{exact h.go _}
def dt.whole {x e a}(h:dt x e a)(s:T):dt (x.whole s) e a:=by unfold Dk.Sc.whole;split;{exact(h.fault _ _).go _};{exact h.go _}
def dt.needs {x e a}(h:dt x e a)(s:T)(c):dt (x.needs s c) e a:=by unfold Dk.Sc.needs;split;{exact h.go _};{exact h.fault _ _}
def dt.opened {x e a}(h:dt x e a)(s:T)(num m):dt (x.opened s num m) e a:=by have b:=(h.bD s).needs s 123;unfold Dk.Sc.opened;simp only;split;{exact b.fault _ _};{exact b}
def dt.branch {x e a}(h:dt x e a)(s:T)(num):dt (x.branch s num) e a:=by unfold Dk.Sc.branch;rw[t (by rw[h.1];exact h.2.2)];exact h
def Iv {rs}(b:eT rs){x:Dk.Sc}{p}(hi:x.i=o rs p)(e:x.err=0)(c)(a:c.toNat<128):(rs[p]? =K [c]->x.needs rs.flatten c={x with i:=o rs<|p+1})/\(rs[p]?≠K [c]->dt (x.needs rs.flatten c) 3 (o rs p)):=by unfold Dk.Sc.needs;rw[hi];constructor;{intro h;rw[t<|(gr b p c a).2 h,qL h,Dk.Sc.go,hi];rfl};{intro h;rw[A<|λd=>h<|(gr b p c a).1 d];exact dt.new e 3 _ S}
def Oq {rs p f}(h:fF rs p f=Y)(g:∀b,f b=Y->jy b=V):bl rs p=p:=by unfold fF at h;split at h;{rename_i c a;have e:p<G rs:=by{rcases dM p (G rs) with d|d;{exact d};{rw[iH d]at a;cases a}};unfold bl;rw[bR e]at a;injection a with a;rw[dG e,a,jl,A];{rfl};{unfold bE at h⊢;split at h;{rw[g _ h];simp};{cases h}}};{cases h}
def It {rs p f}(h:fF rs p f=Y)(c)(b:f c=V):rs[p]?≠K [c]:=by intro a;rw[fF,a]at h;simp only[bE]at h;rw[b]at h;cases h
def Fc (b)(h:cS b=Y):jy b=V:=by cases a:jy b with|false=>rfl|true=>{simp only[jy,qC,ef]at a;rcases a with((rfl|rfl)|rfl)|rfl<;>exact absurd h P}
def SB (b)(h:bu b=Y):jy b=V:=Fc b (by simp[cS,h])
def CS {rs}(c:eT rs){x:Dk.Sc}{p}(hi:x.i=o rs p)(d:x.err=0)(num m):(rs[bl rs p]?≠K [123]->dt (x.opened rs.flatten num m) 3 (o rs<|bl rs p))/\(rs[bl rs p]? =K [123]->G x.opens+2<=6->x.opened rs.flatten num m={x with i:=o rs<|bl rs p+1,opens:=x.opens++[num],o:=x.o++[m]})/\(rs[bl rs p]? =K [123]->6<G x.opens+2->dt (x.opened rs.flatten num m) 4 (o rs<|bl rs p)):=by have a:=Iv c (x:={x with i:=o rs<|bl rs p}) (p:=bl rs p) rfl d 123 P;unfold Dk.Sc.opened;rw[uD c hi];simp only;refine⟨λh=>?_,λh b=>?_,λh b=>?_⟩;{have:=a.2 h;split;{exact this.fault _ _};{exact this}};{rw[a.1 h];simp only;rw[A S]};{rw[a.1 h];simp only;rw[t b];have:=dt.new (x:={x with i:=o rs<|bl rs p+1}) d 4 (o rs<|bl rs p) P;exact this}
def Ok (t:T)(h:mF t=Y):0<G t/\G t<=5/\eF (t.headD 0)=Y:=by have:t= [122,101,114,111]\/t= [111,110,101]\/t= [116,119,111]\/t= [102,101,119]\/t= [109,97,110,121]\/t= [111,116,104,101,114]:=by{simpa[mF,lQ,Er]using h};rcases this with rfl|rfl|rfl|rfl|rfl|rfl<;>decide
def Lu {rs}(p c)(h:(cD rs p).flatten.head?=K c):rs[p]? =K [c]:=by unfold cD at h;cases hd:rs.drop p with|nil=>rw[hd]at h;simp at h|cons d f=>{have e:rs[p]? =K d:=by{have:=eD List.head? hd;rw[rG]at this;simpa using this};rw[hd,jl]at h;split at h;{rename_i a;unfold bE at a;split at a;{rename_i b;simp at h;rw[e,h]};{cases a}};{simp at h}}
def Zn {rs}(e:eT rs)(p)(b:eF ((cD rs p).flatten.headD 0)=Y)(d:0<(cD rs p).flatten.length)(f:(cD rs p).flatten.length<=16):dS rs p=.inr ((cD rs p).flatten,p+G (cD rs p)):=by have g:(cD rs p).flatten.length=G (cD rs p):=(tw _ rS _<|e.drop p).2;have hd:fF rs p bu=V:=by{cases a:(cD rs p).flatten with|nil=>rw[a]at d;simp at d|cons c h=>{have:=Lu p c (by rw[a];rfl);rw[a]at b;unfold fF;rw[this];exact UZ c b}};unfold dS;rw[hd,A z,A S,A S]
def DT {rs}(l:eT rs){x:Dk.Sc}{p}(hi:x.i=o rs p)(j:x.err=0)(num):(∀w q,io num rs p=.inr (w,q)->x.branch rs.flatten num=({x with i:=o rs q}:Dk.Sc).opened rs.flatten num {kind:=91,text:=w,at_:=o rs p})/\(∀a,io num rs p=.inl a->dt (x.branch rs.flatten num) 3 (o rs a)):=by have k:=RR l hi j;unfold Dk.Sc.branch;rw[aL (by rw[j];simp)];cases num with|false=>{simp only[uY,false_and,fX];unfold io;rw[aP rfl];constructor;{intro w q h;obtain⟨d,e⟩:=k.1 w q h;rw[d,e,hi]};{intro a h;rcases k.2 a h with⟨d,_,_⟩|⟨d,e,_⟩;{rw[d];exact dt.opened (e:=3) ⟨rfl,rfl,P⟩ _ _ _};{rw[d];have u:=Oq e Fc;have:=(CS l (x:={x with i:=o rs a}) (p:=a) rfl j V {kind:=91,text:=x.fm rs.flatten,at_:=x.i}).1;rw[u]at this;exact this<|It e 123 P}}}|true=>{simp only[tR];rw[hi];simp only[gr l p 61 P];unfold io;rw[aL aN];by_cases m:rs[p]? =K [61];{rw[aP m,aP m];have A:(x.go 1).i=o rs (p+1):=by{rw[Dk.Sc.go,qL m,hi];rfl};have v:=WK l A j;have y:x.go 1={x with i:=o rs<|p+1}:=by{rw[Dk.Sc.go,qL m,hi];rfl};constructor;{intro w q h;split at h;{cases h};{rename_i t C g;injection h with h;injection h with f s;obtain⟨d,e⟩:=v.1 t C g;rw[d,e,f,s,y]}};{intro a h;split at h;{rename_i a' g;injection h with h;rw[<-h];rcases v.2 a' g with d|⟨d,e⟩;{rw[d];exact dt.opened (e:=3) ⟨rfl,rfl,P⟩ _ _ _};{rw[d];have u:=Oq e SB;have:=(CS l (x:={x.go 1 with i:=o rs a'}) (p:=a') rfl j Y {kind:=91,text:=61::(x.go 1).m_ rs.flatten,at_:=o rs p}).1;rw[u]at this;exact this<|It e 123 P}};{cases h}}};{rw[aL m,aL m];by_cases r:mF (cD rs p).flatten=Y;{obtain⟨c1,c2,c3⟩:=Ok _ r;have B:=Zn l p c3 c1 S;obtain⟨d,e⟩:=k.1 _ _ B;rw[aP r];constructor;{intro w q h;injection h with h;injection h with f s;rw[e,d,r,<-f,<-s];simp};{intro a h;cases h}};{rw[aL r];constructor;{intro w q h;cases h};{intro a h;injection h with h;rw[<-h];have z:mF (x.fm rs.flatten)=V:=by{cases c:dS rs p with|inl b=>{rcases k.2 b c with⟨_,_,f⟩|⟨_,_,f⟩;{rw[f];decide};{cases g:mF (x.fm rs.flatten)with|false=>rfl|true=>{have:=Ok _ g;omega}}}|inr nq=>{obtain⟨n,q⟩:=nq;rw[(k.1 n q c).2];have:n=(cD rs p).flatten:=by{unfold dS at c;split at c;{cases c};split at c;{cases c};split at c;{cases c};injection c with c;injection c with c _;exact c.symm};rw[this];simpa using r}};rw[aP z];refine dt.opened ?_ _ _ _;cases c:dS rs p with|inl b=>{rcases k.2 b c with⟨f,s,_⟩|⟨f,_⟩;{rw[f,s];exact dt.fault (e:=3) ⟨rfl,rfl,P⟩ _ _};{rw[f];exact dt.new (x:={x with i:=o rs b}) j 3 _ P}}|inr nq=>{obtain⟨n,q⟩:=nq;rw[(k.1 n q c).1];exact dt.new (x:={x with i:=o rs q}) j 3 _ P}}}}}
end Pg
namespace Pg
open Dk Pn
def LF {b:Type}(f)(l:List b)(n)(h:n=G (l.takeWhile f)):(l.drop n).takeWhile f= []:=by subst h;induction l with|nil=>rfl|cons c e d=>{by_cases a:f c=Y;{simp[a,d]};{simp[a]}}
def JP (rs p):bl rs (bl rs p)=bl rs p:=by have h:=LF (bE jy) (rs.drop p) _ rfl;rw[sP]at h;show bl rs p+G ((rs.drop<|bl rs p).takeWhile<|bE jy)=bl rs p;have a:(rs.drop<|bl rs p).takeWhile (bE jy)= []:=h;rw[a];rfl
def ZN (t:T)(h:fo t≠4):0<G t/\G t<=13/\eF (t.headD 0)=Y:=by unfold fo at h;split at h;{rename_i a;rw[a];decide};split at h;{rename_i a;rw[a];decide};split at h;{rename_i a;rw[a];decide};split at h;{rename_i a;rw[a];decide};{exact absurd rfl h}
def RU {rs p n q}(h:dS rs p=.inr (n,q)):n=(cD rs p).flatten/\q=p+G (cD rs p):=by unfold dS at h;split at h;{cases h};split at h;{cases h};split at h;{cases h};injection h with h;injection h with h1 h2;exact⟨h1.symm,h2.symm⟩
def als {rs}(m:eT rs){x:Dk.Sc}{k}(hi:x.i=o rs k)(f:x.err=0):(fo (cD rs k).flatten=4->fo (x.fm rs.flatten)=4/\dt ((x.name rs.flatten).fault 3<|o rs k) 3 (o rs k))/\(fo (cD rs k).flatten≠4->x.fm rs.flatten=(cD rs k).flatten/\x.name rs.flatten={x with i:=o rs<|k+G (cD rs k)}):=by have g:=RR m hi f;constructor;{intro h;cases j:dS rs k with|inl a=>{rcases g.2 a j with⟨b,c,l⟩|⟨b,c,l⟩;{rw[l,b,c];exact⟨P,dt.fault (e:=3) ⟨rfl,rfl,P⟩ _ _⟩};{refine⟨?_,?_⟩;{rcases Nat.decEq (fo<|x.fm rs.flatten) 4 with d|d;{have:=ZN _ d;omega};{exact d}};{rw[b];exact dt.new (x:={x with i:=o rs a}) f 3 _ P}}}|inr nq=>{obtain⟨n,q⟩:=nq;obtain⟨b,c⟩:=g.1 n q j;rw[c,b,(RU j).1];exact⟨h,dt.new (x:={x with i:=o rs q}) f 3 _ P⟩}};{intro h;obtain⟨r,t,s⟩:=ZN _ h;have p:=Zn m k s r S;obtain⟨b,c⟩:=g.1 _ _ p;exact⟨c,b⟩}
def afM (L:T):L.take 7=zj↔L.takeWhile cS=pE/\L[6]? =K 58:=by constructor;{intro h;have b:=pu 7 L;rw[h]at b;rw[<-b];have f:∀d:T,(zj++d).takeWhile cS=pE:=by{intro d;simp only[zj,b6,im,jl,pE];simp[show cS 111=Y from P,show cS 102=Y from P,show cS 115=Y from P,show cS 101=Y from P,show cS 116=Y from P,show cS 58=V from P]};exact⟨f _,by simp[zj]⟩};{rintro⟨b,a⟩;have e:=PG (p:=cS) (l:=L);rw[b]at e;rw[<-e]at a⊢;cases hd:L.dropWhile cS with|nil=>rw[hd]at a;simp[pE]at a|cons c g=>{rw[hd]at a;have:c=58:=by{simpa[pE]using a};rw[this];rfl}}
def aj7 {rs}(c:eT rs){x:Dk.Sc}{p}(hi:x.i=o rs p):x.next rs.flatten 7=zj↔(cD rs p).flatten=pE/\rs[p+G (cD rs p)]? =K [58]:=by unfold Dk.Sc.next;rw[hi,afM,uA,(tw _ rS _<|c.drop p).1];constructor;{rintro⟨a,b⟩;refine⟨a,?_⟩;have f:(cD rs p).flatten.length=G (cD rs p):=(tw _ rS _<|c.drop p).2;have d:G (cD rs p)=6:=by{rw[<-f];show((rs.drop p).takeWhile<|bE cS).flatten.length=6;rw[a];rfl};rw[d];have e:=zk (rs:=rs) cS p 6 (by show 6<=G (cD rs p);omega);rw[<-uA,uX,<-e]at b;exact(gr c _ 58 P).1 b};{rintro⟨a,b⟩;refine⟨a,?_⟩;have f:(cD rs p).flatten.length=G (cD rs p):=(tw _ rS _<|c.drop p).2;have d:G (cD rs p)=6:=by{rw[<-f,a];rfl};rw[d]at b;have e:=zk (rs:=rs) cS p 6 (by show 6<=G (cD rs p);omega);rw[<-uA,uX,<-e];exact(gr c _ 58 P).2 b}
def agZ {rs a}(h:fF rs a bu=Y):io Y rs a=.inl a:=by unfold io;rw[A z,A<|It h 61 P,A];intro d;obtain⟨c1,c2,c3⟩:=Ok _ d;cases b:(cD rs a).flatten with|nil=>rw[b]at c1;simp at c1|cons c g=>{have e:=Lu a c (by rw[b];rfl);rw[b]at c3;have f:=UZ c c3;rw[fF,e]at h;simp only[bE]at h;rw[f]at h;cases h}
def Oy {rs}(d:eT rs){x:Dk.Sc}{j}(hi:x.i=o rs j)(l:x.err=0)(k m):(rs[j]?≠K [44]->dt (x.args rs.flatten k m) 3 (o rs j))/\(rs[j]? =K [44]->3<=k->x.args rs.flatten k m=({x with i:=o rs<|bl rs<|j+1,o:=x.o++[{m with offset:=[48]}]}:Dk.Sc).branch rs.flatten V)/\(rs[j]? =K [44]->k<3->(∀a,lM rs (bl rs<|j+1)=.inl a->dt (x.args rs.flatten k m) 3 (o rs a))/\(∀off i,lM rs (bl rs<|j+1)=.inr (off,i)->x.args rs.flatten k m=({x with i:=o rs<|bl rs i,o:=x.o++[{m with offset:=off}]}:Dk.Sc).branch rs.flatten Y)):=by have q:=Iv d hi l 44 P;unfold Dk.Sc.args;refine⟨λh=>?_,λh n=>?_,λh n=>?_⟩;{have c:=(q.2 h).bD rs.flatten;simp only;split;{exact(((c.go 7).bD _).whole _ |>.bD _ |>.put _).branch _ _};{exact(c.put _).branch _ _}};{rw[q.1 h,uD d (x:={x with i:=o rs<|j+1}) (p:=j+1) rfl];simp only;rw[A S,jq S];rfl};{rw[q.1 h,uD d (x:={x with i:=o rs<|j+1}) (p:=j+1) rfl];simp only;have s:=aj7 d (x:={x with i:=o rs<|bl rs<|j+1}) (p:=bl rs<|j+1) rfl;unfold lM;have y:=JP rs<|j+1;generalize bl rs (j+1)=b at*;by_cases g:(cD rs b).flatten=pE/\rs[b+G (cD rs b)]? =K [58];{rw[aP g,aP ⟨n,s.2 g⟩];have w:(cD rs b).flatten.length=G (cD rs b):=(tw _ rS _<|d.drop b).2;have u:G (cD rs b)=6:=by{rw[<-w,g.1];rfl};have v:(({x with i:=o rs b}:Dk.Sc).go 7)={x with i:=o rs<|b+G (cD rs b)+1}:=by{rw[qL g.2,zk (rs:=rs) cS b (G<|cD rs b)<|aO _,u];rfl};rw[v,uD d (x:={x with i:=o rs<|b+G (cD rs b)+1}) (p:=b+G (cD rs b)+1) rfl];generalize bl rs (b+G (cD rs b)+1)=r at*;have t:=WK d (x:={x with i:=o rs r}) (p:=r) rfl l;constructor;{intro a h;rcases t.2 a h with c|⟨c,f⟩;{rw[c];exact((dt.bD (e:=3) (a:=o rs a) ⟨rfl,rfl,P⟩ _).put _).branch _ _};{rw[c,uD d (x:={x with i:=o rs a}) (p:=a) rfl,Oq f SB];exact(DT d (x:=Dk.Sc.put {x with i:=o rs a} {m with offset:=({x with i:=o rs r}:Dk.Sc).m_ rs.flatten}) (p:=a) rfl l Y).2 a (agZ f)}};{intro off i h;obtain⟨c,f⟩:=t.1 off i h;rw[c,f,uD d (x:={x with i:=o rs i}) (p:=i) rfl];rfl}};{rw[A g,A<|λh=>g<|s.1 h.2];constructor;{intro a h;cases h};{intro off i h;injection h with h;injection h with c f;rw[<-c,<-f,jF n,y];rfl}}}
def yu {rs}(b:eT rs){x:Dk.Sc}{p}(hi:x.i=o rs p)(g:x.err=0)(F:rs[p]? =K [123]):(∀a,dS rs (bl rs<|p+1)=.inl a->dt (x.mU rs.flatten) 3 (o rs a))/\(∀n q,dS rs (bl rs<|p+1)=.inr (n,q)->(rs[bl rs q]? =K [125]->x.mU rs.flatten={x with i:=o rs<|bl rs q+1,o:=x.o++[{kind:=112,name:=n,at_:=o rs p}]})/\(rs[bl rs q]?≠K [125]->rs[bl rs q]?≠K [44]->dt (x.mU rs.flatten) 3 (o rs<|bl rs q))/\(rs[bl rs q]? =K [44]->∀k,k=bl rs (bl rs q+1)->(fo (cD rs k).flatten=4->dt (x.mU rs.flatten) 3 (o rs k))/\(fo (cD rs k).flatten≠4->∀d,d=bl rs (k+G (cD rs k))->(fo (cD rs k).flatten=0->(rs[d]?≠K [125]->dt (x.mU rs.flatten) 3 (o rs d))/\(rs[d]? =K [125]->x.mU rs.flatten={x with i:=o rs<|d+1,o:=x.o++[{kind:=110,name:=n,how:=(cD rs k).flatten,at_:=o rs p}]}))/\(fo (cD rs k).flatten≠0->x.mU rs.flatten=({x with i:=o rs d}:Dk.Sc).args rs.flatten (fo (cD rs k).flatten) {kind:=40,name:=n,how:=(cD rs k).flatten,at_:=o rs p})))):=by have C:x.go 1={x with i:=o rs<|p+1}:=by{rw[Dk.Sc.go,qL F,hi];rfl};unfold Dk.Sc.mU;rw[C,uD b (x:={x with i:=o rs<|p+1}) (p:=p+1) rfl];simp only;generalize bl rs (p+1)=A at*;have B:=RR b (x:={x with i:=o rs A}) (p:=A) rfl g;constructor;{intro a h;rcases B.2 a h with⟨l,_⟩|⟨l,m,_⟩;{rw[l];have w:dt (({x with i:=o rs A,err:=3,place:=o rs a}:Dk.Sc).bD rs.flatten) 3<|o rs a:=dt.bD (x:={x with i:=o rs A,err:=3,place:=o rs a}) (e:=3) ⟨rfl,rfl,(by decide:(3:Nat)≠0)⟩ _;rw[aP (by rw[w.1];decide)];exact w};{rw[l,uD b (x:={x with i:=o rs a}) (p:=a) rfl,Oq m Fc];have r:=It m 44 P;simp only;rw[aL (by rw[g];decide),aP<|λh=>r<|(gr b a 44 P).1 h];exact((Iv b (x:={x with i:=o rs a}) (p:=a) rfl g 125 P).2 (It m 125 P)).put _}};{intro n q h;obtain⟨l,m⟩:=B.1 n q h;rw[l,m,uD b (x:={x with i:=o rs q}) (p:=q) rfl];simp only;generalize bl rs q=c at*;rw[aL (by rw[g];decide)];have z:=Iv b (x:={x with i:=o rs c}) (p:=c) rfl g 125 P;refine⟨λf=>?_,λf j=>?_,λf k E=>?_⟩;{rw[aP (λh=>by rw[(gr b c 44 P).1 h]at f;cases f),z.1 f,hi];rfl};{rw[aP<|λh=>j<|(gr b c 44 P).1 h];exact(z.2 f).put _};{rw[aL<|λh=>h<|(gr b c 44 P).2 f];have H:(({x with i:=o rs c}:Dk.Sc).go 1)={x with i:=o rs<|c+1}:=by{rw[Dk.Sc.go,qL f];rfl};rw[H,uD b (x:={x with i:=o rs<|c+1}) (p:=c+1) rfl,<-E];have y:=als b (x:={x with i:=o rs k}) (k:=k) rfl g;constructor;{intro j;obtain⟨s,t⟩:=y.1 j;rw[aP s];exact t};{intro j d D;obtain⟨s,t⟩:=y.2 j;rw[s,t,aL j,uD b (x:={x with i:=o rs<|k+G (cD rs k)}) (p:=k+G (cD rs k)) rfl,<-D];have r:=Iv b (x:={x with i:=o rs d}) (p:=d) rfl g 125 P;constructor;{intro u;rw[aP u,hi];refine⟨λv=>(r.2 v).put _,λv=>?_⟩;rw[r.1 v];rfl};{intro u;rw[aL u,hi]}}}}
end Pg
def md (l k)(f:k<G l)(d:∀a (b:a<G l),a<k->l[a]≠39)(e:l[k]=39):Lib.cut l [39]=(l.take k,l.drop<|k+1,Y):=by have hi:Lib.index l [39]=k:=by{refine PE S ?_ ?_;{rw[Lib.occAt,dG f,e];simp[List.isPrefixOf]};{intro a b;rw[Lib.occAt,dG S];have:=d a S b;simp only[List.isPrefixOf,Au,g];exactλc=>this c.symm}};unfold Lib.cut;rw[hi,t S];simp
def mi (l)(c:∀a (d:a<G l),l[a]≠39):Lib.cut l [39]=(l,[],V):=by have hi:Lib.index l [39]= -1:=by{refine PD ?_;intro a d;rw[Lib.occAt];rcases dM a (G l) with h|h;{rw[dG h];have:=c a h;simp only[List.isPrefixOf,Au,g];exactλb=>this b.symm};{rw[jm h];rfl}};unfold Lib.cut;rw[hi,A S]
def apP (l):((Lib.cut l [39]).2.2=Y/\l=(Lib.cut l [39]).1++39::(Lib.cut l [39]).2.1/\39∉(Lib.cut l [39]).1)\/((Lib.cut l [39]).2.2=V/\(Lib.cut l [39]).1=l/\(Lib.cut l [39]).2.1= []/\39∉l):=by rcases Lib.index_spec l [39]with⟨n,f⟩|⟨i,n,f,a,o⟩;{right;have:¬(0<=Lib.index l [39]):=S;simp only[Lib.cut,A this,tR];intro e;obtain⟨c,d,b⟩:=Cv e;have:=f c S;rw[Lib.occAt,dG d,b]at this;simp[List.isPrefixOf]at this};{left;have m:(0:Int)<=Lib.index l [39]:=S;have hi:(Lib.index l [39]).toNat=i:=S;simp only[Lib.cut,t m,hi,tR];have g:i<G l:=by{rcases dM i (G l) with h|h;{exact h};{rw[Lib.occAt,jm h]at a;simp[List.isPrefixOf]at a}};have k:l[i]=39:=by{rw[Lib.occAt,dG g]at a;have j:(39:UInt8)=l[i]:=by{simpa[List.isPrefixOf]using a};exact j.symm};constructor;{have:=pu i l;rw[dG g,k]at this;simpa using this.symm};{intro e;obtain⟨c,d,b⟩:=Cv e;have p:c<i:=by{simp at d;omega};have:=o c p;rw[Lib.occAt,dG S]at this;rw[List.getElem_take]at b;simp[List.isPrefixOf,b]at this}}
def XX (x:Dk.Sc)(t:H):(x.say t).i=x.i/\(x.say t).opens=x.opens:=by unfold Dk.Sc.say;split<;>exact⟨rfl,rfl⟩
def aie (z:Dk.Sc)(k)(a:H)(h:(Lib.cut a [39]).2.2=V):z.nh (k+1) a=(z.say (Lib.cut a [39]).1).go (Lib.cut a [39]).1.length:=by rw[Dk.Sc.nh];simp only[h,eU]
def aij (z:Dk.Sc)(k)(a:H)(h:(Lib.cut a [39]).2.2=Y)(e:∀b,(Lib.cut a [39]).2.1≠39::b):z.nh (k+1) a=((z.say (Lib.cut a [39]).1).go (Lib.cut a [39]).1.length).go 1:=by rw[Dk.Sc.nh];simp only[h,Pz,fX];split;{rename_i c b d;rw[A<|λf=>e b<|by rw[d,f]]};{rfl}
def aii (z:Dk.Sc)(k)(a r:H)(h:(Lib.cut a [39]).2.2=Y)(b:(Lib.cut a [39]).2.1=39::r):z.nh (k+1) a=(((((z.say (Lib.cut a [39]).1).go (Lib.cut a [39]).1.length).go 1).say [39]).go 1).nh k r:=by rw[Dk.Sc.nh];simp only[h,Pz,fX,b,eU]
namespace Pg
open Dk
def apR (A a)(h:39∉A):Lib.cut (A++39::a) [39]=(A,a,Y):=by rw[md (A++39::a) (G A) z (λe d b c=>h (by rw[<-c,List.getElem_append_left b];exact ox b)) z];simp
def apQ (A)(h:39∉A):Lib.cut A [39]=(A,[],V):=mi A λc b a=>h (by rw[<-a];exact ox b)
inductive fn (s:T):Dk.Sc->Dk.Sc->Prop
 |refl (x):fn s x x
 |step {x y} (h:x.err=0) (h2:x.i<G s) (r:fn s (x.one s) y):fn s x y
def fn.trans {s x y z}(h:fn s x y)(c:fn s y z):fn s x z:=by induction h with|refl=>exact c|step a b _ d=>{exact .step a b<|d c}
def EL (x:Dk.Sc)(a b:T):(x.say a).say b=x.say (a++b):=by unfold Dk.Sc.say;by_cases c:a= [];{rw[t c,c];rfl};{rw[A c];by_cases e:b= [];{rw[t e,e,fY,A c]};{rw[A e,A<|by simp[c]];simp only;congr 1;unfold kJ;rcases qB x.o with d|⟨h,g,d⟩;{simp[d]};{simp only[sO]at d;rw[d];by_cases f:g.kind=116;{simp[f]};{simp[f]}}}}
def Q5 (x:Dk.Sc):x.say []=x:=by unfold Dk.Sc.say;rw[t rfl]
def CJ (x:Dk.Sc)(a:T)(n):(x.say a).go n=(x.go n).say a:=by unfold Dk.Sc.say Dk.Sc.go;split<;>rfl
def LW (x:Dk.Sc)(a:T)(n):({x.say a with i:=n}:Dk.Sc)=({x with i:=n}:Dk.Sc).say a:=by unfold Dk.Sc.say;split<;>rfl
def pX (x:Dk.Sc)(a:T):(x.say a).i=x.i/\(x.say a).opens=x.opens/\(x.say a).err=x.err/\(x.say a).place=x.place:=by unfold Dk.Sc.say;split<;>exact⟨rfl,rfl,rfl,rfl⟩
def On (x:Dk.Sc)(a:T):(x.say a).kG=x.kG:=by unfold Dk.Sc.kG;rw[(pX x a).2.1]
def YY {s:T}{x:Dk.Sc}{c}(h:s[x.i]? =K c)(b:c≠39)(d:c≠123)(a:c≠125)(e:¬(c=35/\x.kG=Y)):x.one s=(x.go 1).say [c]:=by unfold Dk.Sc.one;rw[h];simp only;rw[A b,A d,A<|λh=>a h.1,A a,A e]
def dC {b:Type}{s:List b}{i c}(h:s[i]? =K c):i<G s:=by rcases dM i (G s) with a|a;{exact a};{rw[iH a]at h;cases h}
def ah4 {s:T}:∀(c:T) (x:Dk.Sc) (a:T),s.drop x.i=c++a->x.err=0->(∀b∈c,128<=b.toNat)->fn s x ((x.go<|G c).say c):=by intro c;induction c with|nil=>intro x a _ _ _;rw[Q5];exact .refl _|cons b c m=>{intro x a h f e;have g:s[x.i]? =K b:=by{have:=eD List.head? h;rw[rG]at this;simpa using this};have d:=e b z;have k:=YY (x:=x) g (by rintro rfl;simp at d) (by rintro rfl;simp at d) (by rintro rfl;simp at d) (by rintro⟨rfl,_⟩;simp at d);refine .step f (dC g) ?_;rw[k];have hd:s.drop (x.i+1)=c++a:=by{rw[<-sP,h];rfl};have:=m ((x.go 1).say [b]) a (by rw[(pX _ _).1];exact hd) (by rw[(pX _ _).2.2.1];exact f) (λj l=>e j<|by simp[l]);rw[CJ,EL]at this;simp only[bB,Dk.Sc.go]at this⊢;rw[show x.i+(G c+1)=x.i+1+G c from S];exact this}
def DD {rs}(g:eT rs){x p c}(hi:x.i=o rs p)(j:x.err=0)(h:rs[p]? =K c)(m:c≠[39])(a:dk x.kG c=V):fn rs.flatten x<|({x with i:=o rs<|p+1}:Dk.Sc).say c:=by have k:=dC h;have l:rs.drop p=c::rs.drop (p+1):=by{rw[dG k];rw[bR k]at h;injection h with h;rw[h]};rcases g c (fP h)with⟨b,rfl,r⟩|⟨t,n⟩;{have e:=(gr g p b r).2 h;rw[<-hi]at e;have f:¬b=123/\¬b=125/\¬(b=35/\x.kG=Y):=by{unfold dk at a;simp only[Py,aZ,Lf,ne_eq,tM,Av]at a;refine⟨a.1.1,a.1.2,λh=>?_⟩;rcases a.2 with d|d;{exact d h.1};{rw[h.2]at d;cases d}};have q:=YY (x:=x) e (by rintro rfl;exact m rfl) f.1 f.2.1 f.2.2;refine .step j (dC e) ?_;rw[q,qL h,<-hi];exact .refl _};{have:=ah4 (s:=rs.flatten) c x (rs.drop<|p+1).flatten (by rw[hi,uA,l];rfl) j n;rw[qL h,<-hi];exact this}
def xO (num q c r)(h:¬(q=V/\dk num c=Y))(a:c≠[39]):bJ num q (c::r)=(c++(bJ num q r).1,(bJ num q r).2+1):=by rw[bJ.eq_def];simp only;rw[A h,t a]
def EM (num c r)(h:dk num c=Y):bJ num V (c::r)=([],0):=by rw[bJ.eq_def];simp only;rw[t<|by simp[h]]
def xN (num q r):bJ num q ([39]::[39]::r)=(39::(bJ num q r).1,(bJ num q r).2+2):=by rw[bJ.eq_def];simp only;rw[A (by simp[dk]),A z,t z]
def zc (num q)(d:T)(r)(hd:d≠[39])(h:q=Y\/dk num d=Y):bJ num q ([39]::d::r)=((bJ num (!q)<|d::r).1,(bJ num (!q)<|d::r).2+1):=by(conv=>lhs;rw[bJ.eq_def]);simp only;rw[A (by simp[dk]),A z,A hd,t h]
def EO (num)(d:T)(r)(hd:d≠[39])(h:dk num d=V):bJ num V ([39]::d::r)=(39::(bJ num V<|d::r).1,(bJ num V<|d::r).2+1):=by(conv=>lhs;rw[bJ.eq_def]);simp only;rw[A (by simp[dk]),A z,A hd,A<|by simp[h]]
def ahk (num):∀(A a:List T),(∀c∈A,c≠[39])->bJ num Y (A++a)=(A.flatten++(bJ num Y a).1,(bJ num Y a).2+G A):=by intro A;induction A with|nil=>intro a _;rfl|cons c A e=>{intro a h;have b:=e a (λc d=>h c<|by simp[d]);rw[b6,xO num Y c _ z<|h c z,b];simp only[nI,bX,bB,qG,tR];omega}
def aj5 {A}(f:eT A)(h:∀c∈A,c≠[39]):39∉A.flatten:=by intro g;obtain⟨c,a,d⟩:=PF.1 g;rcases f c a with⟨b,rfl,j⟩|⟨i,e⟩;{have:39=b:=by{simpa using d};exact h _ a<|by rw[this]};{have:=e 39 d;simp at this}
def agh:∀(a:List T),∃A b,a=A++b/\(∀c∈A,c≠[39])/\(b= []\/∃e,b= [39]::e):=by intro a;induction a with|nil=>{exact⟨[],[],rfl,z,.inl rfl⟩}|cons c a j=>{by_cases h:c= [39];{exact⟨[],c::a,rfl,z,.inr ⟨a,by rw[h]⟩⟩};{obtain⟨A,b,f,g,i⟩:=j;refine⟨c::A,b,by rw[f];rfl,?_,i⟩;intro d hd;rcases cL.1 hd with rfl|hd;{exact h};{exact g d hd}}}
def Dy (num):∀(k:Nat) (e:List T) (f:Dk.Sc),eT e->e.flatten.length<k->∃n t,n<=G e/\f.nh k e.flatten=(f.go (e.take n).flatten.length).say t/\bJ num Y e=(t++(bJ num V<|e.drop n).1,(bJ num V<|e.drop n).2+n):=by intro k;induction k with|zero=>intro e f _ h;omega|succ k H=>{intro e f q D;obtain⟨A,u,rfl,p,z⟩:=agh e;have B:eT A:=λc h=>q c (by simp[h]);have s:=aj5 B p;have j:=ahk num A u p;rcases z with rfl|⟨g,rfl⟩;{refine⟨G A,A.flatten,aN,?_,?_⟩;{rw[Dk.Sc.nh];simp only[fY,tS,apQ _ s,eU];rw[CJ]};{rw[j];simp[bJ]}};{have hcut:Lib.cut (A++[39]::g).flatten [39]=(A.flatten,g.flatten,Y):=by{rw[rE,nI];exact apR _ _ s};have r:eT g:=λc h=>q c (by simp[h]);have E:(A++[39]::g).flatten.length=A.flatten.length+1+g.flatten.length:=aV;rw[Dk.Sc.nh,hcut];simp only[Pz,fX];cases g with|nil=>{refine⟨G A+1,A.flatten,aN,?_,?_⟩;{have i:(A++[[39]]).take (G A+1)=A++[[39]]:=jY aN;rw[i];simp only[G1];rw[CJ,CJ,rE,aW];simp[Dk.Sc.go,qD]};{rw[j];simp[bJ,uU]}}|cons d a=>{by_cases hd:d= [39];{subst hd;simp only[nI,b6,im,eU];obtain⟨n,t,I,v,w⟩:=H a ((((f.say A.flatten).go A.flatten.length).go 1).say [39] |>.go 1) (λc h=>r c<|by simp[h]) (by simp at E D⊢;omega);refine⟨G A+2+n,A.flatten++39::t,aV,?_,?_⟩;{rw[v];have i:(A++[39]::[39]::a).take (G A+2+n)=A++[39]::[39]::a.take n:=by{rw[show G A+2+n=G A+(n+2) from S,Wh];rfl};rw[i];simp only[CJ,EL];have m:((((f.go A.flatten.length).go 1).go 1).go (a.take n).flatten.length)=f.go (A++[39]::[39]::a.take n).flatten.length:=by{simp only[Dk.Sc.go,rE,nI,aW,bB,jE];congr 1;omega};rw[m];congr 1;simp};{have o:(A++[39]::[39]::a).drop (G A+2+n)=a.drop n:=by{rw[show G A+2+n=G A+(n+2) from S,Wg];rfl};rw[j,o,xN];simp only[w,bX,b6,qG,tR];omega}};{have F:∀l,(d::a).flatten≠39::l:=by{intro l h;rcases r d aN with⟨b,rfl,J⟩|⟨x,y⟩;{have:b=39:=by{simpa using congrArg List.head? h};exact hd<|by rw[this]};{cases d with|nil=>simp at x|cons b d=>{have:b=39:=by{simpa using congrArg List.head? h};have:=y b aN;subst b;simp at this}}};refine⟨G A+1,A.flatten,aN,?_,?_⟩;{have i:(A++[39]::d::a).take (G A+1)=A++[[39]]:=by{rw[Wh];rfl};rw[i];have m:((f.say A.flatten).go A.flatten.length).go 1=(f.go (A++[[39]]).flatten.length).say A.flatten:=by{rw[CJ,CJ];simp[Dk.Sc.go,qD]};rw[<-m];cases C:(d::a).flatten with|nil=>rfl|cons b l=>{simp only;rw[aL<|λh=>F l<|by rw[C,h]]}};{have o:(A++[39]::d::a).drop (G A+1)=d::a:=by{rw[Wg];rfl};rw[j,o,zc num Y d a hd<|.inl rfl];simp only[Bool.not_true,qG,tR];omega}}}}}
end Pg
namespace Pg
def fd {rs:List T}{p c r}(h:rs.drop p=c::r):rs[p]? =K c/\rs.drop (p+1)=r:=by constructor;{have:=eD List.head? h;rw[rG]at this;simpa using this};{rw[<-sP,h];rfl}
def Du {rs}(b:eT rs){x:Dk.Sc}{p}(hi:x.i=o rs p)(h:rs[p]? =K [39]):x.one rs.flatten=x.sx rs.flatten x.kG:=by have a:=(gr b p 39 P).2 h;rw[<-hi]at a;unfold Dk.Sc.one;rw[a];simp
def XJ (num b):dk num [b]=Y↔(b=123\/b=125\/b=35/\num=Y):=by unfold dk;simp[Er]
def Dw {rs}(s:eT rs)(num):∀(n p:Nat) (x:Dk.Sc),G (rs.drop p)<n->x.i=o rs p->x.err=0->x.kG=num->fn rs.flatten x (({x with i:=o rs<|p+(bJ num V<|rs.drop p).2}:Dk.Sc).say (bJ num V<|rs.drop p).1):=by intro n;induction n with|zero=>intro p x h;omega|succ n z=>{intro p x E hi l m;cases hd:rs.drop p with|nil=>simp only[bJ,Q5,lr];rw[<-hi];exact .refl _|cons c u=>{obtain⟨y,g⟩:=fd hd;rw[hd]at E;simp only[bB]at E;by_cases K:dk num c=Y;{rw[EM num c u K];simp only[Q5,lr];rw[<-hi];exact .refl _};have L:dk num c=V:=by{simpa using K};by_cases B:c= [39];{subst B;have r:=Du s hi y;have Z:=ue s y;refine .step l (by rw[hi];exact Z) ?_;rw[r,m];have X:x.go 1={x with i:=o rs<|p+1}:=by{rw[Dk.Sc.go,qL y,hi];rfl};unfold Dk.Sc.sx;simp only;rw[X];simp only;rw[uA,g];cases u with|nil=>simp only[G1];rw[bJ.eq_def];simp[dk];exact .refl _|cons d a=>{obtain⟨M,J⟩:=fd g;have D:Cp d:=s d<|fP M;have O:eT<|d::a:=λS U=>s S (K6 (i:=p+1) (by rw[g];exact U));simp only[bB]at E;by_cases v:d= [39];{subst v;simp only[nI,b6,im,eU];rw[xN];have ir:(({x with i:=o rs<|p+1}:Dk.Sc).go 1)={x with i:=o rs<|p+2}:=by{rw[Dk.Sc.go,show p+2=p+1+1 from rfl,qL M];rfl};rw[ir];have:=z (p+2) (({x with i:=o rs<|p+2}:Dk.Sc).say [39]) (by rw[J];omega) (pX _ _).1 (by rw[(pX _ _).2.2.1];exact l) (by rw[On];exact m);rw[J,LW,EL]at this;simp only[b6,im]at this⊢;rw[show p+((bJ num V a).2+2)=p+2+(bJ num V a).2 from aJ];exact this};{obtain⟨b,q,f⟩:∃b q,d=b::q:=by{cases d with|nil=>exact absurd rfl D.ne|cons b q=>{exact⟨b,q,rfl⟩}};have H:b≠39:=by{rintro rfl;rcases D with⟨R,j,_⟩|⟨_,C⟩;{rw[f]at j;injection j with e1 e2;exact v<|by rw[f,e2]};{have:=C 39 (by rw[f];simp);simp at this}};have W:(d::a).flatten=b::(q++a.flatten):=by{rw[f];rfl};by_cases k:dk num d=Y;{rw[zc num V d a v<|.inr k];have I:d= [b]:=by{unfold dk at k;simp only[qC,ef,tN]at k;rcases k with(h|h)|⟨h,_⟩<;>·rw[h]at f⊢;injection f with r h2;rw[r]};have w:=(XJ num b).1 (by rw[<-I];exact k);have A:(d::a).flatten=b::a.flatten:=by{rw[I];rfl};rw[A];simp only;rw[aL H,aP w];obtain⟨e,t,q0,N,q2⟩:=Dy num (G a.flatten+2) (d::a) {x with i:=o rs<|p+1} O (by rw[A];simp);rw[A]at N;rw[N];simp only[PH];rw[q2];have ad:o rs (p+1)+((d::a).take e).flatten.length=o rs (p+1+e):=by{have j:rs.take (p+1+e)=rs.take (p+1)++(rs.drop<|p+1).take e:=PC;unfold o;rw[j,rE,aW,g]};have Q:(({x with i:=o rs<|p+1}:Dk.Sc).go ((d::a).take e).flatten.length)={x with i:=o rs<|p+1+e}:=by{rw[Dk.Sc.go,<-ad]};rw[Q];have F:rs.drop (p+1+e)=(d::a).drop e:=by{rw[<-sP,g]};have:=z (p+1+e) (({x with i:=o rs<|p+1+e}:Dk.Sc).say t) (by rw[F];simp;omega) (pX _ _).1 (by rw[(pX _ _).2.2.1];exact l) (by rw[On];exact m);rw[F,LW,EL]at this;simp only at this⊢;rw[show p+((bJ num V<|(d::a).drop e).2+e+1)=p+1+e+(bJ num V<|(d::a).drop e).2 from aJ];exact this};{have P:dk num d=V:=by{simpa using k};rw[EO num d a v P,W];simp only;have ab:¬(b=123\/b=125\/b=35/\num=Y):=by{intro w;rcases D with⟨R,j,_⟩|⟨_,C⟩;{rw[f]at j;injection j with e1 e2;exact k (by rw[f,e2];exact(XJ num b).2 w)};{have:=C b (by rw[f];simp);rcases w with rfl|rfl|⟨rfl,_⟩<;>simp at this}};rw[aL H,aL ab];have:=z (p+1) (({x with i:=o rs<|p+1}:Dk.Sc).say [39]) (by rw[g];simp;omega) (pX _ _).1 (by rw[(pX _ _).2.2.1];exact l) (by rw[On];exact m);rw[g,LW,EL]at this;simp only[b6,im]at this⊢;rw[show p+((bJ num V<|d::a).2+1)=p+1+(bJ num V<|d::a).2 from aJ];exact this}}}};{rw[xO num V c u (by simp[L]) B];have r:=DD s hi l y B (by rw[m];exact L);refine r.trans ?_;have:=z (p+1) (({x with i:=o rs<|p+1}:Dk.Sc).say c) (by rw[g];omega) (pX _ _).1 (by rw[(pX _ _).2.2.1];exact l) (by rw[On];exact m);rw[g,LW,EL]at this;simp only at this⊢;rw[show p+((bJ num V u).2+1)=p+1+(bJ num V u).2 from aJ];exact this}}}
def XZ (num):∀(n:Nat) (f:List T) (q:Bool),G f<n->∀c,f[(bJ num q f).2]? =K c->dk num c=Y:=by intro n;induction n with|zero=>intro f q h;omega|succ n i=>{intro f q m c a;cases f with|nil=>simp at a|cons d b=>{simp only[bB]at m;by_cases g:q=V/\dk num d=Y;{rw[g.1,EM num d b g.2]at a;simp at a;rw[<-a];exact g.2};by_cases l:d= [39];{subst l;cases b with|nil=>{rw[bJ.eq_def]at a;simp only at a;rw[A g,A z]at a;split at a<;>simp at a}|cons e b=>{simp only[bB]at m;by_cases j:e= [39];{subst j;rw[xN]at a;exact i b q S c<|by simpa using a};{by_cases k:q=Y\/dk num e=Y;{rw[zc num q e b j k]at a;exact i (e::b) (!q) aV c<|by simpa using a};{have o:q=V:=by{cases q with|false=>rfl|true=>exact absurd (.inl rfl) k};have p:dk num e=V:=by{cases h:dk num e with|false=>rfl|true=>{exact absurd (.inr h) k}};subst o;rw[EO num e b j p]at a;exact i (e::b) V aV c<|by simpa using a}}}};{rw[xO num q d b g l]at a;exact i b q S c<|by simpa using a}}}
def Ib (num c r)(b:eT<|c::r)(f:dk num c=V):(bJ num V<|c::r).1≠[]:=by by_cases a:c= [39];{subst a;cases r with|nil=>rw[bJ.eq_def];simp[dk]|cons d r=>{by_cases hd:d= [39];{subst hd;rw[xN];simp};{by_cases e:dk num d=Y;{rw[zc num V d r hd<|.inr e];simp only[PH];rw[xO num Y d r z hd];have:=(b d z).ne;simp[this]};{rw[EO num d r hd<|by simpa using e];simp}}}};{rw[xO num V c r (by simp[f]) a];have:=(b c z).ne;simp[this]}
def ev (s:T)(x:Dk.Sc)(e a:Nat):Prop:=∃y,fn s x y/\(dt y e a\/y.err=0/\y.i=G s/\y.opens≠[]/\e=3/\a=G s)
def ev.bad {s x e a}(h:dt x e a):ev s x e a:=⟨x,.refl _,.inl h⟩
def ev.after {s x y e a}(h:fn s x y)(b:ev s y e a):ev s x e a:=by obtain⟨f,c,d⟩:=b;exact⟨f,h.trans c,d⟩
def yw (s:T)(z:Dk.Sc)(num first:Bool):Dk.Sc:=if first=Y then(z.bD s).branch s num else if s[(z.bD s).i]? =K 125 then((z.bD s).put {kind:=41,at_:=(z.bD s).i}).go 1 else(z.bD s).branch s num
def Nt (rs:List T)(num:Bool)(x:Dk.Sc)(p:Nat):Prop:=(∃m,x.o.getLast?=K m/\m.kind=116)->∀c,rs[p]? =K c->dk num c=Y
def Good (rs:List T):Mode->Nat->dh->Prop
 |.msg d num,p,res=>∀x:Dk.Sc,x.i=o rs p->x.err=0->G x.opens+1=d->x.kG=num->Nt rs num x p->match res with
  |.ok t q=>fn rs.flatten x {x with i:=o rs q,o:=x.o++flat (o rs) t}/\(rs[q]? =O\/rs[q]? =K [125])
  |.okB _ _ _=>True
  |.bad e a=>ev rs.flatten x e<|o rs a
 |.arg d,p,res=>∀x:Dk.Sc,x.i=o rs p->x.err=0->G x.opens+1=d->rs[p]? =K [123]->match res with
  |.ok t q=>fn rs.flatten x {x with i:=o rs q,o:=x.o++flat (o rs) t}/\∃m,(flat (o rs) t).getLast?=K m/\m.kind≠116
  |.okB _ _ _=>True
  |.bad e a=>ev rs.flatten x e<|o rs a
 |.dI d num first,p,res=>∀z:Dk.Sc,z.i=o rs p->z.err=0->G z.opens+1=d->match res with
  |.okB t e q=>fn rs.flatten (yw rs.flatten z num first) {z with i:=o rs q,o:=z.o++flat (o rs) t++[{kind:=41,at_:=o rs e}]}
  |.ok _ _=>False
  |.bad e a=>ev rs.flatten (yw rs.flatten z num first) e<|o rs a
def BD {rs}(a:eT rs){z p}(hi:z.i=o rs p)(num first)(h:first=Y\/rs[bl rs p]?≠K [125]):yw rs.flatten z num first=({z with i:=o rs<|bl rs p}:Dk.Sc).branch rs.flatten num:=by unfold yw;rw[uD a hi];cases first with|true=>rw[t rfl]|false=>{rw[A aN,A];intro b;rcases h with h|h;{cases h};{exact h<|(gr a (bl rs p) 125 P).1 b}}
def xS {rs}(b:eT rs){x:Dk.Sc}{p}(hi:x.i=o rs p)(h:rs[p]? =K [123]):x.one rs.flatten=x.mU rs.flatten:=by have a:=(gr b p 123 P).2 h;rw[<-hi]at a;unfold Dk.Sc.one;rw[a];simp
def DE {rs}(c:eT rs){z:Dk.Sc}{p:Nat}{num}(h:rs[p]? =K [125]):({z with i:=o rs p,opens:=z.opens++[num]}:Dk.Sc).one rs.flatten=yw rs.flatten {z with i:=o rs<|p+1,o:=z.o++[{kind:=93}]} num V:=by have d:=(gr c p 125 P).2 h;unfold Dk.Sc.one;simp only;rw[d];simp only;rw[A P,A P,A aN,t trivial];unfold Dk.Sc.behind yw;have a:(({z with i:=o rs p,opens:=z.opens++[num]}:Dk.Sc).go 1).put {kind:=93}={z with i:=o rs<|p+1,o:=z.o++[{kind:=93}],opens:=z.opens++[num]}:=by{rw[qL h];rfl};rw[a,A<|show¬(V=Y) from aN];have b:({z with i:=o rs<|p+1,o:=z.o++[{kind:=93}],opens:=z.opens++[num]}:Dk.Sc).kG=num:=by{simp[Dk.Sc.kG]};simp only[b,We]
end Pg
namespace Pg
open Dk
def Nt.Is {rs num x p l m}(h:x.o=l++[m])(c:m.kind≠116):Nt rs num x p:=by rintro⟨d,a,b⟩;rw[h]at a;simp at a;rw[<-a]at b;exact absurd b c
def ak4 {b:Type}{l:List b}{m}(h:l.getLast?=K m):∃k,l=k++[m]:=by rcases qB l with a|⟨k,c,a⟩;{rw[a]at h;cases h};{rw[a]at h⊢;simp at h;exact⟨k,by simp[h]⟩}
def ZO (ord):fo (if ord=Y then dR else fk)≠4/\fo (if ord=Y then dR else fk)≠0/\fo (if ord=Y then dR else fk)<3:=by cases ord<;>decide
def aiF {w}(h:w=fk\/w=dR):∃a:Bool,w=if a=Y then dR else fk:=by rcases h with h|h;{exact⟨V,by rw[h];rfl⟩};{exact⟨Y,by rw[h];rfl⟩}
def Ul {rs}(e:eT rs){au p A}(h:Rd rs au p A):Good rs au p A:=by induction h with|@stop d num p h=>intro x hi b hd I U;refine⟨?_,h⟩;rw[<-hi];simp only[flat,fY];exact .refl _|@Oz d num p v a h s C=>intro x hi b hd I U;exact C x hi b hd h|@tp d num p n q A h s l ab ad=>{intro x hi b hd I U;obtain⟨D,J,m1,m2⟩:=ab x hi b hd h;obtain⟨ar,hl⟩:=ak4 m1;have:=ad {x with i:=o rs q,o:=x.o++flat (o rs) n} rfl b hd I (Nt.Is (l:=x.o++ar) (m:=J) (by simp[hl]) m2);cases A with|ok t F=>obtain⟨u,L⟩:=this;refine⟨D.trans ?_,L⟩;simp only[Jw,<-bX]at u⊢;exact u|okB t v F=>trivial|bad v a=>{exact ev.after D this}}|@sign d p A h s C=>{intro x hi b hd I U;have Z:=(gr e p 35 aM).2 h;rw[<-hi]at Z;have s:x.one rs.flatten={x with i:=o rs<|p+1,o:=x.o++[{kind:=35}]}:=by{unfold Dk.Sc.one;rw[Z];simp only;rw[aL aM,aL aM,aL aN,aL aM,aP ⟨trivial,I⟩,qL h,hi.symm];rfl};have D:fn rs.flatten x {x with i:=o rs<|p+1,o:=x.o++[{kind:=35}]}:=.step b (dC Z) (by rw[s];exact .refl _);have:=C {x with i:=o rs<|p+1,o:=x.o++[{kind:=35}]} rfl b hd I<|Nt.Is rfl aM;cases A with|ok t F=>obtain⟨u,L⟩:=this;refine⟨D.trans ?_,L⟩;simp only[Jw,flat,<-bX]at u⊢;exact u|okB t v F=>trivial|bad v a=>{exact ev.after D this}}|@said d num p c A h hs s C=>{intro x hi b hd I U;have D:=Dw e num _ p x (jG _) hi b I;have mM:rs.drop p=c::rs.drop (p+1):=by{have H:=dC h;rw[dG H];rw[bR H]at h;injection h with h;rw[h]};have ax:(bJ num V<|rs.drop p).1≠[]:=by{rw[mM];exact Ib num c _ (by rw[<-mM];exact e.drop p) hs};have aw:∀M,rs[p+(bJ num V<|rs.drop p).2]? =K M->dk num M=Y:=by{intro M X;rw[<-uX]at X;exact XZ num _ (rs.drop p) V (jG _) M X};generalize(bJ num V<|rs.drop p).2=n at*;generalize(bJ num V<|rs.drop p).1=t at*;have av:({x with i:=o rs<|p+n}:Dk.Sc).say t={x with i:=o rs<|p+n,o:=x.o++[{kind:=116,text:=t}]}:=by{unfold Dk.Sc.say;rw[aL ax];congr 1;unfold kJ;simp only;split;{rename_i J hm;rw[aL];intro z;have:=U ⟨J,hm,z⟩ c h;rw[hs]at this;cases this};{rename_i hm;have:x.o= []:=by{simpa using hm};rw[this];rfl}};rw[av]at D;have:=C {x with i:=o rs<|p+n,o:=x.o++[{kind:=116,text:=t}]} rfl b hd I<|λ_ M X=>aw M X;cases A with|ok t F=>obtain⟨u,L⟩:=this;refine⟨D.trans ?_,L⟩;simp only[Jw,flat,<-bX]at u⊢;exact u|okB t v F=>trivial|bad v a=>{exact ev.after D this}}|@MC d p a h=>{intro x hi b hd g;have r:=(yu e hi b g).1 a h;rw[<-xS e hi g]at r;exact⟨_,.step b (by rw[hi];exact ue e g)<|.refl _,.inl r⟩}|@simple d p n q h s=>{intro x hi b hd g;have r:=((yu e hi b g).2 n q h).1 s;rw[<-xS e hi g]at r;refine⟨.step b (by rw[hi];exact ue e g) (by rw[r];exact .refl _),{kind:=112,name:=n,at_:=o rs p},rfl,by show(112:UInt8)≠116;decide⟩}|@Oe d p n q h s l=>{intro x hi b hd g;have r:=((yu e hi b g).2 n q h).2.1 s l;rw[<-xS e hi g]at r;exact⟨_,.step b (by rw[hi];exact ue e g)<|.refl _,.inl r⟩}|@C5 d p n q k h l z m=>{intro x hi b hd g;have r:=(((yu e hi b g).2 n q h).2.2 l k z).1 m;rw[<-xS e hi g]at r;exact⟨_,.step b (by rw[hi];exact ue e g)<|.refl _,.inl r⟩}|@Mo d p n q k j h l z m E y=>{intro x hi b hd g;have r:=(((((yu e hi b g).2 n q h).2.2 l k z).2 (by rw[m];decide) j E).1 (by rw[m];decide)).1 y;rw[<-xS e hi g]at r;exact⟨_,.step b (by rw[hi];exact ue e g)<|.refl _,.inl r⟩}|@num d p n q k j h l z m E y=>{intro x hi b hd g;have r:=(((((yu e hi b g).2 n q h).2.2 l k z).2 (by rw[m];decide) j E).1 (by rw[m];decide)).2 y;rw[<-xS e hi g,m]at r;refine⟨.step b (by rw[hi];exact ue e g) (by rw[r];exact .refl _),{kind:=110,name:=n,how:=nj,at_:=o rs p},rfl,by show(110:UInt8)≠116;decide⟩}|@JU d p n q k j h l z m E y=>{intro x hi b hd g;have P:fo (cD rs k).flatten≠4/\fo (cD rs k).flatten≠0:=by{rcases m with m|m|m<;>rw[m]<;>decide};have r:=((((yu e hi b g).2 n q h).2.2 l k z).2 P.1 j E).2 P.2;have B:=(Oy e (x:={x with i:=o rs j}) (j:=j) rfl b (fo (cD rs k).flatten) {kind:=40,name:=n,how:=(cD rs k).flatten,at_:=o rs p}).1 y;rw[<-r,<-xS e hi g]at B;exact⟨_,.step b (by rw[hi];exact ue e g)<|.refl _,.inl B⟩}|@bj d p n q k j A h l z m E y O C=>{intro x hi b hd g;have P:fo (cD rs k).flatten≠4/\fo (cD rs k).flatten≠0:=by{rw[m];decide};have r:=((((yu e hi b g).2 n q h).2.2 l k z).2 P.1 j E).2 P.2;have B:=(Oy e (x:={x with i:=o rs j}) (j:=j) rfl b (fo (cD rs k).flatten) {kind:=40,name:=n,how:=(cD rs k).flatten,at_:=o rs p}).2.1 y (by rw[m];decide);rw[<-r,<-xS e hi g,m]at B;have H:x.i<G rs.flatten:=by{rw[hi];exact ue e g};have:=C {x with i:=o rs<|bl rs<|j+1,o:=x.o++[{kind:=40,name:=n,how:=fC,offset:=[48],at_:=o rs p}]} rfl b hd;have N:=BD e (z:={x with i:=o rs<|bl rs<|j+1,o:=x.o++[{kind:=40,name:=n,how:=fC,offset:=[48],at_:=o rs p}]}) (p:=bl rs<|j+1) rfl V Y<|.inl rfl;rw[JP]at N;rw[N]at this;cases A with|ok t F=>exact this.elim|okB t v F=>{refine⟨.step b H ?_,{kind:=41,at_:=o rs v},by simp[flat,List.getLast?_cons],by show(41:UInt8)≠116;decide⟩;rw[B];simp only[flat,bX,b6,im]at this⊢;exact this}|bad v a=>{refine ev.after (.step b H<|.refl _) ?_;rw[B];exact this}}|@Mm d p n q k j a h l z m E y O=>{intro x hi b hd g;obtain⟨W,ho⟩:=aiF m;obtain⟨Q,R,S⟩:=ZO W;rw[<-ho]at Q R S;have r:=((((yu e hi b g).2 n q h).2.2 l k z).2 Q j E).2 R;have B:=((Oy e (x:={x with i:=o rs j}) (j:=j) rfl b (fo (cD rs k).flatten) {kind:=40,name:=n,how:=(cD rs k).flatten,at_:=o rs p}).2.2 y S).1 a O;rw[<-r,<-xS e hi g]at B;exact⟨_,.step b (by rw[hi];exact ue e g)<|.refl _,.inl B⟩}|@bk d p n q k j W off i A h l z m E y O h6 C=>{intro x hi b hd g;obtain⟨Q,R,S⟩:=ZO W;rw[<-m]at Q R S;have r:=((((yu e hi b g).2 n q h).2.2 l k z).2 Q j E).2 R;have B:=((Oy e (x:={x with i:=o rs j}) (j:=j) rfl b (fo (cD rs k).flatten) {kind:=40,name:=n,how:=(cD rs k).flatten,at_:=o rs p}).2.2 y S).2 off i O;rw[<-r,<-xS e hi g,m]at B;have H:x.i<G rs.flatten:=by{rw[hi];exact ue e g};have:=C {x with i:=o rs i,o:=x.o++[{kind:=40,name:=n,how:=if W=Y then dR else fk,offset:=off,at_:=o rs p}]} rfl b hd;rw[BD e (z:={x with i:=o rs i,o:=x.o++[{kind:=40,name:=n,how:=if W=Y then dR else fk,offset:=off,at_:=o rs p}]}) (p:=i) rfl Y Y<|.inl rfl]at this;cases A with|ok t F=>exact this.elim|okB t v F=>{refine⟨.step b H ?_,{kind:=41,at_:=o rs v},by simp[flat,List.getLast?_cons],by show(41:UInt8)≠116;decide⟩;rw[B];simp only[flat,bX,b6,im]at this⊢;exact this}|bad v a=>{refine ev.after (.step b H<|.refl _) ?_;rw[B];exact this}}|@DS d num p h=>{intro f hi b hd;show fn _ (yw _ f num V) _;unfold yw;rw[uD e hi,aL aN,aP<|(gr e _ 125 aM).2 h];simp only[flat,fY];have v:(Dk.Sc.put {f with i:=o rs<|bl rs p} {kind:=41,at_:=o rs<|bl rs p}).go 1={f with i:=o rs<|bl rs p+1,o:=f.o++[{kind:=41,at_:=o rs<|bl rs p}]}:=by{rw[qL h];rfl};rw[v];exact .refl _}|@JH d num first p a h s=>intro f hi b hd;show ev _ _ _ _;rw[BD e hi num first h];exact ev.bad ((DT e (x:={f with i:=o rs<|bl rs p}) (p:=bl rs p) rfl b num).2 a s)|@JI d num first p w q h s l=>intro f hi b hd;show ev _ _ _ _;rw[BD e hi num first h,(DT e (x:={f with i:=o rs<|bl rs p}) (p:=bl rs p) rfl b num).1 w q s];exact ev.bad ((CS e (x:={f with i:=o rs q}) (p:=q) rfl b num _).1 l)|@JK num first p w q h s l=>{intro f hi b hd;show ev _ _ _ _;rw[BD e hi num first h,(DT e (x:={f with i:=o rs<|bl rs p}) (p:=bl rs p) rfl b num).1 w q s];exact ev.bad<|(CS e (x:={f with i:=o rs q}) (p:=q) rfl b num _).2.2 l (by show 6<G f.opens+2;omega)}|@JJ d num first p w q v a h s l zy m C=>{intro f hi b hd;show ev _ _ _ _;rw[BD e hi num first h,(DT e (x:={f with i:=o rs<|bl rs p}) (p:=bl rs p) rfl b num).1 w q s];have:=(CS e (x:={f with i:=o rs q}) (p:=q) rfl b num {kind:=91,text:=w,at_:=o rs<|bl rs p}).2.1 l (by show G f.opens+2<=6;omega);simp only at this⊢;rw[this];exact C _ rfl b aV (by simp[Dk.Sc.kG])<|Nt.Is rfl (by show(91:UInt8)≠116;decide)}|@JL d num first p w q J j h s l zy m y C=>{intro f hi b hd;show ev _ _ _ _;rw[BD e hi num first h,(DT e (x:={f with i:=o rs<|bl rs p}) (p:=bl rs p) rfl b num).1 w q s];have:=(CS e (x:={f with i:=o rs q}) (p:=q) rfl b num {kind:=91,text:=w,at_:=o rs<|bl rs p}).2.1 l (by show G f.opens+2<=6;omega);simp only at this⊢;rw[this];obtain⟨D,u⟩:=C {f with i:=o rs<|bl rs q+1,opens:=f.opens++[num],o:=f.o++[{kind:=91,text:=w,at_:=o rs<|bl rs p}]} rfl b aV (by simp[Dk.Sc.kG]) (Nt.Is rfl (by show(91:UInt8)≠116;decide));refine ev.after D ⟨_,.refl _,.inr ⟨b,?_,aN,rfl,?_⟩⟩;{rcases u with u|u;{exact RM rs j<|Ck.1 u};{exact absurd u y}};{rcases u with u|u;{exact RM rs j<|Ck.1 u};{exact absurd u y}}}|@dI d num first p w q J j A h s l zy m y O ab ad=>{intro f hi b hd;have aq:=(CS e (x:={f with i:=o rs q}) (p:=q) rfl b num {kind:=91,text:=w,at_:=o rs<|bl rs p}).2.1 l (by show G f.opens+2<=6;omega);have N:=(BD e hi num first h).trans<|(DT e (x:={f with i:=o rs<|bl rs p}) (p:=bl rs p) rfl b num).1 w q s;simp only at aq N;rw[aq]at N;obtain⟨D,_⟩:=ab {f with i:=o rs<|bl rs q+1,opens:=f.opens++[num],o:=f.o++[{kind:=91,text:=w,at_:=o rs<|bl rs p}]} rfl b aV (by simp[Dk.Sc.kG]) (Nt.Is rfl (by show(91:UInt8)≠116;decide));have ao:=DE e (z:={f with o:=f.o++[{kind:=91,text:=w,at_:=o rs<|bl rs p}]++flat (o rs) J}) (num:=num) y;have H:=ue e y;have L:fn rs.flatten (yw rs.flatten f num first)<|yw rs.flatten {f with i:=o rs<|j+1,o:=f.o++[{kind:=91,text:=w,at_:=o rs<|bl rs p}]++flat (o rs) J++[{kind:=93}]} num V:=by{rw[N];refine D.trans<|.step b H ?_;simp only at ao⊢;rw[ao];exact .refl _};have:=ad {f with i:=o rs<|j+1,o:=f.o++[{kind:=91,text:=w,at_:=o rs<|bl rs p}]++flat (o rs) J++[{kind:=93}]} rfl b hd;cases A with|ok t F=>exact this.elim|okB t v F=>have r4:=L.trans this;simp only[dh.pre,Tr.app];show fn _ _ _;simp only[flat,bX,b6,im]at r4⊢;exact r4|bad v a=>{exact ev.after L this}}
def yl (x:Dk.Sc)(e a):(x.fault e a).i=x.i:=by unfold Dk.Sc.fault;split<;>rfl
def yv (s:T)(x:Dk.Sc):x.i<=(x.bD s).i:=rD _ _
def wS (x:Dk.Sc)(n):x.i<=(x.go n).i:=rD _ _
def RT (s:T)(x:Dk.Sc):x.i<=(x.name s).i:=by unfold Dk.Sc.name;refine bY ?_<|wS _ _;split;{rw[yl];exact r _};{exact r _}
def WM (s:T)(x:Dk.Sc):x.i<=(x.whole s).i:=by unfold Dk.Sc.whole;refine bY ?_<|wS _ _;split;{rw[yl];exact r _};{exact r _}
def Mv (s:T)(x:Dk.Sc)(c):x.i<=(x.needs s c).i:=by unfold Dk.Sc.needs;split;{exact wS _ _};{rw[yl];exact r _}
def YW (s:T)(x:Dk.Sc)(num m):x.i<=(x.opened s num m).i:=by have h:=bY (yv s x)<|Mv s (x.bD s) 123;unfold Dk.Sc.opened;simp only;split;{rw[yl];exact h};{exact h}
def UP (s:T)(x:Dk.Sc)(num):x.i<=(x.branch s num).i:=by unfold Dk.Sc.branch;split;{exact r _};split;{exact bY (bY (wS x 1)<|WM s _)<|YW _ _ _ _};{refine bY (bY (RT s x) ?_)<|YW _ _ _ _;split;{rw[yl];exact r _};{exact r _}}
def arn (s:T)(x:Dk.Sc)(k m):x.i<=(x.args s k m).i:=by have h:=bY (Mv s x 44)<|yv s<|x.needs s 44;unfold Dk.Sc.args;simp only;split;{generalize(x.needs s 44).bD s=a at*;have f:=wS a 7;generalize a.go 7=b at*;have g:=yv s b;have j:=WM s<|b.bD s;have l:=yv s<|(b.bD s).whole s;generalize((b.bD s).whole s).bD s=c at*;have d:=UP s (c.put {m with offset:=(b.bD s).m_ s}) Y;have e:(c.put {m with offset:=(b.bD s).m_ s}).i=c.i:=rfl;omega};{generalize(x.needs s 44).bD s=a at*;have d:=UP s (a.put {m with offset:=[48]})<|am<|k<3;have e:(a.put {m with offset:=[48]}).i=a.i:=rfl;omega}
def sT (s:T)(x:Dk.Sc):x.i+1<=(x.mU s).i:=by have c:x.i+1<=((x.go 1).bD s).i:=yv s<|x.go 1;have a:=bY c<|bY (RT s _)<|yv s _;unfold Dk.Sc.mU;simp only;split;{exact a};split;{exact bY a<|Mv s _ 125};have b:=bY a<|bY (wS _ 1)<|bY (yv s _)<|RT s _;split;{rw[yl];exact b};split;{exact bY b<|bY (yv s _)<|Mv s _ 125};{exact bY b<|bY (yv s _)<|arn s _ _ _}
def aik:∀(k:Nat) (x:Dk.Sc) (a:T),x.i<=(x.nh k a).i:=by intro k;induction k with|zero=>intro x a;exact r _|succ k c=>{intro x a;have b:x.i<=((x.say (Lib.cut a [39]).1).go (Lib.cut a [39]).1.length).i:=by{refine bY ?_<|wS _ _;rw[(pX _ _).1];exact r _};rw[Dk.Sc.nh];simp only;split;{exact b};split;{split;{refine bY (bY b<|wS _ 1)<|bY ?_<|c _ _;refine bY ?_<|wS _ 1;rw[(pX _ _).1];exact r _};{exact bY b<|wS _ 1}};{exact bY b<|wS _ 1}}
def arz (s:T)(x:Dk.Sc)(num):x.i+1<=(x.sx s num).i:=by unfold Dk.Sc.sx;simp only;split;{rw[(pX _ _).1];exact r _};split;{rw[(pX _ _).1];exact fN _};split;{rename_i c a _ _ _;exact aik (G a+2) (x.go 1)<|c::a};{rw[(pX _ _).1];exact r _}
def sZ (s:T)(x:Dk.Sc):x.i<=(x.behind s).i:=by unfold Dk.Sc.behind;simp only;have h:x.i<=(({x with opens:=x.opens.dropLast}:Dk.Sc).bD s).i:=yv s {x with opens:=x.opens.dropLast};split;{exact bY h<|fN _};{exact bY h<|UP _ _ _}
def YZ (s:T)(x:Dk.Sc)(a:x.err=0)(hi:x.i<G s):(x.one s).err≠0\/x.i<(x.one s).i:=by unfold Dk.Sc.one;rw[bR hi];simp only;split;{exact .inr<|arz s x _};split;{exact .inr<|sT s x};split;{left;unfold Dk.Sc.fault;rw[t a];simp};split;{exact .inr<|sZ s<|(x.go 1).put {kind:=93}};split;{exact .inr<|jG _};{right;rw[(pX _ _).1];exact jG _}
def MD (s:T)(k x)(h:x.err≠0\/G s<=x.i):rQ s k x=x:=by cases k with|zero=>rfl|succ k=>{rw[rQ,A];rintro⟨a,b⟩;rcases h with h|h;{exact h a};{omega}}
def ME {s x y}(h:fn s x y)(hy:y.err≠0\/G s<=y.i):∀k,G s-x.i<=k->rQ s k x=y:=by induction h with|refl x=>intro k _;exact MD s k x hy|@step x y a hi d c=>{intro k e;obtain⟨k',rfl⟩:∃k',k=k'+1:=⟨k-1,S⟩;rw[rQ,t ⟨a,hi⟩];rcases YZ s x a hi with h|h;{rw[MD s k' _<|.inl h];cases d with|refl=>rfl|step b=>{exact absurd b h}};{exact c hy k' S}}
def ja:Dk.Sc:={i:=0,o:=[],opens:=[],err:=0,place:=0}
def RY {rs}(c:eT rs){t q}(h:Rd rs (.msg 1 V) 0<|.ok t q)(d:rs[q]? =O):eb rs.flatten={i:=G rs.flatten,o:=flat (o rs) t,opens:=[],err:=0,place:=0}:=by obtain⟨e,_⟩:=Ul c h ja (by simp[ja,o]) rfl rfl rfl (by rintro⟨f,h,_⟩;cases h);have a:=RM rs q<|Ck.1 d;have:=ME e (.inr (by rw[a];exact r _)) (G rs.flatten) (by simp[ja]);unfold eb;have b:({i:=0,o:=[],opens:=[],err:=0,place:=0}:Dk.Sc)=ja:=rfl;rw[b,this,a];simp[ja]
def akA {rs}(b:eT rs){t q}(h:Rd rs (.msg 1 V) 0<|.ok t q)(c:rs[q]? =K [125]):dt (eb rs.flatten) 3<|o rs q:=by obtain⟨g,_⟩:=Ul b h ja (by simp[ja,o]) rfl rfl rfl (by rintro⟨k,h,_⟩;cases h);have f:=(gr b q 125 P).2 c;have e:Dk.Sc.one rs.flatten {ja with i:=o rs q,o:=ja.o++flat (o rs) t}=({ja with i:=o rs q,o:=ja.o++flat (o rs) t}:Dk.Sc).fault 3 (o rs q):=by{unfold Dk.Sc.one;simp only;rw[f];simp[ja]};have a:dt (({ja with i:=o rs q,o:=ja.o++flat (o rs) t}:Dk.Sc).fault 3<|o rs q) 3<|o rs q:=dt.new (x:={ja with i:=o rs q,o:=ja.o++flat (o rs) t}) rfl 3 _ P;have j:=g.trans (.step rfl (ue b c) (by rw[e];exact .refl _));have:=ME j (.inl (by rw[a.1];decide)) (G rs.flatten) (by simp[ja]);unfold eb;have d:({i:=0,o:=[],opens:=[],err:=0,place:=0}:Dk.Sc)=ja:=rfl;rw[d,this];simp only;split;{exact a.fault _ _};{exact a}
def akB {rs}(l:eT rs){e a}(h:Rd rs (.msg 1 V) 0<|.bad e a):dt (eb rs.flatten) e<|o rs a:=by obtain⟨n,d,b⟩:=Ul l h ja (by simp[ja,o]) rfl rfl rfl (by rintro⟨m,h,_⟩;cases h);have c:({i:=0,o:=[],opens:=[],err:=0,place:=0}:Dk.Sc)=ja:=rfl;unfold eb;rcases b with b|⟨b,f,g,j,k⟩;{have:=ME d (.inl (by rw[b.1];exact b.2.2)) (G rs.flatten) (by simp[ja]);rw[c,this];simp only;split;{exact b.fault _ _};{exact b}};{have:=ME d (.inr (by rw[f];exact r _)) (G rs.flatten) (by simp[ja]);rw[c,this];simp only;rw[t ⟨b,g⟩,j,k];exact dt.new b 3 _ P}
end Pg
namespace Dk
open Pg
def cx (m:da):Nat:=if m.kind=110\/m.kind=40/\m.how≠fC then 110 else if m.kind=40 then 116 else 0
def gV (st c:Nat×Nat):Nat×Nat:=if st.1=0\/c.2<st.2 then c else st
def dx (m:da):Int:=if m.kind=40\/m.kind=91 then 1 else if m.kind=41\/m.kind=93 then-1 else 0
def h_:Int->List da->Nat
 |_,[]=>0
 |d,m::r=>if d+dx m=0 then 0 else h_ (d+dx m) r+1
def iw (l:List da)(k:Nat):Nat:=k+h_ 0 (l.drop k)
def su (l:List da)(e:Nat):Nat->Nat->List Nat
 |0,_=>[]
 |n+1,i=>if i<e then i::su l e n (iw l i+1)else[]
def kH (l:List da)(k:Nat):List Nat:=su l (iw l k) (G l)<|k+1
def di (n:T):List da->Nat
 | []=>0
 |m::r=>if cx m≠0/\m.name=n then cx m else di n r
def uk (P:List da)(m:da):List<|Nat×Nat:=if cx m≠0/\di m.name P≠0/\di m.name P≠cx m then[(5,m.at_)]else[]
def dN (l:List da)(i:Nat):T:=(l[i]?.map da.text).getD []
def sV (l:List da)(i:Nat):Nat:=(l[i]?.map da.at_).getD 0
def rL (l:List da)(seen:List Nat):List Nat->List (Nat×Nat)
 | []=>[]
 |a::r=>(seen.filter<|λb=>dN l a=dN l b).map (λ_=>(7,sV l a))++rL l (seen++[a]) r
def cB:T:=[111,116,104,101,114]
def Iq (l:List da)(k:Nat)(bs:List Nat):List<|Nat×Nat:=if bs.any (λb=>dN l b==cB)=Y then[]else[(6,sV l<|iw l k)]
def ql (l:List da)(i:Nat):List<|Nat×Nat:=match l[i]?with
 |none=>[]
 |some m=>uk (l.take i) m++if m.kind=40 then rL l [] (kH l i)++Iq l i (kH l i)else[]
def o_ (l:List da):Nat×Nat:=((List.range<|G l).flatMap<|ql l).foldl gV (0,0)
end Dk
namespace Pg
open Dk
def aep:∀(a:List<|Nat×Nat) (b c:Nat×Nat),(b=c\/c∈a/\(b.1=0\/c.2<b.2))->c.1≠0->(∀d∈a,c.2<=d.2/\(d.2=c.2->d=c))->a.foldl gV b=c:=by intro a;induction a with|nil=>{intro b c h _ _;rcases h with h|h;exact h;cases h.1}|cons d a m=>{intro b c h k hd;rw[iQ];have g:∀d∈a,c.2<=d.2/\(d.2=c.2->d=c):=λd h=>hd d (by simp[h]);obtain⟨n,i⟩:=hd d z;apply m _ _ _ k g;unfold gV;rcases h with h|⟨j,f⟩;{left;rw[A,h];rw[h];omega};{by_cases e:d=c;{left;rw[e,t f]};{right;have l:c∈a:=by{rcases cL.1 j with h|h;{exact absurd h.symm e};{exact h}};refine⟨l,?_⟩;split;{right;rcases dM c.2 d.2 with h|h;{exact h};{exact absurd (i S) e}};{exact f}}}}
def aeo (C)(h:C= []):C.foldl gV (0,0)=(0,0):=by rw[h];rfl
def In:Nat->Nat->Tr->Prop
 |lo,hi,.nil=>lo<=hi
 |lo,hi,.text _ r=>In lo hi r
 |lo,hi,.sign r=>In lo hi r
 |lo,hi,.simple _ a r=>lo<=a/\In (a+1) hi r
 |lo,hi,.num _ a r=>lo<=a/\In (a+1) hi r
 |lo,hi,.bj _ a bs e r=>lo<=a/\In (a+1) e bs/\In (e+1) hi r
 |lo,hi,.bk _ a _ _ bs e r=>lo<=a/\In (a+1) e bs/\In (e+1) hi r
 |lo,hi,.br _ a m r=>lo<=a/\∃c,In (a+1) c m/\In c hi r
def In.le {lo hi t}(h:In lo hi t):lo<=hi:=by induction t generalizing lo hi with|nil=>exact h|text _ d b=>exact b h|sign d b=>exact b h|simple _ a d b=>have:=b h.2;have:=h.1;omega|num _ a d b=>have:=b h.2;have:=h.1;omega|bj _ a g i d e f=>have:=e h.2.1;have:=f h.2.2;have:=h.1;omega|bk _ a _ _ g i d e f=>have:=e h.2.1;have:=f h.2.2;have:=h.1;omega|br _ a m d e f=>{obtain⟨l,c,j,k⟩:=h;have:=e j;have:=f k;omega}
def em:Tr->List T
 |.br w _ _ r=>w::em r
 |_=>[]
def bW (o:Nat->Nat):Tr->da
 |.num n a _=>{kind:=110,name:=n,how:=nj,at_:=o a}
 |.bj n a _ _ _=>{kind:=40,name:=n,how:=fC,offset:=[48],at_:=o a}
 |.bk n a ord off _ _ _=>{kind:=40,name:=n,how:=if ord then dR else fk,offset:=off,at_:=o a}
 |_=>{kind:=0}
def C5 (P:List da)(m:da):Bool:=am<|di m.name P≠0/\di m.name P≠cx m
abbrev iT (P:List da)(m:da):Prop:=C5 P m=Y
def C4 {P m}:iT P m↔(di m.name P≠0/\di m.name P≠cx m):=by simp[iT,C5]
def ck (o:Nat->Nat):List da->List T->Tr->Option (Nat×Nat)
 |_,_,.nil=>O
 |P,seen,.text t r=>ck o (P++[{kind:=116,text:=t}]) seen r
 |P,seen,.sign r=>ck o (P++[{kind:=35}]) seen r
 |P,seen,.simple n a r=>ck o (P++[{kind:=112,name:=n,at_:=o a}]) seen r
 |P,seen,.num n a r=>if iT P (bW o<|.num n a r)then K (5,a)else ck o (P++[bW o<|.num n a r]) seen r
 |P,seen,.bj n a bs e r=>if iT P (bW o<|.bj n a bs e r)then K (5,a)else
   match ck o (P++[bW o<|.bj n a bs e r]) [] bs with
   |some f=>K f
   |none=>if cB∈em bs then ck o (P++flat o (.bj n a bs e .nil)) seen r else K (6,e)
 |P,seen,.bk n a ord off bs e r=>if iT P (bW o<|.bk n a ord off bs e r)then K (5,a)else
   match ck o (P++[bW o<|.bk n a ord off bs e r]) [] bs with
   |some f=>K f
   |none=>if cB∈em bs then ck o (P++flat o (.bk n a ord off bs e .nil)) seen r else K (6,e)
 |P,seen,.br w a m r=>if w∈seen then K (7,a)else
   match ck o (P++[{kind:=91,text:=w,at_:=o a}]) [] m with
   |some f=>K f
   |none=>ck o (P++flat o (.br w a m .nil)) (seen++[w]) r
def Tw (o:Nat->Nat):List T->Tr->Nat×Nat->Prop
 |seen,.br w a _ r,x=>w∈seen/\x=(7,o a)\/Tw o (seen++[w]) r x
 |_,_,_=>False
def Cd (o:Nat->Nat):List da->Tr->Nat×Nat->Prop
 |_,.nil,_=>False
 |P,.text t r,x=>Cd o (P++[{kind:=116,text:=t}]) r x
 |P,.sign r,x=>Cd o (P++[{kind:=35}]) r x
 |P,.simple n a r,x=>Cd o (P++[{kind:=112,name:=n,at_:=o a}]) r x
 |P,.num n a r,x=>iT P (bW o<|.num n a r)/\x=(5,o a)\/Cd o (P++[bW o<|.num n a r]) r x
 |P,.bj n a bs e r,x=>iT P (bW o<|.bj n a bs e r)/\x=(5,o a)\/Tw o [] bs x\/Cd o (P++[bW o<|.bj n a bs e r]) bs x\/cB∉em bs/\x=(6,o e)\/Cd o (P++flat o (.bj n a bs e .nil)) r x
 |P,.bk n a ord off bs e r,x=>iT P (bW o<|.bk n a ord off bs e r)/\x=(5,o a)\/Tw o [] bs x\/Cd o (P++[bW o<|.bk n a ord off bs e r]) bs x\/cB∉em bs/\x=(6,o e)\/Cd o (P++flat o (.bk n a ord off bs e .nil)) r x
 |P,.br w a m r,x=>Cd o (P++[{kind:=91,text:=w,at_:=o a}]) m x\/Cd o (P++flat o (.br w a m .nil)) r x
def Gb {o}:∀(t:Tr) (seen:List T) (lo hi:Nat) (x:Nat×Nat),In lo hi t->Tw o seen t x->∃a,lo<=a/\a<hi/\x=(7,o a):=by intro t;induction t with|br w a n p m k=>{intro seen lo hi x h d;obtain⟨j,c,e,f⟩:=h;rcases d with⟨_,d⟩|d;{exact⟨a,j,by have:=e.le;have:=f.le;omega,d⟩};{obtain⟨b,l,g,i⟩:=k _ _ _ _ f d;exact⟨b,by have:=e.le;omega,g,i⟩}}|_=>{intro seen lo hi x _ d;exact d.elim}
def wm {o}:∀(t:Tr) (i:List da) (lo hi:Nat) (x:Nat×Nat),In lo hi t->Cd o i t x->∃a,lo<=a/\a<hi/\x.2=o a/\x.1≠0:=by intro t;induction t with|nil=>intro i lo hi x _ d;exact d.elim|text t m l=>intro i lo hi x h d;exact l _ _ _ _ h d|sign m l=>intro i lo hi x h d;exact l _ _ _ _ h d|simple n a m l=>{intro i lo hi x h d;obtain⟨b,j,f,e⟩:=l _ _ _ _ h.2 d;exact⟨b,by have:=h.1;omega,f,e⟩}|num n a m l=>{intro i lo hi x h d;rcases d with⟨_,rfl⟩|d;{exact⟨a,h.1,h.2.le,rfl,aN⟩};{obtain⟨b,j,f,e⟩:=l _ _ _ _ h.2 d;exact⟨b,by have:=h.1;omega,f,e⟩}}|bj n a y s m p q=>{intro i lo hi x h d;obtain⟨r,g,k⟩:=h;have u:=g.le;have v:=k.le;rcases d with⟨_,rfl⟩|d|d|⟨_,rfl⟩|d;{exact⟨a,r,S,rfl,aN⟩};{obtain⟨b,j,f,rfl⟩:=Gb _ _ _ _ _ g d;exact⟨b,S,S,rfl,aN⟩};{obtain⟨b,j,f,e⟩:=p _ _ _ _ g d;exact⟨b,S,S,e⟩};{exact⟨s,S,S,rfl,aN⟩};{obtain⟨b,j,f,e⟩:=q _ _ _ _ k d;exact⟨b,S,S,e⟩}}|bk n a A off y s m p q=>{intro i lo hi x h d;obtain⟨r,g,k⟩:=h;have u:=g.le;have v:=k.le;rcases d with⟨_,rfl⟩|d|d|⟨_,rfl⟩|d;{exact⟨a,r,S,rfl,aN⟩};{obtain⟨b,j,f,rfl⟩:=Gb _ _ _ _ _ g d;exact⟨b,S,S,rfl,aN⟩};{obtain⟨b,j,f,e⟩:=p _ _ _ _ g d;exact⟨b,S,S,e⟩};{exact⟨s,S,S,rfl,aN⟩};{obtain⟨b,j,f,e⟩:=q _ _ _ _ k d;exact⟨b,S,S,e⟩}}|br w a z m p q=>{intro i lo hi x h d;obtain⟨r,c,g,k⟩:=h;have u:=g.le;have v:=k.le;rcases d with d|d;{obtain⟨b,j,f,e⟩:=p _ _ _ _ g d;exact⟨b,S,S,e⟩};{obtain⟨b,j,f,e⟩:=q _ _ _ _ k d;exact⟨b,S,S,e⟩}}
def Wf:Bool->Tr->Prop
 |_,.nil=>True
 |b,.text _ r=>b=V/\Wf V r
 |b,.sign r=>b=V/\Wf V r
 |b,.simple _ _ r=>b=V/\Wf V r
 |b,.num _ _ r=>b=V/\Wf V r
 |b,.bj _ _ bs _ r=>b=V/\Wf Y bs/\Wf V r
 |b,.bk _ _ _ _ bs _ r=>b=V/\Wf Y bs/\Wf V r
 |b,.br _ _ m r=>b=Y/\Wf V m/\Wf Y r
def AO {o t}(h:Wf V t)(seen x):¬Tw o seen t x:=by cases t with|br w a b c=>{exact absurd h.1 z}|_=>{exactλh=>h}
def om (o:Nat->Nat)(S:Nat×Nat->Prop)(lo hi:Nat):Option (Nat×Nat)->Prop
 |none=>∀x,¬S x
 |some f=>S (f.1,o f.2)/\lo<=f.2/\f.2<hi/\f.1≠0/\∀x,S x->o f.2<=x.2/\(x.2=o f.2->x=(f.1,o f.2))
def om.congr {o S S' lo i hi g r}(h:om o S lo hi r)(hS:∀x,S x↔S' x)(k:i<=lo)(l:hi<=g):om o S' i g r:=by cases r with|none=>exactλx e=>h x ((hS x).2 e)|some f=>{obtain⟨a,b,c,d,j⟩:=h;exact⟨(hS _).1 a,aJ,aJ,d,λx e=>j x<|(hS x).2 e⟩}
def om.head {o S lo hi a e}(h:S (e,o a))(c:lo<=a)(d:a<hi)(g:e≠0)(f:∀x,S x->x=(e,o a)\/o a<x.2):om o S lo hi<|K (e,a):=by refine⟨h,c,d,g,λx i=>?_⟩;rcases f x i with rfl|h;{exact⟨r _,λ_=>rfl⟩};{exact⟨iG,λb=>by simp only at b;omega⟩}
def om.more {o S S' lo hi e f}(h:om o S lo e<|K f)(q:e<=hi)(hS:∀x,S x->S' x)(k:∀x,S' x->S x\/∃b,e<=b/\b<hi/\x.2=o b)(m:∀a b,a<b->b<hi->o a<o b):om o S' lo hi<|K f:=by obtain⟨a,b,c,d,j⟩:=h;refine⟨hS _ a,b,aJ,d,λx l=>?_⟩;rcases k x l with h|⟨g,n,i,p⟩;{exact j x h};{have:=m f.2 g aJ i;exact⟨aJ,λh=>aJ⟩}
def sb {o N}(u:∀a b,a<b->b<N->o a<o b):∀(t:Tr) (k:Bool) (e:List da) (seen:List T) (lo hi:Nat),hi<=N->Wf k t->In lo hi t->om o (λx=>Tw o seen t x\/Cd o e t x) lo hi (ck o e seen t):=by intro t;induction t with|nil=>{intro k e seen lo hi _ _ _ x d;rcases d with h|h<;>exact h.elim}|text t l C=>intro k e seen lo hi z s h;rw[ck];refine om.congr (C V (e++[{kind:=116,text:=t}]) seen lo hi z s.2 h) (λx=>?_) (aO _)<|aO _;simp[Cd,Tw,AO s.2]|sign l C=>intro k e seen lo hi z s h;rw[ck];refine om.congr (C V (e++[{kind:=35}]) seen lo hi z s.2 h) (λx=>?_) (aO _)<|aO _;simp[Cd,Tw,AO s.2]|simple n a l C=>{intro k e seen lo hi z s h;rw[ck];refine om.congr (C V (e++[{kind:=112,name:=n,at_:=o a}]) seen (a+1) hi z s.2 h.2) (λx=>?_) (by have:=h.1;omega)<|aO _;simp[Cd,Tw,AO s.2]}|num n a l C=>{intro k e seen lo hi z s h;have S:=h.2.le;rw[ck];by_cases q:iT e<|bW o<|.num n a l;{rw[aP q];refine om.head (.inr<|.inl ⟨q,rfl⟩) h.1 aJ aM λx d=>?_;rcases d with d|⟨_,d⟩|d;{exact d.elim};{exact .inl d};{obtain⟨b,r,m,i,_⟩:=wm _ _ _ _ _ h.2 d;right;rw[i];exact u a b aJ aJ}};{rw[aL q];exact(C V (e++[bW o<|.num n a l]) seen (a+1) hi z s.2 h.2).congr (λx=>by simp[Cd,Tw,AO s.2,q]) (by have:=h.1;omega)<|aO _}}|bj n a j g l K L=>{intro k e seen lo hi z s h;obtain⟨H,y,p⟩:=h;obtain⟨_,G,F⟩:=s;have Q:=y.le;have R:=p.le;rw[ck];by_cases q:iT e<|bW o<|.bj n a j g l;{rw[aP q];refine om.head (.inr<|.inl ⟨q,rfl⟩) H aJ aM λx d=>?_;rcases d with d|⟨_,d⟩|d|d|⟨_,rfl⟩|d;{exact d.elim};{exact .inl d};{obtain⟨b,r,m,rfl⟩:=Gb _ _ _ _ _ y d;exact .inr<|u a b aJ aJ};{obtain⟨b,r,m,i,_⟩:=wm _ _ _ _ _ y d;right;rw[i];exact u a b aJ aJ};{exact .inr<|u a g aJ aJ};{obtain⟨b,r,m,i,_⟩:=wm _ _ _ _ _ p d;right;rw[i];exact u a b aJ aJ}};{rw[aL q];have v:=K Y (e++[bW o<|.bj n a j g l]) [] (a+1) g aJ G y;cases B:ck o (e++[bW o<|.bj n a j g l]) [] j with|some f=>{rw[B]at v;have I:=om.more (S':=λx=>Tw o seen (.bj n a j g l) x\/Cd o e (.bj n a j g l) x) (hi:=hi) v aJ (λx d=>by rcases d with d|d;exact .inr<|.inr<|.inl d;exact .inr<|.inr<|.inr<|.inl d) (λx d=>by{rcases d with d|⟨d,_⟩|d|d|⟨_,rfl⟩|d;{exact d.elim};{exact absurd d q};{exact .inl<|.inl d};{exact .inl<|.inr d};{exact .inr ⟨g,aO _,aJ,rfl⟩};{obtain⟨b,r,m,i,_⟩:=wm _ _ _ _ _ p d;exact .inr ⟨b,aJ,m,i⟩}})<|λa b h P=>u a b h aJ;exact I.congr (λx=>Cj) aJ<|aO _}|none=>{rw[B]at v;simp only;have O:∀x,¬Tw o [] j x:=λx d=>v x<|.inl d;have D:∀x,¬Cd o (e++[bW o<|.bj n a j g l]) j x:=λx d=>v x<|.inr d;by_cases A:cB∈em j;{rw[aP A];exact(L V (e++flat o (.bj n a j g .nil)) seen (g+1) hi z F p).congr (λx=>by simp[Cd,Tw,AO F,q,O,D,A]) aJ<|aO _};{rw[aL A];refine om.head (.inr<|.inr<|.inr<|.inr<|.inl ⟨A,rfl⟩) aJ aJ aM λx d=>?_;rcases d with d|⟨d,_⟩|d|d|⟨_,rfl⟩|d;{exact d.elim};{exact absurd d q};{exact absurd d<|O x};{exact absurd d<|D x};{exact .inl rfl};{obtain⟨b,r,m,i,_⟩:=wm _ _ _ _ _ p d;right;rw[i];exact u g b aJ aJ}}}}}|bk n a E off j g l K L=>{intro k e seen lo hi z s h;obtain⟨H,y,p⟩:=h;obtain⟨_,G,F⟩:=s;have Q:=y.le;have R:=p.le;rw[ck];by_cases q:iT e<|bW o<|.bk n a E off j g l;{rw[aP q];refine om.head (.inr<|.inl ⟨q,rfl⟩) H aJ aM λx d=>?_;rcases d with d|⟨_,d⟩|d|d|⟨_,rfl⟩|d;{exact d.elim};{exact .inl d};{obtain⟨b,r,m,rfl⟩:=Gb _ _ _ _ _ y d;exact .inr<|u a b aJ aJ};{obtain⟨b,r,m,i,_⟩:=wm _ _ _ _ _ y d;right;rw[i];exact u a b aJ aJ};{exact .inr<|u a g aJ aJ};{obtain⟨b,r,m,i,_⟩:=wm _ _ _ _ _ p d;right;rw[i];exact u a b aJ aJ}};{rw[aL q];have v:=K Y (e++[bW o<|.bk n a E off j g l]) [] (a+1) g aJ G y;cases B:ck o (e++[bW o<|.bk n a E off j g l]) [] j with|some f=>{rw[B]at v;have I:=om.more (S':=λx=>Tw o seen (.bk n a E off j g l) x\/Cd o e (.bk n a E off j g l) x) (hi:=hi) v aJ (λx d=>by rcases d with d|d;exact .inr<|.inr<|.inl d;exact .inr<|.inr<|.inr<|.inl d) (λx d=>by{rcases d with d|⟨d,_⟩|d|d|⟨_,rfl⟩|d;{exact d.elim};{exact absurd d q};{exact .inl<|.inl d};{exact .inl<|.inr d};{exact .inr ⟨g,aO _,aJ,rfl⟩};{obtain⟨b,r,m,i,_⟩:=wm _ _ _ _ _ p d;exact .inr ⟨b,aJ,m,i⟩}})<|λa b h P=>u a b h aJ;exact I.congr (λx=>Cj) aJ<|aO _}|none=>{rw[B]at v;simp only;have O:∀x,¬Tw o [] j x:=λx d=>v x<|.inl d;have D:∀x,¬Cd o (e++[bW o<|.bk n a E off j g l]) j x:=λx d=>v x<|.inr d;by_cases A:cB∈em j;{rw[aP A];exact(L V (e++flat o (.bk n a E off j g .nil)) seen (g+1) hi z F p).congr (λx=>by simp[Cd,Tw,AO F,q,O,D,A]) aJ<|aO _};{rw[aL A];refine om.head (.inr<|.inr<|.inr<|.inr<|.inl ⟨A,rfl⟩) aJ aJ aM λx d=>?_;rcases d with d|⟨d,_⟩|d|d|⟨_,rfl⟩|d;{exact d.elim};{exact absurd d q};{exact absurd d<|O x};{exact absurd d<|D x};{exact .inl rfl};{obtain⟨b,r,m,i,_⟩:=wm _ _ _ _ _ p d;right;rw[i];exact u g b aJ aJ}}}}}|br w a M l K L=>{intro k e seen lo hi z s h;obtain⟨H,c,y,p⟩:=h;obtain⟨_,G,F⟩:=s;have Q:=y.le;have R:=p.le;rw[ck];by_cases J:w∈seen;{rw[aP J];refine om.head (.inl<|.inl ⟨J,rfl⟩) H aJ aM λx d=>?_;rcases d with(⟨_,d⟩|d)|d|d;{exact .inl d};{obtain⟨b,r,m,rfl⟩:=Gb _ _ _ _ _ p d;exact .inr<|u a b aJ aJ};{obtain⟨b,r,m,i,_⟩:=wm _ _ _ _ _ y d;right;rw[i];exact u a b aJ aJ};{obtain⟨b,r,m,i,_⟩:=wm _ _ _ _ _ p d;right;rw[i];exact u a b aJ aJ}};{rw[aL J];have v:=K V (e++[{kind:=91,text:=w,at_:=o a}]) [] (a+1) c aJ G y;cases B:ck o (e++[{kind:=91,text:=w,at_:=o a}]) [] M with|some f=>{rw[B]at v;have I:=om.more (S':=λx=>Tw o seen (.br w a M l) x\/Cd o e (.br w a M l) x) (hi:=hi) v aJ (λx d=>by rcases d with d|d;exact absurd d<|AO G _ _;exact .inr<|.inl d) (λx d=>by{rcases d with(⟨d,_⟩|d)|d|d;{exact absurd d J};{obtain⟨b,r,m,rfl⟩:=Gb _ _ _ _ _ p d;exact .inr ⟨b,r,m,rfl⟩};{exact .inl<|.inr d};{obtain⟨b,r,m,i,_⟩:=wm _ _ _ _ _ p d;exact .inr ⟨b,r,m,i⟩}})<|λa b h P=>u a b h aJ;exact I.congr (λx=>Cj) aJ<|aO _}|none=>{rw[B]at v;simp only;have D:∀x,¬Cd o (e++[{kind:=91,text:=w,at_:=o a}]) M x:=λx d=>v x<|.inr d;exact(L Y (e++flat o (.br w a M .nil)) (seen++[w]) c hi z F p).congr (λx=>by simp[Cd,Tw,J,D]) aJ<|aO _}}}
def apt {o}:∀(t:Tr) (d:Int) (b:List da),1<=d->h_ d (flat o t++b)=G (flat o t)+h_ d b:=by intro t;induction t with|nil=>intro d b _;simp[flat]|text t b c=>{intro d q h;rw[flat,b6,h_,show d+dx {kind:=116,text:=t}=d by simp[dx],A S,c d q h];simp only[bB];omega}|sign b c=>{intro d q h;rw[flat,b6,h_,show d+dx {kind:=35}=d by simp[dx],A S,c d q h];simp only[bB];omega}|simple n a b c=>{intro d q h;rw[flat,b6,h_,show d+dx {kind:=112,name:=n,at_:=o a}=d by simp[dx],A S,c d q h];simp only[bB];omega}|num n a b c=>{intro d q h;rw[flat,b6,h_,show d+dx {kind:=110,name:=n,how:=nj,at_:=o a}=d by simp[dx],A S,c d q h];simp only[bB];omega}|bj n a i g b e f=>{intro d q h;rw[flat,b6,bX,b6,h_,show d+dx {kind:=40,name:=n,how:=fC,offset:=[48],at_:=o a}=d+1 by simp[dx],A S,e (d+1) _ S,h_,show d+1+dx {kind:=41,at_:=o g}=d by simp[dx];omega,A S,f d q h];simp only[bB,aW];omega}|bk n a j off i g b e f=>{intro d q h;rw[flat,b6,bX,b6,h_,show d+dx {kind:=40,name:=n,how:=if j then dR else fk,offset:=off,at_:=o a}=d+1 by simp[dx],A S,e (d+1) _ S,h_,show d+1+dx {kind:=41,at_:=o g}=d by simp[dx];omega,A S,f d q h];simp only[bB,aW];omega}|br w a k b e f=>{intro d q h;rw[flat,b6,bX,b6,h_,show d+dx {kind:=91,text:=w,at_:=o a}=d+1 by simp[dx],A S,e (d+1) _ S,h_,show d+1+dx {kind:=93}=d by simp[dx];omega,A S,f d q h];simp only[bB,aW];omega}
def FX {o P m c t Q}(b:dx m=1)(a:dx c= -1):iw (P++m::(flat o t++c::Q)) (G P)=G P+1+G (flat o t):=by unfold iw;rw[Lh,h_,b,A S,apt t _ _ S,h_,a,aP S];omega
def mu (o:Nat->Nat):Nat->Tr->List Nat
 |k,.br w a m r=>k::mu o (k+G (flat o<|.br w a m .nil)) r
 |_,_=>[]
def aqE {o}:∀(f:Tr) (b:List da) (c:da) (d:List da) (n:Nat),Wf Y f->G (flat o f)<=n->su (b++(flat o f++c::d)) (G b+G (flat o f)) n (G b)=mu o (G b) f:=by
 intro f
 induction f with
 |nil=>intro b c d n _ _;cases n with
  |zero=>rfl
  |succ n=>rw[su,A<|by simp[flat]];rfl
 |br w a e g _ m=>
  intro b c d n h l
  simp only[flat,bB,aW]at l
  obtain⟨n,rfl⟩:∃p,n=p+1:=⟨n-1,S⟩
  have i:b++(flat o (.br w a e g)++c::d)=b++{kind:=91,text:=w,at_:=o a}::(flat o e++{kind:=93}::(flat o g++c::d)):=by simp[flat]
  have j:b++(flat o (.br w a e g)++c::d)=(b++flat o (.br w a e .nil))++(flat o g++c::d):=by simp[flat]
  have k:=FX (o:=o) (P:=b) (m:={kind:=91,text:=w,at_:=o a}) (c:={kind:=93}) (t:=e) (Q:=flat o g++c::d) (by simp[dx]) (by simp[dx])
  rw[su,aP (by simp[flat]),mu]
  congr 1
  rw[show iw (b++(flat o (.br w a e g)++c::d)) (G b)=G b+1+G (flat o e) by rw[i];exact k,j]
  have:=m (b++flat o (.br w a e .nil)) c d n h.2.2 S
  simp only[aW]at this
  rw[<-this]
  congr 1
  ·simp only[flat,bB,aW,jE];omega
  ·simp only[flat,bB,aW,jE];omega
 |_=>intro b c d n h;exact absurd h.1 z
def UN {o P m c bs Q}(d:Wf Y bs)(b:dx m=1)(a:dx c= -1):kH (P++m::(flat o bs++c::Q)) (G P)=mu o (G P+1) bs:=by unfold kH;rw[FX b a];have h:=aqE (o:=o) bs (P++[m]) c Q (G<|P++m::(flat o bs++c::Q)) d q;simp only[j,fW,bX,b6,im]at h⊢;exact h
def sw {P:List da}{m Q}:(P++m::Q)[G P]? =K m:=z
def afg {o}:∀(e:Tr) (c d:List da) (seen:List Nat) (x:Nat×Nat),Wf Y e->(x∈rL (c++(flat o e++d)) seen (mu o (G c) e)↔Tw o (seen.map<|dN<|c++(flat o e++d)) e x):=by intro e;induction e with|nil=>intro c d seen x _;simp[mu,rL,Tw]|br w a f g _ p=>{intro c d seen x j;have k:c++(flat o (.br w a f g)++d)=c++{kind:=91,text:=w,at_:=o a}::(flat o f++{kind:=93}::(flat o g++d)):=by{simp[flat]};have n:c++(flat o (.br w a f g)++d)=(c++flat o (.br w a f .nil))++(flat o g++d):=by{simp[flat]};have m:dN (c++(flat o (.br w a f g)++d)) (G c)=w:=by{rw[k,dN,sw];rfl};have q:sV (c++(flat o (.br w a f g)++d)) (G c)=o a:=by{rw[k,sV,sw];rfl};have l:=p (c++flat o (.br w a f .nil)) d (seen++[G c]) x j.2.2;rw[<-n,eC,Li,m,aW]at l;rw[mu,rL,Tw,dU,l,m,q];refine K0 ?_ Cj;simp only[oy,yP,xB];constructor;{rintro⟨b,⟨h,i⟩,rfl⟩;exact⟨⟨b,h,i.symm⟩,rfl⟩};{rintro⟨⟨b,h,i⟩,rfl⟩;exact⟨b,⟨h,i.symm⟩,rfl⟩}}|_=>{intro c d seen x j;exact absurd j.1 z}
def alH {o}:∀(d:Tr) (b c:List da),Wf Y d->(mu o (G b) d).map (dN<|b++(flat o d++c))=em d:=by intro d;induction d with|nil=>intro b c _;rfl|br w a e f _ k=>{intro b c g;have i:b++(flat o (.br w a e f)++c)=b++{kind:=91,text:=w,at_:=o a}::(flat o e++{kind:=93}::(flat o f++c)):=by{simp[flat]};have j:b++(flat o (.br w a e f)++c)=(b++flat o (.br w a e .nil))++(flat o f++c):=by{simp[flat]};have l:dN (b++(flat o (.br w a e f)++c)) (G b)=w:=by{rw[i,dN,sw];rfl};have h:=k (b++flat o (.br w a e .nil)) c g.2.2;rw[<-j,aW]at h;rw[mu,fM,l,em,h]}|_=>{intro b c g;exact absurd g.1 z}
def CI (L:List da)(a n:Nat)(x:Nat×Nat):Prop:=∃i,a<=i/\i<a+n/\x∈ql L i
def O9 (L a n k x):CI L a (n+k) x↔CI L a n x\/CI L (a+n) k x:=by constructor;{rintro⟨i,c,d,b⟩;rcases dM i (a+n)with h|h;{exact .inl ⟨i,c,h,b⟩};{exact .inr ⟨i,h,S,b⟩}};{rintro(⟨i,c,d,b⟩|⟨i,c,d,b⟩);{exact⟨i,c,S,b⟩};{exact⟨i,S,S,b⟩}}
def VW (L a x):CI L a 1 x↔x∈ql L a:=by constructor;{rintro⟨i,c,d,b⟩;have:i=a:=S;rw[<-this];exact b};{intro h;exact⟨a,r _,S,h⟩}
def JF {P m Q}(a:cx m=0)(b:m.kind≠40):ql (P++m::Q) (G P)= []:=by unfold ql;rw[sw];simp only;rw[A b,uk,A<|by simp[a]];rfl
def ZW (P m)(h:cx m≠0)(x):x∈uk P m↔iT P m/\x=(5,m.at_):=by rw[C4];unfold uk;by_cases a:di m.name P≠0/\di m.name P≠cx m;{rw[t ⟨h,a⟩];simp[a]};{rw[A<|λh=>a h.2];simp[a]}
def wF {o P m c bs Q}(d:Wf Y bs)(j:m.kind=40)(p:c.kind=41)(x):x∈ql (P++m::(flat o bs++c::Q)) (G P)↔(iT P m/\x=(5,m.at_))\/Tw o [] bs x\/(cB∉em bs/\x=(6,c.at_)):=by have e:dx m=1:=by{simp[dx,j]};have f:dx c= -1:=by{simp[dx,p]};have s:cx m≠0:=by{unfold cx;split;{decide};{decide}};have l:P++m::(flat o bs++c::Q)=(P++[m])++(flat o bs++c::Q):=z;have i:=alH (o:=o) bs (P++[m]) (c::Q) d;have k:=afg (o:=o) bs (P++[m]) (c::Q) [] x d;rw[<-l,aW,fW]at i k;unfold ql;rw[sw];simp only;rw[t j,UN d e f,Cn,dU,dU,ZW P m s,k];refine K0 Cj<|K0 Cj ?_;unfold Iq;have r:sV (P++m::(flat o bs++c::Q)) (iw (P++m::(flat o bs++c::Q))<|G P)=c.at_:=by{rw[FX e f];have n:P++m::(flat o bs++c::Q)=(P++m::flat o bs)++c::Q:=z;have q:G P+1+G (flat o bs)=G (P++m::flat o bs):=aV;rw[n,q,sV,sw];rfl};rw[r];have g:((mu o (G P+1) bs).any<|λb=>dN (P++m::(flat o bs++c::Q)) b==cB)=Y↔cB∈em bs:=by{rw[<-i,List.any_eq_true];simp only[ef,oy]};by_cases a:cB∈em bs;{rw[t<|g.2 a];simp[a]};{rw[A<|λh=>a<|g.1 h];simp[a]}
def asn {o}:∀(t:Tr) (k:Bool) (b g:List da) (x:Nat×Nat),Wf k t->(CI (b++(flat o t++g)) (G b) (G<|flat o t) x↔Cd o b t x):=by have s:∀(e:da) (d:Tr) (b g:List da) (x:Nat×Nat),(CI (b++[e]++(flat o d++g)) (G<|b++[e]) (G<|flat o d) x↔Cd o (b++[e]) d x)->(CI (b++(e::flat o d++g)) (G b) (G<|e::flat o d) x↔x∈ql (b++e::(flat o d++g)) (G b)\/Cd o (b++[e]) d x):=by{intro e d b g x h;rw[bB,uU,O9,VW];simp only[bX,b6,im,aW,fW]at h⊢;rw[h]};have v:∀(e c:da) (f d:Tr) (b g:List da) (x:Nat×Nat),c.kind=41\/c.kind=93->(CI (b++[e]++(flat o f++(c::(flat o d++g)))) (G<|b++[e]) (G<|flat o f) x↔Cd o (b++[e]) f x)->(CI ((b++e::(flat o f++[c]))++(flat o d++g)) (G<|b++e::(flat o f++[c])) (G<|flat o d) x↔Cd o (b++e::(flat o f++[c])) d x)->(CI (b++(e::(flat o f++c::flat o d)++g)) (G b) (G<|e::(flat o f++c::flat o d)) x↔x∈ql (b++e::(flat o f++c::(flat o d++g))) (G b)\/Cd o (b++[e]) f x\/Cd o (b++e::(flat o f++[c])) d x):=by{intro e c f d b g x r u m;have D:G (e::(flat o f++c::flat o d))=1+(G (flat o f)+(1+G (flat o d))):=aV;have y:cx c=0/\c.kind≠40:=by{rcases r with r|r<;>simp[cx,r]};have E:ql (b++e::(flat o f++c::(flat o d++g))) (G b+1+G (flat o f))= []:=by{have B:b++e::(flat o f++c::(flat o d++g))=(b++e::flat o f)++c::(flat o d++g):=aN;have C:G b+1+G (flat o f)=G (b++e::flat o f):=aV;rw[B,C];exact JF y.1 y.2};have z:G (b++e::(flat o f++[c]))=G b+1+G (flat o f)+1:=aV;rw[D,O9,VW,O9,O9,VW];rw[z]at m;simp only[bX,b6,im,aW,fW]at u m⊢;rw[u,m,E];simp};intro t;induction t with|nil=>intro k b g x _;constructor;{rintro⟨i,u,m,_⟩;simp[flat]at m;omega};{exactλh=>h.elim}|text t d l=>{intro k b g x j;rw[flat,Cd,s _ _ _ _ _<|l V _ _ _ j.2,JF (by simp[cx]) aN];simp}|sign d l=>{intro k b g x j;rw[flat,Cd,s _ _ _ _ _<|l V _ _ _ j.2,JF (by simp[cx]) aN];simp}|simple n a d l=>{intro k b g x j;rw[flat,Cd,s _ _ _ _ _<|l V _ _ _ j.2,JF (by simp[cx]) aN];simp}|num n a d l=>{intro k b g x j;rw[flat,Cd,s _ _ _ _ _<|l V _ _ _ j.2];refine K0 ?_ Cj;unfold ql;rw[sw];simp only;rw[aL P,Cn,fY,ZW _ _<|by simp[cx]];rfl}|bj n a f A d p q=>{intro k b g x j;rw[flat,Cd,v _ _ _ _ _ _ _ (.inl rfl) (p Y _ _ _ j.2.1)<|q V _ _ _ j.2.2,wF j.2.1 rfl rfl];simp only[bW,flat];constructor;{rintro((h|h|h)|h|h);{exact .inl h};{exact .inr<|.inl h};{exact .inr<|.inr<|.inr<|.inl h};{exact .inr<|.inr<|.inl h};{exact .inr<|.inr<|.inr<|.inr h}};{rintro(h|h|h|h|h);{exact .inl<|.inl h};{exact .inl<|.inr<|.inl h};{exact .inr<|.inl h};{exact .inl<|.inr<|.inr h};{exact .inr<|.inr h}}}|bk n a F off f A d p q=>{intro k b g x j;rw[flat,Cd,v _ _ _ _ _ _ _ (.inl rfl) (p Y _ _ _ j.2.1)<|q V _ _ _ j.2.2,wF j.2.1 rfl rfl];simp only[bW,flat];constructor;{rintro((h|h|h)|h|h);{exact .inl h};{exact .inr<|.inl h};{exact .inr<|.inr<|.inr<|.inl h};{exact .inr<|.inr<|.inl h};{exact .inr<|.inr<|.inr<|.inr h}};{rintro(h|h|h|h|h);{exact .inl<|.inl h};{exact .inl<|.inr<|.inl h};{exact .inr<|.inl h};{exact .inl<|.inr<|.inr h};{exact .inr<|.inr h}}}|br w a e d p q=>{intro k b g x j;rw[flat,Cd,v _ _ _ _ _ _ _ (.inr rfl) (p V _ _ _ j.2.1)<|q Y _ _ _ j.2.2,JF (by simp[cx]) aN];simp[flat]}
def aoG {o N}(r:∀a b,a<b->b<N->o a<o b)(t)(k:Wf V t)(h:In 0 N t):o_ (flat o t)=match ck o [] [] t with|none=>(0,0)|some f=>(f.1,o f.2):=by have e:=sb r t V [] [] 0 N (aO _) k h;have j:∀x,x∈(List.range<|G<|flat o t).flatMap (ql<|flat o t)↔Cd o [] t x:=by{intro x;have:=asn (o:=o) t V [] [] x k;simp only[im,fY,jE]at this;rw[<-this,Px];constructor;{rintro⟨i,c,g⟩;exact⟨i,S,by simpa using c,g⟩};{rintro⟨i,_,c,g⟩;exact⟨i,by simpa using c,g⟩}};unfold o_;cases l:ck o [] [] t with|none=>{rw[l]at e;refine aeo _ ?_;cases m:(List.range<|G<|flat o t).flatMap (ql<|flat o t)with|nil=>rfl|cons x s=>{exact absurd (.inr<|(j x).1 (by rw[m];simp))<|e x}}|some f=>{rw[l]at e;obtain⟨c,_,_,p,q⟩:=e;have n:Cd o [] t (f.1,o f.2):=by{rcases c with c|c;{exact absurd c<|AO k _ _};{exact c}};exact aep _ (0,0) (f.1,o f.2) (.inr ⟨(j _).2 n,.inl rfl⟩) p λd hd=>q d<|.inr<|(j d).1 hd}
end Pg
namespace Pg
def In.mono {lo e hi t}(h:In lo hi t)(d:e<=lo):In e hi t:=by induction t generalizing lo e hi with|nil=>exact bY d h|text _ b c=>exact c h d|sign b c=>exact c h d|simple _ a b c=>{exact⟨by have:=h.1;omega,h.2⟩}|num _ a b c=>{exact⟨by have:=h.1;omega,h.2⟩}|bj _ a i j b f g=>{exact⟨by have:=h.1;omega,h.2⟩}|bk _ a _ _ i j b f g=>{exact⟨by have:=h.1;omega,h.2⟩}|br _ a k b f g=>{exact⟨by have:=h.1;omega,h.2⟩}
def In.hi {lo hi g t}(h:In lo hi t)(b:hi<=g):In lo g t:=by induction t generalizing lo hi with|nil=>exact bY h b|text _ e d=>exact d h b|sign e d=>exact d h b|simple _ a e d=>exact⟨h.1,d h.2 b⟩|num _ a e d=>exact⟨h.1,d h.2 b⟩|bj _ a j k e i f=>exact⟨h.1,h.2.1,f h.2.2 b⟩|bk _ a _ _ j k e i f=>exact⟨h.1,h.2.1,f h.2.2 b⟩|br _ a o e i f=>{obtain⟨l,c,m,n⟩:=h;exact⟨l,c,m,f n b⟩}
def In.app {lo g hi t i}(h:In lo g t)(m:In g hi i):In lo hi<|t.app i:=by induction t generalizing lo with|nil=>exact m.mono h|text _ d b=>exact b h|sign d b=>exact b h|simple _ a d b=>exact⟨h.1,b h.2⟩|num _ a d b=>exact⟨h.1,b h.2⟩|bj _ a j k d f e=>exact⟨h.1,h.2.1,e h.2.2⟩|bk _ a _ _ j k d f e=>exact⟨h.1,h.2.1,e h.2.2⟩|br _ a p d f e=>{obtain⟨l,c,n,o⟩:=h;exact⟨l,c,n,e o⟩}
def Wf.app {k t f}(h:Wf k t)(j:Wf k f):Wf k<|t.app f:=by induction t with|nil=>exact j|text _ c b=>have:=h.1;subst this;exact⟨rfl,b h.2⟩|sign c b=>have:=h.1;subst this;exact⟨rfl,b h.2⟩|simple _ a c b=>have:=h.1;subst this;exact⟨rfl,b h.2⟩|num _ a c b=>have:=h.1;subst this;exact⟨rfl,b h.2⟩|bj _ a g i c e d=>have:=h.1;subst this;exact⟨rfl,h.2.1,d h.2.2⟩|bk _ a _ _ g i c e d=>have:=h.1;subst this;exact⟨rfl,h.2.1,d h.2.2⟩|br _ a l c e d=>{have:=h.1;subst this;exact⟨rfl,h.2.1,d h.2.2⟩}
def Hr {a:Type}(f:a->Bool)(rs p)(h:p<=G rs):p+G ((rs.drop p).takeWhile f)<=G rs:=by have:G ((rs.drop p).takeWhile f)<=G (rs.drop p):=(pT f).length_le;rw[ml]at this;omega
def eL (rs p):p<=bl rs p:=rD _ _
def jS (rs p)(h:p<=G rs):bl rs p<=G rs:=Hr _ rs p h
def Lt (rs p)(h:p<=G rs):p+G (cD rs p)<=G rs:=Hr _ rs p h
def apE (rs p)(h:p<=G rs):p+G (iy rs p)<=G rs:=Hr _ rs p h
def vA {rs p}(b:p<=G rs):(∀n q,dS rs p=.inr (n,q)->p<=q/\q<=G rs)/\∀a,dS rs p=.inl a->p<=a/\a<=G rs:=by have c:=Lt rs p b;unfold dS;constructor;{intro n q h;split at h;{cases h};split at h;{cases h};split at h;{cases h};injection h with h;injection h with h1 h2;omega};{intro a h;split at h;{injection h with h;omega};split at h;{injection h with h;omega};split at h;{injection h with h;omega};cases h}
def W8 {rs p}(b:p<=G rs):(∀n q,i6 rs p=.inr (n,q)->p<=q/\q<=G rs)/\∀a,i6 rs p=.inl a->p<=a/\a<=G rs:=by have c:=apE rs p b;unfold i6;constructor;{intro n q h;split at h;{cases h};split at h;{cases h};split at h;{cases h};injection h with h;injection h with h1 h2;omega};{intro a h;split at h;{injection h with h;omega};split at h;{injection h with h;omega};split at h;{injection h with h;omega};cases h}
def EK {num rs p}(e:p<=G rs):(∀n q,io num rs p=.inr (n,q)->p<=q/\q<=G rs)/\∀a,io num rs p=.inl a->p<=a/\a<=G rs:=by have i:=Lt rs p e;unfold io;by_cases d:num=V;{rw[aP d];exact vA e};{rw[A d];by_cases c:rs[p]? =K [61];{rw[aP c];have f:=W8 (rs:=rs) (p:=p+1) (by have:=dC c;omega);constructor;{intro n q h;split at h;{cases h};{rename_i t g b;injection h with h;injection h with h1 h2;have:=f.1 t g b;omega}};{intro a h;split at h;{rename_i a' b;injection h with h;have:=f.2 a' b;omega};{cases h}}};{rw[A c];constructor;{intro n q h;split at h;{injection h with h;injection h with h1 h2;omega};{cases h}};{intro a h;split at h;{cases h};{injection h with h;omega}}}}
def Ml {rs p}(f:p<=G rs):(∀n q,lM rs p=.inr (n,q)->p<=q/\q<=G rs)/\∀a,lM rs p=.inl a->p<=a/\a<=G rs:=by unfold lM;by_cases b:(cD rs p).flatten=pE/\rs[p+G (cD rs p)]? =K [58];{rw[t b];have e:=dC b.2;have d:=eL rs<|p+G (cD rs p)+1;have c:=W8 (rs:=rs) (p:=bl rs<|p+G (cD rs p)+1)<|jS rs _ S;exact⟨λn q h=>by have:=c.1 n q h;omega,λa h=>by have:=c.2 a h;omega⟩};{rw[A b];constructor;{intro n q h;injection h with h;injection h with h1 h2;omega};{intro a h;cases h}}
def XY (num):∀(n:Nat) (c:List T) (q:Bool),G c<n->(bJ num q c).2<=G c:=by intro n;induction n with|zero=>intro c q h;omega|succ n f=>{intro c q k;cases c with|nil=>simp[bJ]|cons d a=>{simp only[bB]at k⊢;by_cases e:q=V/\dk num d=Y;{rw[e.1,EM num d a e.2];omega};by_cases j:d= [39];{subst j;cases a with|nil=>{rw[bJ.eq_def];simp only;rw[A e,A z];split<;>simp}|cons b a=>{simp only[bB]at k⊢;by_cases g:b= [39];{subst g;rw[xN];have:=f a q S;simp only;omega};{by_cases i:q=Y\/dk num b=Y;{rw[zc num q b a g i];have:=f (b::a) (!q) aV;simp only[bB]at this⊢;omega};{have l:q=V:=by{cases q with|false=>rfl|true=>exact absurd (.inl rfl) i};have m:dk num b=V:=by{cases h:dk num b with|false=>rfl|true=>{exact absurd (.inr h) i}};subst l;rw[EO num b a g m];have:=f (b::a) V aV;simp only[bB]at this⊢;omega}}}};{rw[xO num q d a e j];have:=f a q S;simp only;omega}}}
def asl (rs:List T):Mode->Nat->dh->Prop
 |.msg _ _,p,.ok t q=>Wf V t/\In p q t/\q<=G rs
 |.arg _,p,.ok t q=>Wf V t/\In p q t/\q<=G rs
 |.dI _ _ _,p,.okB t e q=>Wf Y t/\In p e t/\e<q/\q<=G rs
 |_,_,.bad e a=>(e=3\/e=4)/\a<=G rs
 |_,_,_=>False
def Pre (rs:List T):Mode->Nat->Prop
 |.arg _,p=>p<G rs
 |_,p=>p<=G rs
def uz {rs I p j}(h:Rd rs I p j):Pre rs I p->asl rs I p j:=by induction h with|@stop d num p h=>intro b;exact⟨trivial,aO _,b⟩|@Oz d num p g a h f m=>intro b;exact m (dC h)|@tp d num p n q j h f e F H=>{intro b;obtain⟨D,v,C⟩:=F<|dC h;have:=H C;cases j with|ok t r=>exact⟨D.app this.1,v.app this.2.1,this.2.2⟩|okB t g r=>exact this|bad g a=>{exact this}}|@sign d p j h f m=>{intro b;have:=m<|dC h;cases j with|ok t r=>exact⟨⟨rfl,this.1⟩,this.2.1.mono<|fN _,this.2.2⟩|okB t g r=>exact this|bad g a=>{exact this}}|@said d num p c j h U f m=>{intro b;have W:p<=G rs:=b;have R:=XY num _ (rs.drop p) V<|jG _;rw[ml]at R;have:=m<|show _<=_ from aJ;cases j with|ok t r=>exact⟨⟨rfl,this.1⟩,this.2.1.mono<|rD _ _,this.2.2⟩|okB t g r=>exact this|bad g a=>{exact this}}|@MC d p a h=>intro b;have f:=jS rs (p+1) b;exact⟨.inl rfl,((vA f).2 a h).2⟩|@simple d p n q h f=>{intro b;have e:=jS rs (p+1) b;have s:=(vA e).1 n q h;have l:=eL rs<|p+1;have B:=eL rs q;have N:=dC f;exact⟨⟨rfl,trivial⟩,⟨aO _,show p+1<=bl rs q+1 from aJ⟩,N⟩}|@Oe d p n q h f e=>intro b;have e:=jS rs (p+1) b;have s:=(vA e).1 n q h;exact⟨.inl rfl,jS rs q s.2⟩|@C5 d p n q k h e u s=>{intro b;exact⟨.inl rfl,by rw[u];exact jS rs _<|dC e⟩}|@Mo d p n q k o h e u s x l=>{intro b;exact⟨.inl rfl,by rw[x];exact jS rs _<|Lt rs k (by rw[u];exact jS rs _<|dC e)⟩}|@num d p n q k o h e u s x l=>{intro b;have v:=jS rs (p+1) b;have C:=(vA v).1 n q h;have J:=eL rs<|p+1;have K:=eL rs q;have L:=eL rs<|bl rs q+1;have M:=eL rs<|k+G (cD rs k);exact⟨⟨rfl,trivial⟩,⟨aO _,show p+1<=o+1 from aJ⟩,dC l⟩}|@JU d p n q k o h e u s x l=>{intro b;exact⟨.inl rfl,by rw[x];exact jS rs _<|Lt rs k (by rw[u];exact jS rs _<|dC e)⟩}|@bj d p n q k o j h e u s x l B m=>{intro b;have v:=jS rs (p+1) b;have C:=(vA v).1 n q h;have J:=eL rs<|p+1;have K:=eL rs q;have L:=eL rs<|bl rs q+1;have M:=eL rs<|k+G (cD rs k);have P:=eL rs<|o+1;have:=m<|jS rs _<|dC l;cases j with|ok t r=>exact this.elim|okB t g r=>{obtain⟨y,z,A,E⟩:=this;exact⟨⟨rfl,y,trivial⟩,⟨aO _,z.mono aJ,show g+1<=r from A⟩,E⟩}|bad g a=>{exact this}}|@Mm d p n q k o a h e u s x l B=>intro b;exact⟨.inl rfl,((Ml<|jS rs _<|dC l).2 a B).2⟩|@bk d p n q k o X off i j h e u s x l B N m=>{intro b;have v:=jS rs (p+1) b;have C:=(vA v).1 n q h;have J:=eL rs<|p+1;have K:=eL rs q;have L:=eL rs<|bl rs q+1;have M:=eL rs<|k+G (cD rs k);have P:=eL rs<|o+1;have Q:=(Ml (rs:=rs) (p:=bl rs<|o+1)<|jS rs (o+1)<|dC l).1 off i B;have:=m Q.2;cases j with|ok t r=>exact this.elim|okB t g r=>{obtain⟨y,z,A,E⟩:=this;exact⟨⟨rfl,y,trivial⟩,⟨aO _,z.mono aJ,show g+1<=r from A⟩,E⟩}|bad g a=>{exact this}}|@DS d num p h=>intro b;exact⟨trivial,eL rs p,jG _,dC h⟩|@JH d num first p a h f=>intro b;exact⟨.inl rfl,((EK<|jS rs p b).2 a f).2⟩|@JI d num first p w q h f e=>intro b;exact⟨.inl rfl,jS rs q ((EK<|jS rs p b).1 w q f).2⟩|@JK num first p w q h f e=>intro b;exact⟨.inr rfl,jS rs q ((EK<|jS rs p b).1 w q f).2⟩|@JJ d num first p w q g a h f e O s m=>intro b;exact m (dC e)|@JL d num first p w q S o h f e O s l m=>intro b;obtain⟨y,z,A⟩:=m<|dC e;exact⟨.inl rfl,A⟩|@dI d num first p w q S o j h f e O s l B F H=>{intro b;obtain⟨y,z,A⟩:=F<|dC e;have D:=eL rs p;have v:=(EK<|jS rs p b).1 w q f;have C:=eL rs q;have:=H<|dC l;cases j with|ok t r=>exact this.elim|okB t g r=>{obtain⟨c1,c2,c3,c4⟩:=this;exact⟨⟨rfl,y,c1⟩,⟨D,o+1,(z.mono aJ).hi<|fN _,c2⟩,c3,c4⟩}|bad g a=>{exact this}}
def RL {rs}(e:eT rs):∀a b,a<b->b<G rs+1->o rs a<o rs b:=by intro a b h j;induction b with|zero=>omega|succ b f=>{have d:b<G rs:=S;have g:=qL<|bR d;have i:0<G (rs[b]):=pw.2 (e _<|ox d).ne;rcases dM a b with c|c;{have:=f c S;omega};{have:a=b:=S;rw[this];omega}}
end Pg
namespace Pn
def v2 (b0 b1:Nat):Int:=64*((b0:Int)-192)+b1-128
def v3 (b0 b1 b2:Nat):Int:=64*(64*((b0:Int)-224)+b1-128)+b2-128
def v4 (b0 b1 b2 b3:Nat):Int:=64*(64*(64*((b0:Int)-240)+b1-128)+b2-128)+b3-128
abbrev fu (v least:Int):Prop:=least<=v/\v<=1114111/\(v<55296\/57343<v)
abbrev dj (b:Nat):Prop:=128<=b/\b<=191
def cR (n b0 b1 b2 b3:Nat):Nat:=if b0<128 then 1 else if b0<192 then 0 else if b0<224 then(if 2<=n/\dj b1/\fu (v2 b0 b1) 128 then 2 else 0)else if b0<240 then(if 3<=n/\dj b1/\dj b2/\fu (v3 b0 b1 b2) 2048 then 3 else 0)else if b0<248 then(if 4<=n/\dj b1/\dj b2/\dj b3/\fu (v4 b0 b1 b2 b3) 65536 then 4 else 0)else 0
def vj {n a b c d k r t}(hS:cR n a b c d=k)(e:Lib.decodeN n a b c d=(r,t))(h:k=if r=65533/\t=1 then 0 else t):cR n a b c d=if(Lib.decodeN n a b c d).1=65533/\(Lib.decodeN n a b c d).2=1 then 0 else(Lib.decodeN n a b c d).2:=by rw[hS,e];exact h
def afT (n b c e f)(h:c<256)(i:e<256)(j:f<256):cR n b c e f=if(Lib.decodeN n b c e f).1=65533/\(Lib.decodeN n b c e f).2=1 then 0 else(Lib.decodeN n b c e f).2:=by by_cases a:b<128;{exact vj (k:=1) (r:=b) (t:=1) (by unfold cR;rw[aP a]) (by unfold Lib.decodeN;rw[aP a])<|by rw[A S]};by_cases c1:b<192;{exact vj (k:=0) (r:=65533) (t:=1) (by unfold cR;rw[A a,aP c1]) (by unfold Lib.decodeN;rw[A a,A S,A S,A S]) rfl};by_cases c2:b<224;{by_cases d:1<n/\c/64=2;{by_cases g:b%32*64+c%64>=128;{exact vj (k:=2) (t:=2) (by unfold cR dj fu v2;rw[A a,A c1,aP c2,aP S]) (by unfold Lib.decodeN;rw[A a,aP S,aP g])<|by rw[A S]};{exact vj (k:=0) (r:=65533) (t:=1) (by unfold cR dj fu v2;rw[A a,A c1,aP c2,A S]) (by unfold Lib.decodeN;rw[A a,aP S,A g]) rfl}};{exact vj (k:=0) (r:=65533) (t:=1) (by unfold cR dj fu v2;rw[A a,A c1,aP c2,A S]) (by unfold Lib.decodeN;rw[A a,A S,A S,A S]) rfl}};by_cases c3:b<240;{by_cases d:(1<n/\c/64=2)/\(2<n/\e/64=2);{by_cases g:b%16*4096+c%64*64+e%64>=2048/\(b%16*4096+c%64*64+e%64<55296\/(57344<=b%16*4096+c%64*64+e%64/\b%16*4096+c%64*64+e%64<=1114111));{exact vj (k:=3) (t:=3) (by unfold cR dj fu v3;rw[A a,A c1,A c2,aP c3,aP S]) (by unfold Lib.decodeN;rw[A a,A S,aP S,aP g])<|by rw[A S]};{exact vj (k:=0) (r:=65533) (t:=1) (by unfold cR dj fu v3;rw[A a,A c1,A c2,aP c3,A S]) (by unfold Lib.decodeN;rw[A a,A S,aP S,A g]) rfl}};{exact vj (k:=0) (r:=65533) (t:=1) (by unfold cR dj fu v3;rw[A a,A c1,A c2,aP c3,A S]) (by unfold Lib.decodeN;rw[A a,A S,A S,A S]) rfl}};by_cases c4:b<248;{by_cases d:(1<n/\c/64=2)/\(2<n/\e/64=2)/\(3<n/\f/64=2);{by_cases g:b%8*262144+c%64*4096+e%64*64+f%64>=65536/\(b%8*262144+c%64*4096+e%64*64+f%64<55296\/(57344<=b%8*262144+c%64*4096+e%64*64+f%64/\b%8*262144+c%64*4096+e%64*64+f%64<=1114111));{exact vj (k:=4) (t:=4) (by unfold cR dj fu v4;rw[A a,A c1,A c2,A c3,aP c4,aP S]) (by unfold Lib.decodeN;rw[A a,A S,A S,aP S,aP g])<|by rw[A S]};{exact vj (k:=0) (r:=65533) (t:=1) (by unfold cR dj fu v4;rw[A a,A c1,A c2,A c3,aP c4,A S]) (by unfold Lib.decodeN;rw[A a,A S,A S,aP S,A g]) rfl}};{exact vj (k:=0) (r:=65533) (t:=1) (by unfold cR dj fu v4;rw[A a,A c1,A c2,A c3,aP c4,A S]) (by unfold Lib.decodeN;rw[A a,A S,A S,A S]) rfl}};{exact vj (k:=0) (r:=65533) (t:=1) (by unfold cR;rw[A a,A c1,A c2,A c3,A c4]) (by unfold Lib.decodeN;rw[A a,A S,A S,A S]) rfl}
def QF (n a b c d)(h:192<=a/\a<224)(hy:2<=n/\dj b/\fu (v2 a b) 128):cR n a b c d=2:=by unfold cR;rw[A S,A S,t h.2,t hy]
def EH (n a b c d)(h:192<=a/\a<224)(hy:¬(2<=n/\dj b/\fu (v2 a b) 128)):cR n a b c d=0:=by unfold cR;rw[A S,A S,t h.2,A hy]
def QE (n a b c d)(h:224<=a/\a<240)(hy:3<=n/\dj b/\dj c/\fu (v3 a b c) 2048):cR n a b c d=3:=by unfold cR;rw[A S,A S,A S,t h.2,t hy]
def Az (n a b c d)(h:224<=a/\a<240)(hy:¬(3<=n/\dj b/\dj c/\fu (v3 a b c) 2048)):cR n a b c d=0:=by unfold cR;rw[A S,A S,A S,t h.2,A hy]
def QD (n a b c d)(h:240<=a/\a<248)(hy:4<=n/\dj b/\dj c/\dj d/\fu (v4 a b c d) 65536):cR n a b c d=4:=by unfold cR;rw[A S,A S,A S,A S,t h.2,t hy]
def xK (n a b c d)(h:240<=a/\a<248)(hy:¬(4<=n/\dj b/\dj c/\dj d/\fu (v4 a b c d) 65536)):cR n a b c d=0:=by unfold cR;rw[A S,A S,A S,A S,t h.2,A hy]
def Xx (n a b c d)(h:(128<=a/\a<192)\/248<=a):cR n a b c d=0:=by unfold cR;rw[A S];rcases h with h|h;{rw[t h.2]};{rw[A S,A S,A S,A S]}
def ft (l:List UInt8):Nat:=cR (G l) (l.getD 0 0).toNat (l.getD 1 0).toNat (l.getD 2 0).toNat (l.getD 3 0).toNat
def LO (l):ft l=if(Lib.decodeL l).1=65533/\(Lib.decodeL l).2=1 then 0 else(Lib.decodeL l).2:=by rw[ft,afT _ _ _ _ _ (Cm _) (Cm _)<|Cm _,<-G0]
def Hw (l)(h:l≠[]):ft l<=G l:=by rw[LO];split;{omega};{exact Lib.decodeL_le l h}
def oB:Nat->List UInt8->List (List UInt8)
 |0,_=>[]
 |n+1,l=>if l= []then[]else if ft l=0 then[]else l.take (ft l)::oB n (l.drop<|ft l)
def nW:Nat->List UInt8->Nat
 |0,_=>0
 |n+1,l=>if l= []then 0 else if ft l=0 then 0 else ft l+nW n (l.drop<|ft l)
def pts (l:List UInt8):List<|List UInt8:=oB (G l) l
def jL (l:List UInt8):Nat:=nW (G l) l
def ZC:∀(n:Nat) (a:List UInt8),nW n a<=G a
 |0,_=>by simp[nW]
 |n+1,a=>by
  rw[nW]
  split
  ·omega
  ·split
   ·omega
   ·rename_i b c
    have:=ZC n<|a.drop<|ft a
    have:=Hw a b
    simp at*
    omega
end Pn
namespace Pg
open Pn
def afU (n a b c e):cR n a b c e=0\/(cR n a b c e=1/\a<128)\/(cR n a b c e=2/\(192<=a/\a<224)/\2<=n/\dj b/\fu (Pn.v2 a b) 128)\/(cR n a b c e=3/\(224<=a/\a<240)/\3<=n/\dj b/\dj c/\fu (Pn.v3 a b c) 2048)\/(cR n a b c e=4/\(240<=a/\a<248)/\4<=n/\dj b/\dj c/\dj e/\fu (Pn.v4 a b c e) 65536):=by by_cases f:a<128;{exact .inr<|.inl ⟨by unfold cR;rw[t f],f⟩};by_cases c1:a<192\/248<=a;{exact .inl<|Xx n a b c e S};by_cases c2:a<224;{by_cases d:2<=n/\dj b/\fu (Pn.v2 a b) 128;{exact .inr<|.inr<|.inl ⟨QF n a b c e S d,S,d⟩};{exact .inl<|EH n a b c e S d}};by_cases c3:a<240;{by_cases d:3<=n/\dj b/\dj c/\fu (Pn.v3 a b c) 2048;{exact .inr<|.inr<|.inr<|.inl ⟨QE n a b c e S d,S,d⟩};{exact .inl<|Az n a b c e S d}};{by_cases d:4<=n/\dj b/\dj c/\dj e/\fu (Pn.v4 a b c e) 65536;{exact .inr<|.inr<|.inr<|.inr ⟨QD n a b c e S d,S,d⟩};{exact .inl<|xK n a b c e S d}}
def LP (l:T)(h:ft l≠0)(q:l≠[])(r:T):ft (l.take (ft l)++r)=ft l/\Cp (l.take<|ft l):=by have n:=Hw l q;unfold ft at h n⊢;rcases afU (G l) (l.getD 0 0).toNat (l.getD 1 0).toNat (l.getD 2 0).toNat (l.getD 3 0).toNat with k|⟨k,f⟩|⟨k,f,o,g,i⟩|⟨k,f,o,g,i,m⟩|⟨k,f,o,g,i,m,p⟩;{exact absurd k h};(all_goals rw[k]at n⊢);{obtain⟨a,e,rfl⟩:∃a e,l=a::e:=by{cases l with|nil=>exact absurd rfl q|cons a e=>{exact⟨a,e,rfl⟩}};refine⟨?_,.inl ⟨a,rfl,f⟩⟩;unfold cR;rw[t<|by simpa using f]};{obtain⟨a,b,e,rfl⟩:∃a b e,l=a::b::e:=by{match l,n with|a::b::e,_=>{exact⟨a,b,e,rfl⟩}};simp at f g i;refine⟨?_,.inr ⟨z,?_⟩⟩;{refine QF _ _ _ _ _ (by simpa using f) ⟨z,by simpa using g,by simpa using i⟩};{intro c j;unfold dj at g;simp at j;rcases j with rfl|rfl<;>omega}};{obtain⟨a,b,c,e,rfl⟩:∃a b c e,l=a::b::c::e:=by{match l,n with|a::b::c::e,_=>{exact⟨a,b,c,e,rfl⟩}};simp at f g i m;refine⟨?_,.inr ⟨z,?_⟩⟩;{refine QE _ _ _ _ _ (by simpa using f) ⟨z,by simpa using g,by simpa using i,by simpa using m⟩};{intro c j;unfold dj at g i;simp at j;rcases j with rfl|rfl|rfl<;>omega}};{obtain⟨a,b,c,d,e,rfl⟩:∃a b c d e,l=a::b::c::d::e:=by{match l,n with|a::b::c::d::e,_=>{exact⟨a,b,c,d,e,rfl⟩}};simp at f g i m p;refine⟨?_,.inr ⟨z,?_⟩⟩;{refine QD _ _ _ _ _ (by simpa using f) ⟨z,by simpa using g,by simpa using i,by simpa using m,by simpa using p⟩};{intro c j;unfold dj at g i m;simp at j;rcases j with rfl|rfl|rfl|rfl<;>omega}}
def fG (rs:List T):Prop:=∀c∈rs,Cp c/\∀r,ft (c++r)=G c
def aio:∀(n:Nat) (a:T),fG (oB n a)/\(oB n a).flatten=a.take (nW n a):=by intro n;induction n with|zero=>{intro a;exact⟨λc h=>by simp[oB]at h,by simp[oB,nW]⟩}|succ n j=>{intro a;rw[oB,nW];by_cases b:a= [];{rw[t b,t b];exact⟨λc h=>by simp at h,z⟩};rw[A b,A b];by_cases d:ft a=0;{rw[t d,t d];exact⟨λc h=>by simp at h,z⟩};rw[A d,A d];have f:=Hw a b;obtain⟨g,i⟩:=j<|a.drop<|ft a;constructor;{intro c e;rcases cL.1 e with rfl|e;{refine⟨(LP a d b []).2,λk=>?_⟩;rw[(LP a d b k).1,gT,Ep f]};{exact g c e}};{rw[nI,i,PC]}}
def pZ (l:T)(h:jL l=G l):fG (Pn.pts l)/\(Pn.pts l).flatten=l:=by obtain⟨a,b⟩:=aio (G l) l;refine⟨a,?_⟩;show(oB (G l) l).flatten=l;rw[b];unfold jL at h;rw[h,tS]
def fG.od {rs}(h:fG rs):eT rs:=λc a=>(h c a).1
def Rk:∀(a:List T) (n:Nat),fG a->G a.flatten<=n->oB n a.flatten=a/\nW n a.flatten=G a.flatten:=by intro a;induction a with|nil=>intro n _ _;cases n<;>simp[oB,nW]|cons c a l=>{intro n h e;obtain⟨b,g⟩:=h c z;have o:=pw.2 b.ne;rw[nI]at e⊢;simp only[aW]at e;obtain⟨n,rfl⟩:∃m,n=m+1:=⟨n-1,S⟩;have i:=g a.flatten;have f:c++a.flatten≠[]:=by{simp[b.ne]};obtain⟨j,k⟩:=l n (λd hd=>h d<|by simp[hd]) S;rw[oB,nW,A f,A f,i,A S,A S,Cn,Lh,j,k];simp}
def ain {rs}(h:fG rs)(a)(e:a<=G rs):G (Pn.pts<|rs.flatten.take<|o rs a)=a:=by have b:rs.flatten.take (o rs a)=(rs.take a).flatten:=by{unfold o;(conv=>lhs;rw[<-pu a rs,rE]);rw[pu,Cn]};rw[b];unfold Pn.pts;rw[(Rk (rs.take a) _ (λc d=>h c<|Lg d)<|r _).1];simp;omega
end Pg
namespace Dk
open Pg
def dB (num:Bool)(c:UInt8):Bool:=c==39||c==123||c==125||(c==35&&num)
def fg:T->T
 | []=>[]
 |c::r=>if c=39 then 39::c::fg r else c::fg r
def Ie (r:T):T:=if r.any (λc=>c !=39)=Y then 39::(fg r++[39])else fg r
def mZ (num:Bool):Nat->T->T
 |0,_=>[]
 |_+1,[]=>[]
 |k+1,c::r=>if dB num c=V then c::mZ num k r else Ie ((c::r).takeWhile<|dB num)++mZ num k ((c::r).dropWhile<|dB num)
def iE (num:Bool)(s:T):T:=mZ num (G s) s
def ni (off:T):T:=if off= [48]then[]else[32,111,102,102,115,101,116,58]++off
def dT (num:List Bool)(m:da):T:=if m.kind=116 then iE (num.getLastD V) m.text else if m.kind=35 then[35]else if m.kind=112 then 123::m.name++[125]else if m.kind=110 then 123::m.name++[44,32,110,117,109,98,101,114,125]else if m.kind=40 then 123::m.name++[44,32]++m.how++[44]++ni m.offset else if m.kind=91 then 32::m.text++[32,123]else if m.kind=93 then[125]else if m.kind=41 then[125]else[]
def ds (num:List Bool)(m:da):List Bool:=if m.kind=40 then num++[am<|m.how≠fC]else if m.kind=41 then num.dropLast else num
def pI:List Bool->List da->T
 |_,[]=>[]
 |num,m::r=>dT num m++pI (ds num m) r
end Dk
namespace Pg
open Dk
def jg:Bool->Tr->T
 |_,.nil=>[]
 |num,.text t r=>iE num t++jg num r
 |num,.sign r=>35::jg num r
 |num,.simple n _ r=>123::n++[125]++jg num r
 |num,.num n _ r=>123::n++[44,32,110,117,109,98,101,114,125]++jg num r
 |num,.bj n _ bs _ r=>123::n++[44,32]++fC++[44]++jg V bs++[125]++jg num r
 |num,.bk n _ ord off bs _ r=>123::n++[44,32]++(if ord=Y then dR else fk)++[44]++ni off++jg Y bs++[125]++jg num r
 |num,.br w _ m r=>32::w++[32,123]++jg num m++[125]++jg num r
def YS (ord):(if ord=Y then dR else fk)≠fC:=by cases ord<;>decide
def F2 {o}:∀(t:Tr) (b:List Bool) (c:List da),pI b (flat o t++c)=jg (b.getLastD V) t++pI b c:=by intro t;induction t with|nil=>intro b c;rfl|text t e d=>intro b c;rw[flat,b6,pI,jg,show ds b {kind:=116,text:=t}=b from rfl,d];simp[dT]|sign e d=>intro b c;rw[flat,b6,pI,jg,show ds b {kind:=35}=b from rfl,d];simp[dT]|simple n a e d=>intro b c;rw[flat,b6,pI,jg,show ds b {kind:=112,name:=n,at_:=o a}=b from rfl,d];simp[dT]|num n a e d=>intro b c;rw[flat,b6,pI,jg,show ds b {kind:=110,name:=n,how:=nj,at_:=o a}=b from rfl,d];simp[dT]|bj n a l h e f g=>{intro b c;have i:ds b {kind:=40,name:=n,how:=fC,offset:=[48],at_:=o a}=b++[V]:=by{simp[ds]};have j:ds (b++[V]) {kind:=41,at_:=o h}=b:=by{simp[ds]};rw[flat,b6,bX,b6,pI,jg,i,f,pI,j,g];simp[dT,ni]}|bk n a k off l h e f g=>{intro b c;have i:ds b {kind:=40,name:=n,how:=if k then dR else fk,offset:=off,at_:=o a}=b++[Y]:=by{have:=YS k;simp[ds,this]};have j:ds (b++[Y]) {kind:=41,at_:=o h}=b:=by{simp[ds]};rw[flat,b6,bX,b6,pI,jg,i,f,pI,j,g];simp[dT]}|br w a m e f g=>{intro b c;rw[flat,b6,bX,b6,pI,jg,show ds b {kind:=91,text:=w,at_:=o a}=b from rfl,f,pI,show ds b {kind:=93}=b from rfl,g];simp[dT]}
def Nm:Tr->Prop
 |.nil=>True
 |.text _ r=>Nm r
 |.sign r=>Nm r
 |.simple n _ r=>n≠[]/\Nm r
 |.num n _ r=>n≠[]/\Nm r
 |.bj n _ bs _ r=>n≠[]/\Nm bs/\Nm r
 |.bk n _ _ _ bs _ r=>n≠[]/\Nm bs/\Nm r
 |.br _ _ m r=>Nm m/\Nm r
def Nm.app {t f}(h:Nm t)(j:Nm f):Nm<|t.app f:=by induction t with|nil=>exact j|text _ c b=>exact b h|sign c b=>exact b h|simple _ a c b=>exact⟨h.1,b h.2⟩|num _ a c b=>exact⟨h.1,b h.2⟩|bj _ a g i c e d=>exact⟨h.1,h.2.1,d h.2.2⟩|bk _ a _ _ g i c e d=>exact⟨h.1,h.2.1,d h.2.2⟩|br _ a k c e d=>{exact⟨h.1,d h.2⟩}
def MB {rs}(d:eT rs){p n q}(h:dS rs p=.inr (n,q)):n≠[]:=by have a:(cD rs p).flatten.length=G (cD rs p):=(tw _ rS _<|d.drop p).2;unfold dS at h;split at h;{cases h};split at h;{cases h};rename_i c;split at h;{cases h};injection h with h;injection h with h1 h3;rw[<-h1];intro b;rw[b]at a;exact c a.symm
def j8:dh->Tr
 |.ok t _=>t
 |.okB t _ _=>t
 |.bad _ _=>.nil
def Ga {rs}(g:eT rs){r p b}(h:Rd rs r p b):Nm<|j8 b:=by
 induction h with
 |tp h e f k l=>
  rename_i b
  cases b with
  |bad d a=>exact trivial
  |_=>exact Nm.app k l
 |sign h e c=>rename_i b;cases b with
  |bad d a=>exact trivial
  |_=>exact c
 |said h u e c=>rename_i b;cases b with
  |bad d a=>exact trivial
  |_=>exact c
 |simple h e=>exact⟨MB g h,trivial⟩
 |num h f o i n j=>exact⟨MB g h,trivial⟩
 |bj h f o i n j m c=>rename_i b;cases b with
  |bad d a=>exact trivial
  |ok t q=>exact c
  |okB t d q=>exact⟨MB g h,c,trivial⟩
 |bk h f o i n j m s c=>rename_i b;cases b with
  |bad d a=>exact trivial
  |ok t q=>exact c
  |okB t d q=>exact⟨MB g h,c,trivial⟩
 |dI h e f hd i j m k l=>rename_i b;cases b with
  |bad d a=>exact trivial
  |_=>exact⟨k,l⟩
 |_=>exact trivial
end Pg
namespace Pg
open Dk Pn
def rv (c:T):Int:=((Lib.decodeL c).1:Nat)
def Pt (c:T):Prop:=Cp c/\∀r,ft (c++r)=G c
def Pt.dec {c}(h:Pt c):¬((Lib.decodeL c).1=65533/\(Lib.decodeL c).2=1)/\(Lib.decodeL c).2=G c:=by have a:=h.2 [];rw[fY,LO]at a;have b:=h.1.ne;have e:=pw.2 b;split at a;{omega};{rename_i d;exact⟨d,a⟩}
def Pt.enc {c}(h:Pt c):Lib.encodeRune (rv c)=c:=by obtain⟨a,b⟩:=h.dec;have:=Lib.encode_decode c h.1.ne a;rw[b,tS]at this;exact this
def L7 (c):0<=rv c:=Int.natCast_nonneg _
def L6 {b}(a:b.toNat<128):rv [b]=b.toNat:=by unfold rv;rw[G0];unfold Lib.decodeN;rw[t<|by simpa using a];simp
def Pt.hi {c}(h:Pt c):rv c<=1114111:=by rcases K9 1114111 (rv c)with a|a;{have b:=h.enc;unfold Lib.encodeRune at b;rw[Lib.encodeRuneZ_bad S]at b;have:c= [239,191,189]:=b.symm;rw[this]at a;exact absurd a<|by decide+kernel};{exact a}
def Pt.two {c}(h:Pt c)(d:2<=G c):128<=rv c:=by rcases K9 (rv c) 128 with b|b;{have a:=h.enc;unfold Lib.encodeRune at a;rw[Lib.encodeRuneZ_one (L7 c) S]at a;have:=eD List.length a;simp at this;omega};{exact b}
def Pt.eq {c}(h:Pt c){b}(f:b.toNat<128):rv c=b.toNat↔c= [b]:=by refine⟨λa=>?_,λa=>by rw[a];exact L6 f⟩;rcases h.1 with⟨d,rfl,hd⟩|⟨e,_⟩;{rw[L6 hd]at a;have:d.toNat=b.toNat:=S;rw[iY.1 this]};{have:=h.two e;omega}
def fG.pt {rs}(h:fG rs){p:Nat}{c}(a:rs[p]? =K c):Pt c:=h c<|fP a
def pk (rs:List T)(p:Nat):Int:=match rs[p]?with|some c=>rv c|none=>-1
def CP {rs p c}(h:rs[p]? =K c):pk rs p=rv c:=by unfold pk;rw[h]
def CQ {rs p}(h:rs[p]? =O):pk rs p= -1:=by unfold pk;rw[h]
def YI {rs}(h:fG rs)(p): -1<=pk rs p/\pk rs p<=1114111:=by cases a:rs[p]?with|none=>rw[CQ a];omega|some c=>{rw[CP a];have:=L7 c;have:=(h.pt a).hi;omega}
def vq {rs}(h:fG rs)(p b)(d:b.toNat<128):pk rs p=b.toNat↔rs[p]? =K [b]:=by cases a:rs[p]?with|none=>rw[CQ a];simp|some c=>{rw[CP a,(h.pt a).eq d];simp}
def JN (r:Int):Bool:=r==32||r==9||r==10||r==13
def zL (r:Int):Bool:=am (48<=r)&&am (r<=57)
def CW (r:Int):Bool:=am (97<=r)&&am (r<=122)||am (65<=r)&&am (r<=90)||r==95||zL r
def Hy (num:Bool)(r:Int):Bool:=r==123||r==125||(r==35&&num)
def UX {rs}(h:fG rs)(p f)(z:Int->Bool)(k:∀b:UInt8,b.toNat<128->z b.toNat=f b)(i:∀g:Int,g<0\/128<=g->z g=V):z (pk rs p)=fF rs p f:=by unfold fF;cases e:rs[p]?with|none=>{rw[CQ e];exact i _ S}|some c=>{rw[CP e];rcases(h.pt e).1 with⟨d,rfl,hd⟩|⟨j,_⟩;{rw[L6 hd,k d hd];rfl};{rw[i _<|.inr<|(h.pt e).two j];cases c with|nil=>rfl|cons a l=>{cases l with|nil=>simp at j|cons _ _=>{rfl}}}}
def JG (b:UInt8)(k):((b.toNat:Int)==(k.toNat:Int))=(b==k):=by rw[At,ef,ef,<-iY];omega
def RK {rs}(h:fG rs)(p):JN (pk rs p)=fF rs p jy:=by refine UX h p _ _ (λb a=>?_)<|λd c=>?_;{unfold JN jy;rw[<-JG b 32,<-JG b 9,<-JG b 10,<-JG b 13];rfl};{unfold JN;simp;omega}
def mQ {rs}(h:fG rs)(p):zL (pk rs p)=fF rs p bu:=by refine UX h p _ _ (λb a=>?_)<|λd c=>?_;{rw[At,gF];unfold zL;simp;omega};{unfold zL;simp;omega}
def R2 {rs}(h:fG rs)(p):CW (pk rs p)=fF rs p cS:=by refine UX h p _ _ (λb a=>?_)<|λd c=>?_;{have:=JG b 95;rw[At];unfold CW cS eF;rw[qC _<|bu b,gF,<-this];unfold zL;simp;omega};{unfold CW zL;simp;omega}
def XK {rs}(h:fG rs)(p num):Hy num (pk rs p)=match rs[p]?with|some c=>dk num c|none=>V:=by cases e:rs[p]?with|none=>rw[CQ e];cases num<;>rfl|some c=>{have a:=(h.pt e).eq (b:=123) P;have b:=(h.pt e).eq (b:=125) P;have d:=(h.pt e).eq (b:=35) P;rw[CP e,At];unfold Hy dk;simp only[qC,tN,ef];rw[<-a,<-b,<-d];simp}
def at_end {rs}(f p):fF rs (p+G ((rs.drop p).takeWhile<|bE f)) f=V:=by have h:=LF (bE f) (rs.drop p) _ rfl;rw[sP]at h;unfold fF;cases a:rs[p+G ((rs.drop p).takeWhile<|bE f)]?with|none=>rfl|some c=>{have hd:rs.drop (p+G ((rs.drop p).takeWhile<|bE f))=c::rs.drop (p+G ((rs.drop p).takeWhile<|bE f)+1):=by{have d:=dC a;rw[dG d];rw[bR d]at a;injection a with a;rw[a]};rw[hd,jl]at h;cases b:bE f c with|false=>exact b|true=>{rw[b]at h;simp at h}}
def So {rs}(f){p n}(b:n<=G ((rs.drop p).takeWhile<|bE f))(h:fF rs (p+n) f=Y):n<G ((rs.drop p).takeWhile<|bE f):=by rcases dM n (G<|(rs.drop p).takeWhile<|bE f) with a|a;{exact a};{have:n=G ((rs.drop p).takeWhile<|bE f):=S;rw[this,at_end]at h;cases h}
def Sx {rs}(f){p n}(b:n<=G ((rs.drop p).takeWhile<|bE f))(h:fF rs (p+n) f=V):n=G ((rs.drop p).takeWhile<|bE f):=by rcases dM n (G<|(rs.drop p).takeWhile<|bE f) with a|a;{rw[DV f p n a]at h;cases h};{omega}
end Pg
end Go.Proofs.YtaepcfidpekflabGreatDoor
