import Derived.Test.YtaepcfidpekflabGreatDoorU00
import Derived.Test.YtaepcfidpekflabGreatDoorU02
import Derived.RegionTactic
import Derived.BigRegion
open Array renaming size->Z
open Bool renaming false->V,true->Y
open Decidable renaming decide->am
open Go renaming Calls->af,World->B
open Go.Ending renaming returned->ae
open Go.Obj renaming cells->an
open Go.Proofs.Tryz renaming prog->C
open Go.RowKit renaming Below->X,Hid->D
open Go.Value renaming agg->ai,bool->Q,string->U,tuple->ak
open Go.World renaming alloc->ah,heap->J
open List renaming length->G,toArray->E
open Option renaming some->K
set_option maxRecDepth 100000
set_option maxHeartbeats 0
set_option linter.all false
namespace Go.Proofs.YtaepcfidpekflabGreatDoor
section
open Pn RowKit Tryz
def Ww (a b):(⟨E a⟩++⟨E b⟩:ByteArray).data.toList=a++b:=by simp[Ph]
def aqO {w w'}(h:X (Z<|J w) w w'):X (Z<|J w) w w'.drew:=h.drew
def adb (a b):dW (a++b)=(dW a&&dW b):=by simp[dW]
def Zc (a b w)(h:G a+G b<=100000):af C 52 #[U<|⟨E a⟩++⟨E b⟩] w λd w'=>d=ae (Q<|dW a&&dW b)/\w'=w:=by have c:=Mq (⟨E a⟩++⟨E b⟩) w (by rw[dJ,Ww];simp;omega);rw[Ww,adb]at c;exact c
def Y8 (a w)(h:G a<=100000):
  af C 51 #[U ⟨E a⟩] w λb w'=>b=ae (Q<|gJ a)/\w'=w:=Y9 ⟨E a⟩ w (by rw[GR];omega)
def ajP (m p a b)(h:gJ a=V):Pn.okB m a b p=V:=by simp[Pn.okB,vh,h]
def ajO (m p a b)(c:p=Y)(h:gJ b=V):Pn.okB m a b p=V:=by simp[Pn.okB,c,h]
def ajN (m p a b)(h:(30:Int)<(G a:Int)+G b):Pn.okB m a b p=V:=by have:am (G a+G b<=30)=V:=jq S;simp only[Pn.okB,this,Bool.false_and]
def uP (a:List UInt8)(h:0<G a):a.head?=K a[0]:=by cases a with|nil=>{exact absurd h z}|cons c b=>{rfl}
def adZ (a)(h:1<G a)(d:a.head?=K 48):vh a=V:=by have c:(a==[48])=V:=by{rw[g];intro b;rw[b]at h;simp at h};rw[vh,d,c];simp
def adY (a)(h:G a<=1)(hd:gJ a=Y):vh a=Y:=by match a,h,hd with| [],_,hd=>simp[gJ]at hd| [c],_,hd=>{rw[vh,hd];by_cases b:c=48;{simp[b]};{simp[b]}}
def adX (a)(b:¬a.head?=K 48)(hd:gJ a=Y):vh a=Y:=by rw[vh,hd];simp[b]
def ajM (m p a b)(h:vh a=V):Pn.okB m a b p=V:=by simp[Pn.okB,h]
def ajL (p a b)(h:(dW a&&dW b)=Y):Pn.okB Y a b p=V:=by simp only[tN]at h;simp[Pn.okB,h.1,h.2]
def Y1 (m p a b)(j:¬(30:Int)<(G a:Int)+G b)(g:vh a=Y)(f:p=V\/gJ b=Y)(i:m=V\/(dW a&&dW b)=V):Pn.okB m a b p=Y:=by have c:am (G a+G b<=30)=Y:=jF S;have d:(!p||gJ b)=Y:=by{rcases f with h|h<;>simp[h]};have e:(!(m&&dW a&&dW b))=Y:=by{rw[Bool.and_assoc];rcases i with h|h;{rw[h];rfl};{rw[h,Bool.and_false];rfl}};rw[Pn.okB,c,g,d,e];rfl
def anE (a)(h:0<G a)(c:0<(⟨E a⟩:ByteArray).size):(((⟨E a⟩:ByteArray)[0].toNat:Int)==48)=(a.head?==K 48):=by have b:(⟨E a⟩:ByteArray)[0]=a[0]:=rfl;rw[b,uP a h];rw[At,ef,ef];constructor;{intro b;congr 1;apply iY.1;have:a[0].toNat=48:=S;rw[this];rfl};{intro b;rw[sQ b];rfl}
def ajT (m p a b):(gJ a=V/\Pn.okB m a b p=V)\/(gJ a=Y/\p=Y/\gJ b=V/\Pn.okB m a b p=V)\/(gJ a=Y/\(p=V\/p=Y/\gJ b=Y)/\(((30:Int)<(G a:Int)+G b/\Pn.okB m a b p=V)\/(¬(30:Int)<(G a:Int)+G b/\∃d:0<G a,((1:Int)<G a/\((((⟨E a⟩:ByteArray)[0]'(by rw[GR];exact d)).toNat:Int)==48)=Y/\Pn.okB m a b p=V)\/((am ((1:Int)<G a)=V\/(1:Int)<G a/\((((⟨E a⟩:ByteArray)[0]'(by rw[GR];exact d)).toNat:Int)==48)=V)/\∃o,(dW a&&dW b)=o/\Pn.okB m a b p= !(m&&o))))):=by cases hd:gJ a with|false=>exact .inl ⟨rfl,ajP _ _ _ _ hd⟩|true=>{have d:0<G a:=by{cases a with|nil=>simp[gJ]at hd|cons c q=>{simp}};by_cases e:p=Y/\gJ b=V;{exact .inr<|.inl ⟨rfl,e.1,e.2,ajO _ _ _ _ e.1 e.2⟩};{have i:p=V\/p=Y/\gJ b=Y:=by{cases p with|false=>exact .inl rfl|true=>{exact .inr ⟨rfl,by simpa using e⟩}};have j:p=V\/gJ b=Y:=i.imp_right And.right;refine .inr<|.inr ⟨rfl,i,?_⟩;by_cases f:(30:Int)<(G a:Int)+G b;{exact .inl ⟨f,ajN _ _ _ _ f⟩};{refine .inr ⟨f,d,?_⟩;have n:vh a=Y->Pn.okB m a b p= !(m&&(dW a&&dW b)):=λk=>by{cases m with|false=>exact Y1 _ _ _ _ f k j (.inl rfl)|true=>{cases l:(dW a&&dW b)with|true=>exact ajL _ _ _ l|false=>{exact Y1 _ _ _ _ f k j<|.inr l}}};by_cases h:(1:Int)<G a;{rw[anE a d (by rw[GR];exact d)];by_cases g:a.head?=K 48;{exact .inl ⟨h,ef.2 g,ajM _ _ _ _<|adZ _ S g⟩};{exact .inr ⟨.inr ⟨h,aZ.2 g⟩,_,rfl,n<|adX _ g hd⟩}};{exact .inr ⟨.inl<|jq h,_,rfl,n<|adY _ S hd⟩}}}}
def ajW (m p s w a b)(A:s.size<=100000)(z:0<s.size)(x:((s[0].toNat:Int)==45)=m)(h:D<|(if m=Y then s.extract 1 s.size else s).data.toList=rN s.data.toList)(l:D<|Lib.cut (rN s.data.toList) [46]=(a,b,p))(y:G a+G b<=100000):af C 26 #[U s] w λc w'=>c=ae (ak #[ai #[Q m,U ⟨E a⟩,U ⟨E b⟩],Q<|Pn.okB m a b p])/\X (Z<|J w) w w':=by have e:=(bx w #[Q V,U ⟨#[]⟩,U ⟨#[]⟩] 78).alloc<|an #[Q m,U ⟨#[]⟩,U ⟨#[]⟩] 78;have d:=bx (ah w<|an #[Q V,U ⟨#[]⟩,U ⟨#[]⟩] 78) #[Q m,U ⟨#[]⟩,U ⟨#[]⟩] 78;rw[ep]at d;have j:X (Z<|J w) w<|(ah w<|an #[Q V,U ⟨#[]⟩,U ⟨#[]⟩] 78).alloc<|an #[Q m,U ⟨#[]⟩,U ⟨#[]⟩] 78:=((aT _ _).alloc (aO _) _).alloc aN _;rcases ajT m p a b with⟨hd,c⟩|⟨hd,rfl,n,c⟩|⟨hd,rfl|⟨rfl,n⟩,⟨t,c⟩|⟨t,v,⟨g,k,c⟩|⟨g|⟨g,k⟩,u,F,c⟩⟩⟩;(all_goals rw[c];clear c);(all_goals try cases u);(all_goals cases m);all_goals{go_enter func26,ntmps26;go_wp2_with fail;refine(Yq _ _<|by first|omega|(simp;omega)).mono ?_;rintro c L ⟨rfl,f⟩;(first|rw[show(s.extract 1 s.size).data.toList=_ from h.o]|rw[show s.data.toList=_ from h.o]);rw[l.o];replace e:=e.keep f;replace d:=d.keep f;have i:=bh j f;clear f j;have q:=e.2.1;have H:=e.2.2;have K:=d.2.1;have I:=d.2.2;clear e d;go_wp2_with(first|(go_at_call 51;refine(Y8 _ _ S).mono ?_;rintro c r ⟨rfl,rfl⟩)|(go_at_call 52;refine(Zc _ _ _ S).mono ?_;rintro c r ⟨rfl,rfl⟩));(all_goals try go_region);(all_goals try go_wp2);all_goals exact bF (by simp[results,results26,go_sem,q]) rfl ⟨rfl,by first|exact((((i.setCell (fN _) _).setCell (fN _) _).setCell (aO _) _).setCell (aO _) _).setCell (aO _) _|exact aqO<|((((i.setCell (fN _) _).setCell (fN _) _).setCell (aO _) _).setCell (aO _) _).setCell (aO _) _⟩}
end
end Go.Proofs.YtaepcfidpekflabGreatDoor
