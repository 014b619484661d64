import Derived.Test.YtaepcfidpekflabGreatDoorU00
import Derived.Test.YtaepcfidpekflabGreatDoorProg
import Derived.WalkKit
import Derived.WalkSmall
import Derived.Lib.LaidTab
import Derived.Lib.ItoaNum
import Derived.Shelf.Lay
import Derived.Shelf.Unicode.DecodeSlow
import Derived.Shelf.Unicode.ValidAny
import Derived.Lib.Strings
import Derived.Lib.IndexMore
import Derived.Lib.TrimByte
import Derived.Lib.Small
import Derived.Shelf.Abstract
import Derived.Shelf.Strings.Trim
import Derived.Shelf.Small.Utf8
import Derived.Shelf.Small.Wraps
import Derived.Shelf.Strings.BuilderK
import Derived.Shelf.Strings.BuilderRune
import Derived.Shelf.Utf8.RuneCount
import Derived.Shelf.Strings.Cut
import Derived.Shelf.Strings.Prefix
import Derived.Shelf.GgClosure.StringsTrimFunc
import Derived.Shelf.Strconv.Itoa3
import Derived.Shelf.Pu.ParseUintPublic10
import Derived.Shelf.Slices.Turned
import Derived.Lib.AppendIntMem
import Derived.Lib.OthersKept
import Derived.WalkSpells
import Derived.WalkLawsBesides
import Derived.Deep.DeepCutAuto
import Derived.Deep.CutBlock
import Derived.Deep.RegionWith
import Derived.Outline
open Array renaming size->Z
open Bool renaming false->V,true->Y
open Decidable renaming decide->am
open Go renaming Calls->af,Value->N,World->B
open Go.Ending renaming returned->ae
open Go.IntKind renaming i64->R
open Go.Obj renaming cells->an
open Go.Proofs.Tryz renaming prog->C
open Go.RowKit renaming Below->X,Hid->D
open Go.Value renaming agg->ai,bool->Q,iface->al,int->I,pointer->aa,slice->F,string->U,tuple->ak
open Go.World renaming alloc->ah,cell?->ac,heap->J,setCell->aj
open List renaming length->G,toArray->E
open Option renaming none->O,some->K
set_option maxRecDepth 100000
set_option maxHeartbeats 0
set_option linter.all false
namespace Go.Proofs.YtaepcfidpekflabGreatDoor
section
open RowKit
def aK {p}(h:p):D p:=h
def hidx {c}(a:c):∃b,D<|a=b:=⟨a,rfl⟩
def fV (w:B):Prop:=ac w ⟨0,0,O⟩=K (al 280<|ai #[aa<|K ⟨9,97,O⟩])/\(∃m,ac w ⟨3,0,O⟩=K (I R m))/\Lib.Utf8Tabs 1 2 w/\Lib.TabIs C w "internal/strconv.uint64pow10" .u64 Lib.pow10Tab/\(∃t p,ac w ⟨4,0,O⟩=K (al t p))/\∃t p,ac w ⟨5,0,O⟩=K (al t p)
def F7 {w b o v}(h:ac w ⟨b,o,O⟩=K v):b<Z (J w):=by rcases dM b (Z<|J w) with a|a;{exact a};{simp[World.cell?,qI a]at h}
def Rp:Program.globalNamed C "internal/strconv.uint64pow10"=K 6:=x
def aed {P w n g cs}(b:P.globalNamed n=K g)(h:w.var? P n=K cs):g<Z (J w):=by rcases dM g (Z<|J w) with a|a;{exact a};{simp[World.var?,b,qI a]at h}
def fV.below {w w'}(h:fV w)(a:X (Z<|J w) w w'):fV w':=by obtain⟨b,⟨i,c⟩,g,d,⟨l,j,e⟩,m,k,f⟩:=h;exact⟨(a.cell (p:=⟨_,0,O⟩)<|F7 b).trans b,⟨i,(a.cell (p:=⟨_,0,O⟩)<|F7 c).trans c⟩,Utf8Tabs_below g a,var?_below a Rp (aed Rp d) d,⟨l,j,(a.cell (p:=⟨_,0,O⟩)<|F7 e).trans e⟩,m,k,(a.cell (p:=⟨_,0,O⟩)<|F7 f).trans f⟩
def bh {w a c}(b:X (Z<|J w) w a)(d:X (Z<|J a) a c):X (Z<|J w) w c:=b.trans<|d.mono b.size
def aqP {w a}(o)(h:X (ah w o).heap.size (ah w o) a):X (Z<|J w) w a:=bh ((s _ _).alloc (r _) _) h
def cH (w n):X (Z<|J w) w<|w.drewN n:=rJ (s _ _) n
def Row (w:B)(b:Nat)(cs:Array N):Prop:=b<Z (J w)/\(∀j,ac w ⟨b,j,O⟩=cs[j]?)/\∀j,w.frozen? ⟨b,j,O⟩=V
def bx (w cs T):Row (ah w<|an cs T) (Z<|J w) cs:=
 ⟨z,λa=>z,λa=>z⟩
def Row.alloc {w b cs}(h:Row w b cs)(o):Row (ah w o) b cs:=
 ⟨by have:=h.1;simp;omega,λa=>(fZ w o ⟨b,a,O⟩ h.1).trans<|h.2.1 a,λa=>(xF w o ⟨b,a,O⟩<|P7 h.1).trans<|h.2.2 a⟩
def Row.below {w w' b d cs}(h:Row w b cs)(c:X d w w')(e:b<d):Row w' b cs:=
 ⟨du h.1 c.size,λa=>(c.cell (p:=⟨b,a,O⟩) e).trans<|h.2.1 a,λa=>(c.frozen (p:=⟨b,a,O⟩) e).trans<|h.2.2 a⟩
def Row.keep {w w' b cs}(h:Row w b cs)(a:X (Z<|J w) w w'):Row w' b cs:=h.below a h.1
def Row.kX {w b cs}(h:Row w b cs)(k v)(d:k<cs.size):Row (aj w ⟨b,k,O⟩ v) b<|cs.setIfInBounds k v:=by refine⟨by simpa using h.1,λa=>?_,λa=>by rw[Wu];exact h.2.2 a⟩;by_cases c:k=a;{subst c;have e:=h.2.1 k;rw[Wt d]at e;rw[P6 (h:=e)];simp[d]};{rw[Ha (h:=by intro f;exact c<|by injection f),h.2.1 a,Array.getElem?_setIfInBounds_ne c]}
def Row.gX {w b b' k cs}(h:Row w b cs)(d:b'≠b)(v):Row (aj w ⟨b',k,O⟩ v) b cs:=
 ⟨by simpa using h.1,λa=>by rw[Ha (h:=by intro c;injection c with e1;exact d e1)];exact h.2.1 a,λa=>by rw[Wu];exact h.2.2 a⟩
end
end Go.Proofs.YtaepcfidpekflabGreatDoor
namespace Go.Proofs
open RowKit Shelf Tryz
def Tryz.lays196_ren:Go.Shelf.Ren:=⟨λ|196=>119|259=>141|n=>n,λ|0=>0|3=>3|4=>4|5=>5|9=>9|12=>12|46=>294|53=>321|119=>298|138=>300|139=>301|n=>n,λ|3=>1|4=>2|n=>n⟩
def Tryz.lays196:Go.Proofs.Lays.n196 prog lays196_ren:=⟨by kernel_rfl,bO func119 x,bO func141 x,underlying0,isAgg0,sizeOf0,zeroValue0,underlying3,isAgg3,sizeOf3,zeroValue3,underlying4,isAgg4,sizeOf4,zeroValue4,underlying5,isAgg5,sizeOf5,zeroValue5,underlying9,isAgg9,sizeOf9,zeroValue9,underlying12,isAgg12,sizeOf12,zeroValue12,underlying294,isAgg294,sizeOf294,zeroValue294,underlying321,isAgg321,sizeOf321,zeroValue321,underlying298,isAgg298,sizeOf298,underlying300,isAgg300,sizeOf300,zeroValue300,underlying301,isAgg301,sizeOf301,zeroValue301,by kernel_rfl,by kernel_rfl⟩
end Go.Proofs
namespace Go.Proofs.YtaepcfidpekflabGreatDoor
namespace Pn
def bu (c:UInt8):Bool:=am<|48<=c.toNat/\c.toNat<=57
def gJ (l:List UInt8):Bool:= !l.isEmpty&&l.all bu
def vh (l:List UInt8):Bool:=gJ l&&(l==[48]||l.head? !=K 48)
def dW (l:List UInt8):Bool:=l.all (·==48)
def okB (m:Bool)(a b:List UInt8)(p:Bool):Bool:=am (G a+G b<=30)&&vh a&&(!p||gJ b)&& !(m&&dW a&&dW b)
def gj (l:List UInt8):Bool:=Lib.hasPrefix l [45]
def rN (l:List UInt8):List UInt8:=Lib.trimPrefix l [45]
def fU (l:List UInt8):List UInt8:=(Lib.cut (rN l) [46]).1
def fT (l:List UInt8):List UInt8:=(Lib.cut (rN l) [46]).2.1
def Mi (l:List UInt8):Bool:=(Lib.cut (rN l) [46]).2.2
def fi (l:List UInt8):Bool:=okB (gj l) (fU l) (fT l)<|Mi l
def lg (l):((Lib.cut l [46]).2.2=Y/\l=(Lib.cut l [46]).1++46::(Lib.cut l [46]).2.1/\46∉(Lib.cut l [46]).1)\/((Lib.cut l [46]).2.2=V/\(Lib.cut l [46]).1=l/\(Lib.cut l [46]).2.1= []/\46∉l):=by rcases Lib.index_spec l [46]with⟨n,f⟩|⟨i,n,f,a,o⟩;{right;have:¬(0<=Lib.index l [46]):=S;simp only[Lib.cut,A this,tR];intro e;obtain⟨c,d,b⟩:=Cv e;have:=f c S;rw[Lib.occAt,dG d,b]at this;simp[List.isPrefixOf]at this};{left;have m:(0:Int)<=Lib.index l [46]:=S;have hi:(Lib.index l [46]).toNat=i:=S;simp only[Lib.cut,t m,hi,tR];have g:i<G l:=by{rcases dM i (G l) with h|h;{exact h};{rw[Lib.occAt,jm h]at a;simp[List.isPrefixOf]at a}};have k:l[i]=46:=by{rw[Lib.occAt,dG g]at a;have j:(46:UInt8)=l[i]:=by{simpa[List.isPrefixOf]using a};exact j.symm};constructor;{have:=pu i l;rw[dG g,k]at this;simpa using this.symm};{intro e;obtain⟨c,d,b⟩:=Cv e;have p:c<i:=by{simp at d;omega};have:=o c p;rw[Lib.occAt,dG S]at this;rw[List.getElem_take]at b;simp[List.isPrefixOf,b]at this}}
def RV (l):(gj l=Y/\l=45::rN l)\/(gj l=V/\rN l=l/\l.head?≠K 45):=by unfold gj rN Lib.trimPrefix Lib.hasPrefix;cases l with|nil=>right;simp[List.isPrefixOf]|cons c b=>{by_cases h:c=45;{left;subst h;simp[List.isPrefixOf]};{right;have:((45:UInt8)==c)=V:=by{rw[g];exactλa=>h a.symm};simp[List.isPrefixOf,this,h]}}
def gF (c):bu c=Y↔48<=c.toNat/\c.toNat<=57:=by simp[bu]
def Eb (l)(h:fi l=Y):fU l≠[]/\∀c∈fU l,bu c=Y:=by simp only[fi,okB,vh,gJ,tN]at h;obtain⟨⟨⟨_,⟨a,b⟩,_⟩,_⟩,_⟩:=h;exact⟨by simpa using a,by simpa using b⟩
def Ec (l)(h:fi l=Y):∀c∈fT l,bu c=Y:=by simp only[fi,okB,gJ,tN]at h;obtain⟨⟨_,a⟩,_⟩:=h;rcases lg (rN l)with⟨b,_,_⟩|⟨_,_,d,_⟩;{have:Mi l=Y:=b;rw[this]at a;simp at a;exact a.2};{have:fT l= []:=d;simp[this]}
def vw (l)(h:fi l=Y):G (fU l)+G (fT l)<=30:=by simp only[fi,okB,tN,xB]at h;exact h.1.1.1
end Pn
namespace Pr
open Pn
abbrev T:=List UInt8
abbrev Sem:=T->T->Bool
abbrev bH:=T->T->Nat×Bool
abbrev Rd:=List T->Option (Sem×List T)
def val (l:T):Nat:=l.foldl (λv c=>10*v+(c.toNat-48)) 0
def jJ (l:T):T:=(l.reverse.dropWhile (·==48)).reverse
def fy (t:T):Option Nat:=if gJ t=Y/\G t<=9/\(G t=1\/t.head?≠K 48)then K (val t)else O
def dy:List T->Option (Nat×List T)
 | []=>O
 |t::r=>match fy t with
  |none=>O
  |some v=>K (v,r)
def ly (t:T):Option bH:=if t= [110]then K λa b=>(val a, !(jJ b).isEmpty)else if t= [105]then K λa _=>(val a,V)else if t= [118]then K λ_ b=>(G b,V)else if t= [119]then K λ_ b=>(G<|jJ b,V)else if t= [102]then K λ_ b=>(val b,V)else if t= [116]then K λ_ b=>(val<|jJ b,V)else O
def zl (o:bH)(m:Nat):bH:=λa b=>((o a b).1%m,(o a b).2)
def Hz (o:bH)(lo hi:Nat):Sem:=λa b=> !(o a b).2&&am (lo<=(o a b).1)&&am ((o a b).1<=hi)
def QJ (o:bH)(lo hi:Nat):Sem:=λa b=>decide (lo<=(o a b).1)&&(am ((o a b).1<hi)||am ((o a b).1=hi)&& !(o a b).2)
def CC (f:Sem)(n:Bool):Sem:=λa b=>f a b !=n
def nS (f g:Sem):Sem:=λa b=>f a b||g a b
def uE (f g:Sem):Sem:=λa b=>f a b&&g a b
def xW (o:bH)(within:Bool)(lo hi:Nat):Sem:=if within then QJ o lo hi else Hz o lo hi
def jK (mem:Rd)(sep:T)(jn:Sem->Sem->Sem):Nat->Sem->Rd
 |0,f,l=>K (f,l)
 |_+1,f,[]=>K (f,[])
 |k+1,f,t::l=>if t=sep then match mem l with
   |none=>O
   |some (g,r)=>jK mem sep jn k (jn f g) r
  else K (f,t::l)
def lL (mem:Rd)(sep:T)(jn:Sem->Sem->Sem):Rd:=λl=>match mem l with
 |none=>O
 |some (f,r)=>jK mem sep jn (G r) f r
def fj (k:Nat->Rd):Rd:=λl=>match dy l with
 |none=>O
 |some (v,r)=>k v r
def mD (o:bH)(within:Bool)(lo:Nat):Rd
 | []=>K (xW o within lo lo,[])
 |t::r=>if t= [46,46]then fj (λhi l=>if hi<lo then O else K (xW o within lo hi,l)) r
  else K (xW o within lo lo,t::r)
def gp (o:bH)(within:Bool):Rd:=fj<|mD o within
def iq (o:bH)(n within:Bool):Rd:=λl=>match lL (gp o within) [44] nS l with
 |none=>O
 |some (f,r)=>K (CC f n,r)
def qO (o:bH)(n:Bool):Rd:=fj λv l=>K (CC (Hz o v v) n,l)
def cS (o:bH):Rd
 | []=>O
 |u::l=>if u= [110,111,116]then qO o Y l else qO o V (u::l)
def oF (o:bH)(n:Bool):Rd
 | []=>O
 |u::l=>if u= [105,110]then iq o n V l else if u= [119,105,116,104,105,110]then iq o n Y l else O
def ej (o:bH):Rd
 | []=>O
 |t::l=>if t= [61]then iq o V V l
  else if t= [33,61]then iq o Y V l
  else if t= [105,115]then cS o l
  else if t= [110,111,116]then oF o Y l
  else oF o V (t::l)
def mB (o:bH):Rd
 | []=>O
 |u::l=>if u= [109,111,100]\/u= [37]then fj (λm r=>if m=0 then O else ej (zl o m) r) l else ej o (u::l)
def jb:Rd
 | []=>O
 |t::l=>match ly t with
  |none=>O
  |some o=>mB o l
def zV:Rd:=lL jb [97,110,100] uE
def CR:Rd:=lL zV [111,114] nS
def wW (l:List T):Option Sem:=match CR l with
 |some (f,[])=>K f
 |_=>O
def ge (c:UInt8):Bool:=am<|97<=c.toNat/\c.toNat<=122
def dX:T->Nat
 | []=>0
 |c::r=>if ge c then((c::r).takeWhile ge).length
  else if bu c then((c::r).takeWhile bu).length
  else if c=33/\r.head?=K 61\/c=46/\r.head?=K 46 then 2
  else if c=32\/c=61\/c=37\/c=44 then 1 else 0
def lY:Nat->T->Option (List T)
 |_,[]=>K []
 |0,_::_=>O
 |k+1,c::r=>if dX (c::r)=0 then O else match lY k ((c::r).drop<|dX<|c::r)with
  |none=>O
  |some l=>K<|if c=32 then l else(c::r).take (dX<|c::r)::l
def d8 (l:T):Option<|List T:=lY (G l) l
def nK (l:T):Option Sem:=if 200<G l then O else match d8 (Lib.cut l [64]).1 with
 |none=>O
 |some ts=>wW ts
def lQ (n:T):Bool:=n= [122,101,114,111]\/n= [111,110,101]\/n= [116,119,111]\/n= [102,101,119]\/n= [109,97,110,121]
def eR (seen:List T):List (T×T)->Option (List<|T×Sem)
 | []=>K []
 |(n,s)::r=>if n∈seen\/lQ n=V then O else match nK s with
  |none=>O
  |some f=>match eR (seen++[n]) r with
   |none=>O
   |some l=>K<|(n,f)::l
end Pr
section
open Pn Pr RowKit Tryz
structure Ag (P:Nat)(w w':B):Prop where
 os:w'.os=w.os
 tape:w'.tape=w.tape
 output:w'.output=w.output
 size:Z (J w)<=Z (J w')
 block:∀k,k<Z (J w)->k≠P->w'.heap[k]? =w.heap[k]?
def Ag.refl (P w):Ag P w w:=⟨rfl,rfl,rfl,r _,λ_ _ _=>rfl⟩
def Ag.trans {P w d e}(h:Ag P w d)(a:Ag P d e):Ag P w e:=
 ⟨a.os.trans h.os,a.tape.trans h.tape,a.output.trans h.output,bY h.size a.size,λk c b=>(a.block k (du c h.size) b).trans<|h.block k c b⟩
def Ag.of {P a w w'}(h:X a w w')(b:Z (J w)<=a):Ag P w w':=⟨h.os,h.tape,h.output,h.size,λk c _=>h.block k<|du c b⟩
def Ag.below {P a w w'}(h:Ag P w w')(d:a<=P)(b:a<=Z (J w)):X a w w':=
 ⟨h.os,h.tape,h.output,h.size,λk c=>h.block k (du c b) S⟩
def Ag.setCell {P w w'}(h:Ag P w w')(j v):Ag P w<|aj w' ⟨P,j,O⟩ v:=by have a:=(s P w').setCell (p:=⟨P,j,O⟩) (r _) v;refine⟨a.os.trans h.os,a.tape.trans h.tape,a.output.trans h.output,bY h.size a.size,λk c b=>?_⟩;refine Eq.trans ?_<|h.block k c b;exact Ld _ _ _ _ b
def Ag.then {P w a b}(h:Ag P w a)(c:X (Z<|J a) a b):Ag P w b:=h.trans<|.of c<|r _
def nG (P:Nat)(w:B):Prop:=∀W,Ag P w W->fV W
def nG.later {P w w'}(h:nG P w)(b:Ag P w w'):nG P w':=λW a=>h W<|b.trans a
def Row.ag {P w w' b cs}(h:Row w b cs)(d:Ag P w w')(e:b≠P):Row w' b cs:=by have c:=d.block b h.1 e;refine⟨du h.1 d.size,λa=>?_,λa=>?_⟩;{have:=h.2.1 a;simp only[World.cell?,c]at this⊢;exact this};{have:=h.2.2 a;simp only[World.frozen?,c]at this⊢;exact this}
def BJ (P:Nat)(w:B)(a:Option Addr)(l:List H):Prop:=l= []\/∃blk off,a=K ⟨blk,off,O⟩/\blk≠P/\blk<Z (J w)/\∀j,j<G l->ac w ⟨blk,off+j,O⟩=K (U ⟨E<|l.getD j []⟩)
def BJ.ag {P w w' a l}(h:BJ P w a l)(e:Ag P w w'):BJ P w' a l:=by rcases h with h|⟨b,off,f,c,d,g⟩;{exact .inl h};{refine .inr ⟨b,off,f,c,du d e.size,λj i=>?_⟩;have:=g j i;simp only[World.cell?,e.block b d c]at this⊢;exact this}
def Left (P:Nat)(w:B)(l:List H):Prop:=∃a c,Row w P #[F a (G l) c]/\G l<=c/\(G l<=1000/\D (∀t∈l,G t<=1000))/\BJ P w a l
def LU {t:H}{l}(h:D (∀a∈t::l,G a<=1000)):D (∀a∈l,G a<=1000):=λa hu=>h.o a (by simp[hu])
def Left.then {P w w' l}(h:Left P w l)(b:X (Z<|J w) w w'):Left P w' l:=by obtain⟨a,c,d,e,f,g⟩:=h;exact⟨a,c,d.keep b,e,f,g.ag<|.of b<|r _⟩
def Up (P:Nat)(w W:B):Prop:=∀k,P<k->k<Z (J w)->W.heap[k]? =w.heap[k]?
def Tz {w W k}(h:W.heap[k]? =w.heap[k]?)(b:k<Z (J w)):k<Z (J W):=by rcases dM k (Z<|J W) with a|a;{exact a};{rw[qI a,Wt b]at h;cases h}
def Ag.up {P w W}(h:Ag P w W):Up P w W:=λk b a=>h.block k a S
def Up.then {P w W W'}(h:Up P w W)(c:X (Z<|J W) W W'):Up P w W':=λk b a=>(c.block k<|Tz (h k b a) a).trans<|h k b a
def Up.after {P w c W}(b:X (Z<|J w) w c)(h:Up P c W):Up P w W:=λk d a=>(h k d<|du a b.size).trans<|b.block k a
def Up.trans {P w d W}(c:Up P w d)(e:Up P d W):Up P w W:=λk a b=>(e k a<|Tz (c k a b) b).trans<|c k a b
def Row.up {P w w' b cs}(h:Row w b cs)(d:Up P w w')(e:P<b):Row w' b cs:=by have a:=d b e h.1;refine⟨Tz a h.1,λc=>?_,λc=>?_⟩;{have:=h.2.1 c;simp only[World.cell?,a]at this⊢;exact this};{have:=h.2.2 c;simp only[World.frozen?,a]at this⊢;exact this}
def jM (m:Bool)(a b:H):N:=ai #[Q m,U ⟨E a⟩,U ⟨E b⟩]
def ez (a:H):Prop:=(∀c∈a,bu c=Y)/\G a<=30
def Enters (g:Nat):Prop:=∀args w,(callFunc g args).run C w=.ok (.enter g args) w
def ou (P:Nat)(w:B)(v:N)(f:Pr.Sem):Prop:=∃g lb,v=.func (.func g) #[] lb/\Enters g/\∀W,fV W->Up P w W->∀m a b,ez a->ez b->af C g (#[jM m a b]++lb) W λe w'=>e=ae (Q<|f a b)/\X (Z<|J W) W w'
def oi (P:Nat)(w:B)(v:N)(o:bH):Prop:=∃g lb,v=.func (.func g) #[] lb/\Enters g/\∀W,fV W->Up P w W->∀m a b,ez a->ez b->af C g (#[jM m a b]++lb) W λe w'=>(∃d,e=ae (ai #[U ⟨E d⟩,Q (o a b).2])/\ez d/\Pr.val d=(o a b).1)/\X (Z<|J W) W w'
def ou.later {P w W v f}(h:ou P w v f)(j:Ag P w W):ou P W v f:=by obtain⟨g,k,b,c,d⟩:=h;exact⟨g,k,b,c,λa i e=>d a i<|j.up.trans e⟩
def oi.later {P w W v o}(h:oi P w v o)(i:Ag P w W):oi P W v o:=by obtain⟨g,j,b,c,d⟩:=h;exact⟨g,j,b,c,λa f e=>d a f<|i.up.trans e⟩
def jR:N:=al 38<|I R 9
def pN (P:Nat)(w:B)(x:Option<|Pr.Sem×List H)(e:Ending)(w':B):Prop:=Ag P w w'/\match x with
 |none=>e=ae (ak #[.nilFunc,jR])
 |some (f,r)=>∃v,e=ae (ak #[v,.nilIface])/\ou P w' v f/\Left P w' r
def Rdv (P:Nat)(w:B)(v:N)(rd:Pr.Rd):Prop:=∃g bd lb,v=.func (.func g) bd lb/\Enters g/\∀W l,nG P W->Ag P w W->Left P W l->af C g (bd++lb) W λe w'=>pN P W (rd l) e w'
def MI {P w x}(h:Row w P #[x])(a c)(l:List H)(b:G l<=c)(d:G l<=1000/\D (∀t∈l,G t<=1000))(e:BJ P w a l):Left P (aj w ⟨P,0,O⟩<|F a (G l) c) l:=
 ⟨a,c,h.kX 0 _ z,b,d,e.ag<|(Ag.refl P w).setCell 0 _⟩
def Xj {P w b off}{t:H}{l}(c:b≠P)(d:b<Z (J w))(e:∀a,a<G (t::l)->ac w ⟨b,off+a,O⟩=K (U ⟨E<|(t::l).getD a []⟩)):
  BJ P w (K ⟨b,off+1,O⟩) l:=.inr ⟨b,off+1,rfl,c,d,λa f=>by
 have:=e (a+1) (by simpa using f)
 rw[show off+1+a=off+(a+1) from S,this]
 simp⟩
def Mt (P w l)(h:Left P w l):af C 210 #[aa<|K ⟨P,0,O⟩] w λe w'=>e=ae (U ⟨E<|l.headD []⟩)/\Left P w' l.tail/\Ag P w w':=by obtain⟨a,c,b,g,d,f⟩:=h;have o:=b.2.1;have q:=b.2.2;cases l with|nil=>go_enter func210,ntmps210;go_wp2;go_ret;exact⟨rfl,⟨a,c,b,g,d,.inl rfl⟩,Ag.refl _ _⟩|cons t l=>{obtain⟨d,ns⟩:=d;rcases f with f|⟨j,off,rfl,k,m,i⟩;{cases f};have n:=i 0 z;simp only[bB]at g d o;have p:ac w ⟨j,off,O⟩=K (U ⟨E t⟩):=by{simpa using n};go_enter func210,ntmps210;by_cases e:c=1;{obtain rfl:l= []:=gU.1 S;subst e;go_wp2;go_ret;exact⟨rfl,MI b _ _ [] z ⟨z,LU ns⟩<|.inl rfl,(Ag.refl P w).setCell 0 _⟩};{go_wp2;go_ret;exact⟨rfl,MI b _ _ l S ⟨S,LU ns⟩<|Xj k m i,(Ag.refl P w).setCell 0 _⟩}}
end
end Go.Proofs.YtaepcfidpekflabGreatDoor
namespace Go.Proofs
open Shelf Tryz
def Tryz.lays119_ren:Go.Shelf.Ren:=⟨λ|119=>121|n=>n,λ|21=>21|4=>4|n=>n,λ|n=>n⟩
def Tryz.lays119:Go.Proofs.Lays.n119 prog lays119_ren:=⟨by kernel_rfl,bO func121 x,underlying4,isAgg4,sizeOf4,zeroValue4,underlying21,isAgg21,sizeOf21,zeroValue21⟩
def Tryz.utf8_ValidRune (r:Int)(w:World):
  Calls prog 121 #[.int .i32 r] w λa w'=>a=.returned (.bool<|Lib.validRune r)/\w'=w:=Any.utf8_ValidRune lays119 r w
def Tryz.lays169_ren:Go.Shelf.Ren:=⟨λ|169=>166|n=>n,λ|70=>330|9=>9|0=>0|72=>332|37=>32|127=>347|3=>3|5=>5|n=>n,λ|n=>n⟩
def Tryz.lays169:Go.Proofs.Lays.n169 prog lays169_ren:=⟨by kernel_rfl,bO func166 x,underlying0,isAgg0,sizeOf0,zeroValue0,underlying3,isAgg3,sizeOf3,zeroValue3,underlying9,isAgg9,sizeOf9,zeroValue9,underlying32,isAgg32,sizeOf32,zeroValue32,underlying330,isAgg330,sizeOf330,zeroValue330,underlying332,isAgg332,sizeOf332,zeroValue332,underlying347,isAgg347,sizeOf347,zeroValue347⟩
def Tryz.Builder_Extra_169:Builder.Extra prog lays169_ren:={
 sizeBuilder:=by kernel_rfl
 liesBuilder:=by kernel_rfl
 t5:=underlying5
 a5:=isAgg5
 z5:=sizeOf5
 v5:=zeroValue5
 infoByte:=by kernel_rfl
 cellsByte:=by kernel_rfl
 sizeByte:=by kernel_rfl
 neB5:=by decide}
open Go.RowKit in
def Tryz.Builder_String_any_k (a b:Nat)(l:List UInt8)(w:World)(h:Lib.IsBuilderF 332 5 a b (Lib.byteCells l) w)(d:a<=w.heap.size):
  Calls prog 166 #[.pointer<|some ⟨b,0,none⟩] w λc w'=>c=.returned (.string ⟨l.toArray⟩)/\(Lib.IsBuilderF 332 5 a b (Lib.byteCells l) w'/\Below a w w'/\Lib.OthersKept 5 (some b) w w'):=Any.Builder_String_any_k lays169 Builder_Extra_169 a b l w h d
def Tryz.lays145_ren:Go.Shelf.Ren:=⟨λ|145=>143|220=>157|219=>173|217=>189|225=>190|224=>191|267=>192|266=>206|314=>207|n=>n,λ|9=>9|4=>4|59=>122|3=>3|5=>5|46=>294|146=>362|51=>210|n=>n,λ|1=>3|n=>n⟩
def Tryz.lays145:Go.Proofs.Lays.n145 prog lays145_ren:=⟨by kernel_rfl,bO func143 x,bO func189 x,bO func173 x,bO func157 x,bO func191 x,bO func190 x,bO func206 x,bO func192 x,bO func207 x,underlying3,isAgg3,sizeOf3,zeroValue3,underlying4,isAgg4,sizeOf4,zeroValue4,underlying5,isAgg5,sizeOf5,zeroValue5,underlying9,isAgg9,sizeOf9,zeroValue9,underlying294,isAgg294,sizeOf294,zeroValue294,underlying210,isAgg210,sizeOf210,zeroValue210,underlying122,isAgg122,sizeOf122,zeroValue122,underlying362,isAgg362,sizeOf362,zeroValue362,by kernel_rfl⟩
open Go.RowKit Go.Lib in
def Tryz.strings_Cut (s sep:ByteArray)(m:Int)(w:World)(c:s.size<4294967281)(b:w.cell? ⟨3,0,none⟩=some (.int .i64 m)):
  Calls prog 143 #[.string s,.string sep] w λa w'=>a=.returned (.tuple #[.string ⟨(Lib.cut s.data.toList sep.data.toList).1.toArray⟩,.string ⟨(Lib.cut s.data.toList sep.data.toList).2.1.toArray⟩,.bool (Lib.cut s.data.toList sep.data.toList).2.2])/\∃n,w'=w.drewN n:=Any.strings_Cut lays145 s sep m w c b
def Tryz.lays168_ren:Go.Shelf.Ren:=⟨λ|168=>167|240=>187|242=>188|276=>204|278=>205|n=>n,λ|0=>0|3=>3|4=>4|5=>5|9=>9|20=>20|21=>21|37=>32|46=>294|51=>210|70=>330|72=>332|75=>97|80=>296|164=>190|n=>n,λ|n=>n⟩
def Tryz.lays168:Go.Proofs.Lays.n168 prog lays168_ren:=⟨by kernel_rfl,bO func167 x,bO func187 x,bO func188 x,bO func204 x,bO func205 x,underlying0,isAgg0,sizeOf0,zeroValue0,underlying3,isAgg3,sizeOf3,zeroValue3,underlying4,isAgg4,sizeOf4,zeroValue4,underlying5,isAgg5,sizeOf5,zeroValue5,underlying9,isAgg9,sizeOf9,zeroValue9,underlying20,isAgg20,sizeOf20,zeroValue20,underlying21,isAgg21,sizeOf21,zeroValue21,underlying32,isAgg32,sizeOf32,zeroValue32,underlying294,isAgg294,sizeOf294,zeroValue294,underlying210,isAgg210,sizeOf210,zeroValue210,underlying330,isAgg330,sizeOf330,zeroValue330,underlying332,isAgg332,sizeOf332,zeroValue332,underlying97,isAgg97,sizeOf97,zeroValue97,underlying190,isAgg190,sizeOf190,zeroValue190⟩
def Tryz.Builder_Extra_168:Builder.Extra prog lays168_ren:={
 sizeBuilder:=by kernel_rfl
 liesBuilder:=by kernel_rfl
 t5:=underlying5
 a5:=isAgg5
 z5:=sizeOf5
 v5:=zeroValue5
 infoByte:=by kernel_rfl
 cellsByte:=by kernel_rfl
 sizeByte:=by kernel_rfl
 neB5:=by decide}
open Go.RowKit in
def Tryz.Builder_WriteRune_k (a b:Nat)(bs:List Value)(r:Int)(f: -2147483648<=r)(g:r<=2147483647)(w:World)(h:Lib.IsBuilderF 332 5 a b bs w)(e:bs.length+4<=140737488355328)(d:a<=w.heap.size):
  Calls prog 167 #[.pointer<|some ⟨b,0,none⟩,.int .i32 r] w λc w'=>c=.returned (.tuple #[.int .i64 (Lib.runeCells r).length,.nilIface])/\(Lib.BuilderAtF 332 5 a b (.pointer<|some ⟨b,0,none⟩) (bs++Lib.runeCells r) w'/\Below a w w'/\Lib.OthersKept 5 (some b) w w'):=Any.Builder_WriteRune_k lays168 Builder_Extra_168 a b bs r f g w h e d
end Go.Proofs
namespace Go.Proofs.YtaepcfidpekflabGreatDoor
end Go.Proofs.YtaepcfidpekflabGreatDoor
namespace Go.Proofs
open Shelf Tryz
def Tryz.lays162_ren:Go.Shelf.Ren:=⟨λ|162=>231|232=>240|227=>241|234=>242|236=>243|228=>259|271=>260|151=>261|120=>272|197=>125|152=>273|260=>146|137=>279|119=>121|224=>191|225=>190|217=>189|266=>206|n=>n,λ|9=>9|4=>4|3=>3|5=>5|117=>388|116=>387|0=>0|124=>391|21=>21|105=>249|46=>294|119=>298|139=>301|138=>300|n=>n,λ|3=>1|4=>2|n=>n⟩
def Tryz.lays162:Go.Proofs.Lays.n162 prog lays162_ren:=⟨by kernel_rfl,bO func121 x,bO func272 x,bO func279 x,bO func261 x,bO func273 x,bO func231 x,bO func125 x,bO func189 x,bO func191 x,bO func190 x,bO func241 x,bO func259 x,bO func240 x,bO func242 x,bO func243 x,bO func146 x,bO func206 x,bO func260 x,underlying0,isAgg0,sizeOf0,zeroValue0,underlying3,isAgg3,sizeOf3,zeroValue3,underlying4,isAgg4,sizeOf4,zeroValue4,underlying5,isAgg5,sizeOf5,zeroValue5,underlying9,isAgg9,sizeOf9,zeroValue9,underlying21,isAgg21,sizeOf21,zeroValue21,underlying294,isAgg294,sizeOf294,zeroValue294,underlying249,isAgg249,sizeOf249,zeroValue249,underlying387,isAgg387,sizeOf387,underlying388,isAgg388,sizeOf388,zeroValue388,underlying298,isAgg298,sizeOf298,underlying391,isAgg391,sizeOf391,zeroValue391,underlying300,isAgg300,sizeOf300,zeroValue300,underlying301,isAgg301,sizeOf301,zeroValue301,by kernel_rfl,by kernel_rfl⟩
open Go.RowKit in
def Tryz.strings_TrimRight_one (s:ByteArray)(c:UInt8)(b:c.toNat<128)(w:World)(d:s.size<=9223372036854775807):
  Calls prog 231 #[.string s,.string ⟨#[c]⟩] w λa w'=>a=.returned (.string ⟨(Lib.trimRightB s.data.toList c).toArray⟩)/\w'=w:=Any.strings_TrimRight_one lays162 s c b w d
def Tryz.lays161_ren:Go.Shelf.Ren:=⟨λ|161=>271|231=>276|227=>241|233=>277|235=>278|228=>259|197=>125|151=>261|260=>146|152=>273|137=>279|119=>121|224=>191|225=>190|217=>189|266=>206|n=>n,λ|9=>9|4=>4|3=>3|5=>5|117=>388|116=>387|0=>0|124=>391|105=>249|21=>21|119=>298|46=>294|139=>301|138=>300|n=>n,λ|3=>1|4=>2|n=>n⟩
def Tryz.lays161:Go.Proofs.Lays.n161 prog lays161_ren:=⟨by kernel_rfl,bO func121 x,bO func279 x,bO func261 x,bO func273 x,bO func271 x,bO func125 x,bO func189 x,bO func191 x,bO func190 x,bO func241 x,bO func259 x,bO func276 x,bO func277 x,bO func278 x,bO func146 x,bO func206 x,underlying0,isAgg0,sizeOf0,zeroValue0,underlying3,isAgg3,sizeOf3,zeroValue3,underlying4,isAgg4,sizeOf4,zeroValue4,underlying5,isAgg5,sizeOf5,zeroValue5,underlying9,isAgg9,sizeOf9,zeroValue9,underlying21,isAgg21,sizeOf21,zeroValue21,underlying294,isAgg294,sizeOf294,zeroValue294,underlying249,isAgg249,sizeOf249,zeroValue249,underlying387,isAgg387,sizeOf387,underlying388,isAgg388,sizeOf388,zeroValue388,underlying298,isAgg298,sizeOf298,underlying391,isAgg391,sizeOf391,zeroValue391,underlying300,isAgg300,sizeOf300,zeroValue300,underlying301,isAgg301,sizeOf301,zeroValue301,by kernel_rfl,by kernel_rfl⟩
open Go.RowKit in
def Tryz.strings_TrimLeft_one (s:ByteArray)(c:UInt8)(b:c.toNat<128)(w:World):
  Calls prog 271 #[.string s,.string ⟨#[c]⟩] w λa w'=>a=.returned (.string ⟨(Lib.trimLeftB s.data.toList c).toArray⟩)/\w'=w:=Any.strings_TrimLeft_one lays161 s c b w
def Tryz.lays99_ren:Go.Shelf.Ren:=⟨λ|99=>177|206=>194|n=>n,λ|9=>9|4=>4|3=>3|n=>n,λ|n=>n⟩
def Tryz.lays99:Go.Proofs.Lays.n99 prog lays99_ren:=⟨by kernel_rfl,bO func177 x,bO func194 x,underlying3,isAgg3,sizeOf3,zeroValue3,underlying4,isAgg4,sizeOf4,zeroValue4,underlying9,isAgg9,sizeOf9,zeroValue9⟩
open Go.RowKit Go.Lib in
def Tryz.strings_HasPrefix (s p:ByteArray)(w:World):
  Calls prog 177 #[.string s,.string p] w λa w'=>a=.returned (.bool<|Lib.hasPrefix s.data.toList p.data.toList)/\w'=w:=Any.strings_HasPrefix lays99 s p w
def Tryz.lays272_ren:Go.Shelf.Ren:=⟨λ|272=>193|315=>208|n=>n,λ|9=>9|40=>160|4=>4|3=>3|0=>0|21=>21|n=>n,λ|n=>n⟩
def Tryz.lays272:Go.Proofs.Lays.n272 prog lays272_ren:=⟨by kernel_rfl,bO func193 x,bO func208 x,underlying0,isAgg0,sizeOf0,zeroValue0,underlying3,isAgg3,sizeOf3,zeroValue3,underlying4,isAgg4,sizeOf4,zeroValue4,underlying9,isAgg9,sizeOf9,zeroValue9,underlying21,isAgg21,sizeOf21,zeroValue21,underlying160,isAgg160,sizeOf160,zeroValue160⟩
open Go.RowKit Go.Lib in
def Tryz.strings_TrimLeftFunc (g:Nat)(a:Array Value)(c:∀args w,(callFunc g args).run prog w=.ok (.enter g args) w)(p:Nat->Bool)(s:ByteArray)(w:World)(d:PredAt prog g a encR p w):
  Calls prog 193 #[.string s,.func (.func g) #[] a] w λb w'=>b=.returned (.string<|Lib.trimLeftF p s)/\Below w.heap.size w w':=Any.strings_TrimLeftFunc lays272 g a c p s w d
def Tryz.lays171_ren:Go.Shelf.Ren:=⟨λ|171=>232|243=>244|246=>262|283=>251|284=>252|285=>253|286=>254|129=>266|317=>265|318=>267|319=>268|320=>269|337=>274|338=>275|n=>n,λ|3=>3|9=>9|2=>2|4=>4|171=>397|0=>0|53=>321|37=>32|5=>5|173=>400|212=>410|51=>210|20=>20|213=>411|46=>294|232=>418|233=>419|n=>n,λ|17=>6|18=>7|19=>8|n=>n⟩
def Tryz.lays171:Go.Proofs.Lays.n171 prog lays171_ren:=⟨by kernel_rfl,bO func266 x,bO func232 x,bO func244 x,bO func262 x,bO func251 x,bO func252 x,bO func253 x,bO func254 x,bO func265 x,bO func267 x,bO func268 x,bO func269 x,bO func274 x,bO func275 x,underlying0,isAgg0,sizeOf0,zeroValue0,underlying2,isAgg2,sizeOf2,zeroValue2,underlying3,isAgg3,sizeOf3,zeroValue3,underlying4,isAgg4,sizeOf4,zeroValue4,underlying5,isAgg5,sizeOf5,zeroValue5,underlying9,isAgg9,sizeOf9,zeroValue9,underlying20,isAgg20,sizeOf20,zeroValue20,underlying32,isAgg32,sizeOf32,zeroValue32,underlying294,isAgg294,sizeOf294,zeroValue294,underlying210,isAgg210,sizeOf210,zeroValue210,underlying321,isAgg321,sizeOf321,zeroValue321,underlying397,isAgg397,sizeOf397,zeroValue397,underlying400,isAgg400,sizeOf400,zeroValue400,underlying410,isAgg410,sizeOf410,zeroValue410,underlying411,isAgg411,sizeOf411,underlying418,isAgg418,sizeOf418,zeroValue418,underlying419,isAgg419,sizeOf419,zeroValue419,by kernel_rfl,by kernel_rfl,by kernel_rfl⟩
open Go.RowKit Go.Sort Go.Lib in
def Tryz.strconv_Itoa_small (i:Nat)(hi:i<100)(w:World):
  Calls prog 232 #[.int .i64 i] w λa w'=>a=.returned (.string ⟨(Lib.decDigits i).toArray⟩)/\w'=w:=Any.strconv_Itoa_small lays171 i hi w
def Tryz.lays283_ren:Go.Shelf.Ren:=⟨λ|283=>251|n=>n,λ|3=>3|9=>9|4=>4|n=>n,λ|n=>n⟩
def Tryz.lays283:Go.Proofs.Lays.n283 prog lays283_ren:=⟨by kernel_rfl,bO func251 x,underlying3,isAgg3,sizeOf3,zeroValue3,underlying4,isAgg4,sizeOf4,zeroValue4,underlying9,isAgg9,sizeOf9,zeroValue9⟩
open Go.Lib in
def Tryz.internal_strconv_small (i:Nat)(h:i<100)(w:World):
  Calls prog 251 #[.int .i64 i] w λa w'=>a=.returned (.string ⟨(Lib.decDigits i).toArray⟩)/\w'=w:=Any.internal_strconv_small lays283 i h w
def Tryz.laysM284_ren:Go.Shelf.Ren:=⟨λ|284=>252|129=>266|317=>265|318=>267|n=>n,λ|53=>321|3=>3|212=>410|0=>0|4=>4|46=>294|5=>5|9=>9|n=>n,λ|17=>6|n=>n⟩
def Tryz.laysM284:Go.Proofs.LaysM.n284 prog laysM284_ren:={
 mixed:=by kernel_rfl
 f129:=func266.trans<|congrArg some x
 f284:=func252.trans<|congrArg some x
 f317:=func265.trans<|congrArg some x
 f318:=func267.trans<|congrArg some x
 t0:=underlying0
 a0:=isAgg0
 z0:=sizeOf0
 v0:=zeroValue0
 t3:=underlying3
 a3:=isAgg3
 z3:=sizeOf3
 v3:=zeroValue3
 t4:=underlying4
 a4:=isAgg4
 z4:=sizeOf4
 v4:=zeroValue4
 t5:=underlying5
 a5:=isAgg5
 z5:=sizeOf5
 v5:=zeroValue5
 t9:=underlying9
 a9:=isAgg9
 z9:=sizeOf9
 v9:=zeroValue9
 t46:=underlying294
 a46:=isAgg294
 z46:=sizeOf294
 v46:=zeroValue294
 t53:=underlying321
 a53:=isAgg321
 z53:=sizeOf321
 v53:=zeroValue321
 t212:=underlying410
 a212:=isAgg410
 z212:=sizeOf410
 v212:=zeroValue410
 g17:=by kernel_rfl
 i0:=by kernel_rfl
 i3:=by kernel_rfl
 i4:=by kernel_rfl
 i5:=by kernel_rfl
 i9:=by kernel_rfl
 i46:=by kernel_rfl
 i53:=by kernel_rfl
 i212:=by kernel_rfl
 m17:=by kernel_rfl}
open Go.Lib in
def Tryz.internal_strconv_numDigits (a:Nat)(c:1<=a)(d:a<18446744073709551616)(w:World)(e:Lib.TabIs prog w "internal/strconv.uint64pow10" .u64 Lib.pow10Tab):
  Calls prog 252 #[.int .u64 a] w λb w'=>b=.returned (.int .i64<|Lib.nDigits a)/\w'=w:=Any.internal_strconv_numDigits laysM284 a c d w e
def Tryz.lays285_ren:Go.Shelf.Ren:=⟨λ|285=>253|n=>n,λ|37=>32|53=>321|3=>3|4=>4|51=>210|9=>9|5=>5|0=>0|n=>n,λ|n=>n⟩
def Tryz.lays285:Go.Proofs.Lays.n285 prog lays285_ren:=⟨by kernel_rfl,bO func253 x,underlying0,isAgg0,sizeOf0,zeroValue0,underlying3,isAgg3,sizeOf3,zeroValue3,underlying4,isAgg4,sizeOf4,zeroValue4,underlying5,isAgg5,sizeOf5,zeroValue5,underlying9,isAgg9,sizeOf9,zeroValue9,underlying32,isAgg32,sizeOf32,zeroValue32,underlying210,isAgg210,sizeOf210,zeroValue210,underlying321,isAgg321,sizeOf321,zeroValue321⟩
open Go.RowKit Go.Sort Go.Lib in
def Tryz.internal_strconv_formatBase10 (c off e:Nat)(a:Nat)(d:Array UInt8)(w:World)(h:Holds (λ(b:UInt8)=>Value.int .u8 (b.toNat:Int)) w c off d)(hu:a<10^d.size)(j:a<18446744073709551616)(i:d.size<4611686018427387904):
  Calls prog 253 #[.slice (some ⟨c,off,none⟩) d.size e,.int .u64 a] w λg w'=>
   g=.returned (.tuple #[])/\∃(n k:Nat) (f:Array UInt8),w'=(putRow (λ(b:UInt8)=>Value.int .u8 (b.toNat:Int)) w c off f).drewN n/\FmtInv d.size a 0 k f:=Any.internal_strconv_formatBase10 lays285 c off e a d w h hu j i
def Tryz.laysPu14_ren:Go.Shelf.Ren:=⟨λ|14=>225|16=>233|17=>234|19=>245|20=>246|21=>247|22=>248|23=>249|24=>250|25=>263|27=>232|26=>264|28=>244|29=>262|30=>251|31=>252|32=>253|33=>254|35=>266|34=>265|36=>267|37=>268|38=>269|39=>274|40=>275|n=>n,λ|9=>9|3=>3|22=>321|24=>97|25=>368|4=>4|34=>392|5=>5|36=>294|37=>32|0=>0|39=>394|21=>21|44=>407|47=>347|50=>416|48=>414|2=>2|52=>397|55=>400|59=>410|60=>210|20=>20|61=>411|65=>418|66=>419|67=>296|n=>n,λ|0=>4|1=>5|2=>6|3=>7|4=>8|n=>n⟩
def Tryz.laysPu14:Go.Proofs.LaysPu.n14 prog laysPu14_ren:=⟨by kernel_rfl,bO func225 x,bO func233 x,bO func234 x,bO func245 x,bO func246 x,bO func247 x,bO func248 x,bO func249 x,bO func250 x,bO func263 x,bO func264 x,bO func232 x,bO func244 x,bO func262 x,bO func251 x,bO func252 x,bO func253 x,bO func254 x,bO func265 x,bO func266 x,bO func267 x,bO func268 x,bO func269 x,bO func274 x,bO func275 x,underlying0,isAgg0,sizeOf0,zeroValue0,by kernel_rfl,underlying2,isAgg2,sizeOf2,zeroValue2,by kernel_rfl,underlying3,isAgg3,sizeOf3,zeroValue3,by kernel_rfl,underlying4,isAgg4,sizeOf4,zeroValue4,by kernel_rfl,underlying5,isAgg5,sizeOf5,zeroValue5,by kernel_rfl,underlying9,isAgg9,sizeOf9,zeroValue9,by kernel_rfl,underlying20,isAgg20,sizeOf20,zeroValue20,by kernel_rfl,underlying21,isAgg21,sizeOf21,zeroValue21,by kernel_rfl,underlying321,isAgg321,sizeOf321,zeroValue321,by kernel_rfl,underlying97,isAgg97,sizeOf97,zeroValue97,by kernel_rfl,underlying368,isAgg368,sizeOf368,zeroValue368,by kernel_rfl,underlying392,isAgg392,sizeOf392,zeroValue392,by kernel_rfl,by kernel_rfl,underlying294,isAgg294,sizeOf294,zeroValue294,by kernel_rfl,underlying32,isAgg32,sizeOf32,zeroValue32,by kernel_rfl,underlying394,isAgg394,sizeOf394,zeroValue394,by kernel_rfl,underlying407,isAgg407,sizeOf407,zeroValue407,by kernel_rfl,underlying347,isAgg347,sizeOf347,zeroValue347,by kernel_rfl,underlying414,isAgg414,sizeOf414,zeroValue414,by kernel_rfl,underlying416,isAgg416,sizeOf416,zeroValue416,by kernel_rfl,underlying397,isAgg397,sizeOf397,zeroValue397,by kernel_rfl,underlying400,isAgg400,sizeOf400,zeroValue400,by kernel_rfl,underlying410,isAgg410,sizeOf410,zeroValue410,by kernel_rfl,underlying210,isAgg210,sizeOf210,zeroValue210,by kernel_rfl,underlying411,isAgg411,sizeOf411,underlying418,isAgg418,sizeOf418,zeroValue418,by kernel_rfl,underlying419,isAgg419,sizeOf419,zeroValue419,by kernel_rfl,underlying296,isAgg296,sizeOf296,zeroValue296,by kernel_rfl,by kernel_rfl,by kernel_rfl,by kernel_rfl,by kernel_rfl,by kernel_rfl,by kernel_rfl,by kernel_rfl,by kernel_rfl,by kernel_rfl,by kernel_rfl⟩
open Go.RowKit in
def Tryz.strconv_ParseUint_10_at64_ok (s:ByteArray)(c:s.size<=9223372036854775806)(a:Nat)(h:Lib.parseUintB 64 s.data.toList=.ok a)(w:World):
  Calls prog 225 #[.string s,.int .i64 10,.int .i64 64] w λb w'=>b=.returned (.tuple #[.int .u64 a,.nilIface])/\(w'=w\/w'=Lib.bytesWorld w 5 s):=Any.strconv_ParseUint_10_at64_ok laysPu14 s c a h w
open Go.RowKit in
def Tryz.strconv_ParseUint_10_at64_none (s:ByteArray)(e:s.size<=281474976710656)(h:∀n,Lib.parseUintB 64 s.data.toList≠ .ok n)(c:Lib.parseUintB 64 s.data.toList≠ .range)(b:Value)(w:World)(f:w.cell? ⟨4,0,none⟩=some b)(d:b=.nilIface\/∃i g,b=.iface i g):Calls prog 225 #[.string s,.int .i64 10,.int .i64 64] w λa w'=>∃N,a=.returned (.tuple #[.int .u64 0,.iface 394<|.pointer<|some ⟨N,0,none⟩])/\w.heap.size<=N/\w'.heap[N]? =some (.cells #[.string ⟨#[80,97,114,115,101,85,105,110,116]⟩,.string s,b] 407 (0,0))/\Below w.heap.size w w':=by cases a:Lib.parseUintB 64 s.data.toList with|ok n=>exact absurd a (h n)|range=>exact absurd a c|_=>{exact Any.strconv_ParseUint_10_at64_syntax laysPu14 s e a b w f d}
open Go.RowKit in
def Tryz.strconv_ParseUint_10_at64_range (s:ByteArray)(d:s.size<=281474976710656)(h:Lib.parseUintB 64 s.data.toList=.range)(a:Value)(w:World)(e:w.cell? ⟨5,0,none⟩=some a)(c:a=.nilIface\/∃g f,a=.iface g f):
  Calls prog 225 #[.string s,.int .i64 10,.int .i64 64] w λb w'=>∃N,b=.returned (.tuple #[.int .u64 18446744073709551615,.iface 394<|.pointer<|some ⟨N,0,none⟩])/\w.heap.size<=N/\w'.heap[N]? =some (.cells #[.string ⟨#[80,97,114,115,101,85,105,110,116]⟩,.string s,a] 407 (0,0))/\Below w.heap.size w w':=Any.strconv_ParseUint_10_at64_range laysPu14 s d h a w e c
def Tryz.lays110_ren:Go.Shelf.Ren:=⟨λ|110=>156|109=>172|n=>n,λ|31=>22|9=>9|4=>4|3=>3|0=>0|n=>n,λ|n=>n⟩
def Tryz.lays110:Go.Proofs.Lays.n110 prog lays110_ren:=⟨by kernel_rfl,bO func172 x,bO func156 x,underlying0,isAgg0,sizeOf0,zeroValue0,underlying3,isAgg3,sizeOf3,zeroValue3,underlying4,isAgg4,sizeOf4,zeroValue4,underlying9,isAgg9,sizeOf9,zeroValue9,underlying22,isAgg22,sizeOf22,zeroValue22⟩
open Go.Lib in
def Tryz.slices_Contains_string (b off n c:Nat)(a:List ByteArray)(x:ByteArray)(w:World)(h:n<=a.length)(f:n<=9223372036854775807)(g:∀d,d<a.length->w.cell? ⟨b,off+d,none⟩=some (.string<|a.getD d ByteArray.empty)):
  Calls prog 156 #[.slice (some ⟨b,off,none⟩) n c,.string x] w λe w'=>e=.returned (.bool<|Lib.containsS (a.take n) x)/\w'=w:=Any.slices_Contains_string lays110 b off n c a x w h f g
end Go.Proofs
namespace Go.Proofs.YtaepcfidpekflabGreatDoor
section
open Go.Sort Pn Pr RowKit Tryz
def W5 (l:H)(c:UInt8):Pr.val (l++[c])=10*Pr.val l+(c.toNat-48):=by simp[Pr.val]
def Bp (a):Pr.val (Lib.decDigits a)=a/\∀c∈Lib.decDigits a,bu c=Y:=by induction a using Nat.strongRecOn with|_ a f=>{rw[Lib.decDigits];by_cases h:a<10;{rw[dif_pos h];have:(UInt8.ofNat<|48+a).toNat=48+a:=by{rw[sL];omega};refine⟨by show 10*0+((UInt8.ofNat<|48+a).toNat-48)=a;rw[this];omega,λc b=>?_⟩;rw[eG]at b;subst b;rw[gF,this];omega};{rw[dif_neg h];obtain⟨d,e⟩:=f (a/10) S;have:(UInt8.ofNat<|48+a%10).toNat=48+a%10:=by{rw[sL];omega};refine⟨by rw[W5,d,this];omega,λc b=>?_⟩;rcases dU.1 b with b|b;{exact e c b};{rw[eG]at b;subst b;rw[gF,this];omega}}}
def Zi (a)(h:a<18446744073709551616):Lib.nDigits a<=20:=by rcases xC a with rfl|b;{rw[Lib.nDigits_small S];omega};{have:=Lib.numDigits_eq a b h;split at this<;>omega}
def F0 (a)(h:a<18446744073709551616):ez<|Lib.decDigits a:=⟨(Bp a).2,by rw[Po];have:=Zi a h;omega⟩
def amt (a:Nat)(hu:a<=1000000000)(w)(r:Lib.TabIs C w "internal/strconv.uint64pow10" .u64 Lib.pow10Tab):af C 235 #[I .u64 a,I R 10] w λd w'=>d=ae (U ⟨E<|Lib.decDigits a⟩)/\X (Z<|J w) w w':=by by_cases p:a<100;{have q:(a:Int)<100:=S;have v:IntKind.i64.wrap (a:Int)=a:=bQ;go_enter func235,ntmps235;go_wp2_with(go_at_call 251;refine(internal_strconv_small a p _).mono ?_;rintro d w' ⟨rfl,rfl⟩);go_ret;exact⟨rfl,aT _ _⟩};{have q:¬(a:Int)<100:=S;have s:1<=a:=S;have g:a<18446744073709551616:=S;have u:=Zi a g;have i:Program.arrayLen C 397=24:=by{simp[Program.arrayLen,underlying397]};have t:∀W,(Instr.sliceAt 397 (aa<|K ⟨Z<|J w,0,O⟩) O (K<|I R (Lib.nDigits a:Int)) O).run C W=.ok (F (K ⟨Z<|J w,0,O⟩) (Lib.nDigits a) 24) W:=λW=>by{rw[run_sliceAt_array_h W 397 ⟨Z<|J w,0,O⟩ (by simp[Program.arrayLen,Program.elem,underlying397]) R (Lib.nDigits a:Int) S (by rw[i];omega)];go_simp};have e:=Lib.holds_zero0 w 397 (Lib.nDigits a) S;have j:=internal_strconv_formatBase10 (Z<|J w) 0 24 a (Array.replicate (Lib.nDigits a) 0) (ah w<|an Lib.zeros24 397) e (by rw[KU];exact Lib.lt_pow_nDigits a) g (by rw[KU];omega);rw[KU]at j;have m:=Lib.hid e;clear e i;go_enter func235,ntmps235;go_wp2_with(go_at_call 252;refine(internal_strconv_numDigits a s g _<|Lib.tabIs_alloc r _).mono ?_;rintro d w' ⟨rfl,rfl⟩);go_at_call 253;refine j.mono ?_;rintro d w' ⟨rfl,k,y,c,rfl,hF⟩;have x:(convert 32 9<|F (K ⟨Z<|J w,0,O⟩) (Lib.nDigits a) 24).run C ((putRow (λ(b:UInt8)=>I .u8 (b.toNat:Int)) (ah w<|an Lib.zeros24 397) (Z<|J w) 0 c).drewN k)=.ok (U ⟨E<|Lib.decDigits a⟩) ((putRow (λ(b:UInt8)=>I .u8 (b.toNat:Int)) (ah w<|an Lib.zeros24 397) (Z<|J w) 0 c).drewN k):=by{have h:=Wr (P:=C) ((putRow (λ(b:UInt8)=>I .u8 (b.toNat:Int)) (ah w<|an Lib.zeros24 397) (Z<|J w) 0 c).drewN k) 32 9 5 ⟨Z<|J w,0,O⟩ 24 (Lib.decDigits a) underlying32 underlying5 underlying9 (λl f=>by{rw[Lib.row_is_numeral hF l f,Lib.add_plain,World.cell?_drewN];exact cell?_putRow (λ(b:UInt8)=>I .u8 (b.toNat:Int)) _ (Z<|J w) 0 _ c m.o (by rw[hF.size,KU]) l (by rw[hF.size];rw[Po]at f;exact f)});rw[Po]at h;exact h};go_wp2;go_ret;obtain⟨os,n⟩:=Lib.fin_at w (an Lib.zeros24 397) c k 0;rw[n];exact⟨rfl,Lib.below_grow _ w (aO _) k os⟩}
def aon (a:Nat)(hu:a<=1000000000)(w)(c:fV w):af C 227 #[I .u64 a,I R 10] w λb w'=>b=ae (U ⟨E<|Lib.decDigits a⟩)/\X (Z<|J w) w w':=by go_enter func227,ntmps227;go_wp2_with(go_at_call 235;refine(amt a hu _ c.2.2.2.1).mono ?_;rintro b w' ⟨rfl,d⟩);go_ret;exact⟨rfl,d⟩
def Qi (s:ByteArray)(k)(h:k<s.size):Pr.val (s.data.toList.take<|k+1)=10*Pr.val (s.data.toList.take k)+(s[k].toNat-48):=by rw[K7 (by simpa using h),W5];rfl
def apG (s a)(h:a<s.size)(hd:bu s[a]=Y):Utf8.decode s a=(s[a].toNat,1):=by have:=(gF _).1 hd;exact decode_ascii s a h S
def Yo (d)(m:Nat)(hd:ez d)(Q:1<=m)(F:m<=1000000000)(w):af C 228 #[U ⟨E d⟩,I .u64 m] w λz w'=>z=ae (I .u64 (Pr.val d%m:Nat))/\X (Z<|J w) w w':=by obtain⟨s,h⟩:∃s:ByteArray,s=⟨E d⟩:=⟨_,rfl⟩;have i:s.data.toList=d:=by{rw[h]};rw[<-h];have r:D (∀c∈s.data.toList,bu c=Y):=by{rw[i];exact hd.1};have v:D<|Pr.val s.data.toList=Pr.val d:=aK (by rw[i]);generalize Pr.val d=y at*;clear i h hd;go_enter func228,ntmps228;go_wp2;go_loopw[5] (λt wr=>∃a:Nat,a<=s.size/\wr.heap[Z<|J w]? =K (.stringIter s a)/\X (Z<|J w) w wr/\∃x:Nat,t=I .u64 x/\D (x=Pr.val (s.data.toList.take a)%m)/\x<1000000000) (λ_ wr=>s.size-wr.iterPos (Z<|J w));(case atStart=>refine⟨0,dF _,World.iter_heap w s 0,(aT _ w).alloc (aO _) _,0,rfl,?_,aJ⟩;show _=_;simp[Pr.val]);(case round=>obtain⟨a,S,hit,j,x,rfl,f,V⟩:=hrel;by_cases e:a<s.size;{have p:∀b,(Instr.next (aa<|K ⟨Z<|J w,0,O⟩) Y b).run C wr=_:=λb=>Lib.run_next_any_at wr (Z<|J w) s a b hit e;have g:bu s[a]=Y:=r.o _ (by{have:s[a]=s.data.toList[a]'(by simpa using e):=rfl;rw[this];exact ox _});rw[apG s a e g]at p;have l:=Lib.iterAt_heap wr (Z<|J w) s a (a+1) hit;have L:=Lib.below_iterAt j (k:=Z<|J w) aJ s<|a+1;have n:=Qi s a e;obtain⟨N,P⟩:=(gF _).1 g;generalize G:s[a].toNat=q at*;clear g G;have T:IntKind.i32.wrap ((q:Int)-48)=(q:Int)-48:=by{rw[IntKind.wrap_i32];omega};have M:IntKind.u64.wrap ((q:Int)-48)=(q:Int)-48:=by{rw[Pm];omega};have W:IntKind.u64.wrap ((x:Int)*10)=(x:Int)*10:=by{rw[Pm];omega};have vC:IntKind.u64.wrap ((x:Int)*10+((q:Int)-48))=(x:Int)*10+((q:Int)-48):=by{rw[Pm];omega};have H:D<|((10*x+(q-48))%m)=Pr.val (s.data.toList.take<|a+1)%m:=by{show _=_;rw[n,f.o,KR,GU,Nat.mod_mod,<-GU,<-KR]};have R:((x:Int)*10+((q:Int)-48)).tmod m=(((10*x+(q-48))%m:Nat):Int):=by{rw[show(x:Int)*10+((q:Int)-48)=((10*x+(q-48):Nat):Int) from aJ];rfl};clear n f;have A:(10*x+(q-48))%m<1000000000:=du (Ar _ aJ) F;go_wp2;go_roundw;(case rel=>exact⟨a+1,e,l,L,(10*x+(q-48))%m,aN,H,A⟩);(case measure=>simp only[World.iterPos,l,hit];omega)};{have p:∀b,(Instr.next (aa<|K ⟨Z<|J w,0,O⟩) Y b).run C wr=_:=λb=>Lib.run_next_end_at wr (Z<|J w) s a b hit e;have u:D<|x=y%m:=by{show _=_;rw[f.o,jY aV,v.o]};clear f;go_wp2;go_ret;exact⟨by rw[u.o];rfl,j⟩})
def val_zero (d:H):Pr.val (Lib.trimLeftB d 48)=Pr.val d:=by unfold Lib.trimLeftB;induction d with|nil=>rfl|cons c b a=>{by_cases h:c=48;{subst h;rw[GS (by rfl),a];rfl};{rw[En<|by simpa using h]}}
def afn (d)(h:ez d):ez<|Lib.trimLeftB d 48:=by have a:=(Aq (·==(48:UInt8)) (l:=d));exact⟨λc b=>h.1 c<|a.subset b,bY a.length_le h.2⟩
def xI (d:asq)(h:∀c∈d,bu c=Y):Pr.val d<10^G d:=by unfold Pr.val;suffices H:∀(a:asq) (b k:Nat),(∀c∈a,bu c=Y)->b<10^k->a.foldl (λv c=>10*v+(c.toNat-48)) b<10^(k+G a)by{have:=H d 0 0 h P;simpa using this};intro a;induction a with|nil=>intro b k _ e;simpa using e|cons c f i=>{intro b k hd e;have j:=(gF c).1 (hd c z);rw[iQ,bB,show k+(G f+1)=(k+1)+G f from S];refine i _ (k+1) (λx g=>hd x<|by simp[g]) ?_;rw[uT];omega}
def W6 (c)(r:asq)(h:∀x∈c::r,bu x=Y)(f:c≠48):10^G r<=Pr.val (c::r):=by unfold Pr.val;suffices H:∀(b:asq) (a k:Nat),10^k<=a->10^(k+G b)<=b.foldl (λv c=>10*v+(c.toNat-48)) a by{have i:=(gF c).1 (h c z);have j:c.toNat≠48:=λe=>f<|iY.1 e;have:=H r (10*0+(c.toNat-48)) 0 q;simpa using this};intro b;induction b with|nil=>intro a k d;simpa using d|cons c r g=>{intro a k d;rw[iQ,bB,show k+(G r+1)=(k+1)+G r from S];refine g _ (k+1) ?_;rw[uT];omega}
def uB (v:Nat):Nat:=if v<1000000000 then v else 1000000000
def adV (d:H)(h:∀c∈d,bu c=Y)(b:9<G (Lib.trimLeftB d 48)):uB (Pr.val d)=1000000000:=by have i:=(Aq (·==(48:UInt8)) (l:=d));have hd:∀c∈Lib.trimLeftB d 48,bu c=Y:=λc e=>h c<|i.subset e;rw[<-val_zero];cases a:Lib.trimLeftB d 48 with|nil=>rw[a]at b;simp at b|cons c f=>{have e:c≠48:=by{intro g;have:=Pl (·==(48:UInt8)) d;unfold Lib.trimLeftB at a;rw[a]at this;simp[g]at this};rw[a]at b hd;have:=W6 c f hd e;have j:10^9<=10^G f:=tQ S (by simp at b;omega);have:(10:Nat)^9=1000000000:=P;unfold uB;rw[A S]}
def adT (d:H)(h:∀c∈d,bu c=Y)(e:G (Lib.trimLeftB d 48)<=9):uB (Pr.val d)=Pr.val (Lib.trimLeftB d 48)%1000000000:=by have f:=(Aq (·==(48:UInt8)) (l:=d));have hd:∀c∈Lib.trimLeftB d 48,bu c=Y:=λc b=>h c<|f.subset b;have a:=xI _ hd;have g:10^G (Lib.trimLeftB d 48)<=10^9:=tQ S e;rw[val_zero]at a⊢;unfold uB;rw[t S,Cg S]
def WN (d b)(hd:ez d)(w):af C 258 #[ai #[U ⟨E d⟩,Q b]] w λc w'=>c=ae (I .u64 (uB (Pr.val d):Nat))/\X (Z<|J w) w w':=by have a:=λW=>strings_TrimLeft_one ⟨E d⟩ 48 P W;simp only[]at a;have f:=(s (Z<|J w) w).alloc (r _)<|an #[U ⟨E d⟩,Q b] 375;have e:=afn d hd;have c1:=adV d hd.1;have c2:=adT d hd.1;generalize Lib.trimLeftB d 48=q at*;generalize uB (Pr.val d)=l at*;have m:=e.2;go_enter func258,ntmps258;go_wp2_with fail;refine(a _).mono ?_;rintro c n ⟨rfl,rfl⟩;by_cases k:9<G q;{have i:(9:Int)<G q:=S;have g:=aK<|c1 k;clear c1 c2 a;go_wp2;go_ret;exact⟨by rw[g.o];rfl,f⟩};{have i:¬(9:Int)<G q:=S;have h:=aK<|c2 S;clear c1 c2 a;go_wp2_with(go_at_call 228;refine(Yo q 1000000000 e S S _).mono ?_;rintro c p ⟨rfl,j⟩);go_ret;exact⟨by rw[h.o];rfl,bh f j⟩}
def EI (d)(h:ez d):ez<|jJ d:=by have a:=(Aq (·==(48:UInt8)) (l:=d.reverse));refine⟨λc b=>h.1 c (by have:=a.subset<|Ap.1 b;simpa using this),?_⟩;have:=a.length_le;simp only[Wb]at this;unfold jJ;rw[Wb];exact bY this h.2
def Qd (d)(hd:ez d)(w):af C 218 #[U ⟨E d⟩] w λa w'=>a=ae (U ⟨E<|jJ d⟩)/\w'=w:=by have e:=hd.2;have b:=λW=>strings_TrimRight_one ⟨E d⟩ 48 P W (by show d.toArray.size<=_;simp;omega);simp only[]at b;go_enter func218,ntmps218;go_wp2_with(go_at_call 231;refine(b _).mono ?_;rintro a c ⟨rfl,rfl⟩);go_ret;exact⟨rfl,rfl⟩
def Zz (d)(hd:ez d)(w):af C 221 #[U ⟨E d⟩] w λa w'=>a=ae (U ⟨E<|Lib.decDigits<|G d⟩)/\w'=w:=by have e:=hd.2;have b:=λW=>strconv_Itoa_small (G d) S W;go_enter func221,ntmps221;go_wp2_with(go_at_call 232;refine(b _).mono ?_;rintro a c ⟨rfl,rfl⟩);go_ret;exact⟨rfl,rfl⟩
end
section
open Pr RowKit Tryz
def W7 (d:H):Pr.val (Lib.decDigits<|G d)=G d:=(Bp _).1
def EW (W o p):X (Z<|J W) W<|(ah W o).alloc p:=((s (Z<|J W) W).alloc (r _) o).alloc z p
def ajF (m a b)(_ha:ez a)(d:ez b)(W):af C 217 #[jM m a b] W λc w'=>c=ae (ai #[U ⟨E a⟩,Q<|!(jJ b).isEmpty])/\X (Z<|J W) W w':=by go_enter func217,ntmps217;simp only[jM];go_wp2_with fail;go_region_with(go_at_call 218;refine(Qd b d _).mono ?_;rintro c e ⟨rfl,rfl⟩);all_goals (go_wp2;exact bF (by simp[results,results217,go_sem]) rfl ⟨rfl,(EW _ _ _).drew⟩)
def ajE (m a b)(_ha:ez a)(d:ez b)(W):af C 219 #[jM m a b] W λc w'=>c=ae (ai #[U ⟨E<|a⟩,Q V])/\X (Z<|J W) W w':=by go_enter func219,ntmps219;simp only[jM];go_wp2;exact bF (by simp[results,results219,go_sem]) rfl ⟨rfl,EW _ _ _⟩
def ajD (m a b)(_ha:ez a)(d:ez b)(W):af C 220 #[jM m a b] W λc w'=>c=ae (ai #[U ⟨E<|Lib.decDigits<|G b⟩,Q V])/\X (Z<|J W) W w':=by go_enter func220,ntmps220;simp only[jM];go_wp2_with(first|(go_at_call 221;refine(Zz _ d _).mono ?_;rintro c e ⟨rfl,rfl⟩));exact bF (by simp[results,results220,go_sem]) rfl ⟨rfl,EW _ _ _⟩
def ajC (m a b)(_ha:ez a)(d:ez b)(W):af C 222 #[jM m a b] W λc w'=>c=ae (ai #[U ⟨E<|Lib.decDigits<|G<|jJ b⟩,Q V])/\X (Z<|J W) W w':=by have e:=EI b d;go_enter func222,ntmps222;simp only[jM];go_wp2_with(first|(go_at_call 218;refine(Qd b d _).mono ?_;rintro c f ⟨rfl,rfl⟩)|(go_at_call 221;refine(Zz _ e _).mono ?_;rintro c f ⟨rfl,rfl⟩));exact bF (by simp[results,results222,go_sem]) rfl ⟨rfl,EW _ _ _⟩
def ajB (m a b)(_ha:ez a)(d:ez b)(W):af C 223 #[jM m a b] W λc w'=>c=ae (ai #[U ⟨E<|b⟩,Q V])/\X (Z<|J W) W w':=by go_enter func223,ntmps223;simp only[jM];go_wp2;exact bF (by simp[results,results223,go_sem]) rfl ⟨rfl,EW _ _ _⟩
def ajA (m a b)(_ha:ez a)(d:ez b)(W):af C 224 #[jM m a b] W λc w'=>c=ae (ai #[U ⟨E<|jJ b⟩,Q V])/\X (Z<|J W) W w':=by go_enter func224,ntmps224;simp only[jM];go_wp2_with(first|(go_at_call 218;refine(Qd b d _).mono ?_;rintro c e ⟨rfl,rfl⟩));exact bF (by simp[results,results224,go_sem]) rfl ⟨rfl,EW _ _ _⟩
def apd:Enters 217:=lJ func217 x rfl
def apc:Enters 219:=lJ func219 x rfl
def apb:Enters 220:=lJ func220 x rfl
def apa:Enters 222:=lJ func222 x rfl
def ao9:Enters 223:=lJ func223 x rfl
def ao8:Enters 224:=lJ func224 x rfl
def oW (t:H):N:=if t= [110]then .func (.func 217) #[] #[]else if t= [105]then .func (.func 219) #[] #[]else if t= [118]then .func (.func 220) #[] #[]else if t= [119]then .func (.func 222) #[] #[]else if t= [102]then .func (.func 223) #[] #[]else if t= [116]then .func (.func 224) #[] #[]else .nilFunc
def ajw (t:H)(w):af C 209 #[U ⟨E t⟩] w λm w'=>m=ae (oW t)/\w'=w:=by by_cases a:t= [110];{have c:D<|oW t=.func (.func 217) #[] #[]:=W (by subst a;simp[oW]);have i:(t==[110])=Y:=by{rw[a];rfl};clear a;go_enter func209,ntmps209;go_wp2;go_ret;exact⟨by rw[c.o];rfl,rfl⟩};by_cases b:t= [105];{have c:D<|oW t=.func (.func 219) #[] #[]:=W (by subst b;simp[oW]);have i:(t==[105])=Y:=by{rw[b];rfl};have h:(t==[110])=V:=by{rw[aZ];exact a};clear a b;go_enter func209,ntmps209;go_wp2;go_ret;exact⟨by rw[c.o];rfl,rfl⟩};by_cases d:t= [118];{have c:D<|oW t=.func (.func 220) #[] #[]:=W (by subst d;simp[oW]);have i:(t==[118])=Y:=by{rw[d];rfl};have h:(t==[110])=V:=by{rw[aZ];exact a};have j:(t==[105])=V:=by{rw[aZ];exact b};clear a b d;go_enter func209,ntmps209;go_wp2;go_ret;exact⟨by rw[c.o];rfl,rfl⟩};by_cases e:t= [119];{have c:D<|oW t=.func (.func 222) #[] #[]:=W (by subst e;simp[oW]);have i:(t==[119])=Y:=by{rw[e];rfl};have h:(t==[110])=V:=by{rw[aZ];exact a};have j:(t==[105])=V:=by{rw[aZ];exact b};have k:(t==[118])=V:=by{rw[aZ];exact d};clear a b d e;go_enter func209,ntmps209;go_wp2;go_ret;exact⟨by rw[c.o];rfl,rfl⟩};by_cases f:t= [102];{have c:D<|oW t=.func (.func 223) #[] #[]:=W (by subst f;simp[oW]);have i:(t==[102])=Y:=by{rw[f];rfl};have h:(t==[110])=V:=by{rw[aZ];exact a};have j:(t==[105])=V:=by{rw[aZ];exact b};have k:(t==[118])=V:=by{rw[aZ];exact d};have l:(t==[119])=V:=by{rw[aZ];exact e};clear a b d e f;go_enter func209,ntmps209;go_wp2;go_ret;exact⟨by rw[c.o];rfl,rfl⟩};by_cases g:t= [116];{have c:D<|oW t=.func (.func 224) #[] #[]:=W (by subst g;simp[oW]);have i:(t==[116])=Y:=by{rw[g];rfl};have h:(t==[110])=V:=by{rw[aZ];exact a};have j:(t==[105])=V:=by{rw[aZ];exact b};have k:(t==[118])=V:=by{rw[aZ];exact d};have l:(t==[119])=V:=by{rw[aZ];exact e};have n:(t==[102])=V:=by{rw[aZ];exact f};clear a b d e f g;go_enter func209,ntmps209;go_wp2;go_ret;exact⟨by rw[c.o];rfl,rfl⟩};have h:(t==[110])=V:=by{rw[aZ];exact a};have j:(t==[105])=V:=by{rw[aZ];exact b};have k:(t==[118])=V:=by{rw[aZ];exact d};have l:(t==[119])=V:=by{rw[aZ];exact e};have n:(t==[102])=V:=by{rw[aZ];exact f};have p:(t==[116])=V:=by{rw[aZ];exact g};have c:D<|oW t=.nilFunc:=W (by simp only[oW,a,b,d,e,f,g,fX]);clear a b d e f g;go_enter func209,ntmps209;go_wp2;go_ret;exact⟨by rw[c.o];rfl,rfl⟩
def aju (t:H)(h:ly t=O):oW t=.nilFunc:=by unfold ly at h;unfold oW;(repeat' split at h);all_goals first|(cases h;done)|simp_all
def ajt (t:H)(o)(h:ly t=K o)(P w):oi P w (oW t) o:=by unfold ly at h;split at h;{rename_i c;subst c;cases h;refine⟨_,_,rfl,apd,λW _ _ g a b f e=>(ajF g a b f e W).mono λc w' d=>⟨⟨a,d.1,f,rfl⟩,d.2⟩⟩};split at h;{rename_i c;subst c;cases h;refine⟨_,_,rfl,apc,λW _ _ g a b f e=>(ajE g a b f e W).mono λc w' d=>⟨⟨a,d.1,f,rfl⟩,d.2⟩⟩};split at h;{rename_i c;subst c;cases h;refine⟨_,_,rfl,apb,λW _ _ g a b f e=>(ajD g a b f e W).mono λc w' d=>⟨⟨_,d.1,F0 _ (by have:=e.2;omega),W7 _⟩,d.2⟩⟩};split at h;{rename_i c;subst c;cases h;refine⟨_,_,rfl,apa,λW _ _ g a b f e=>(ajC g a b f e W).mono λc w' d=>⟨⟨_,d.1,F0 _ (by have:=(EI b e).2;omega),W7 _⟩,d.2⟩⟩};split at h;{rename_i c;subst c;cases h;refine⟨_,_,rfl,ao9,λW _ _ g a b f e=>(ajB g a b f e W).mono λc w' d=>⟨⟨b,d.1,e,rfl⟩,d.2⟩⟩};split at h;{rename_i c;subst c;cases h;refine⟨_,_,rfl,ao8,λW _ _ g a b f e=>(ajA g a b f e W).mono λc w' d=>⟨⟨_,d.1,EI b e,rfl⟩,d.2⟩⟩};cases h
def nn:Enters 180:=lJ func180 x rfl
def SI:Enters 197:=lJ func197 x rfl
def SP:Enters 198:=lJ func198 x rfl
def SQ:Enters 214:=lJ func214 x rfl
def ST:Enters 256:=lJ func256 x rfl
def GK (g:Nat)(lb:Array N)(m:Bool)(a b:H)(W:B)(x:Bool):Prop:=∀W',X (Z<|J W) W W'->af C g (#[jM m a b]++lb) W' λe w'=>e=ae (Q x)/\X (Z<|J W') W' w'
def SX (m a b A i)(g h:Nat)(k l W x y)(q:Row W A #[.func (.func g) #[] k])(r:Row W i #[.func (.func h) #[] l])(n:Enters g)(p:Enters h)(c1:GK g k m a b W x)(c2:GK h l m a b W y):af C 198 #[jM m a b,aa<|K ⟨A,0,O⟩,aa<|K ⟨i,0,O⟩] W λf w'=>f=ae (Q<|x||y)/\X (Z<|J W) W w':=by have t:=λo=>(q.alloc o).2.1;unfold Enters at n p;have c:=(aT (Z<|J W) W).alloc (aO _)<|an #[Q m,U ⟨E a⟩,U ⟨E b⟩] 355;have d:=bx W #[Q m,U ⟨E a⟩,U ⟨E b⟩] 355;go_enter func198,ntmps198;simp only[jM];go_wp2_with fail;refine(c1 _ c).mono ?_;rintro f v ⟨rfl,e⟩;replace d:=d.keep e;replace c:=bh c e;clear t e;cases x with|true=>go_wp2;go_ret;exact⟨rfl,c⟩|false=>{have s:=d.2.1;have u:=(r.keep c).2.1;go_wp2_with fail;refine(c2 _ c).mono ?_;rintro f w ⟨rfl,j⟩;replace c:=bh c j;clear s u d j;go_wp2;go_ret;exact⟨rfl,c⟩}
def SZ (m a b A i)(g h:Nat)(k l W x y)(q:Row W A #[.func (.func g) #[] k])(r:Row W i #[.func (.func h) #[] l])(n:Enters g)(p:Enters h)(c1:GK g k m a b W x)(c2:GK h l m a b W y):af C 214 #[jM m a b,aa<|K ⟨A,0,O⟩,aa<|K ⟨i,0,O⟩] W λf w'=>f=ae (Q<|x&&y)/\X (Z<|J W) W w':=by have t:=λo=>(q.alloc o).2.1;unfold Enters at n p;have c:=(aT (Z<|J W) W).alloc (aO _)<|an #[Q m,U ⟨E a⟩,U ⟨E b⟩] 355;have d:=bx W #[Q m,U ⟨E a⟩,U ⟨E b⟩] 355;go_enter func214,ntmps214;simp only[jM];go_wp2_with fail;refine(c1 _ c).mono ?_;rintro f v ⟨rfl,e⟩;replace d:=d.keep e;replace c:=bh c e;clear t e;cases x with|false=>go_wp2;go_ret;exact⟨rfl,c⟩|true=>{have s:=d.2.1;have u:=(r.keep c).2.1;go_wp2_with fail;refine(c2 _ c).mono ?_;rintro f w ⟨rfl,j⟩;replace c:=bh c j;clear s u d j;go_wp2;go_ret;exact⟨rfl,c⟩}
def S5 (m a b A e)(c:Nat)(i W x y)(k:Row W A #[.func (.func c) #[] i])(h:Row W e #[Q y])(j:Enters c)(c1:GK c i m a b W x):af C 256 #[jM m a b,aa<|K ⟨A,0,O⟩,aa<|K ⟨e,0,O⟩] W λg w'=>g=ae (Q<|x !=y)/\X (Z<|J W) W w':=by have l:=λo=>(k.alloc o).2.1;have p:=λo=>(h.alloc o).2.1;unfold Enters at j;have d:=(s (Z<|J W) W).alloc (r _)<|an #[Q m,U ⟨E a⟩,U ⟨E b⟩] 355;go_enter func256,ntmps256;simp only[jM];go_wp2_with fail;go_region_with(go_at_fn c;refine(c1 _ d.drew).mono ?_;rintro g q ⟨rfl,f⟩;have n:=(h.keep<|bh d.drew f).2.1);all_goals (go_wp2;go_ret;exact⟨rfl,bh d.drew f⟩)
def Hq (w x y t a):Row ((ah w<|an #[x] t).alloc<|an #[y] a) (Z<|J w) #[x]/\Row ((ah w<|an #[x] t).alloc<|an #[y] a) (Z (J w)+1) #[y]:=
 ⟨(bx w #[x] t).alloc _,by have:=bx (ah w<|an #[x] t) #[y] a;simpa using this⟩
def yV (w o p):X (Z<|J w) w<|(ah w o).alloc p:=((s (Z<|J w) w).alloc (r _) o).alloc z p
def FY (P w a b f g)(D:P<Z (J w))(u:ou P w a f)(y:ou P w b g):af C 180 #[a,b] w λr w'=>(∃v,r=ae v/\ou P w' v (nS f g))/\X (Z<|J w) w w':=by obtain⟨e,j,rfl,s,c1⟩:=u;obtain⟨h,k,rfl,t,c2⟩:=y;go_enter func180,ntmps180;go_wp2;go_ret;refine⟨⟨_,rfl,_,_,rfl,SP,λW q i l x m n o=>?_⟩,yV _ _ _⟩;obtain⟨z,A⟩:=Hq w (.func (.func e) #[] j) (.func (.func h) #[] k) 243 243;have p:=Up.after (yV w (an #[.func (.func e) #[] j] 243)<|an #[.func (.func h) #[] k] 243) i;exact SX l x m _ _ e h j k W _ _ (z.up i S) (A.up i S) s t (λd c=>c1 d (q.below c) (p.then c) l x m n o)<|λd c=>c2 d (q.below c) (p.then c) l x m n o
def F1 (P w a b f g)(D:P<Z (J w))(u:ou P w a f)(y:ou P w b g):af C 197 #[a,b] w λr w'=>(∃v,r=ae v/\ou P w' v (uE f g))/\X (Z<|J w) w w':=by obtain⟨e,j,rfl,s,c1⟩:=u;obtain⟨h,k,rfl,t,c2⟩:=y;go_enter func197,ntmps197;go_wp2;go_ret;refine⟨⟨_,rfl,_,_,rfl,SQ,λW q i l x m n o=>?_⟩,yV _ _ _⟩;obtain⟨z,A⟩:=Hq w (.func (.func e) #[] j) (.func (.func h) #[] k) 243 243;have p:=Up.after (yV w (an #[.func (.func e) #[] j] 243)<|an #[.func (.func h) #[] k] 243) i;exact SZ l x m _ _ e h j k W _ _ (z.up i S) (A.up i S) s t (λd c=>c1 d (q.below c) (p.then c) l x m n o)<|λd c=>c2 d (q.below c) (p.then c) l x m n o
def Xm (P w a n f)(t:P<Z (J w))(q:ou P w a f):af C 238 #[a,Q n] w λl w'=>(∃v,l=ae v/\ou P w' v (CC f n))/\X (Z<|J w) w w':=by obtain⟨b,d,rfl,m,c1⟩:=q;go_enter func238,ntmps238;go_wp2;go_ret;refine⟨⟨_,rfl,_,_,rfl,ST,λW p c g x h j k=>?_⟩,yV _ _ _⟩;obtain⟨r,s⟩:=Hq w (.func (.func b) #[] d) (Q n) 243 4;have o:=Up.after (yV w (an #[.func (.func b) #[] d] 243)<|an #[Q n] 4) c;exact S5 g x h _ _ b d W _ _ (r.up c S) (s.up c S) m<|λi e=>c1 i (p.below e) (o.then e) g x h j k
end
section
open RowKit Tryz
def PS:Enters 226:=lJ func226 x rfl
def OV:Enters 257:=lJ func257 x rfl
def Pi:Enters 270:=lJ func270 x rfl
def VV (g:Nat)(lb:Array N)(m:Bool)(a b:H)(W:B)(x:Nat×Bool):Prop:=∀W',X (Z<|J W) W W'->af C g (#[jM m a b]++lb) W' λe w'=>(∃d,e=ae (ai #[U ⟨E d⟩,Q x.2])/\ez d/\Pr.val d=x.1)/\X (Z<|J W') W' w'
def AG {a b}(h:a=b):Ending.returned (Q b)=ae (Q a):=by rw[h]
def Od (v lo)(h:lo<=999999999):(lo<=uB v↔lo<=v)/\(uB v<=lo↔v<=lo)/\(uB v<lo↔v<lo)/\(uB v=lo↔v=lo):=by unfold uB;split<;>omega
def O0 (m a b A u C)(q:Nat)(y W v br)(lo hi:Nat)(L:Row W A #[.func (.func q) #[] y])(M:Row W u #[I .u64 lo])(P:Row W C #[I .u64 hi])(F:Enters q)(c1:VV q y m a b W (v,br))(G:lo<=999999999)(H:hi<=999999999):af Tryz.prog 257 #[jM m a b,aa<|K ⟨A,0,O⟩,aa<|K ⟨u,0,O⟩,aa<|K ⟨C,0,O⟩] W λp w'=>p=ae (Q<|!br&&am (lo<=v)&&am (v<=hi))/\X (Z<|J W) W w':=by obtain⟨w,g⟩:∃w,D<|w=(!br&&am (lo<=v)&&am (v<=hi)):=⟨_,rfl⟩;rw[<-g.o];have S:=λo=>(L.alloc o).2.1;unfold Enters at F;have e:=(aT (Z<|J W) W).alloc (aO _)<|an #[Q m,U ⟨E a⟩,U ⟨E b⟩] 355;go_enter func257,ntmps257;simp only[jM];go_wp2_with fail;refine(c1 _ e).mono ?_;rintro p T ⟨⟨d,rfl,hd,R⟩,x⟩;replace e:=bh e x;clear S x;have t:=λW=>WN d br hd W;simp only[R]at t;go_wp2_with fail;refine(t _).mono ?_;rintro p w2 ⟨rfl,n⟩;have z:=(bx T #[U ⟨E d⟩,Q br] 375).keep n;replace e:=bh (e.alloc e.size _) n;have q2:=z.2.1;have q3:=(M.keep e).2.1;have q4:=(P.keep e).2.1;obtain⟨h,_,_,_⟩:=Od v lo G;obtain⟨_,i,r,s⟩:=Od v hi H;clear n z t;generalize uB v=j at*;cases br with|true=>{go_wp2;go_ret;exact⟨AG (by rw[g.o];first|(simp[c,f,z3]<;>omega)|(simp[c,f]<;>omega)|(simp[c]<;>omega)|(simp<;>omega)),e⟩}|false=>{by_cases k:lo<=v;{have V:(lo:Int)<=j:=by{have:=h.2 k;omega};have c:=jF k;by_cases l:v<=hi;{have Y:(j:Int)<=hi:=by{have:=i.2 l;omega};have f:=jF l;clear h i r s;go_wp2;go_ret;exact⟨AG (by rw[g.o];first|(simp[c,f,z3]<;>omega)|(simp[c,f]<;>omega)|(simp[c]<;>omega)|(simp<;>omega)),e⟩};{have Y:¬(j:Int)<=hi:=by{have:=mt i.1 l;omega};have f:=jq l;clear h i r s;go_wp2;go_ret;exact⟨AG (by rw[g.o];first|(simp[c,f,z3]<;>omega)|(simp[c,f]<;>omega)|(simp[c]<;>omega)|(simp<;>omega)),e⟩}};{have V:¬(lo:Int)<=j:=by{have:=mt h.1 k;omega};have c:=jq k;clear h i r s;go_wp2;go_ret;exact⟨AG (by rw[g.o];first|(simp[c,f,z3]<;>omega)|(simp[c,f]<;>omega)|(simp[c]<;>omega)|(simp<;>omega)),e⟩}}
def PN (m a b A x C)(u:Nat)(F W v br)(lo hi:Nat)(P:Row W A #[.func (.func u) #[] F])(R:Row W x #[I .u64 lo])(S:Row W C #[I .u64 hi])(H:Enters u)(c1:VV u F m a b W (v,br))(L:lo<=999999999)(M:hi<=999999999):af Tryz.prog 270 #[jM m a b,aa<|K ⟨A,0,O⟩,aa<|K ⟨x,0,O⟩,aa<|K ⟨C,0,O⟩] W λt w'=>t=ae (Q<|am (lo<=v)&&(am (v<hi)||am (v=hi)&& !br))/\X (Z<|J W) W w':=by obtain⟨y,k⟩:∃y,D<|y=(am (lo<=v)&&(am (v<hi)||am (v=hi)&& !br)):=⟨_,rfl⟩;rw[<-k.o];have q1:=λo=>(P.alloc o).2.1;unfold Enters at H;have e:=(aT (Z<|J W) W).alloc (aO _)<|an #[Q m,U ⟨E a⟩,U ⟨E b⟩] 355;go_enter func270,ntmps270;simp only[jM];go_wp2_with fail;refine(c1 _ e).mono ?_;rintro t w1 ⟨⟨d,rfl,hd,T⟩,z⟩;replace e:=bh e z;clear q1 z;have w:=λW=>WN d br hd W;simp only[T]at w;go_wp2_with fail;refine(w _).mono ?_;rintro t w2 ⟨rfl,s⟩;have G:=(bx w1 #[U ⟨E d⟩,Q br] 375).keep s;replace e:=bh (e.alloc e.size _) s;have q2:=G.2.1;have q3:=(R.keep e).2.1;have q4:=(S.keep e).2.1;obtain⟨h,_,_,_⟩:=Od v lo L;obtain⟨_,n,i,j⟩:=Od v hi M;clear s G w;generalize uB v=g at*;by_cases p:lo<=v;{have y1:(lo:Int)<=g:=by{have:=h.2 p;omega};have c:=jF p;by_cases q:v<hi;{have y2:(g:Int)<hi:=by{have:=i.2 q;omega};have f:=jF q;clear h n i j;go_wp2;go_ret;exact⟨AG (by rw[k.o];first|(simp[c,f,l]<;>omega)|(simp[c,f]<;>omega)|(simp[c]<;>omega)|(simp<;>omega)),e⟩};{have y2:¬(g:Int)<hi:=by{have:=mt i.1 q;omega};have f:=jq q;by_cases r:v=hi;{have y3:((g:Int)==(hi:Int))=Y:=by{have:=j.2 r;rw[ef];omega};have l:=jF r;clear h n i j;cases br<;>go_wp2<;>go_ret<;>exact⟨AG (by rw[k.o];first|(simp[c,f,l]<;>omega)|(simp[c,f]<;>omega)|(simp[c]<;>omega)|(simp<;>omega)),e⟩};{have y3:((g:Int)==(hi:Int))=V:=by{have:=mt j.1 r;rw[aZ];omega};have l:=jq r;clear h n i j;go_wp2;go_ret;exact⟨AG (by rw[k.o];first|(simp[c,f,l]<;>omega)|(simp[c,f]<;>omega)|(simp[c]<;>omega)|(simp<;>omega)),e⟩}}};{have y1:¬(lo:Int)<=g:=by{have:=mt h.1 p;omega};have c:=jq p;clear h n i j;go_wp2;go_ret;exact⟨AG (by rw[k.o];first|(simp[c,f,l]<;>omega)|(simp[c,f]<;>omega)|(simp[c]<;>omega)|(simp<;>omega)),e⟩}
def P1 (m a b A n)(k:Nat)(r W v br)(e:Nat)(t:Row W A #[.func (.func k) #[] r])(u:Row W n #[I .u64 e])(s:Enters k)(c1:VV k r m a b W (v,br))(w:fV W)(q:1<=e)(G:e<=999999999):af C 226 #[jM m a b,aa<|K ⟨A,0,O⟩,aa<|K ⟨n,0,O⟩] W λi w'=>i=ae (ai #[U ⟨E<|Lib.decDigits<|v%e⟩,Q br])/\X (Z<|J W) W w':=by have z:=λo p=>((t.alloc o).alloc p).2.1;unfold Enters at s;have c:=(aT (Z<|J W) W).alloc (aO _)<|an #[Q m,U ⟨E a⟩,U ⟨E b⟩] 355;replace c:=c.alloc c.size<|an #[U ⟨#[]⟩,Q V] 375;have f:=bx (ah W<|an #[Q m,U ⟨E a⟩,U ⟨E b⟩] 355) #[U ⟨#[]⟩,Q V] 375;simp only[ep]at f;go_enter func226,ntmps226;simp only[jM];go_wp2_with fail;refine(c1 _ c).mono ?_;rintro i F ⟨⟨d,rfl,hd,y⟩,j⟩;replace c:=bh c j;replace f:=f.keep j;clear z j;have l:=(bx F #[U ⟨E d⟩,Q br] 375).keep (aT _ _).drew;replace c:=(c.alloc c.size<|an #[U ⟨E d⟩,Q br] 375).drew;replace f:=(f.alloc<|an #[U ⟨E d⟩,Q br] 375).keep (aT _ _).drew;have H:=l.2.1;have L:=(u.keep c).2.1;have x:v%e<=1000000000:=by{have:=Ar v q;omega};go_wp2_with fail;go_region_with(first|(go_at_call 228;refine(Yo d e hd q aJ _).mono ?_;rintro i w3 ⟨rfl,g⟩;rw[y];have M:=(l.keep g).2.1)|(go_at_call 227;refine(aon (v%e) x _<|w.below<|bh c g).mono ?_;rintro i S ⟨rfl,h⟩;have P:=((l.keep g).keep h).2.1;have D:=((f.keep g).keep h).2.1;have R:=((f.keep g).keep h).2.2));(all_goals go_wp2);all_goals exact bF (by simp[results,results226,go_sem,D]) rfl ⟨rfl,((bh (bh c g) h).setCell (p:=⟨Z (J W)+1,0,O⟩) (fN _) _).setCell (p:=⟨Z (J W)+1,1,O⟩) (fN _) _⟩
end
section
open Pr RowKit Tryz
def Qx (w x y z t a s):Row (((ah w<|an #[x] t).alloc<|an #[y] a).alloc<|an #[z] s) (Z<|J w) #[x]/\Row (((ah w<|an #[x] t).alloc<|an #[y] a).alloc<|an #[z] s) (Z (J w)+1) #[y]/\Row (((ah w<|an #[x] t).alloc<|an #[y] a).alloc<|an #[z] s) (Z (J w)+2) #[z]:=by obtain⟨b,c⟩:=Hq w x y t a;refine⟨b.alloc _,c.alloc _,?_⟩;have:=bx ((ah w<|an #[x] t).alloc<|an #[y] a) #[z] s;simpa using this
def Hv (w o p q):X (Z<|J w) w<|((ah w o).alloc p).alloc q:=(yV w o p).alloc aV q
def QO (P w x o)(lo hi:Nat)(n:lo<=999999999)(p:hi<=999999999)(y:P<Z (J w))(r:oi P w x o):af C 239 #[x,I .u64 lo,I .u64 hi] w λk w'=>(∃v,k=ae v/\ou P w' v (Hz o lo hi))/\X (Z<|J w) w w':=by obtain⟨d,e,rfl,l,c1⟩:=r;go_enter func239,ntmps239;go_wp2;go_ret;refine⟨⟨_,rfl,_,_,rfl,OV,λW q c g a b i j=>?_⟩,Hv _ _ _ _⟩;obtain⟨s,t,u⟩:=Qx w (.func (.func d) #[] e) (I .u64 lo) (I .u64 hi) 366 321 321;have m:=Up.after (Hv w (an #[.func (.func d) #[] e] 366) (an #[I .u64 lo] 321)<|an #[I .u64 hi] 321) c;exact O0 g a b _ _ _ d e W _ _ lo hi (s.up c S) (t.up c S) (u.up c S) l (λh f=>c1 h (q.below f) (m.then f) g a b i j) n p
def XC (P w x o)(lo hi:Nat)(n:lo<=999999999)(p:hi<=999999999)(y:P<Z (J w))(r:oi P w x o):af C 255 #[x,I .u64 lo,I .u64 hi] w λk w'=>(∃v,k=ae v/\ou P w' v (QJ o lo hi))/\X (Z<|J w) w w':=by obtain⟨d,e,rfl,l,c1⟩:=r;go_enter func255,ntmps255;go_wp2;go_ret;refine⟨⟨_,rfl,_,_,rfl,Pi,λW q c g a b i j=>?_⟩,Hv _ _ _ _⟩;obtain⟨s,t,u⟩:=Qx w (.func (.func d) #[] e) (I .u64 lo) (I .u64 hi) 366 321 321;have m:=Up.after (Hv w (an #[.func (.func d) #[] e] 366) (an #[I .u64 lo] 321)<|an #[I .u64 hi] 321) c;exact PN g a b _ _ _ d e W _ _ lo hi (s.up c S) (t.up c S) (u.up c S) l (λh f=>c1 h (q.below f) (m.then f) g a b i j) n p
def PP (P w x o)(c:Nat)(h:1<=c)(s:c<=999999999)(z:P<Z (J w))(t:oi P w x o):af C 212 #[x,I .u64 c] w λg w'=>(∃v,g=ae v/\oi P w' v (zl o c))/\X (Z<|J w) w w':=by obtain⟨d,f,rfl,q,c1⟩:=t;go_enter func212,ntmps212;go_wp2;go_ret;refine⟨⟨_,rfl,_,_,rfl,PS,λW i e l a b n p=>?_⟩,yV _ _ _⟩;obtain⟨u,y⟩:=Hq w (.func (.func d) #[] f) (I .u64 c) 366 321;have r:=Up.after (yV w (an #[.func (.func d) #[] f] 366)<|an #[I .u64 c] 321) e;refine(P1 l a b _ _ d f W (o a b).1 (o a b).2 c (u.up e S) (y.up e S) q (λm k=>c1 m (i.below k) (r.then k) l a b n p) i h s).mono λg w' j=>⟨⟨_,j.1,?_,(Bp _).1⟩,j.2⟩;exact F0 _ (by have:=Ar (o a b).1 h;omega)
end
section
open Pn Pr RowKit Tryz
def Bk (x t:H):Lib.containsS [⟨E x⟩] ⟨E t⟩=am (t=x):=by by_cases h:t=x;{rw[jF h];rw[GW];simp[h]};{rw[jq h];cases a:Lib.containsS [⟨E x⟩] ⟨E t⟩with|false=>rfl|true=>{rw[GW]at a;simp at a;exact absurd a h}}
def Bm (x y t:H):Lib.containsS [⟨E x⟩,⟨E y⟩] ⟨E t⟩=am (t=x\/t=y):=by by_cases h:t=x\/t=y;{rw[jF h];rw[GW];simpa using h};{rw[jq h];cases a:Lib.containsS [⟨E x⟩,⟨E y⟩] ⟨E t⟩with|false=>rfl|true=>{rw[GW]at a;simp at a;exact absurd a h}}
def take_nil (P w v)(h:Left P w []):af C 195 #[aa<|K ⟨P,0,O⟩,v] w λd w'=>d=ae (Q V)/\Left P w' []/\Ag P w w':=by obtain⟨a,c,b,e,f,g⟩:=h;have i:=b.2.1;go_enter func195,ntmps195;go_wp2;go_ret;exact⟨rfl,⟨a,c,b,e,f,.inl rfl⟩,Ag.refl _ _⟩
def Xu (P w t l v hit)(h:Left P w<|t::l)(p:af C 156 #[v,U ⟨E t⟩] w λb w'=>b=ae (Q hit)/\w'=w):af C 195 #[aa<|K ⟨P,0,O⟩,v] w λb w'=>b=ae (Q hit)/\Left P w' (if hit then l else t::l)/\Ag P w w':=by obtain⟨a,c,d,j,e,f⟩:=h;have q:=d.2.1;have s:=d.2.2;rcases f with f|⟨i,off,rfl,k,m,g⟩;{cases f};obtain⟨e,ns⟩:=e;have n:=g 0 z;simp only[bB]at j e q;have r:ac w ⟨i,off,O⟩=K (U ⟨E t⟩):=by{simpa using n};clear n;go_enter func195,ntmps195;go_wp2_with fail;refine p.mono ?_;rintro b o ⟨rfl,rfl⟩;cases hit with|false=>go_wp2;go_ret;exact⟨rfl,⟨_,c,d,j,⟨e,ns⟩,.inr ⟨i,off,rfl,k,m,g⟩⟩,Ag.refl _ _⟩|true=>{by_cases b:c=1;{obtain rfl:l= []:=gU.1 S;subst b;go_wp2;go_ret;exact⟨rfl,MI d _ _ [] z ⟨z,LU ns⟩<|.inl rfl,(Ag.refl P o).setCell 0 _⟩};{go_wp2;go_ret;exact⟨rfl,MI d _ _ l S ⟨S,LU ns⟩<|Xj k m g,(Ag.refl P o).setCell 0 _⟩}}
def gW (b:Bool)(l:List H):List H:=if b then l.tail else l
def bS (x:H):List H->Bool
 | []=>V
 |t::_=>decide (t=x)
def take_one (P Q w l)(x:H)(h:Left P w l)(e:Row w Q #[U ⟨E x⟩]):af C 195 #[aa<|K ⟨P,0,O⟩,F (K ⟨Q,0,O⟩) 1 1] w λa w'=>a=ae (Value.bool<|bS x l)/\Left P w' (gW (bS x l) l)/\Ag P w w':=by cases l with|nil=>exact take_nil P w _ h|cons t l=>{refine(Xu P w t l _ (am<|t=x) h ?_).mono λa w' f=>?_;{have:=slices_Contains_string Q 0 1 1 [⟨E x⟩] ⟨E t⟩ w z z (λi g=>by{have:i=0:=by{simpa using g};subst this;simpa using e.2.1 0});simp only[List.take_one,KW,Pp]at this;rw[Bk]at this;exact this};{obtain⟨b,c,d⟩:=f;refine⟨b,?_,d⟩;unfold gW bS;exact c}}
def Br (P Q w l)(x y:H)(h:Left P w l)(b:Row w Q #[U ⟨E x⟩,U ⟨E y⟩]):af C 195 #[aa<|K ⟨P,0,O⟩,F (K ⟨Q,0,O⟩) 2 2] w λa w'=>a=ae (Value.bool<|bS x l||bS y l)/\Left P w' (gW (bS x l||bS y l) l)/\Ag P w w':=by cases l with|nil=>exact take_nil P w _ h|cons t l=>{refine(Xu P w t l _ (am<|t=x\/t=y) h ?_).mono λa w' f=>?_;{have:=slices_Contains_string Q 0 2 2 [⟨E x⟩,⟨E y⟩] ⟨E t⟩ w z z (λi g=>by{match i,g with|0,_=>simpa using b.2.1 0|1,_=>{simpa using b.2.1 1}});simp only[wo,yS]at this;rw[Bm]at this;exact this};{obtain⟨c,d,e⟩:=f;have:am (t=x\/t=y)=(bS x (t::l)||bS y (t::l)):=by{simp[bS]};rw[<-this];exact⟨c,d,e⟩}}
def Bx:∀(b:List UInt8) (a k:Nat),(∀c∈b,bu c=Y)->a<10^k->k+G b<=18->Lib.parseUintM (2^64-1) a b=.ok (b.foldl (λv c=>10*v+(c.toNat-48)) a):=by intro b;induction b with|nil=>intro a k _ _ _;rfl|cons c l h=>{intro a k hd i f;have e:=(gF c).1 (hd c z);simp only[bB]at f;have j:10^(k+1)<=10^18:=tQ S S;have d:(2:Nat)^64-1=18446744073709551615:=P;simp only[Lib.parseUintM,iQ];rw[t e,A S,A (by rw[d];omega),show a*10+(c.toNat-48)=10*a+(c.toNat-48) from S];exact h _ (k+1) (λx g=>hd x<|by simp[g]) S S}
def BE:∀(b:List UInt8) (d e:Nat),Lib.parseUintM (2^64-1) d b=.ok e->∀c∈b,bu c=Y:=by intro b;induction b with|nil=>intro _ _ _ c a;cases a|cons x i g=>{intro d e h c a;simp only[Lib.parseUintM]at h;split at h;{rename_i f;split at h;{cases h};{split at h;{cases h};{rcases cL.1 a with rfl|a;{exact(gF _).2 f};{exact g _ _ h c a}}}};{cases h}}
def N_ (l):gJ l=Y↔l≠[]/\∀c∈l,bu c=Y:=by cases l<;>simp[gJ]
def BL (t:H)(v)(h:fy t=K v):Lib.parseUintB 64 t=.ok v/\G t<=9/\(G t=1\/t.head?≠K 48)/\t≠[]:=by unfold fy at h;split at h;{rename_i c;obtain⟨c1,c2,c3⟩:=c;obtain⟨a,b⟩:=(N_ t).1 c1;refine⟨?_,c2,c3,a⟩;rw[Lib.parseUintB,A a,Bx t 0 0 b P S];injection h with h;rw[<-h];rfl};{cases h}
def BQ (t:H)(h:fy t=O)(i)(hu:Lib.parseUintB 64 t=.ok i):9<G t\/(1<G t/\t.head?=K 48):=by unfold Lib.parseUintB at hu;split at hu;{cases hu};{rename_i g;have hd:=BE t 0 i hu;unfold fy at h;split at h;{cases h};{rename_i c;have f:=(N_ t).2 ⟨g,hd⟩;rcases dM 9 (G t) with a|a;{exact .inl a};{right;have e:G t≠1:=λe=>c ⟨f,a,.inl e⟩;have d:G t≠0:=λd=>g<|gU.1 d;refine⟨S,?_⟩;cases b:am (t.head?=K 48)with|true=>exact xD b|false=>{exact absurd ⟨f,a,.inr<|Eo b⟩ c}}}}
def head_data (t:H)(h:0<G t):∃c a,t=c::a:=by cases t with|nil=>simp at h|cons c a=>{exact⟨c,a,rfl⟩}
end
section
open Pr RowKit Tryz
def Left.head {P w l}(h:Left P w l):G (l.headD [])<=1000:=by obtain⟨a,c,d,e,⟨f,b⟩,g⟩:=h;cases l with|nil=>simp|cons t l=>{exact b.o t z}
def ro {w w' t s}(h:w'=w\/w'=Lib.bytesWorld w t s):X (Z<|J w) w w':=by rcases h with rfl|rfl;{exact aT _ _};{exact Lib.bytesWorld_below _ _ _}
def aee (P w t l v)(k:Left P w<|t::l)(m:fy t=K v):af C 211 #[aa<|K ⟨P,0,O⟩] w λe w'=>e=ae (ak #[I .u64 v,.nilIface])/\Left P w' l/\Ag P w w':=by obtain⟨o,q,a,r⟩:=BL t v m;have f:=Mt P w _ k;simp only[GV,As]at f;have n:=λW=>strconv_ParseUint_10_at64_ok ⟨E t⟩ (by show t.toArray.size<=_;simp;omega) v (by simpa using o) W;clear k m o;obtain⟨c,b,rfl⟩:=head_data t<|pw.2 r;go_enter func211,ntmps211;go_wp2_with fail;refine f.mono ?_;rintro e y ⟨rfl,i,g⟩;go_wp2_with fail;refine(n _).mono ?_;rintro e z ⟨rfl,j⟩;have d:=ro j;clear j n f;simp only[bB,KW]at q a;have x:¬(9:Int)<G b+1:=S;by_cases s:G b=0;{have p:¬(1:Int)<G b+1:=S;go_wp2;go_ret2;exact⟨rfl,i.then d,g.then d⟩};{have p:(1:Int)<G b+1:=S;have u:∀h,((((⟨E<|c::b⟩:ByteArray)[0]'h).toNat:Int)==48)=V:=λh=>by{have:c≠48:=by{rcases a with a|a;{omega};{simpa using a}};show((c.toNat:Int)==48)=V;rw[aZ];intro e;exact this<|iY.1 (by show c.toNat=48;omega)};go_wp2;go_ret2;exact⟨rfl,i.then d,g.then d⟩}
def WY (P w)(l:List H)(t)(g:D<|l.headD []=t)(x)(d:Left P w l)(e:∀W,Ag P w W->af C 225 #[U ⟨E t⟩,I R 10,I R 64] W λa w'=>(∃t p,a=ae (ak #[x,al t p]))/\X (Z<|J W) W w'):af C 211 #[aa<|K ⟨P,0,O⟩] w λa w'=>a=ae (ak #[I .u64 0,jR])/\Ag P w w':=by have b:=Mt P w _ d;rw[g.o]at b;go_enter func211,ntmps211;go_wp2_with fail;refine b.mono ?_;rintro a i ⟨rfl,h,c⟩;go_wp2_with fail;refine(e _ c).mono ?_;rintro a j ⟨⟨t,p,rfl⟩,f⟩;clear e d b;go_wp2;go_ret2;exact⟨rfl,c.then f⟩
def aeg (P w t l o)(d:Left P w<|t::l)(hu:Lib.parseUintB 64 t=.ok o)(f:9<G t\/(1<G t/\t.head?=K 48)):af C 211 #[aa<|K ⟨P,0,O⟩] w λb w'=>b=ae (ak #[I .u64 0,jR])/\Ag P w w':=by have e:=Mt P w _ d;have m:=d.head;simp only[GV,As]at e m;have n:=λW=>strconv_ParseUint_10_at64_ok ⟨E t⟩ (by show t.toArray.size<=_;simp;omega) o (by simpa using hu) W;clear d hu;obtain⟨c,a,rfl⟩:=head_data t S;go_enter func211,ntmps211;go_wp2_with fail;refine e.mono ?_;rintro b v ⟨rfl,r,i⟩;go_wp2_with fail;refine(n _).mono ?_;rintro b x ⟨rfl,j⟩;have g:=ro j;clear j n e;simp only[bB,KW]at f m;by_cases p:9<G a+1;{have q:(9:Int)<G a+1:=S;clear f;go_wp2;go_ret2;exact⟨rfl,i.then g⟩};{have q:¬(9:Int)<G a+1:=S;obtain⟨s,k⟩:=f.resolve_left p;have u:(1:Int)<G a+1:=S;have k:∀h,((((⟨E<|c::a⟩:ByteArray)[0]'h).toNat:Int)==48)=Y:=λh=>by{have:c=48:=by{simpa using k};subst this;rfl};go_wp2;go_ret2;exact⟨rfl,i.then g⟩}
def aef (P w l)(h:nG P w)(b:Left P w l)(g:dy l=O):af C 211 #[aa<|K ⟨P,0,O⟩] w λa w'=>a=ae (ak #[I .u64 0,jR])/\Ag P w w':=by have j:fy (l.headD [])=O:=by{cases l with|nil=>rfl|cons t l=>{simp only[dy]at g;split at g;{assumption};{cases g}}};have o:=b.head;cases hu:Lib.parseUintB 64 (l.headD [])with|ok i=>{cases l with|nil=>cases hu|cons t l=>{exact aeg P w t l i b hu<|BQ _ j i hu}}|range=>{refine WY P w l _ rfl (I .u64 18446744073709551615) b λW f=>?_;obtain⟨m,k,e⟩:=(h W f).2.2.2.2.2;refine(strconv_ParseUint_10_at64_range ⟨E<|l.headD []⟩ (by show(l.headD []).toArray.size<=_;simp only[K_];omega) (by simpa using hu) _ W e<|.inr ⟨_,_,rfl⟩).mono ?_;rintro a w' ⟨N,c,_,_,d⟩;exact⟨⟨_,_,c⟩,d⟩}|_=>{refine WY P w l _ rfl (I .u64 0) b λW f=>?_;obtain⟨m,k,e⟩:=(h W f).2.2.2.2.1;refine(strconv_ParseUint_10_at64_none ⟨E<|l.headD []⟩ (by show(l.headD []).toArray.size<=_;simp only[K_];omega) (λn (a:Lib.parseUintB 64 (l.headD [])=.ok n)=>by rw[hu]at a;cases a) (λ(a:Lib.parseUintB 64 (l.headD [])=.range)=>by rw[hu]at a;cases a) _ W e<|.inr ⟨_,_,rfl⟩).mono ?_;rintro a w' ⟨N,c,_,_,d⟩;exact⟨⟨_,_,c⟩,d⟩}
def R8 (P:Nat)(w:B):Nat:=match ac w ⟨P,0,O⟩with
 |some (F _ n _)=>n
 |_=>0
def Left.len {P w l}(h:Left P w l):R8 P w=G l:=by obtain⟨a,c,b,_⟩:=h;have:=b.2.1 0;simp[R8,this]
def Left.lt {P w l}(h:Left P w l):P<Z (J w):=by obtain⟨a,c,b,_⟩:=h;exact b.1
def U8 (P:Nat)(J:Nat)(jn:Pr.Sem->Pr.Sem->Pr.Sem):Prop:=∀W a b f g,P<Z (World.heap W)->ou P W a f->ou P W b g->af C J #[a,b] W λe w'=>(∃v,e=ae v/\ou P w' v (jn f g))/\X (Z<|World.heap W) W w'
def Z_ (P):U8 P 180 nS:=λW a b f g c d e=>FY P W a b f g c d e
def FZ (P):U8 P 197 uE:=λW a b f g c d e=>F1 P W a b f g c d e
def Ra (P w l X a)(t:asq)(y jn)(eJ:Enters y)(cJ:U8 P y jn)(ao:∀l f i,a l=K (f,i)->G i<=G l)(V:nG P w)(hL:Left P w l)(hm:Rdv P w X a):af C 178 #[aa<|K ⟨P,0,O⟩,X,U ⟨E t⟩,.func (.func y) #[] #[]] w λn w'=>pN P w (lL a t jn l) n w':=by obtain⟨g,bd,lb,rfl,eg,R⟩:=hm;unfold Enters at eg eJ;have M:=R w l V (Ag.refl _ _) hL;go_enter func178,ntmps178;go_wp2_with fail;refine M.mono ?_;rintro n w1 ⟨z,e⟩;clear M;cases b:a l with|none=>{rw[b]at e;obtain rfl:=e;have d:D<|lL a t jn l=O:=aK (by simp only[lL,b]);unfold jR;go_wp2;go_ret2;refine⟨z,?_⟩;rw[d.o];rfl}|some x=>{obtain⟨f,i⟩:=x;rw[b]at e;obtain⟨v,rfl,s,p⟩:=e;have d:D<|lL a t jn l=jK a t jn (G i) f i:=aK (by simp only[lL,b]);go_wp2_with fail;go_loopw[10] (λx wr=>∃(k:Nat) (m:Pr.Sem) (c:List asq),G c<=k/\ou P wr x m/\Left P wr c/\Ag P w wr/\D (lL a t jn l=jK a t jn k m c)) (λ_ wr=>R8 P wr);(case atStart=>exact⟨G i,f,i,aO _,s,p,z,d⟩);(case round=>clear s p z d b;obtain⟨k,m,c,H,s,p,ha,d⟩:=hrel;have F:=(aT (Z<|J wr) wr).alloc (aO _)<|an #[U ⟨E t⟩] 9;have W:=p.then F;have ad:=p.len;have T:=take_one P (Z<|J wr) _ c t W<|bx wr #[U ⟨E t⟩] 9;go_wp2_with fail;refine T.mono ?_;rintro n w2 ⟨rfl,j,r⟩;replace r:=(Ag.of (P:=P) F<|aO _).trans r;have u:=s.later r;have q:=ha.trans r;clear W T F;cases c with|nil=>{simp only[bS,gW]at j⊢;have h:D<|lL a t jn l=K (m,[]):=by{show _=_;rw[d.o];cases k<;>rfl};go_wp2;go_ret2;refine⟨q,?_⟩;rw[h.o];exact⟨_,rfl,u,j⟩}|cons ab c=>{by_cases hu:ab=t;{have hd:=jF hu;simp only[bS,hd,gW,eU,As]at j⊢;obtain⟨k,rfl⟩:∃k',k=k'+1:=⟨k-1,by simp at H;omega⟩;have S:=R w2 c (V.later q) q j;go_wp2_with fail;refine S.mono ?_;rintro n w3 ⟨L,e⟩;clear S;have vR:=q.trans L;cases b:a c with|none=>{rw[b]at e;obtain rfl:=e;have h:D<|lL a t jn l=O:=by{show _=_;rw[d.o];simp only[jK,hu,eU,b]};unfold jR;go_wp2;go_ret2;refine⟨vR,?_⟩;rw[h.o];rfl}|some x=>{obtain⟨g2,Y⟩:=x;rw[b]at e;obtain⟨v3,rfl,qT,I⟩:=e;have h:D<|lL a t jn l=jK a t jn k (jn m g2) Y:=by{show _=_;rw[d.o];simp only[jK,hu,eU,b]};have aq:=ao _ _ _ b;have Q:=cJ w3 _ _ _ _ I.lt (u.later L) qT;go_wp2_with fail;refine Q.mono ?_;rintro n w4 ⟨⟨v4,rfl,qe⟩,A⟩;clear Q;go_wp2;go_roundw;(case rel=>exact⟨k,_,Y,by simp at H;omega,qe,I.then A,vR.then A,h⟩);(case measure=>rw[(I.then A).len,ad];simp;omega)}};{have hd:=jq hu;simp only[bS,hd,gW]at j⊢;obtain⟨k,rfl⟩:∃k',k=k'+1:=⟨k-1,by simp at H;omega⟩;have h:D<|lL a t jn l=K (m,ab::c):=by{show _=_;rw[d.o];simp only[jK,hu,fX]};go_wp2;go_ret2;refine⟨q,?_⟩;rw[h.o];exact⟨_,rfl,u,j⟩}})}
def aoD {t:H}{v:Nat}(h:fy t=K v):v<=999999999:=by unfold fy at h;split at h;{rename_i c;injection h with h;have:=xI t ((N_ t).1 c.1).2;have a:10^G t<=10^9:=tQ S c.2.1;omega};{cases h}
def LB (P:Nat)(w:B)(l:List H)(f:nG P w)(d:Left P w l):
  af C 211 #[aa<|K ⟨P,0,O⟩] w λb w'=>Ag P w w'/\match dy l with
   |none=>b=ae (ak #[I .u64 0,jR])
   |some (v,e)=>b=ae (ak #[I .u64 v,.nilIface])/\Left P w' e/\v<=999999999:=by
 cases a:dy l with
 |none=>exact(aef P w l f d a).mono λb w' h=>⟨h.2,h.1⟩
 |some x=>
  obtain⟨v,e⟩:=x
  cases l with
  |nil=>cases a
  |cons t l=>
   cases c:fy t with
   |none=>simp[dy,c]at a
   |some g=>
    simp only[dy,c,sN,qG]at a
    obtain⟨rfl,rfl⟩:=a
    exact(aee P w t l g d c).mono λb w' h=>⟨h.2.2,h.1,h.2.1,aoD c⟩
def alZ (o:bH)(wi:Bool)(l:List H)(h:dy l=O):gp o wi l=O:=by simp[gp,fj,h]
def alX (o:bH)(wi:Bool)(l r:List H)(v:Nat)(h:dy l=K (v,r))(hd:bS [46,46] r=V):gp o wi l=K (xW o wi v v,r):=by cases r with|nil=>simp[gp,fj,h,mD]|cons t r=>{have:t≠[46,46]:=by{simpa[bS]using hd};simp[gp,fj,h,mD,this]}
def alW (o:bH)(wi:Bool)(l r:List H)(v:Nat)(h:dy l=K (v,r))(hd:bS [46,46] r=Y):gp o wi l=match dy r.tail with
  |none=>O
  |some (hi,a)=>if hi<v then O else K (xW o wi v hi,a):=by
 cases r with
 |nil=>cases hd
 |cons t r=>
  have:t= [46,46]:=by simpa[bS]using hd
  subst this
  simp only[gp,fj,h,mD,eU,As]
  all_goals cases dy r<;>rfl
def X0 (P:Nat)(w:B)(l:List asq)(x:N)(o:bH)(wi:Bool)(I:nG P w)(hL:Left P w l)(R:oi P w x o):af C 237 #[aa<|K ⟨P,0,O⟩,x,Q wi] w λd w'=>pN P w (gp o wi l) d w':=by have H:=LB P w l I hL;obtain⟨S,hS⟩:=hidx<|gp o wi l;rw[hS.o];have W:∃g r,x=.func (.func g) #[] r:=by{obtain⟨g,r,h,_⟩:=R;exact⟨g,r,h⟩};obtain⟨g,r,rfl⟩:=W;go_enter func237,ntmps237;go_wp2_with fail;refine H.mono ?_;rintro d t ⟨E,c⟩;clear H;cases p:dy l with|none=>rw[p]at c;obtain rfl:=c;have b:=aK<|hS.o.symm.trans<|alZ o wi l p;unfold jR;go_wp2;go_ret2;refine⟨E,?_⟩;rw[b.o];rfl|some z=>{obtain⟨lo,m⟩:=z;rw[p]at c;obtain⟨rfl,Y,n⟩:=c;have v:=(aT (Z<|J t) t).alloc (aO _)<|an #[U ⟨#[46,46]⟩] 9;have G:=take_one P (Z<|J t) _ m [46,46] (Y.then v)<|bx t #[U ⟨#[46,46]⟩] 9;go_wp2_with fail;refine G.mono ?_;rintro d u ⟨rfl,i,f⟩;replace f:=E.trans<|(Ag.of (P:=P) v<|aO _).trans f;clear G v;have y:=R.later f;cases hd:bS [46,46] m with|false=>{rw[hd]at i;have b:=aK<|hS.o.symm.trans<|alX o wi l m lo p hd;cases wi with|false=>have j:=QO P u _ o lo lo n n i.lt y;go_wp2_with(go_at_call 239;refine j.mono ?_;rintro d w3 ⟨⟨v3,rfl,k⟩,a⟩);go_ret2;refine⟨f.then a,?_⟩;rw[b.o];exact⟨_,rfl,k,i.then a⟩|true=>{have j:=XC P u _ o lo lo n n i.lt y;go_wp2_with(go_at_call 255;refine j.mono ?_;rintro d w3 ⟨⟨v3,rfl,k⟩,a⟩);go_ret2;refine⟨f.then a,?_⟩;rw[b.o];exact⟨_,rfl,k,i.then a⟩}}|true=>{rw[hd]at i;have X:Left P u m.tail:=i;have e:=alW o wi l m lo p hd;have A:=LB P u m.tail (I.later f) X;go_wp2_with fail;refine A.mono ?_;rintro d w3 ⟨F,c⟩;clear A;have s:=f.trans F;cases V:dy m.tail with|none=>rw[V]at c e;obtain rfl:=c;have b:D<|S=O:=hS.o.symm.trans e;clear e;unfold jR;go_wp2;go_ret2;refine⟨s,?_⟩;rw[b.o];rfl|some z=>{obtain⟨hi,r2⟩:=z;rw[V]at c e;obtain⟨rfl,q,L⟩:=c;have T:=y.later F;by_cases M:hi<lo;{have ab:(hi:Int)<lo:=aJ;have b:=aK<|hS.o.symm.trans<|e.trans<|aP M;clear e;go_wp2;go_ret2;refine⟨s,?_⟩;rw[b.o];rfl};{have ab:¬(hi:Int)<lo:=aJ;have b:=aK<|hS.o.symm.trans<|e.trans<|aL M;clear e;cases wi with|false=>have j:=QO P w3 _ o lo hi n L q.lt T;go_wp2_with(go_at_call 239;refine j.mono ?_;rintro d w4 ⟨⟨v3,rfl,k⟩,a⟩);go_ret2;refine⟨s.then a,?_⟩;rw[b.o];exact⟨_,rfl,k,q.then a⟩|true=>{have j:=XC P w3 _ o lo hi n L q.lt T;go_wp2_with(go_at_call 255;refine j.mono ?_;rintro d w4 ⟨⟨v3,rfl,k⟩,a⟩);go_ret2;refine⟨s.then a,?_⟩;rw[b.o];exact⟨_,rfl,k,q.then a⟩}}}}}
end
namespace Pr
def b7 (sep:T):List T->List (List T)
 | []=>[[]]
 |t::l=>if t=sep then[]::b7 sep l else match b7 sep l with
  |p::ps=>(t::p)::ps
  | []=>[[t]]
def whole (mem:Rd)(p:List T):Option Sem:=match mem p with
 |some (f,[])=>K f
 |_=>O
def se (mb:List T->Option Sem)(jn:Sem->Sem->Sem):Sem->List (List T)->Option Sem
 |f,[]=>K f
 |f,p::ps=>match mb p with
  |none=>O
  |some g=>se mb jn (jn f g) ps
def oM (mb:List T->Option Sem)(jn:Sem->Sem->Sem):List (List T)->Option Sem
 | []=>O
 |p::ps=>match mb p with
  |none=>O
  |some f=>se mb jn f ps
structure Good (mem:Rd)(Stop:T->Prop):Prop where
 sound:∀l f r,mem l=K (f,r)->∃p,l=p++r/\mem p=K (f,[])/\∀t∈p,¬Stop t
 complete:∀p f r,mem p=K (f,[])->(r= []\/∃t r',r=t::r'/\Stop t)->mem (p++r)=K (f,r)
def Mg (sep:T)(p:List T)(h:∀t∈p,t≠sep):b7 sep p= [p]:=by induction p with|nil=>rfl|cons t p c=>{have a:=h t z;have b:=c λd hu=>h d (by simp[hu]);simp[b7,a,b]}
def Mh (sep:T)(p r:List T)(h:∀t∈p,t≠sep):b7 sep (p++sep::r)=p::b7 sep r:=by induction p with|nil=>simp[b7]|cons t p c=>{have a:=h t z;have b:=c λd hu=>h d (by simp[hu]);simp only[b6,b7,a,fX];rw[b]}
def Ry (sep:T)(l:List T):∃p rest,(∀t∈p,t≠sep)/\l=p++rest/\((rest= []/\b7 sep l= [p])\/∃b,rest=sep::b/\b7 sep l=p::b7 sep b):=by induction l with|nil=>{exact⟨[],[],z,rfl,.inl ⟨rfl,rfl⟩⟩}|cons t l i=>{by_cases c:t=sep;{subst c;exact⟨[],t::l,z,rfl,.inr ⟨l,rfl,by simp[b7]⟩⟩};{obtain⟨p,rest,g,d,a⟩:=i;have e:∀f∈t::p,f≠sep:=by{intro f hu;rcases cL.1 hu with rfl|hu;{exact c};{exact g f hu}};refine⟨t::p,rest,e,by rw[d];rfl,?_⟩;rcases a with⟨a,h⟩|⟨b,a,h⟩;{left;refine⟨a,?_⟩;rw[d,a,fY];exact Mg sep _ e};{right;refine⟨b,a,?_⟩;rw[d,a];exact Mh sep _ b e}}}
variable {mem:Rd}{Stop:T->Prop}{sep:T}{jn:Sem->Sem->Sem}
def WH {p:List T}{f:Sem}(h:whole mem p=K f):mem p=K (f,[]):=by unfold whole at h;split at h;{cases h;assumption};{cases h}
def Ez {p:List T}{f:Sem}(h:mem p=K (f,[])):whole mem p=K f:=by simp[whole,h]
def Yi (u:Good mem Stop)(w:Stop sep):∀(k:Nat) (f:Sem) (h:List T),G h<=k->
  (match jK mem sep jn k f h with
   |some (g,[])=>K g
   |_=>O)=match h with
   | []=>K f
   |t::e=>if t=sep then se (whole mem) jn f (b7 sep e)else O:=by
 intro k
 induction k with
 |zero=>
  intro f h v
  obtain rfl:h= []:=gU.1 S
  rfl
 |succ k y=>
  intro f h v
  cases h with
  |nil=>rfl
  |cons t e=>
   by_cases c:t=sep
   ·subst c
    have l:G e<=k:=by simpa using v
    obtain⟨p,rest,L,s,a⟩:=Ry t e
    simp only[jK,eU]
    cases d:whole mem p with
    |some g=>
     have o:mem e=K (g,rest):=by
      rw[s]
      refine u.complete p g rest (WH d) ?_
      rcases a with⟨a,_⟩|⟨i,a,_⟩
      ·exact .inl a
      ·exact .inr ⟨t,i,a,w⟩
     simp only[o]
     rw[y (jn f g) rest (by rw[s]at l;simp at l;omega)]
     rcases a with⟨a,b⟩|⟨i,a,b⟩
     ·subst a;rw[b];simp[se,d]
     ·subst a;rw[b];simp[se,d]
    |none=>
     have D:se (whole mem) jn f (b7 t e)=O:=by
      rcases a with⟨_,b⟩|⟨i,_,b⟩<;>rw[b]<;>simp[se,d]
     rw[D]
     cases o:mem e with
     |none=>rfl
     |some x=>
      obtain⟨g,m⟩:=x
      simp only[]
      obtain⟨q,j,n,C⟩:=u.sound e g m o
      have z:∀r∈q,r≠t:=λr hu E=>C r hu (by rw[E];exact w)
      have B:G m<=k:=by rw[j]at l;simp at l;omega
      rw[y (jn f g) m B]
      cases m with
      |nil=>
       exfalso
       rw[fY]at j
       subst j
       have:=Mg t e z
       rcases a with⟨_,b⟩|⟨i,_,b⟩<;>rw[b]at this<;>simp at this
       ·subst this;rw[Ez n]at d;cases d
       ·obtain⟨this,M⟩:=this
        subst this;rw[Ez n]at d;cases d
      |cons A J=>
       by_cases c:A=t
       ·exfalso
        subst c
        have:=Mh A q J z
        rw[<-j]at this
        have H:p=q:=by
         rcases a with⟨_,b⟩|⟨i,_,b⟩<;>rw[b]at this
         ·injection this
         ·injection this
        rw[H,Ez n]at d
        cases d
       ·simp[c]
   ·simp[jK,c]
def Q_ (h:Good mem Stop)(i:Stop sep)(l:List T):whole (lL mem sep jn) l=oM (whole mem) jn (b7 sep l):=by obtain⟨p,rest,B,v,a⟩:=Ry sep l;show(match lL mem sep jn l with|some (f,[])=>K f|_=>O)=_;unfold lL;cases d:whole mem p with|some g=>{have o:mem l=K (g,rest):=by{rw[v];refine h.complete p g rest (WH d) ?_;rcases a with⟨a,_⟩|⟨e,a,_⟩;{exact .inl a};{exact .inr ⟨sep,e,a,i⟩}};simp only[o];have n:=Yi (jn:=jn) h i (G rest) g rest<|aO _;rw[n];rcases a with⟨a,b⟩|⟨e,a,b⟩;{subst a;rw[b];simp[oM,d,se]};{subst a;rw[b];simp[oM,d]}}|none=>{have w:oM (whole mem) jn (b7 sep l)=O:=by{rcases a with⟨_,b⟩|⟨e,_,b⟩<;>rw[b]<;>simp[oM,d]};change _=oM (whole mem) jn (b7 sep l);rw[w];cases o:mem l with|none=>rfl|some x=>{obtain⟨g,j⟩:=x;simp only[];obtain⟨q,k,m,u⟩:=h.sound l g j o;have s:∀r∈q,r≠sep:=λr hu y=>u r hu (by rw[y];exact i);have n:=Yi (jn:=jn) h i (G j) g j<|aO _;rw[n];cases j with|nil=>{exfalso;rw[fY]at k;subst k;have:=Mg sep l s;rcases a with⟨_,b⟩|⟨e,_,b⟩<;>rw[b]at this<;>simp at this;{subst this;rw[Ez m]at d;cases d};{obtain⟨this,C⟩:=this;subst this;rw[Ez m]at d;cases d}}|cons t A=>{by_cases c:t=sep;{exfalso;subst c;have:=Mh t q A s;rw[<-k]at this;have z:p=q:=by{rcases a with⟨_,b⟩|⟨e,_,b⟩<;>rw[b]at this;{injection this};{injection this}};rw[z,Ez m]at d;cases d};{simp[c]}}}}
def Jg (s:Good mem Stop)(B:Stop sep)(w:T->Prop)(r:∀t,w t->Stop t/\t≠sep):∀(k:Nat) (f:Sem) (a:List T) (g:Sem) (b:List T),G a<=k->jK mem sep jn k f a=K (g,b)->∃p,a=p++b/\(p= []\/∃m,p=sep::m)/\(∀k',G p<=k'->jK mem sep jn k' f p=K (g,[]))/\∀t∈p,¬w t:=by intro k;induction k with|zero=>{intro f a g b v h;obtain rfl:a= []:=gU.1 S;simp[jK]at h;obtain⟨rfl,rfl⟩:=h;refine⟨[],rfl,.inl rfl,?_,aN⟩;intro k' _;cases k'<;>rfl}|succ k C=>{intro f a g b v h;cases a with|nil=>{simp[jK]at h;obtain⟨rfl,rfl⟩:=h;refine⟨[],rfl,.inl rfl,?_,aN⟩;intro k' _;cases k'<;>rfl}|cons t l=>{by_cases c:t=sep;{subst c;simp only[jK,eU]at h;cases j:mem l with|none=>simp[j]at h|some x=>{obtain⟨d,o⟩:=x;simp only[j]at h;obtain⟨n,q,y,z⟩:=s.sound l d o j;have A:G o<=k:=by{have:G l<=k:=by{simpa using v};rw[q]at this;simp at this;omega};obtain⟨e,D,E,F,H⟩:=C (jn f d) o g b A h;refine⟨t::(n++e),by rw[q,D];simp,.inr ⟨_,rfl⟩,?_,?_⟩;{intro k' u;cases k' with|zero=>simp at u|succ k'=>{simp only[jK,eU];have:mem (n++e)=K (d,e):=by{refine s.complete n d e y ?_;rcases E with rfl|⟨m,rfl⟩;{exact .inl rfl};{exact .inr ⟨t,m,rfl,B⟩}};rw[this];exact F k' (by simp at u;omega)}};{intro i hu hS;rcases cL.1 hu with rfl|hu;{exact(r i hS).2 rfl};{rcases dU.1 hu with hu|hu;{exact z i hu (r i hS).1};{exact H i hu hS}}}}};{simp only[jK,c,fX,sN,qG]at h;obtain⟨rfl,rfl⟩:=h;refine⟨[],rfl,.inl rfl,?_,aN⟩;intro k' _;cases k'<;>rfl}}}
def Jj (q:Good mem Stop)(A:Stop sep)(v:T->Prop)(n:∀t,v t->Stop t/\t≠sep):∀(k:Nat) (f:Sem) (p:List T) (g:Sem) (a:List T),G p<=k->jK mem sep jn k f p=K (g,[])->(a= []\/∃t d,a=t::d/\v t)->∀k',G (p++a)<=k'->jK mem sep jn k' f (p++a)=K (g,a):=by intro k;induction k with|zero=>{intro f p g a s h i k' e;obtain rfl:p= []:=gU.1 S;simp[jK]at h;subst h;rcases i with rfl|⟨t,d,rfl,hS⟩;{cases k'<;>rfl};{cases k' with|zero=>simp at e|succ k'=>{simp[jK,(n t hS).2]}}}|succ k B=>{intro f p g a s h i k' e;cases p with|nil=>{simp[jK]at h;subst h;rcases i with rfl|⟨t,d,rfl,hS⟩;{cases k'<;>rfl};{cases k' with|zero=>simp at e|succ k'=>{simp[jK,(n t hS).2]}}}|cons t l=>{by_cases c:t=sep;{subst c;simp only[jK,eU]at h;cases o:mem l with|none=>simp[o]at h|some x=>{obtain⟨j,b⟩:=x;simp only[o]at h;obtain⟨C,m,y,D⟩:=q.sound l j b o;have r:G b<=k:=by{have:G l<=k:=by{simpa using s};rw[m]at this;simp at this;omega};cases k' with|zero=>simp at e|succ k'=>{simp only[b6,jK,eU];have z:b++a= []\/∃t d,b++a=t::d/\Stop t:=by{cases b with|nil=>{rcases i with rfl|⟨t,d,rfl,hS⟩;{exact .inl rfl};{exact .inr ⟨t,d,rfl,(n t hS).1⟩}}|cons u w=>{right;refine⟨u,w++a,rfl,?_⟩;cases k with|zero=>simp at r|succ k=>{by_cases c:u=t;{rw[c];exact A};{simp[jK,c]at h}}}};have:mem (l++a)=K (j,b++a):=by{rw[m,bX];exact q.complete C j (b++a) y z};rw[this];refine B (jn f j) b g a r h i k' ?_;rw[m]at e;simp at e⊢;omega}}};{simp[jK,c]at h}}}
def Yd (g:Good mem Stop)(l:Stop sep)(n:T->Prop)(k:∀t,n t->Stop t/\t≠sep):Good (lL mem sep jn) n:=by constructor;{intro v f d h;unfold lL at h;cases e:mem v with|none=>simp[e]at h|some x=>{obtain⟨b,a⟩:=x;simp only[e]at h;obtain⟨j,o,q,s⟩:=g.sound v b a e;obtain⟨m,A,B,C,D⟩:=Jg g l n k (G a) b a f d (aO _) h;refine⟨j++m,by rw[o,A];simp,?_,?_⟩;{unfold lL;have:mem (j++m)=K (b,m):=by{refine g.complete j b m q ?_;rcases B with rfl|⟨z,rfl⟩;{exact .inl rfl};{exact .inr ⟨sep,z,rfl,l⟩}};rw[this];exact C _<|aO _};{intro i hu hS;rcases dU.1 hu with hu|hu;{exact s i hu (k i hS).1};{exact D i hu hS}}}};{intro p f d h u;unfold lL at h⊢;cases e:mem p with|none=>simp[e]at h|some x=>{obtain⟨b,a⟩:=x;simp only[e]at h;obtain⟨j,o,q,s⟩:=g.sound p b a e;have y:a++d= []\/∃t r,a++d=t::r/\Stop t:=by{cases a with|nil=>{rcases u with rfl|⟨t,r,rfl,hS⟩;{exact .inl rfl};{exact .inr ⟨t,r,rfl,(k t hS).1⟩}}|cons i w=>{right;refine⟨i,w++d,rfl,?_⟩;by_cases c:i=sep;{rw[c];exact l};{simp[jK,c]at h}}};have:mem (p++d)=K (b,a++d):=by{rw[o,bX];exact g.complete j b (a++d) q y};rw[this];exact Jj g l n k (G a) b a f d (aO _) h u _<|aO _}}
end Pr
namespace Pr
open Pn
def y6 (t:T):Prop:=t= [111,114]
def vV (t:T):Prop:=t= [97,110,100]\/t= [111,114]
def OA (t:T):Prop:=t= [44]\/vV t
def zd (S):Good (λ_=>O) S:=⟨λ_ _ _ h=>(by cases h),λ_ _ _ h=>(by cases h)⟩
def zs (S b):Good (λa=>K (b,a)) S:=by constructor;{intro a f c h;simp only[sN,qG]at h;obtain⟨rfl,rfl⟩:=h;exact⟨[],rfl,rfl,z⟩};{intro p f c h _;simp only[sN,qG]at h;obtain⟨rfl,rfl⟩:=h;rfl}
def aoE {t v}(h:fy t=K v):gJ t=Y:=by unfold fy at h;split at h;{rename_i c;exact c.1};{cases h}
def NY (S k)(d:∀v,Good (k v) S)(hS:∀t,S t->gJ t=V):Good (fj k) S:=by constructor;{intro b f c h;cases b with|nil=>simp[fj,dy]at h|cons t b=>{cases a:fy t with|none=>simp[fj,dy,a]at h|some v=>{simp only[fj,dy,a]at h;obtain⟨p,i,j,l⟩:=(d v).sound b f c h;refine⟨t::p,by rw[i];rfl,by simp only[fj,dy,a];exact j,?_⟩;intro g hu e;rcases cL.1 hu with rfl|hu;{have:=hS g e;rw[aoE a]at this;cases this};{exact l g hu e}}}};{intro p f c h m;cases p with|nil=>simp[fj,dy]at h|cons t b=>{cases a:fy t with|none=>simp[fj,dy,a]at h|some v=>{simp only[fj,dy,a]at h;simp only[b6,fj,dy,a];exact(d v).complete b f c h m}}}
def xM {S}{q m:Rd}{t}(g:Good q S)(i:¬S t)(b:∀l,m (t::l)=q l){l f r}(h:m (t::l)=K (f,r)):∃p,t::l=p++r/\m p=K (f,[])/\∀a∈p,¬S a:=by rw[b]at h;obtain⟨p,c,d,e⟩:=g.sound l f r h;refine⟨t::p,by rw[c];rfl,by rw[b];exact d,?_⟩;intro a hu;rcases cL.1 hu with rfl|hu;{exact i};{exact e a hu}
def yp {S}{q m:Rd}{t}(c:Good q S)(a:∀b,m (t::b)=q b){p f r}(h:m (t::p)=K (f,[]))(d:r= []\/∃t e,r=t::e/\S t):m (t::p++r)=K (f,r):=by rw[a]at h;rw[b6,a];exact c.complete p f r h d
def QL (t)(h:OA t):gJ t=V:=by rcases h with rfl|rfl|rfl<;>decide
def XD (t)(h:vV t):gJ t=V:=QL t<|.inr h
def aod (o wi lo):Good (mD o wi lo) OA:=by have d:Good (fj<|λhi a=>if hi<lo then O else K (xW o wi lo hi,a)) OA:=by{refine NY _ _ (λhi=>?_) QL;by_cases c:hi<lo;{simp only[c,eU];exact zd _};{simp only[c,fX];exact zs _ _}};have hd:∀a,mD o wi lo ([46,46]::a)=fj (λhi a=>if hi<lo then O else K (xW o wi lo hi,a)) a:=λa=>by{simp[mD]};constructor;{intro a f e h;cases a with|nil=>{simp only[mD,sN,qG]at h;obtain⟨rfl,rfl⟩:=h;exact⟨[],rfl,rfl,z⟩}|cons t a=>{by_cases c:t= [46,46];{subst c;exact xM d (by intro h;rcases h with h|h|h<;>cases h) hd h};{simp only[mD,c,fX,sN,qG]at h;obtain⟨rfl,rfl⟩:=h;exact⟨[],rfl,rfl,z⟩}}};{intro p f e h b;cases p with|nil=>{simp only[mD,sN,qG]at h;obtain⟨rfl,_⟩:=h;rcases b with rfl|⟨t,g,rfl,hS⟩;{rfl};{have:t≠[46,46]:=by{rintro rfl;rcases hS with h|h|h<;>cases h};simp[mD,this]}}|cons t a=>{by_cases c:t= [46,46];{subst c;exact yp d hd h b};{simp[mD,c]at h}}}
def Um (o wi):Good (gp o wi) OA:=NY _ _ (aod o wi) QL
def Bj (o n wi):Good (iq o n wi) vV:=by have b:Good (lL (gp o wi) [44] nS) vV:=Yd (Um o wi) (.inl rfl) vV (λt h=>⟨.inr h,by rcases h with rfl|rfl<;>decide⟩);constructor;{intro c f d h;unfold iq at h;cases a:lL (gp o wi) [44] nS c with|none=>simp[a]at h|some x=>{obtain⟨g,e⟩:=x;simp only[a,sN,qG]at h;obtain⟨rfl,rfl⟩:=h;obtain⟨p,i,j,k⟩:=b.sound c g e a;exact⟨p,i,by simp only[iq,j],k⟩}};{intro p f d h l;unfold iq at h⊢;cases a:lL (gp o wi) [44] nS p with|none=>simp[a]at h|some x=>{obtain⟨g,e⟩:=x;simp only[a,sN,qG]at h;obtain⟨rfl,rfl⟩:=h;rw[b.complete p g d a l]}}
def N0 (o n):Good (qO o n) vV:=NY _ _ (λ_=>zs _ _) XD
def zH (o):Good (cS o) vV:=by have hd:∀a,cS o ([110,111,116]::a)=qO o Y a:=λa=>by{simp[cS]};constructor;{intro a f d h;cases a with|nil=>cases h|cons t a=>{by_cases c:t= [110,111,116];{subst c;exact xM (N0 o Y) (by intro h;rcases h with h|h<;>cases h) hd h};{simp only[cS,c,fX]at h;obtain⟨p,b,e,i⟩:=(N0 o V).sound _ f d h;refine⟨p,b,?_,i⟩;cases p with|nil=>simp[qO,fj,dy]at e|cons j p=>{have:j=t:=by{simp at b;exact b.1.symm};subst this;simp only[cS,c,fX];exact e}}}};{intro p f d h g;cases p with|nil=>cases h|cons t a=>{by_cases c:t= [110,111,116];{subst c;exact yp (N0 o Y) hd h g};{simp only[cS,c,fX]at h;simp only[b6,cS,c,fX];exact(N0 o V).complete _ f d h g}}}
def N1 (o n):Good (oF o n) vV:=by have b:∀a,oF o n ([105,110]::a)=iq o n V a:=λa=>by{simp[oF]};have d:∀a,oF o n ([119,105,116,104,105,110]::a)=iq o n Y a:=λa=>by{simp[oF]};constructor;{intro a f g h;cases a with|nil=>cases h|cons t a=>{by_cases c:t= [105,110];{subst c;exact xM (Bj o n V) (by intro h;rcases h with h|h<;>cases h) b h};{by_cases c2:t= [119,105,116,104,105,110];{subst c2;exact xM (Bj o n Y) (by intro h;rcases h with h|h<;>cases h) d h};{simp[oF,c,c2]at h}}}};{intro p f g h e;cases p with|nil=>cases h|cons t a=>{by_cases c:t= [105,110];{subst c;exact yp (Bj o n V) b h e};{by_cases c2:t= [119,105,116,104,105,110];{subst c2;exact yp (Bj o n Y) d h e};{simp[oF,c,c2]at h}}}}
def Un (o):Good (ej o) vV:=by have g:∀a,ej o ([61]::a)=iq o V V a:=λa=>by{simp[ej]};have i:∀a,ej o ([33,61]::a)=iq o Y V a:=λa=>by{simp[ej]};have j:∀a,ej o ([105,115]::a)=cS o a:=λa=>by{simp[ej]};have k:∀a,ej o ([110,111,116]::a)=oF o Y a:=λa=>by{simp[ej]};constructor;{intro a f d h;cases a with|nil=>cases h|cons t a=>{by_cases c1:t= [61];{subst c1;exact xM (Bj o _ _) (by intro h;rcases h with h|h<;>cases h) g h};by_cases c2:t= [33,61];{subst c2;exact xM (Bj o _ _) (by intro h;rcases h with h|h<;>cases h) i h};by_cases c3:t= [105,115];{subst c3;exact xM (zH o) (by intro h;rcases h with h|h<;>cases h) j h};by_cases c4:t= [110,111,116];{subst c4;exact xM (N1 o Y) (by intro h;rcases h with h|h<;>cases h) k h};simp only[ej,c1,c2,c3,c4,fX]at h;obtain⟨p,c,e,l⟩:=(N1 o V).sound _ f d h;refine⟨p,c,?_,l⟩;cases p with|nil=>cases e|cons m p=>{have:m=t:=by{simp at c;exact c.1.symm};subst this;simp only[ej,c1,c2,c3,c4,fX];exact e}}};{intro p f d h b;cases p with|nil=>cases h|cons t a=>{by_cases c1:t= [61];{subst c1;exact yp (Bj o _ _) g h b};by_cases c2:t= [33,61];{subst c2;exact yp (Bj o _ _) i h b};by_cases c3:t= [105,115];{subst c3;exact yp (zH o) j h b};by_cases c4:t= [110,111,116];{subst c4;exact yp (N1 o Y) k h b};simp only[ej,c1,c2,c3,c4,fX]at h;simp only[b6,ej,c1,c2,c3,c4,fX];exact(N1 o V).complete _ f d h b}}
def zU (o):Good (mB o) vV:=by have j:Good (fj<|λd b=>if d=0 then O else ej (zl o d) b) vV:=by{refine NY _ _ (λd=>?_) XD;by_cases c:d=0;{simp only[c,eU];exact zd _};{simp only[c,fX];exact Un _}};constructor;{intro a f b h;cases a with|nil=>cases h|cons t a=>{by_cases c:t= [109,111,100]\/t= [37];{exact xM j (by rintro(rfl|rfl)<;>rcases c with h|h<;>cases h) (λa=>by simp only[mB,c,eU]) h};{simp only[mB,c,fX]at h;obtain⟨p,e,g,k⟩:=(Un o).sound _ f b h;refine⟨p,e,?_,k⟩;cases p with|nil=>cases g|cons l p=>{have:l=t:=by{simp at e;exact e.1.symm};subst this;simp only[mB,c,fX];exact g}}}};{intro p f b h i;cases p with|nil=>cases h|cons t a=>{by_cases c:t= [109,111,100]\/t= [37];{exact yp j (λa=>by simp only[mB,c,eU]) h i};{simp only[mB,c,fX]at h;simp only[b6,mB,c,fX];exact(Un o).complete _ f b h i}}}
def Uk:Good jb vV:=by constructor;{intro b f d h;cases b with|nil=>cases h|cons t b=>{cases a:ly t with|none=>simp[jb,a]at h|some o=>{exact xM (zU o) (by rintro(rfl|rfl)<;>revert a<;>simp[ly]) (λb=>by simp only[jb,a]) h}}};{intro p f d h c;cases p with|nil=>cases h|cons t b=>{cases a:ly t with|none=>simp[jb,a]at h|some o=>{exact yp (zU o) (λb=>by simp only[jb,a]) h c}}}
def tq:Good zV y6:=Yd Uk (.inl rfl) y6 (λt h=>⟨.inr h,by rw[show t=_ from h];decide⟩)
def Hg (l):wW l=oM (λp=>oM (whole jb) uE<|b7 [97,110,100] p) nS (b7 [111,114] l):=by have a:wW l=whole CR l:=rfl;rw[a,CR,Q_ tq (sep:=[111,114]) (jn:=nS) rfl];have:whole zV=λp=>oM (whole jb) uE<|b7 [97,110,100] p:=by{funext p;rw[zV,Q_ Uk (sep:=[97,110,100]) (jn:=uE)<|.inl rfl]};rw[this]
def Q6 (o n wi l):whole (iq o n wi) l=(oM (whole<|gp o wi) nS<|b7 [44] l).map λf=>CC f n:=by rw[<-Q_ (Um o wi) (sep:=[44]) (jn:=nS)<|.inl rfl];unfold whole iq;cases lL (gp o wi) [44] nS l with|none=>rfl|some x=>{obtain⟨f,a⟩:=x;cases a<;>rfl}
end Pr
section
open Pr RowKit Tryz
def WW (o)(l:List H):Pr.cS o l=qO o (bS [110,111,116] l) (gW (bS [110,111,116] l) l):=by cases l with|nil=>rfl|cons t l=>{by_cases h:t= [110,111,116];{simp[Pr.cS,bS,gW,h]};{simp[Pr.cS,bS,gW,h]}}
def W0 (P w l x o)(F:nG P w)(E:Left P w l)(u:oi P w x o):af C 230 #[aa<|K ⟨P,0,O⟩,x] w λc w'=>pN P w (Pr.cS o l) c w':=by rw[WW];have z:∃g i,x=.func (.func g) #[] i:=by{obtain⟨g,i,h,_⟩:=u;exact⟨g,i,h⟩};obtain⟨g,i,rfl⟩:=z;have p:=(aT (Z<|J w) w).alloc (aO _)<|an #[U ⟨#[110,111,116]⟩] 9;have b:=take_one P (Z<|J w) _ l [110,111,116] (E.then p)<|bx w #[U ⟨#[110,111,116]⟩] 9;obtain⟨S,hS⟩:=hidx<|qO o (bS [110,111,116] l)<|gW (bS [110,111,116] l) l;rw[hS.o];go_enter func230,ntmps230;go_wp2_with fail;refine b.mono ?_;rintro c L ⟨rfl,A,d⟩;replace d:=(Ag.of (P:=P) p<|aO _).trans d;clear b p;generalize bS [110,111,116] l=n at*;generalize gW n l=y at*;have s:=LB P L y (F.later d) A;go_wp2_with fail;refine s.mono ?_;rintro c M ⟨a,e⟩;clear s;replace a:=d.trans a;cases f:dy y with|none=>{rw[f]at e;obtain rfl:=e;have m:D<|S=O:=W (by rw[<-hS.o];simp[qO,fj,f]);unfold jR;go_wp2;go_ret2;refine⟨a,?_⟩;rw[m.o];rfl}|some Q=>{obtain⟨v,I⟩:=Q;rw[f]at e;obtain⟨rfl,k,t⟩:=e;have m:D<|S=K (CC (Hz o v v) n,I):=W (by rw[<-hS.o];simp[qO,fj,f]);have r:=QO P M _ o v v t t k.lt<|u.later a;go_wp2_with fail;refine r.mono ?_;rintro c w3 ⟨⟨v3,rfl,G⟩,j⟩;clear r;have b:=Xm P w3 v3 n _ (k.then j).lt G;go_wp2_with fail;refine b.mono ?_;rintro c R ⟨⟨v4,rfl,H⟩,q⟩;clear b;go_wp2;go_ret2;refine⟨(a.then j).then q,?_⟩;rw[m.o];exact⟨_,rfl,H,(k.then j).then q⟩}
def W3:Enters 236:=lJ func236 x rfl
def W4 (P A e C w l x o wi)(p:Row w A #[aa<|K ⟨P,0,O⟩])(q:Row w e #[x])(r:Row w C #[Q wi])(t:nG P w)(s:Left P w l)(m:oi P w x o):af Tryz.prog 236 #[aa<|K ⟨A,0,O⟩,aa<|K ⟨e,0,O⟩,aa<|K ⟨C,0,O⟩] w λk w'=>pN P w (gp o wi l) k w':=by have n:∃g c,x=.func (.func g) #[] c:=by{obtain⟨g,c,h,_⟩:=m;exact⟨g,c,h⟩};obtain⟨g,c,rfl⟩:=n;have z:=p.2.1;have D:=q.2.1;have E:=r.2.1;have j:=X0 P w l _ o wi t s m;go_enter func236,ntmps236;go_wp2_with fail;refine j.mono ?_;rintro k H ⟨i,b⟩;clear j z D E;cases a:gp o wi l with|none=>rw[a]at b;obtain rfl:=b;have d:=W a;clear a;unfold jR;go_wp2;go_ret2;refine⟨i,?_⟩;rw[d.o];rfl|some F=>{obtain⟨f,G⟩:=F;rw[a]at b;obtain⟨v,rfl,u,y⟩:=b;have d:=W a;clear a;go_wp2;go_ret2;refine⟨i,?_⟩;rw[d.o];exact⟨_,rfl,u,y⟩}
def Yb (o wi)(l:List H)(f)(r:List H)(h:gp o wi l=K (f,r)):G r<=G l:=by obtain⟨p,a,_⟩:=(Um o wi).sound l f r h;rw[a];simp
def MH (P w l x o n wi)(E:nG P w)(r:Left P w l)(t:oi P w x o):af C 229 #[aa<|K ⟨P,0,O⟩,x,Q n,Q wi] w λj w'=>pN P w (iq o n wi l) j w':=by obtain⟨S,hS⟩:=hidx<|iq o n wi l;rw[hS.o];have A:∃g a,x=.func (.func g) #[] a:=by{obtain⟨g,a,h,_⟩:=t;exact⟨g,a,h⟩};obtain⟨g,a,rfl⟩:=A;obtain⟨u,y,z⟩:=Qx w (aa<|K ⟨P,0,O⟩) (.func (.func g) #[] a) (Q wi) 323 366 4;have b:=Hv w (an #[aa<|K ⟨P,0,O⟩] 323) (an #[.func (.func g) #[] a] 366)<|an #[Q wi] 4;have U:=r.lt;have p:=Ra P _ l (.func (.func 236) #[] #[aa<|K ⟨Z<|J w,0,O⟩,aa<|K ⟨Z (J w)+1,0,O⟩,aa<|K ⟨Z (J w)+2,0,O⟩]) (gp o wi) [44] 180 nS nn (Z_ P) (Yb o wi) (E.later<|.of b<|aO _) (r.then b) ⟨_,_,_,rfl,W3,λW H M d G=>W4 P _ _ _ W H _ o wi (u.ag d aJ) (y.ag d aJ) (z.ag d aJ) M G<|t.later<|(Ag.of b<|aO _).trans d⟩;go_enter func229,ntmps229;go_wp2_with fail;refine p.mono ?_;rintro j R ⟨c,e⟩;replace c:=(Ag.of (P:=P) b<|aO _).trans c;clear p b u y z;cases i:lL (gp o wi) [44] nS l with|none=>{rw[i]at e;obtain rfl:=e;have k:D<|S=O:=aK (by rw[<-hS.o];simp[iq,i]);unfold jR;go_wp2;go_ret2;refine⟨c,?_⟩;rw[k.o];rfl}|some T=>{obtain⟨f,L⟩:=T;rw[i]at e;obtain⟨v,rfl,F,s⟩:=e;have k:D<|S=K (CC f n,L):=aK (by rw[<-hS.o];simp[iq,i]);have q:=Xm P R v n _ s.lt F;go_wp2_with fail;refine q.mono ?_;rintro j V ⟨⟨v4,rfl,I⟩,m⟩;clear q;go_wp2;go_ret2;refine⟨c.then m,?_⟩;rw[k.o];exact⟨_,rfl,I,s.then m⟩}
def oi.form {P w x o}(h:oi P w x o):∃g a,x=.func (.func g) #[] a:=by obtain⟨g,a,h,_⟩:=h;exact⟨g,a,h⟩
def amY (P w l x o)(q:nG P w)(p:Left P w l)(m:oi P w x o)(r:bS [61] l=Y):af C 213 #[aa<|K ⟨P,0,O⟩,x] w λi w'=>pN P w (iq o V V l.tail) i w':=by obtain⟨S,hS⟩:=hidx<|(iq o V V l.tail);rw[hS.o];obtain⟨g,D,rfl⟩:=m.form;have y:=p;have s:=Ag.refl P w;go_enter func213,ntmps213;have e:=(aT (Z<|J w) w).alloc (aO _)<|an #[U ⟨#[61]⟩] 9;have k:=take_one P (Z<|J w) _ l [61] (y.then e)<|bx w #[U ⟨#[61]⟩] 9;rw[r]at k;go_wp2_with fail;refine k.mono ?_;rintro i z ⟨rfl,n,b⟩;replace b:=s.trans<|(Ag.of (P:=P) e<|aO _).trans b;clear k e;have h:=MH P z l.tail _ o V V (q.later b) n<|m.later b;rw[hS.o]at h;go_wp2_with fail;refine h.mono ?_;rintro i F ⟨c,d⟩;clear h;replace c:=b.trans c;cases a:S with|none=>rw[a]at d;obtain rfl:=d;have j:=W a;clear a;unfold jR;go_wp2;go_ret2;refine⟨c,?_⟩;rw[j.o];rfl|some A=>{obtain⟨f,E⟩:=A;rw[a]at d;obtain⟨v,rfl,t,u⟩:=d;have j:=W a;clear a;go_wp2;go_ret2;refine⟨c,?_⟩;rw[j.o];exact⟨_,rfl,t,u⟩}
def Na (P w l x o)(y:nG P w)(u:Left P w l)(r:oi P w x o)(z:bS [61] l=V)(I:bS [33,61] l=Y):af C 213 #[aa<|K ⟨P,0,O⟩,x] w λc w'=>pN P w (iq o Y V l.tail) c w':=by obtain⟨S,hS⟩:=hidx<|(iq o Y V l.tail);rw[hS.o];obtain⟨g,L,rfl⟩:=r.form;have F:=u;have A:=Ag.refl P w;go_enter func213,ntmps213;have i:=(aT (Z<|J w) w).alloc (aO _)<|an #[U ⟨#[61]⟩] 9;have p:=take_one P (Z<|J w) _ l [61] (F.then i)<|bx w #[U ⟨#[61]⟩] 9;rw[z]at p;go_wp2_with fail;refine p.mono ?_;rintro c h ⟨rfl,t,k⟩;replace k:=A.trans<|(Ag.of (P:=P) i<|aO _).trans k;clear p i;have j:=(aT (Z<|J h) h).alloc (aO _)<|an #[U ⟨#[33,61]⟩] 9;have q:=take_one P (Z<|J h) _ l [33,61] (t.then j)<|bx h #[U ⟨#[33,61]⟩] 9;rw[I]at q;go_wp2_with fail;refine q.mono ?_;rintro c G ⟨rfl,s,b⟩;replace b:=k.trans<|(Ag.of (P:=P) j<|aO _).trans b;clear q j;have m:=MH P G l.tail _ o Y V (y.later b) s<|r.later b;rw[hS.o]at m;go_wp2_with fail;refine m.mono ?_;rintro c Q ⟨d,e⟩;clear m;replace d:=b.trans d;cases a:S with|none=>rw[a]at e;obtain rfl:=e;have n:=W a;clear a;unfold jR;go_wp2;go_ret2;refine⟨d,?_⟩;rw[n.o];rfl|some H=>{obtain⟨f,M⟩:=H;rw[a]at e;obtain⟨v,rfl,D,E⟩:=e;have n:=W a;clear a;go_wp2;go_ret2;refine⟨d,?_⟩;rw[n.o];exact⟨_,rfl,D,E⟩}
def amV (P w l x o)(F:nG P w)(E:Left P w l)(y:oi P w x o)(G:bS [61] l=V)(T:bS [33,61] l=V)(z:bS [105,115] l=Y):af C 213 #[aa<|K ⟨P,0,O⟩,x] w λc w'=>pN P w (Pr.cS o l.tail) c w':=by obtain⟨S,hS⟩:=hidx<|(Pr.cS o l.tail);rw[hS.o];obtain⟨g,W,rfl⟩:=y.form;have M:=E;have H:=Ag.refl P w;go_enter func213,ntmps213;have j:=(aT (Z<|J w) w).alloc (aO _)<|an #[U ⟨#[61]⟩] 9;have s:=take_one P (Z<|J w) _ l [61] (M.then j)<|bx w #[U ⟨#[61]⟩] 9;rw[G]at s;go_wp2_with fail;refine s.mono ?_;rintro c h ⟨rfl,D,n⟩;replace n:=H.trans<|(Ag.of (P:=P) j<|aO _).trans n;clear s j;have k:=(aT (Z<|J h) h).alloc (aO _)<|an #[U ⟨#[33,61]⟩] 9;have t:=take_one P (Z<|J h) _ l [33,61] (D.then k)<|bx h #[U ⟨#[33,61]⟩] 9;rw[T]at t;go_wp2_with fail;refine t.mono ?_;rintro c i ⟨rfl,A,p⟩;replace p:=n.trans<|(Ag.of (P:=P) k<|aO _).trans p;clear t k;have m:=(aT (Z<|J i) i).alloc (aO _)<|an #[U ⟨#[105,115]⟩] 9;have u:=take_one P (Z<|J i) _ l [105,115] (A.then m)<|bx i #[U ⟨#[105,115]⟩] 9;rw[z]at u;go_wp2_with fail;refine u.mono ?_;rintro c w3 ⟨rfl,Q,b⟩;replace b:=p.trans<|(Ag.of (P:=P) m<|aO _).trans b;clear u m;have q:=W0 P w3 l.tail _ o (F.later b) Q<|y.later b;rw[hS.o]at q;go_wp2_with fail;refine q.mono ?_;rintro c w9 ⟨d,e⟩;clear q;replace d:=b.trans d;cases a:S with|none=>rw[a]at e;obtain rfl:=e;have r:=aK a;clear a;unfold jR;go_wp2;go_ret2;refine⟨d,?_⟩;rw[r.o];rfl|some R=>{obtain⟨f,X⟩:=R;rw[a]at e;obtain⟨v,rfl,I,L⟩:=e;have r:=aK a;clear a;go_wp2;go_ret2;refine⟨d,?_⟩;rw[r.o];exact⟨_,rfl,I,L⟩}
def amX (P w l x o)(W:nG P w)(T:Left P w l)(H:oi P w x o)(X:bS [61] l=V)(zE:bS [33,61] l=V)(I:bS [105,115] l=V)(M:bS [105,110] (gW (bS [110,111,116] l) l)=Y):af C 213 #[aa<|K ⟨P,0,O⟩,x] w λa w'=>pN P w (iq o (bS [110,111,116] l) V (gW (bS [110,111,116] l) l).tail) a w':=by obtain⟨S,hS⟩:=hidx<|(iq o (bS [110,111,116] l) V (gW (bS [110,111,116] l) l).tail);rw[hS.o];obtain⟨g,lb,rfl⟩:=H.form;have ad:=T;have ab:=Ag.refl P w;go_enter func213,ntmps213;have k:=(aT (Z<|J w) w).alloc (aO _)<|an #[U ⟨#[61]⟩] 9;have A:=take_one P (Z<|J w) _ l [61] (ad.then k)<|bx w #[U ⟨#[61]⟩] 9;rw[X]at A;go_wp2_with fail;refine A.mono ?_;rintro a h ⟨rfl,R,p⟩;replace p:=ab.trans<|(Ag.of (P:=P) k<|aO _).trans p;clear A k;have m:=(aT (Z<|J h) h).alloc (aO _)<|an #[U ⟨#[33,61]⟩] 9;have D:=take_one P (Z<|J h) _ l [33,61] (R.then m)<|bx h #[U ⟨#[33,61]⟩] 9;rw[zE]at D;go_wp2_with fail;refine D.mono ?_;rintro a i ⟨rfl,Q,q⟩;replace q:=p.trans<|(Ag.of (P:=P) m<|aO _).trans q;clear D m;have n:=(aT (Z<|J i) i).alloc (aO _)<|an #[U ⟨#[105,115]⟩] 9;have E:=take_one P (Z<|J i) _ l [105,115] (Q.then n)<|bx i #[U ⟨#[105,115]⟩] 9;rw[I]at E;go_wp2_with fail;refine E.mono ?_;rintro a w3 ⟨rfl,kg,r⟩;replace r:=q.trans<|(Ag.of (P:=P) n<|aO _).trans r;clear E n;have t:=(aT (Z<|J w3) w3).alloc (aO _)<|an #[U ⟨#[110,111,116]⟩] 9;have G:=take_one P (Z<|J w3) _ l [110,111,116] (kg.then t)<|bx w3 #[U ⟨#[110,111,116]⟩] 9;go_wp2_with fail;refine G.mono ?_;rintro a j ⟨rfl,sY,y⟩;replace y:=r.trans<|(Ag.of (P:=P) t<|aO _).trans y;clear G t;have s:=(aT (Z<|J j) j).alloc (aO _)<|an #[U ⟨#[105,110]⟩] 9;have F:=take_one P (Z<|J j) _ (gW (bS [110,111,116] l) l) [105,110] (sY.then s)<|bx j #[U ⟨#[105,110]⟩] 9;rw[M]at F;go_wp2_with fail;refine F.mono ?_;rintro a w5 ⟨rfl,L,c⟩;replace c:=y.trans<|(Ag.of (P:=P) s<|aO _).trans c;clear F s;have u:=MH P w5 (gW (bS [110,111,116] l) l).tail _ o (bS [110,111,116] l) V (W.later c) L<|H.later c;rw[hS.o]at u;go_wp2_with fail;refine u.mono ?_;rintro a w9 ⟨d,e⟩;clear u;replace d:=c.trans d;cases b:S with|none=>rw[b]at e;obtain rfl:=e;have z:=aK b;clear b;unfold jR;go_wp2;go_ret2;refine⟨d,?_⟩;rw[z.o];rfl|some ao=>{obtain⟨f,aq⟩:=ao;rw[b]at e;obtain⟨v,rfl,hc,hl⟩:=e;have z:=aK b;clear b;go_wp2;go_ret2;refine⟨d,?_⟩;rw[z.o];exact⟨_,rfl,hc,hl⟩}
def amS (P w l x o)(hX:nG P w)(hL:Left P w l)(Q:oi P w x o)(ab:bS [61] l=V)(zE:bS [33,61] l=V)(R:bS [105,115] l=V)(W:bS [105,110] (gW (bS [110,111,116] l) l)=V)(X:bS [119,105,116,104,105,110] (gW (bS [110,111,116] l) l)=Y):af C 213 #[aa<|K ⟨P,0,O⟩,x] w λa w'=>pN P w (iq o (bS [110,111,116] l) Y (gW (bS [110,111,116] l) l).tail) a w':=by obtain⟨S,hS⟩:=hidx<|(iq o (bS [110,111,116] l) Y (gW (bS [110,111,116] l) l).tail);rw[hS.o];obtain⟨g,lb,rfl⟩:=Q.form;have ao:=hL;have ad:=Ag.refl P w;go_enter func213,ntmps213;have n:=(aT (Z<|J w) w).alloc (aO _)<|an #[U ⟨#[61]⟩] 9;have G:=take_one P (Z<|J w) _ l [61] (ao.then n)<|bx w #[U ⟨#[61]⟩] 9;rw[ab]at G;go_wp2_with fail;refine G.mono ?_;rintro a h ⟨rfl,gG,r⟩;replace r:=ad.trans<|(Ag.of (P:=P) n<|aO _).trans r;clear G n;have p:=(aT (Z<|J h) h).alloc (aO _)<|an #[U ⟨#[33,61]⟩] 9;have H:=take_one P (Z<|J h) _ l [33,61] (gG.then p)<|bx h #[U ⟨#[33,61]⟩] 9;rw[zE]at H;go_wp2_with fail;refine H.mono ?_;rintro a i ⟨rfl,cG,s⟩;replace s:=r.trans<|(Ag.of (P:=P) p<|aO _).trans s;clear H p;have q:=(aT (Z<|J i) i).alloc (aO _)<|an #[U ⟨#[105,115]⟩] 9;have I:=take_one P (Z<|J i) _ l [105,115] (cG.then q)<|bx i #[U ⟨#[105,115]⟩] 9;rw[R]at I;go_wp2_with fail;refine I.mono ?_;rintro a w3 ⟨rfl,kg,t⟩;replace t:=s.trans<|(Ag.of (P:=P) q<|aO _).trans t;clear I q;have y:=(aT (Z<|J w3) w3).alloc (aO _)<|an #[U ⟨#[110,111,116]⟩] 9;have M:=take_one P (Z<|J w3) _ l [110,111,116] (kg.then y)<|bx w3 #[U ⟨#[110,111,116]⟩] 9;go_wp2_with fail;refine M.mono ?_;rintro a j ⟨rfl,sY,D⟩;replace D:=t.trans<|(Ag.of (P:=P) y<|aO _).trans D;clear M y;have u:=(aT (Z<|J j) j).alloc (aO _)<|an #[U ⟨#[105,110]⟩] 9;have L:=take_one P (Z<|J j) _ (gW (bS [110,111,116] l) l) [105,110] (sY.then u)<|bx j #[U ⟨#[105,110]⟩] 9;rw[W]at L;go_wp2_with fail;refine L.mono ?_;rintro a k ⟨rfl,T,E⟩;replace E:=D.trans<|(Ag.of (P:=P) u<|aO _).trans E;clear L u;have z:=(aT (Z<|J k) k).alloc (aO _)<|an #[U ⟨#[119,105,116,104,105,110]⟩] 9;have m:=take_one P (Z<|J k) _ (gW (bS [110,111,116] l) l) [119,105,116,104,105,110] (T.then z)<|bx k #[U ⟨#[119,105,116,104,105,110]⟩] 9;rw[X]at m;go_wp2_with fail;refine m.mono ?_;rintro a w6 ⟨rfl,aq,c⟩;replace c:=E.trans<|(Ag.of (P:=P) z<|aO _).trans c;clear m z;have A:=MH P w6 (gW (bS [110,111,116] l) l).tail _ o (bS [110,111,116] l) Y (hX.later c) aq<|Q.later c;rw[hS.o]at A;go_wp2_with fail;refine A.mono ?_;rintro a w9 ⟨d,e⟩;clear A;replace d:=c.trans d;cases b:S with|none=>rw[b]at e;obtain rfl:=e;have F:=aK b;clear b;unfold jR;go_wp2;go_ret2;refine⟨d,?_⟩;rw[F.o];rfl|some ar=>{obtain⟨f,au⟩:=ar;rw[b]at e;obtain⟨v,rfl,hc,hl⟩:=e;have F:=aK b;clear b;go_wp2;go_ret2;refine⟨d,?_⟩;rw[F.o];exact⟨_,rfl,hc,hl⟩}
def amU (P w l x o)(_hX:nG P w)(M:Left P w l)(T:oi P w x o)(Q:bS [61] l=V)(Y:bS [33,61] l=V)(E:bS [105,115] l=V)(G:bS [105,110] (gW (bS [110,111,116] l) l)=V)(H:bS [119,105,116,104,105,110] (gW (bS [110,111,116] l) l)=V):af C 213 #[aa<|K ⟨P,0,O⟩,x] w λa w'=>pN P w (O) a w':=by obtain⟨g,lb,rfl⟩:=T.form;have S:=M;have R:=Ag.refl P w;go_enter func213,ntmps213;have h:=(aT (Z<|J w) w).alloc (aO _)<|an #[U ⟨#[61]⟩] 9;have v:=take_one P (Z<|J w) _ l [61] (S.then h)<|bx w #[U ⟨#[61]⟩] 9;rw[Q]at v;go_wp2_with fail;refine v.mono ?_;rintro a b ⟨rfl,L,k⟩;replace k:=R.trans<|(Ag.of (P:=P) h<|aO _).trans k;clear v h;have i:=(aT (Z<|J b) b).alloc (aO _)<|an #[U ⟨#[33,61]⟩] 9;have y:=take_one P (Z<|J b) _ l [33,61] (L.then i)<|bx b #[U ⟨#[33,61]⟩] 9;rw[Y]at y;go_wp2_with fail;refine y.mono ?_;rintro a c ⟨rfl,I,m⟩;replace m:=k.trans<|(Ag.of (P:=P) i<|aO _).trans m;clear y i;have j:=(aT (Z<|J c) c).alloc (aO _)<|an #[U ⟨#[105,115]⟩] 9;have z:=take_one P (Z<|J c) _ l [105,115] (I.then j)<|bx c #[U ⟨#[105,115]⟩] 9;rw[E]at z;go_wp2_with fail;refine z.mono ?_;rintro a w3 ⟨rfl,W,n⟩;replace n:=m.trans<|(Ag.of (P:=P) j<|aO _).trans n;clear z j;have q:=(aT (Z<|J w3) w3).alloc (aO _)<|an #[U ⟨#[110,111,116]⟩] 9;have D:=take_one P (Z<|J w3) _ l [110,111,116] (W.then q)<|bx w3 #[U ⟨#[110,111,116]⟩] 9;go_wp2_with fail;refine D.mono ?_;rintro a d ⟨rfl,X,s⟩;replace s:=n.trans<|(Ag.of (P:=P) q<|aO _).trans s;clear D q;have p:=(aT (Z<|J d) d).alloc (aO _)<|an #[U ⟨#[105,110]⟩] 9;have A:=take_one P (Z<|J d) _ (gW (bS [110,111,116] l) l) [105,110] (X.then p)<|bx d #[U ⟨#[105,110]⟩] 9;rw[G]at A;go_wp2_with fail;refine A.mono ?_;rintro a e ⟨rfl,F,t⟩;replace t:=s.trans<|(Ag.of (P:=P) p<|aO _).trans t;clear A p;have r:=(aT (Z<|J e) e).alloc (aO _)<|an #[U ⟨#[119,105,116,104,105,110]⟩] 9;have f:=take_one P (Z<|J e) _ (gW (bS [110,111,116] l) l) [119,105,116,104,105,110] (F.then r)<|bx e #[U ⟨#[119,105,116,104,105,110]⟩] 9;rw[H]at f;go_wp2_with fail;refine f.mono ?_;rintro a w6 ⟨rfl,ab,u⟩;replace u:=t.trans<|(Ag.of (P:=P) r<|aO _).trans u;clear f r;go_wp2;go_ret2;exact⟨u,rfl⟩
def amT (o)(l:List H):ej o l=if bS [61] l then iq o V V l.tail else if bS [33,61] l then iq o Y V l.tail else if bS [105,115] l then Pr.cS o l.tail else if bS [105,110] (gW (bS [110,111,116] l) l)then iq o (bS [110,111,116] l) V (gW (bS [110,111,116] l) l).tail else if bS [119,105,116,104,105,110] (gW (bS [110,111,116] l) l)then iq o (bS [110,111,116] l) Y (gW (bS [110,111,116] l) l).tail else O:=by cases l with|nil=>rfl|cons t l=>{by_cases b:t= [61];{simp[ej,bS,b]};by_cases c:t= [33,61];{simp[ej,bS,c]};by_cases d:t= [105,115];{simp[ej,bS,d]};by_cases a:t= [110,111,116];{cases l with|nil=>simp[ej,bS,a,gW,oF]|cons e l=>{simp[ej,bS,a,gW,oF]}};{simp[ej,bS,b,c,d,a,gW,oF]}}
def tm (P w l x o)(c:nG P w)(b:Left P w l)(d:oi P w x o):af C 213 #[aa<|K ⟨P,0,O⟩,x] w λi w'=>pN P w (ej o l) i w':=by rw[amT];cases a:bS [61] l with|true=>exact amY P w l x o c b d a|false=>{cases e:bS [33,61] l with|true=>exact Na P w l x o c b d a e|false=>{cases f:bS [105,115] l with|true=>exact amV P w l x o c b d a e f|false=>{cases g:bS [105,110] (gW (bS [110,111,116] l) l)with|true=>exact amX P w l x o c b d a e f g|false=>{cases h:bS [119,105,116,104,105,110] (gW (bS [110,111,116] l) l)with|true=>exact amS P w l x o c b d a e f g h|false=>{exact amU P w l x o c b d a e f g h}}}}}
def aoQ (P w d t){a rs b}(h:P.underlying t=K (.func a rs b)):(Op.equalIn (d+1) t .nilFunc .nilFunc).run P w=.ok Y w:=by simp[Op.equalIn,KX h]
def aoR (P w d t){c rs e}(h:P.underlying t=K (.func c rs e))(f a b):(Op.equalIn (d+1) t (.func f a b) .nilFunc).run P w=.ok V w:=by simp[Op.equalIn,KX h]
def aoW (w):(binOp .eql 366 .nilFunc .nilFunc).run C w=.ok (Q Y) w:=by have:(Op.equal 366 .nilFunc .nilFunc).run C w=.ok Y w:=aoQ C w 9999 _ underlying366;simp only[binOp];simp[this]
def aoX (w f a b):(binOp .eql 366 (.func f a b) .nilFunc).run C w=.ok (Q V) w:=by have:(Op.equal 366 (.func f a b) .nilFunc).run C w=.ok V w:=aoR C w 9999 _ underlying366 f a b;simp only[binOp];simp[this]
def ah2 (l:List H)(h:ly (l.headD [])=O):jb l=O:=by cases l with|nil=>rfl|cons t l=>{simp only[GV]at h;simp[jb,h]}
def ah1 (l:List H)(o)(h:ly (l.headD [])=K o)(a:(bS [109,111,100] l.tail||bS [37] l.tail)=V):jb l=ej o l.tail:=by cases l with|nil=>cases h|cons t l=>{simp only[GV]at h;simp only[As]at a⊢;cases l with|nil=>simp[jb,h,mB,ej]|cons b l=>{simp only[bS,Py,G2]at a;simp[jb,h,mB,a.1,a.2]}}
def ahZ (l:List H)(o)(h:ly (l.headD [])=K o)(a:(bS [109,111,100] l.tail||bS [37] l.tail)=Y):jb l=fj (λb d=>if b=0 then O else ej (zl o b) d) l.tail.tail:=by cases l with|nil=>cases h|cons t l=>{simp only[GV]at h;simp only[As]at a⊢;cases l with|nil=>cases a|cons c l=>{have:c= [109,111,100]\/c= [37]:=by{simpa[bS]using a};simp only[jb,h,mB,this,eU,As]}}
def ahY (P w l)(H:nG P w)(hL:Left P w l):af C 196 #[aa<|K ⟨P,0,O⟩] w λh w'=>pN P w (jb l) h w':=by obtain⟨S,hS⟩:=hidx<|jb l;rw[hS.o];have G:=Mt P w l hL;obtain⟨t,r⟩:=hidx<|l.headD [];rw[r.o]at G;go_enter func196,ntmps196;go_wp2_with fail;refine G.mono ?_;rintro h w1 ⟨rfl,gG,R⟩;clear G;go_wp2_with fail;refine(ajw t _).mono ?_;rintro h s ⟨rfl,rfl⟩;cases n:ly t with|none=>{rw[aju t n];have c:=aK (hS.o.symm.trans<|ah2 l (by rw[r.o];exact n));clear n r;have ad:=aoW;go_wp2;go_ret2;refine⟨R,?_⟩;rw[c.o];rfl}|some o=>{have hx:=ajt t o n P s;generalize oW t=x at*;obtain⟨g,lb,rfl⟩:=hx.form;have ao:D<|ly (l.headD [])=K o:=aK (by rw[r.o];exact n);clear n r;obtain⟨e,q⟩:=hidx<|l.tail;rw[q.o]at gG;have I:=(aT (Z<|J s) s).alloc (aO _)<|an #[U ⟨#[109,111,100]⟩,U ⟨#[37]⟩] 9;have ad:=aoX;have X:=Br P (Z<|J s) _ e [109,111,100] [37] (gG.then I)<|bx s #[U ⟨#[109,111,100]⟩,U ⟨#[37]⟩] 9;go_wp2_with fail;refine X.mono ?_;rintro h w3 ⟨rfl,A,y⟩;clear ad;replace y:=(Ag.of (P:=P) I<|aO _).trans y;clear X I;have aq:=hx.later y;have E:=R.trans y;cases m:(bS [109,111,100] e||bS [37] e)with|false=>{rw[m]at A;have k:D<|S=ej o e:=by{show _=_;rw[<-hS.o,<-q.o];exact ah1 l o ao.o (by rw[q.o];exact m)};have j:=tm P w3 e _ o (H.later E) A aq;rw[<-k.o]at j;clear k m;go_wp2_with fail;refine j.mono ?_;rintro h w9 ⟨d,b⟩;clear j;replace d:=E.trans d;cases a:S with|none=>rw[a]at b;obtain rfl:=b;have c:=aK a;clear a;unfold jR;go_wp2;go_ret2;refine⟨d,?_⟩;rw[c.o];rfl|some u=>{obtain⟨f,p⟩:=u;rw[a]at b;obtain⟨v,rfl,L,M⟩:=b;have c:=aK a;clear a;go_wp2;go_ret2;refine⟨d,?_⟩;rw[c.o];exact⟨_,rfl,L,M⟩}}|true=>{rw[m]at A;have au:Left P w3 e.tail:=A;have k:D<|S=fj (λi p=>if i=0 then O else ej (zl o i) p) e.tail:=by{show _=_;rw[<-hS.o,<-q.o];exact ahZ l o ao.o (by rw[q.o];exact m)};clear m;have cv:=LB P w3 e.tail (H.later E) au;go_wp2_with fail;refine cv.mono ?_;rintro h w4 ⟨dZ,b⟩;clear cv;have F:=E.trans dZ;cases a:dy e.tail with|none=>{rw[a]at b;obtain rfl:=b;have c:D<|S=O:=aK (by rw[k.o];simp[fj,a]);unfold jR;go_wp2;go_ret2;refine⟨F,?_⟩;rw[c.o];rfl}|some u=>{obtain⟨i,p⟩:=u;rw[a]at b;obtain⟨rfl,sY,av⟩:=b;by_cases z:i=0;{have ar:((i:Int)==0)=Y:=by{rw[ef];omega};have c:D<|S=O:=aK (by rw[k.o];simp[fj,a,z]);clear z;go_wp2;go_ret2;refine⟨F,?_⟩;rw[c.o];rfl};{have ar:((i:Int)==0)=V:=eQ;have N:D<|S=ej (zl o i) p:=aK (by rw[k.o];simp[fj,a,z]);have W:=PP P w4 _ o i aJ av sY.lt<|aq.later dZ;clear z k;go_wp2_with fail;refine W.mono ?_;rintro h w5 ⟨⟨v5,rfl,Q⟩,T⟩;clear W;have ab:=F.then T;obtain⟨g5,aw,rfl⟩:=Q.form;have j:=tm P w5 p _ _ (H.later ab) (sY.then T) Q;rw[<-N.o]at j;clear N;go_wp2_with fail;refine j.mono ?_;rintro h w9 ⟨d,b⟩;clear j;replace d:=ab.trans d;cases a:S with|none=>rw[a]at b;obtain rfl:=b;have c:=aK a;clear a;unfold jR;go_wp2;go_ret2;refine⟨d,?_⟩;rw[c.o];rfl|some u=>{obtain⟨f,p⟩:=u;rw[a]at b;obtain⟨v,rfl,L,M⟩:=b;have c:=aK a;clear a;go_wp2;go_ret2;refine⟨d,?_⟩;rw[c.o];exact⟨_,rfl,L,M⟩}}}}}
def ah0 (l:List H)(f)(r:List H)(h:jb l=K (f,r)):G r<=G l:=by obtain⟨p,a,_⟩:=Uk.sound l f r h;rw[a];simp
def arB (l:List H)(f)(r:List H)(h:zV l=K (f,r)):G r<=G l:=by obtain⟨p,a,_⟩:=tq.sound l f r h;rw[a];simp
def ao7:Enters 196:=lJ func196 x rfl
def apo:Enters 179:=lJ func179 x rfl
def tD (a):a++(#[]:Array N)=a:=z
def arD (P w l)(i:nG P w)(h:Left P w l):af C 179 #[aa<|K ⟨P,0,O⟩] w λb w'=>pN P w (zV l) b w':=by have d:=Ra P w l (.func (.func 196) #[aa<|K ⟨P,0,O⟩] #[]) jb [97,110,100] 197 uE SI (FZ P) ah0 i h ⟨_,_,_,rfl,ao7,λW n p _ m=>by rw[tD];exact ahY P W n p m⟩;change af _ _ _ _ λb w'=>pN P w (zV l) b w' at d;generalize zV l=S at*;go_enter func179,ntmps179;go_wp2_with fail;refine d.mono ?_;rintro b s ⟨g,c⟩;clear d;cases a:S with|none=>rw[a]at c;obtain rfl:=c;have e:=aK a;clear a;unfold jR;go_wp2;go_ret2;refine⟨g,?_⟩;rw[e.o];rfl|some q=>{obtain⟨f,r⟩:=q;rw[a]at c;obtain⟨v,rfl,j,k⟩:=c;have e:=aK a;clear a;go_wp2;go_ret2;refine⟨g,?_⟩;rw[e.o];exact⟨_,rfl,j,k⟩}
def ajo (P w l)(i:nG P w)(h:Left P w l):af C 159 #[aa<|K ⟨P,0,O⟩] w λb w'=>pN P w (CR l) b w':=by have d:=Ra P w l (.func (.func 179) #[aa<|K ⟨P,0,O⟩] #[]) zV [111,114] 180 nS nn (Z_ P) arB i h ⟨_,_,_,rfl,apo,λW n p _ m=>by rw[tD];exact arD P W n p m⟩;change af _ _ _ _ λb w'=>pN P w (CR l) b w' at d;generalize CR l=S at*;go_enter func159,ntmps159;go_wp2_with fail;refine d.mono ?_;rintro b s ⟨g,c⟩;clear d;cases a:S with|none=>rw[a]at c;obtain rfl:=c;have e:=aK a;clear a;unfold jR;go_wp2;go_ret2;refine⟨g,?_⟩;rw[e.o];rfl|some q=>{obtain⟨f,r⟩:=q;rw[a]at c;obtain⟨v,rfl,j,k⟩:=c;have e:=aK a;clear a;go_wp2;go_ret2;refine⟨g,?_⟩;rw[e.o];exact⟨_,rfl,j,k⟩}
end
end Go.Proofs.YtaepcfidpekflabGreatDoor
