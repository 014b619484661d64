import Derived.Test.YtaepcfidpekflabGreatDoorU00
import Derived.Test.YtaepcfidpekflabGreatDoorU18
import Derived.SizedLaws
import Derived.Deep.Strs
import Derived.ProofKit
import Derived.OpenShut
import Derived.ShutString
import Derived.ChangeSlices
import Derived.Deep.DeepHandedRow
import Derived.LaidLaws
open Array renaming size->Z
open Bool renaming false->V,true->Y
open Go renaming Calls->af,Value->N,World->B
open Go.Ending renaming returned->ae
open Go.Proofs.Tryz renaming prog->C
open Go.RowKit renaming Below->X
open Go.Value renaming string->U
open Go.World renaming cell?->ac,heap->J
open List renaming length->G,toArray->E
open Option renaming none->O,some->K
set_option maxRecDepth 100000
set_option maxHeartbeats 0
set_option linter.all false
namespace Go.Proofs.YtaepcfidpekflabGreatDoor
namespace Sv
open ChangeAt ChangeShapes Go.Deep RowKit Vr WideShapes
open Go.ChangeMaps (open_string shut_string)
def uu:C.cellsOf 9=1:=x
def aqv:C.bytesOf 9=16:=x
def uv {w:B}{p:Addr}{v:N}(h:ac w p=K v):p.block<Z (J w):=by rcases dM p.block (Z<|J w) with a|a;{exact a};{simp[World.cell?,qI a]at h}
def Zq (a:ByteArray):a=⟨E a.data.toList⟩:=by cases a;simp
def ad4 {H:Type}{P:Program}{e:TypeId}{d:DataW H}{n:Nat}:∀{a:List<|DataW H},d∈a->n∈d.weights P e->n∈DataW.weightsAll P e a:=by intro a;induction a with|nil=>intro h;cases h|cons x f c=>{intro h b;simp only[DataW.weightsAll,dU];rcases cL.1 h with rfl|h;{exact .inl b};{exact .inr<|c h b}}
def RH {H:Type}{enc:TypeId×N->H}{W:B}{base:Nat}{v:N}{d:DataW H}{p:List MemPlace}(Q:Value.okWide C W .any base 22 v)(h:DataW.Trod enc C W 0 (λ_=>Y) Y 22 v d p):∃r:List asq,ph W v r/\((∀n∈d.weights C 22,n<=reachBytes)->G r<2^47/\∀t∈r,G t<2^47)/\∀f,X (Z<|J W) W f->DataW.Trod enc C f 0 (λb=>decide (b<Z (J W))) Y 22 v d p:=by obtain⟨S,len,l,rfl⟩:=okWide_slice Tryz.underlying22 Q;obtain⟨U,K⟩:=h;rcases open_strs Tryz.underlying22 Tryz.underlying9 uu K with⟨g,j⟩|⟨a,V,T,ab,c,g,_,x,M,y,j,e⟩;{simp[Value.cells]at g;obtain⟨rfl,rfl,rfl⟩:=g;simp only[qG]at j;obtain⟨rfl,rfl⟩:=j;exact⟨[],.inl ⟨_,_,rfl,rfl⟩,λ_=>⟨aM,λt o=>by cases o⟩,λf _=>shut_slice_nil Tryz.underlying22⟩};{simp[Value.cells]at g;obtain⟨rfl,rfl,rfl⟩:=g;simp only[eU]at y;have D:=y.symm;subst D;simp only[qG]at j;obtain⟨rfl,rfl⟩:=j;refine⟨(List.range len).map λi=>(c i).data.toList,?_,λA=>⟨?_,λt o=>?_⟩,λf F=>?_⟩;{by_cases L:len=0;{subst L;exact .inl ⟨_,_,rfl,rfl⟩};{obtain⟨b,off,s⟩:=a;have k:s=O:=by{simpa[Addr.add]using World.cell?_spot (e 0 aJ).1};subst k;refine .inr ⟨b,off,l,aN,by simpa using x,?_,λq u=>?_⟩;{have:=uv (e 0 aJ).1;rwa[block_add]at this};{simp only[lU,P3]at u;rw[<-add_plain,(e q aJ).1];have E:((List.range len).map λi=>(c i).data.toList).getD q []=(c q).data.toList:=by{rw[iZ,iR,P0 u];rfl};rw[E,bU,<-Zq]}}};{have:=A ((len+(l-len))*C.bytesOf 9) (by simp[DataW.weights,Tryz.underlying22]);rw[aqv]at this;have R:=reachBytes_lt;simp;omega};{obtain⟨i,hi,rfl⟩:=oy.1 o;have:=A (c i).data.toList.length (by{simp only[DataW.weights,Tryz.underlying22];refine mn _<|xE _<|ad4 (oy.2 ⟨i,hi,rfl⟩) ?_;simp[DataW.weights]});have R:=reachBytes_lt;omega};{by_cases I:l=0;{subst I;obtain rfl:len=0:=aJ;by_cases z:a.block<Z (J W);{have:=shut_slice_whole_cells (enc:=enc) (P:=C) (w:=f) (base:=0) (spare:=λb=>decide (b<Z (J W))) (held:=Y) (a:=a) (t:=22) Tryz.underlying22 (dF _) (aO 0) (dF _) (jF z) (λi=>(.lit (.string (c i).data.toList):DataW H)) (λ_=>[])<|λi hi=>absurd hi<|yT _;simp only[List.range_zero,qF,Nat.sub_zero,G_,PZ,fY]at this;exact this};{have:=shut_slice_cells (enc:=enc) (P:=C) (w:=f) (base:=0) (spare:=λb=>decide (b<Z (J W))) (held:=Y) (a:=a) (t:=22) Tryz.underlying22 (dF _) (aO 0) (dF _) (jq z) (λi=>(.lit (.string (c i).data.toList):DataW H)) (λ_=>[])<|λi hi=>absurd hi<|yT _;simp only[List.range_zero,qF,G_,PZ,fY]at this;exact this}};{obtain⟨b,off,s⟩:=a;have k:s=O:=by{simpa[Addr.add]using World.cell?_spot (e 0 aJ).1};subst k;have m:=uv (e 0 aJ).1;rw[block_add]at m;exact shut_strs_whole Tryz.underlying22 Tryz.underlying9 uu (dF _) x M (jF m) c (λi hi=>by rw[<-add_plain];exact(F.cell (by rw[block_add];exact m)).trans (e i hi).1)<|λi hi=>(e i hi).2}}}
def contract (H:Type)(enc:TypeId×N->H)(W:B)(base:Nat)(args:Array N)(g k:List<|DataW H)(J:List MemPlace)(c:∀(d:Nat) t v,Tryz.f3.params[d]? =K t->args[d]? =K v->Value.okWide C W .any base t v)(o:DataW.Whole enc C Tryz.f3.params.toList Rows.savesSpec.vars V W args.toList g k J)(f:(DataW.weightsEach C (Tryz.f3.params.toList++(OpenSpec.ofChange Rows.savesSpec).bare.plain.varTypes C)<|g++k).all (·<=reachBytes)=Y)(T:laidMetH C Rows.savesRow.laid W)(hS:W.ShapedOpen C):af C 3 args W λj a=>∃v,j=ae v/\Rows.savesSpec.post enc C Tryz.f3 V Y V V W args v a:=by have u:=o;obtain⟨p,q,m,X,rfl,au,av⟩:=o;have l:DataW.TrodAll enc C W 0 (λ_=>Y) Y Tryz.f3.params.toList args.toList g p:=m;rw[Tryz.params3]at l c;obtain⟨x,aw,d0,ad,p0,q0,Z,rfl,rfl,L,r0⟩:=trodAll_cons l;obtain⟨i,ax,d1,ao,p1,q1,rfl,rfl,rfl,M,r1⟩:=trodAll_cons r0;obtain⟨v2,ay,d2,aq,p2,q2,rfl,rfl,rfl,P,r2⟩:=trodAll_cons r1;obtain⟨v3,az,d3,ar,p3,q3,rfl,rfl,rfl,S,r3⟩:=trodAll_cons r2;obtain⟨rfl,rfl,rfl⟩:=trodAll_nil r3;obtain rfl:args=#[x,i,v2,v3]:=Array.toList_inj.1 Z;obtain⟨rfl,rfl⟩:=trodVars_none X;obtain⟨s,rfl,rfl,rfl,hs⟩:=open_string Tryz.underlying9 (c 0 9 x rfl rfl) L;obtain⟨l0,x1,y,x3⟩:=RH (c 1 22 i rfl rfl) M;obtain⟨l1,y1,z,y3⟩:=RH (c 2 22 v2 rfl rfl) P;obtain⟨l2,i1,r,i3⟩:=RH (c 3 22 v3 rfl rfl) S;have A:=y λn b=>by{simpa using List.all_eq_true.1 f n<|PW (j:=1) (t:=22) rfl rfl n b};have D:=z λn b=>by{simpa using List.all_eq_true.1 f n<|PW (j:=2) (t:=22) rfl rfl n b};have G:=r λn b=>by{simpa using List.all_eq_true.1 f n<|PW (j:=3) (t:=22) rfl rfl n b};clear m f y z r;simp only[fY]at u;have ab:(.string s:N)=U ⟨E s.data.toList⟩:=by{rw[<-Zq]};have w:=ahe s.data.toList i v2 v3 l0 l1 l2 W (aq0 T hS) x1 y1 i1 A.1 A.2 D.1 D.2 G.1 G.2;rw[<-ab]at w;refine w.mono λj a ⟨he,e⟩=>?_;subst he;refine⟨_,rfl,_,_,_,[],p1++(p2++p3),[],u,?_,?_,?_,e.frame _,λh=>by cases h⟩;{exact G9 (shut_bool Tryz.underlying4 _) trodAll_mk0};{have:=G9 (shut_string Tryz.underlying9 hs)<|G9 (x3 a e)<|G9 (y3 a e)<|G9 (i3 a e) trodAll_mk0;simp only[fY,im]at this;exact this};{rfl}
def reads (os:Os){H:Type}(enc:TypeId×N->H):∃a,DataW.whole enc C ((Si (World.holding C os Q4) (World.holding C default ⟨#[],#[],[]⟩).heap.size).forCall (λ_ _=>0) ⟨#[],#[U ⟨#[]⟩,.slice O 0 0,.slice O 0 0,.slice O 0 0],[]⟩).memory Tryz.f3.params.toList Rows.savesSpec.vars V #[U ⟨#[]⟩,.slice O 0 0,.slice O 0 0,.slice O 0 0].toList 8=K ([.lit<|.string [],.nil,.nil,.nil],[],a):=
 ⟨[],x⟩
def lifted (os:Os)(m:os.Started)(H:Type)(enc:TypeId×N->H)(a:Stop.Interp):ReturnsInHanded {} Tryz.checked os 3 .any ((OpenSpec.ofChange Rows.savesSpec).preRow enc Tryz.prog Tryz.f3 Rows.savesRow.domain V Rows.savesRow.laid)<|((OpenSpec.ofChange Rows.savesSpec).at a).post enc Tryz.prog Tryz.f3 V Y V V:=by obtain⟨n,j⟩:=reads os enc;refine returnsInHanded_of_row (C:=Tryz.checked) (s:=OpenSpec.ofChange Rows.savesSpec) Vr.own m x Tryz.func3 (witness_row_at (enc:=enc) (C:=Tryz.checked) V (Si (World.holding Tryz.prog os Q4) (World.holding Tryz.prog default ⟨#[],#[],[]⟩).heap.size) #[U ⟨#[]⟩,.slice O 0 0,.slice O 0 0,.slice O 0 0] rfl x x x<|OpenSpec.preRow_of_cond 8 j x (λk h=>by cases h) x<|ak8 os _) ?_;intro W b args d e c i g _ _ l f hS _;exact contract H enc W b args d e c i g l f hS
end Sv
end Go.Proofs.YtaepcfidpekflabGreatDoor
