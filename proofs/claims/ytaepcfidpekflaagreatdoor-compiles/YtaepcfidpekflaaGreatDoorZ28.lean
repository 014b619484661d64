/-
  Several texts in one (Be, Bf, Bg, Bh). By the verifier.
-/
import Derived.Test.YtaepcfidpekflaaGreatDoorZ27
import Derived.Deep.RegionLaw
import Derived.Laws.AppendOwn
import Derived.Test.YtaepcfidpekflaaGreatDoorZ09
namespace Go.Proofs.YtaepcfidpekflaaGreatDoor
open Go.RowKit Go.Maps Go.Shelf Pg
theorem info_fn:(Tryz.prog.info? 245).map (fun i=>(i.zero,i.size,i.bytes)) = some (some .nilFunc,1,8):=by kernel_rfl
theorem nM_br (x:Pg.T) (a:Nat) (m r:Pg.Tr):nM (.br x a m r) = nM m + nM r + 2:=by simp [nM,flat];omega
theorem branch_at {w:World} {S:Nat → Prop} {va:Option Addr} {vn vc k:Nat} {us:List Value} {r:Pg.Tr} (hsl:SlAt w S 4 (.slice va vn vc) us) (hly:Lay w S r (us.drop (k * 4))) (hwf:Wf true r) (hvd:Vd r) (hlt:k < vn):
  ∃ (g:Nat) (F:Pg.T) (V a:Nat) (m r':Pg.Tr) (ya:Option Addr) (yn yc:Nat),va = some ⟨g,0,none⟩ ∧ S g ∧ g < w.heap.size ∧ vn ≤ vc ∧ F.length ≤ 16 ∧ V < 1000000000 ∧ w.cell? ⟨g,k * 4,none⟩ = some (.string ⟨F.toArray⟩) ∧ w.cell? ⟨g,k * 4 + 1,none⟩ = some (.int .u32 (V:Nat)) ∧ w.cell? ⟨g,k * 4 + 2,none⟩ = some (.int .i64 (a:Nat)) ∧ w.cell? ⟨g,k * 4 + 3,none⟩ = some (.slice ya yn yc) ∧ RowAt w S 1 (.slice ya yn yc) m ∧ Lay w S r' (us.drop ((k + 1) * 4)) ∧ Vd m ∧ Wf false m ∧ Vd r' ∧ Wf true r' ∧ nM r = nM m + nM r' + 2:=by
 rcases hsl with ⟨_,h1⟩ | ⟨g,n,c,h1,hg,hgl,h4,h5,h6,hcell⟩
 ·cases h1;omega
 cases h1
 have hdl:(us.drop (k * 4)).length = (vn - k) * 4:=by rw [List.length_drop,h4,Nat.sub_mul]
 obtain ⟨u0,us0,hd0⟩:∃ u0 us0,us.drop (k * 4) = u0 :: us0:=by
  cases e:us.drop (k * 4) with
  | nil=>rw [e] at hdl;simp at hdl;omega
  | cons a b=>exact ⟨_,_,rfl⟩
 rw [hd0] at hly
 obtain ⟨x,a,m,r',v,rest,rfl,rfl,hus,hrow,hly2⟩:=lay_br hly hwf
 rw [hus] at hd0
 have hc4:∀ j u,[Value.string ⟨(selV x).1.toArray⟩,.int .u32 ((selV x).2:Nat),.int .i64 (a:Nat),v][j]? = some u → us[k * 4 + j]? = some u:=fun j u hu=>by
  rw [← List.getElem?_drop,hd0]
  match j,hu with
  | 0,hu=>simpa using hu
  | 1,hu=>simpa using hu
  | 2,hu=>simpa using hu
  | 3,hu=>simpa using hu
  | j + 4,hu=>simp at hu
 have hrest:us.drop ((k + 1) * 4) = rest:=by
  rw [show (k + 1) * 4 = k * 4 + 4 by omega,← List.drop_drop,hd0]
  rfl
 obtain ⟨ya,yn,yc,rfl⟩:∃ ya yn yc,v = .slice ya yn yc:=by
  obtain ⟨ws,h1,_⟩:=hrow
  rcases h1 with ⟨_,h1⟩ | ⟨g,n,c,h1,_⟩
  ·exact ⟨_,_,_,h1⟩
  ·exact ⟨_,_,_,h1⟩
 obtain ⟨hs1,hs2⟩:=selV_bd hvd.1
 exact ⟨g,(selV x).1,(selV x).2,a,m,r',ya,yn,yc,rfl,hg,hgl,h5,hs1,hs2,hcell (k * 4) _ (hc4 0 _ rfl),hcell (k * 4 + 1) _ (hc4 1 _ rfl),hcell (k * 4 + 2) _ (hc4 2 _ rfl),hcell (k * 4 + 3) _ (hc4 3 _ rfl),hrow,by rw [hrest];exact hly2,hvd.2.1,hwf.2.1,hvd.2.2,hwf.2.2,nM_br x a m r'⟩
theorem row_fb {w w':World} {b n k:Nat} {v:Value} {t:Pg.Tr} (h:RowAt w (fun g=>g < b) k v t) (hd:Bd w b n) (hf:Fb b w w'):RowAt w' (fun g=>g < b) k v t:=h.mono hf.size fun g hg _=>⟨(hf.below hd).block g hg,hg⟩
def BdMsg (t:Pg.Tr):Prop:=∀ (b n:Nat) (w:World) (v:Value),Vd t → Wf false t → n + 2000 * nM t ≤ 50000000 → Bd w b n → RowAt w (fun g=>g < b) 1 v t →
 Calls Tryz.prog 133 #[.pointer (some ⟨b,0,none⟩),v] w fun e w'=>e = .returned (.tuple #[]) ∧ ∃ n',n ≤ n' ∧ n' ≤ n + 3 * nM t ∧ Bd w' b n' ∧ Fb b w w'
def BdBrs (t:Pg.Tr):Prop:=∀ (b n:Nat) (w:World) (va:Option Addr) (vn vc:Nat),Vd t → Wf true t → n + 2000 * nM t ≤ 50000000 → Bd w b n → RowAt w (fun g=>g < b) 4 (.slice va vn vc) t →
 Calls Tryz.prog 205 #[.pointer (some ⟨b,0,none⟩),.slice va vn vc] w fun e w'=>∃ M n' k,e = .returned (.map (some M)) ∧ n ≤ n' ∧ n' + vn ≤ n + 3 * nM t ∧ Bd w' b n' ∧ Fb b w w' ∧ Mp w' M k ∧ w.heap.size ≤ M
theorem heap_nw (w:World) (o:Obj):(w.alloc o).heap[w.heap.size]? = some o:=by
 rw [show (w.alloc o).heap = w.heap.push o from rfl]
 simp
theorem int_wf64 (n:Nat) (h:n ≤ 1000000000):(Lit.int .i64 (n:Int)).wf = true:=by
 have h0:IntKind.i64.min = -9223372036854775808:=rfl
 have h1:IntKind.i64.max = 9223372036854775807:=rfl
 simp only [Lit.wf,h0,h1]
 simp
 omega
structure Kx (X:TypeId) (w w':World):Prop where
 size:w.heap.size ≤ w'.heap.size
 cells:∀ (k:Nat) (c:Array Value) (T:TypeId) (f:Nat × Nat),T ≠ X → w.heap[k]? = some (.cells c T f) → w'.heap[k]? = some (.cells c T f)
theorem Kx.bd {X:TypeId} {w w':World} {b n:Nat} (h:Kx X w w') (hd:Bd w b n) (h1:243 ≠ X) (h2:312 ≠ X):Bd w' b n:=by
 refine hd.same fun k hk=>?_
 obtain ⟨v,xs,g1,g2⟩:=hd
 rcases hk with rfl | ⟨u,hu,hg⟩
 ·exact (h.cells _ _ _ _ h1 g1).trans (show w.heap[k]? = _ from g1).symm
 ·rw [g1.cell] at hu
  cases hu
  rcases g2.2 with ⟨g3,_⟩ | ⟨g,cap,cur,g3,g4,g5,_⟩
  ·rw [g3] at hg;cases hg
  ·rw [g3] at hg
   injection hg with hg
   simp at hg
   subst hg
   exact (h.cells _ _ _ _ h2 g5).trans g5.symm
theorem Kx.hs {X:TypeId} {w w':World} {b n n':Nat} {f:Value} (h:Kx X w w') (hs:Hs w b n f) (hd:Bd w' b n') (hn:n ≤ n') (h1:302 ≠ X) (h2:3 ≠ X):Hs w' b n' f:=by
 obtain ⟨p,q,a,g1,g2,g3,g4,g5,g6⟩:=hs
 have k2:=h.cells _ _ _ _ h1 g2
 have k3:=h.cells _ _ _ _ h2 g3
 exact ⟨p,q,a,g1,k2,k3,by omega,not_bo hd k2 (by decide) (by decide),not_bo hd k3 (by decide) (by decide)⟩
theorem Kx.owns {X T:TypeId} {w w':World} {B z n:Nat} {v:Value} {xs:List Value} (h:Kx X w w') (hT:T ≠ X) (ho:w.ownsRow B T z v n xs):w'.ownsRow B T z v n xs:=by
 refine ⟨ho.1,?_⟩
 rcases ho.2 with h2 | ⟨g,cap,cur,hv,hB,hg,h3⟩
 ·exact .inl h2
 ·exact .inr ⟨g,cap,cur,hv,hB,h.cells _ _ _ _ hT hg,h3⟩
theorem Kx.of {X:TypeId} {w w':World} (h:Below w.heap.size w w'):Kx X w w':=⟨h.size,fun k _ _ _ _ hk=>(h.block k (heap_ltO hk)).trans hk⟩
theorem Kx.trans {X:TypeId} {u v w:World} (h:Kx X u v) (k:Kx X v w):Kx X u w:=⟨Nat.le_trans h.size k.size,fun i c T f hT hi=>k.cells i c T f hT (h.cells i c T f hT hi)⟩
theorem Kx.row {X:TypeId} {w w':World} {o:Obj} {B z n:Nat} {v:Value} {xs:List Value} (ho:w.ownsRow B X z v n xs) (hg:(w.alloc o).grownBy w' v.ownBlock):Kx X w w':=by
 refine ⟨by have:=hg.size;simp at this;omega,fun k c T f hT hk=>?_⟩
 have hl:=heap_ltO hk
 refine (hg.block k (by simp;omega) fun e=>?_).trans ((Below.heap_alloc w o k hl).trans hk)
 rcases ho.2 with ⟨g3,_⟩ | ⟨g,cap,cur,g3,g4,g5,_⟩
 ·rw [g3] at e;cases e
 ·rw [g3] at e
  injection e with e
  simp at e
  subst e
  rw [g5] at hk
  cases hk
  exact hT rfl
theorem Kx.map {X:TypeId} {w w':World} {M:Nat} (hm:∃ es c,w.heap[M]? = some (.map es c)) (hg:w.grownBy w' (some M)):Kx X w w':=by
 obtain ⟨es,c0,hm⟩:=hm
 refine ⟨hg.size,fun k c T f hT hk=>(hg.block k (heap_ltO hk) fun e=>?_).trans hk⟩
 injection e with e
 subst e
 rw [hm] at hk
 cases hk
theorem owns_fb {T:TypeId} {w w':World} {b n base z m:Nat} {v:Value} {xs:List Value} (h:w.ownsRow base T z v m xs) (hd:Bd w b n) (hf:Fb b w w') (h1:T ≠ 243) (h2:T ≠ 312):w'.ownsRow base T z v m xs:=by
 refine ⟨h.1,?_⟩
 rcases h.2 with g2 | ⟨g,cap,cur,hv,hB,hg,h3⟩
 ·exact .inl g2
 ·exact .inr ⟨g,cap,cur,hv,hB,(hf.at hg (not_bo hd hg h1 h2)).1,h3⟩
theorem lay_fb {w w':World} {b k:Nat} (hb:Below b w w') {g:Nat} (hg:g < b) {u:Value} (hc:w.cell? ⟨g,k,none⟩ = some u):w'.cell? ⟨g,k,none⟩ = some u:=(hb.cell (p:=⟨g,k,none⟩) hg).trans hc
end Go.Proofs.YtaepcfidpekflaaGreatDoor
namespace Go.Proofs.YtaepcfidpekflaaGreatDoor
open Go.RowKit Go.Maps Go.Shelf Pg
def BrCutB (w wd:World) (b M n1 k X:Nat) (F:Pg.T) (V a:Nat) (y:Value) (e:Value):Prop:=∃ (n2:Nat) (fs:List Value),n1 ≤ n2 ∧ n2 ≤ n1 + 1 ∧ Bd wd b n2 ∧ Fb b w wd ∧ Mp wd M k ∧ wd.ownsRow (M + 1) 245 1 e fs.length fs ∧ (∀ f ∈ fs,Hs wd b n2 f) ∧ fs.length ≤ k + 1 ∧ wd.heap[X]? = some (.cells #[.string ⟨F.toArray⟩,.int .u32 V,.int .i64 a,y] 332 (0,0))
set_option maxHeartbeats 6400000 in
set_option maxRecDepth 100000 in
theorem bbrs_of (bs:Pg.Tr) (hC:∀ m,nM m < nM bs → BdMsg m):BdBrs bs:=by
 intro b n w va vn vc hvd hwf hn hd hrow
 obtain ⟨us,hsl,hlay⟩:=hrow
 have hvn1:vn ≤ 1000:=by
  rcases hsl with ⟨_,h1⟩ | ⟨g,m,c,h1,_,_,_,_,h6,_⟩
  ·cases h1;omega
  ·cases h1;exact h6
 obtain ⟨i0,h01,h02,h03,h04⟩:=info_parts info_fn
 have HI0:Hid (Tryz.prog.info? 245 = some i0 ∧ i0.zero = some .nilFunc ∧ i0.size = 1 ∧ i0.bytes = 8):=⟨h01,h02,h03,h04⟩
 have hmm:=@run_makeMap Tryz.prog
 have HVD:Hid (Vd bs):=hvd
 have HWF:Hid (Wf true bs):=hwf
 have HSL:Hid (SlAt w (fun g=>g < b) 4 (.slice va vn vc) us):=hsl
 have HLY:Hid (Lay w (fun g=>g < b) bs (us.drop (0 * 4))):=by rw [Nat.zero_mul,List.drop_zero];exact hlay
 have HD0:Hid (Bd w b n):=hd
 have hlb:=hd.lt
 obtain ⟨L,HL⟩:∃ L,L = nM bs:=⟨_,rfl⟩
 have HCC:Hid (∀ m,nM m < L → BdMsg m):=by rw [HL];exact hC
 have hL0:nM bs ≤ L:=by omega
 rw [← HL] at hn ⊢
 have law:=sel_keyed
 have HU:Hid (Tryz.prog.underlying 337 = some (.map 330 3)):=Tryz.underlying337
 clear h01 h02 h03 h04 hsl hlay hvd hwf hC HL hd
 go_enter Tryz.func205,Tryz.ntmps205
 go_wp2_with fail
 go_loopw [6,14] (fun e i wr=>∃ (k n1:Nat) (r:Pg.Tr) (fs:List Value) (ea:Option Addr) (en ec:Nat),e = .slice ea en ec ∧ i = .int .i64 k ∧ k ≤ vn ∧ n ≤ n1 ∧ n1 + k + 3 * nM r ≤ n + 3 * L ∧ nM r ≤ L ∧ Hid (Vd r) ∧ Hid (Wf true r) ∧ Hid (Lay w (fun g=>g < b) r (us.drop (k * 4))) ∧ Hid (Bd wr b n1) ∧ Hid (Fb b w wr) ∧ Hid (Mp wr w.heap.size k) ∧ Hid (wr.ownsRow (w.heap.size + 1) 245 1 (.slice ea en ec) fs.length fs) ∧ Hid (∀ f ∈ fs,Hs wr b n1 f) ∧ fs.length ≤ k) (fun _ i _=>vn - (intOf i).toNat)
 case atStart=>
  have hb0:Below w.heap.size w (w.alloc (.map #[] 0)):=allocB _ _
  exact ⟨0,n,bs,[],none,0,0,rfl,rfl,Nat.zero_le _,Nat.le_refl _,by omega,hL0,HVD,HWF,HLY,HD0.out.keep hb0,Fb.of HD0.out hb0,⟨_,World.ownsMap_made (H:=Unit) w Tryz.prog 330 (plainElem Tryz.prog 3)⟩,World.ownsRow_nil _ _ _ _,fun f hf=>(by cases hf),by simp⟩
 case round=>
  clear HVD HWF HLY hL0
  obtain ⟨k,n1,r,fs,ea,en,ec,rfl,rfl,hk,hn1,hnk,hrL,HVD,HWF,HLY,HD,HF,HM,HE,HH,hfs⟩:=hrel
  have hzw:=HF.out.size
  by_cases hlt:k < vn
  ·have hlt':(k:Int) < vn:=by omega
   obtain ⟨g,F,V,a,m,r',ya,yn,yc,rfl,hgb,hgl,hvc,hF,hV,d0,d1,d2,d3,hrow,hly2,vm,wm,vr,wr',hnM⟩:=branch_at HSL.out HLY.out HWF.out HVD.out hlt
   have hbw:Below b w wr:=HF.out.below HD0.out
   have c0:=lay_fb hbw hgb d0
   have c1:=lay_fb hbw hgb d1
   have c2:=lay_fb hbw hgb d2
   have c3:=lay_fb hbw hgb d3
   have HROW:Hid (RowAt w (fun g=>g < b) 1 (.slice ya yn yc) m):=hrow
   have HLY2:Hid (Lay w (fun g=>g < b) r' (us.drop ((k + 1) * 4))):=hly2
   have HVM:Hid (Vd m ∧ Wf false m):=⟨vm,wm⟩
   have HVR:Hid (Vd r'):=vr
   have HWR:Hid (Wf true r'):=wr'
   clear hrow hly2 vm wm vr wr' d0 d1 d2 d3 hbw HLY HVD HWF
   have hba:Below wr.heap.size wr (wr.alloc (.cells #[.string ⟨F.toArray⟩,.int .u32 V,.int .i64 a,.slice ya yn yc] 332)):=allocB _ _
   have HMA:=HM.out.keep hba
   obtain ⟨D,hD⟩:=HMA
   have HDm:Hid ((wr.alloc (.cells #[.string ⟨F.toArray⟩,.int .u32 V,.int .i64 a,.slice ya yn yc] 332)).ownsMap Tryz.prog 330 (plainElem Tryz.prog 3) w.heap.size k D):=hD
   clear hD
   go_upto_if 20 with (at_len;refine wpList_len_own _ rfl _ 337 rfl 330 3 HU.out _ w.heap.size k D rfl HDm.out ?_)
   have hdA:=HD.out.keep hba
   have HBX:Hid ((wr.alloc (.cells #[.string ⟨F.toArray⟩,.int .u32 V,.int .i64 a,.slice ya yn yc] 332)).heap[wr.heap.size]? = some (.cells #[.string ⟨F.toArray⟩,.int .u32 V,.int .i64 a,.slice ya yn yc] 332 (0,0))):=heap_nw wr _
   obtain ⟨WA,HWA⟩:∃ WA,wr.alloc (.cells #[.string ⟨F.toArray⟩,.int .u32 V,.int .i64 a,.slice ya yn yc] 332) = WA:=⟨_,rfl⟩
   rw [HWA] at hba hdA HDm HBX ⊢
   have HDA:Hid (Bd WA b n1):=hdA
   have HFA:Hid (Fb b w WA):=HF.out.trans (Fb.of HD.out hba)
   have HEA:Hid (WA.ownsRow (w.heap.size + 1) 245 1 (.slice ea en ec) fs.length fs):=(Kx.of (X:=0) hba).owns (by decide) HE.out
   have HHA:Hid (∀ f ∈ fs,Hs WA b n1 f):=fun f hf=>(HH.out f hf).fb (Fb.of HD.out hba) (Nat.le_refl _)
   have HMA:Hid (Mp WA w.heap.size k):=HM.out.keep hba
   have hzA:w.heap.size ≤ WA.heap.size:=HFA.out.size
   clear hba hdA HWA HD HF HE HH HM c0 c1 c2 c3
   generalize hsz:Maps.size D = Z
   go_cut [6] (fun e wd=>∃ ea en ec,e = .slice ea en ec ∧ BrCutB w wd b w.heap.size n1 k wr.heap.size F V a (.slice ya yn yc) (.slice ea en ec))
   case first=>
    have kh:=bhold_any b n1 WA HDA.out (by omega)
    have hML:=HMA.out.lt
    by_cases hZ:0 < Z
    ·go_wp2_with (first
      | (go_at_call 204;refine kh.mono ?_;rintro e w3 ⟨f,rfl,hs3,hd3,hf3⟩;have HS3:Hid (Hs w3 b (n1 + 1) f):=hs3;have HD3:Hid (Bd w3 b (n1 + 1)):=hd3;have HF3:Hid (Fb b WA w3):=hf3;obtain ⟨p3,q3,a3,rfl,_⟩:=hs3;have HE3:Hid (w3.ownsRow (w.heap.size + 1) 245 1 (.slice ea en ec) fs.length fs):=owns_fb HEA.out HDA.out hf3 (by decide) (by decide);clear hd3 hf3 kh)
      | (at_builtin;refine wpList_append_own_at _ rfl _ _ 367 rfl (w.heap.size + 1) 245 i0 .nilFunc 1 8 Tryz.underlying367 HI0.out.1 HI0.out.2.1 HI0.out.2.2.1 HI0.out.2.2.2 rfl (by decide) _ fs.length fs rfl (World.ownsRow.alloc HE3.out _) ⟨w3.heap.size,0,none⟩ 1 1 [_] rfl rfl (cell_one_new _ _ _) (by intro u hu;simp at hu;subst hu;rfl) (by unfold maxLen;omega) (by have:=HF3.out.size;omega) (by simp;have:=HF3.out.size;omega) ?_;intro v4 w4 hown4 hgrow4 _ _))
     obtain ⟨a4,c4,rfl⟩:=owns_len hown4
     have kx:=Kx.row HE3.out hgrow4
     have hd4:=kx.bd HD3.out (by decide) (by decide)
     have hz3:=HF3.out.size
     have hb4:Below w.heap.size w3 w4:=((Below.refl _ w3).alloc (by omega) _).grown hgrow4 (by simp;omega) (fun q hq=>by have:=(HE3.out.lt q hq).1;omega)
     go_meet
     refine ⟨_,_,_,rfl,n1 + 1,fs ++ [_],by omega,by omega,hd4,(HFA.out.trans HF3.out).low hb4 hlb,?_,by simpa using hown4,?_,by simp;omega,kx.cells _ _ _ _ (by decide) (HF3.out.at HBX.out (not_bo HDA.out HBX.out (by decide) (by decide))).1⟩
     ·refine (HMA.out.fb HDA.out HF3.out).same ?_
      refine (hgrow4.block _ (by simp;omega) fun e=>?_).trans (Below.heap_alloc w3 _ _ (by omega))
      have:=(HE3.out.lt _ e.symm).1
      omega
     ·intro f hf
      rcases List.mem_append.1 hf with hf | hf
      ·exact kx.hs ((HHA.out f hf).fb HF3.out (n':=n1 + 1) (by omega)) hd4 (Nat.le_refl _) (by decide) (by decide)
      ·rw [List.mem_singleton.1 hf]
       exact kx.hs HS3.out hd4 (Nat.le_refl _) (by decide) (by decide)
    ·go_wp2_with fail
     go_meet
     exact ⟨_,_,_,rfl,n1,fs,by omega,by omega,HDA.out,HFA.out,HMA.out,HEA.out,HHA.out,by omega,HBX.out⟩
   case rest=>
   obtain ⟨ea',en',ec',rfl,n2,fs2,g1,g2,g3,g4,g5,g6,g7,g8,g9⟩:=hcut
   have HDc:Hid (Bd wc b n2):=g3
   have HFc:Hid (Fb b w wc):=g4
   have HEc:Hid (wc.ownsRow (w.heap.size + 1) 245 1 (.slice ea' en' ec') fs2.length fs2):=g6
   have HHc:Hid (∀ f ∈ fs2,Hs wc b n2 f):=g7
   have HXc:Hid (wc.heap[wr.heap.size]? = some (.cells #[.string ⟨F.toArray⟩,.int .u32 V,.int .i64 a,.slice ya yn yc] 332 (0,0))):=g9
   have hkey:=sel_key F V (by omega) (by omega)
   have hMl:=g5.lt
   have hzc:=g4.size
   have hmat:=g5.at
   obtain ⟨D2,hD2⟩:=g5
   obtain ⟨w5,hrun5,hown5,hgrow5⟩:=hD2.drew.update law HU.out (by unfold maxLen;omega) hkey (plainElem_int Tryz.underlying3 (int_wf64 n2 (by omega)))
   have hdr:Below wc.heap.size wc wc.drew:=(Below.refl _ _).drew
   have kx:Kx 0 wc w5:=(Kx.of hdr).trans (Kx.map (by obtain ⟨es,c,h⟩:=hmat;exact ⟨es,c,h⟩) hgrow5)
   have hd5:=kx.bd g3 (by decide) (by decide)
   have hb5:Below w.heap.size wc w5:=⟨hgrow5.os,hgrow5.tape,hgrow5.output,hgrow5.size,fun q hq=>hgrow5.block q (by show q < wc.heap.size;omega) (fun e=>by injection e with e;omega)⟩
   have hf5:Fb b w w5:=g4.low hb5 hlb
   have hx5:=kx.cells _ _ _ _ (by decide) g9
   have hbw5:=hf5.below HD0.out
   have km:=HCC.out m (by omega) b n2 w5 (.slice ya yn yc) HVM.out.1 HVM.out.2 (by omega) hd5 (HROW.out.mono hf5.size fun g hg _=>⟨hbw5.block g hg,hg⟩)
   have e0:wc.cell? ⟨wr.heap.size,0,none⟩ = some (.string ⟨F.toArray⟩):=by simp [World.cell?,g9]
   have e1:wc.cell? ⟨wr.heap.size,1,none⟩ = some (.int .u32 V):=by simp [World.cell?,g9]
   have e3:w5.cell? ⟨wr.heap.size,3,none⟩ = some (.slice ya yn yc):=by simp [World.cell?,hx5]
   have khe:=bhere_any b n2 wc g3
   have khe2:=bhere_any b n2 wc.drew (g3.keep hdr)
   have HK5:Hid (Kx 0 wc w5):=kx
   have HD5:Hid (Bd w5 b n2):=hd5
   have HF5:Hid (Fb b w w5):=hf5
   have HM5:Hid (Mp w5 w.heap.size (k + 1)):=⟨_,hown5⟩
   clear g3 g4 g6 g7 g9 hkey hmat hD2 hown5 hgrow5 hdr kx hd5 hb5 hf5 hx5 hbw5
   go_wp2_with fail
   go_region_with (go_at_call 228;first | (refine khe2.mono ?_;rintro e w' ⟨rfl,rfl⟩) | (refine khe.mono ?_;rintro e w' ⟨rfl,rfl⟩))
   all_goals
    clear khe khe2 hrun5
    go_wp2_with fail
    refine km.mono ?_
    rintro e w6 ⟨rfl,n3,hn3,hn4,hd6,hf6⟩
    have HD6:Hid (Bd w6 b n3):=hd6
    have HF6:Hid (Fb b w w6):=HF5.out.trans hf6
    have HM6:Hid (Mp w6 w.heap.size (k + 1)):=HM5.out.fb HD5.out hf6
    have HE6:Hid (w6.ownsRow (w.heap.size + 1) 245 1 (.slice ea' en' ec') fs2.length fs2):=owns_fb (HK5.out.owns (by decide) HEc.out) HD5.out hf6 (by decide) (by decide)
    have HH6:Hid (∀ f ∈ fs2,Hs w6 b n3 f):=fun f hf=>(HK5.out.hs (HHc.out f hf) HD5.out (Nat.le_refl _) (by decide) (by decide)).fb hf6 hn3
    clear km hd6 hf6 e0 e1 e3
    go_wp2
    go_roundw
    case rel=>exact ⟨k + 1,n3,r',fs2,ea',en',ec',rfl,by go_num,hlt,by omega,by omega,by omega,HVR,HWR,HLY2,HD6,HF6,HM6,HE6,HH6,by omega⟩
    case measure=>simp [intOf];omega
  ·have hlt':¬ (k:Int) < vn:=by omega
   obtain rfl:k = vn:=by omega
   obtain ⟨eb,rfl⟩:∃ eb,en = eb:=⟨_,rfl⟩
   have hen:en = fs.length:=by
    obtain ⟨a',c',h⟩:=owns_len HE.out
    simp only [Value.slice.injEq] at h
    exact h.2.1
   subst hen
   have hnr:0 ≤ nM r:=Nat.zero_le _
   clear HLY HVD HWF HSL HCC
   go_wp2_with fail
   have hF1:n1 + k ≤ n + 3 * L:=by omega
   go_loopw [38] (fun i ws=>∃ j:Nat,i = .int .i64 j ∧ j ≤ fs.length ∧ Hid (Bd ws b n1) ∧ Hid (Fb b w ws) ∧ Hid (Mp ws w.heap.size k) ∧ Hid (ws.ownsRow (w.heap.size + 1) 245 1 (.slice ea fs.length ec) fs.length fs) ∧ Hid (∀ f ∈ fs,Hs ws b n1 f)) (fun i _=>fs.length - (intOf i).toNat)
   case atStart=>exact ⟨0,rfl,Nat.zero_le _,HD,HF,HM,HE,HH⟩
   case round=>
    clear HD HF HM HE HH
    obtain ⟨j,rfl,hj,HD,HF,HM,HE,HH⟩:=hrel
    by_cases hjl:j < fs.length
    ·have hjl':(j:Int) < fs.length:=by omega
     obtain ⟨f,hf⟩:∃ f,fs[j]? = some f:=⟨fs[j],List.getElem?_eq_getElem hjl⟩
     have hs:=HH.out f (List.mem_of_getElem? hf)
     obtain ⟨g,rfl⟩:∃ g,ea = some ⟨g,0,none⟩:=by
      rcases HE.out.2 with ⟨h3,h4⟩ | ⟨g,cap,cur,h3,_⟩
      ·omega
      ·simp only [Value.slice.injEq] at h3
       exact ⟨g,h3.1⟩
     have cg:=HE.out.cellAt j (by omega)
     rw [hf] at cg
     have kh:=bhere_any b n1 _ HD.out
     obtain ⟨cap,hcap,ks⟩:=bset_any b n1 f (.iface 369 (.agg #[.int .i64 n1])) (.inr ⟨_,_,rfl⟩) _ HD.out hs
     obtain ⟨p,q,at_,rfl,_⟩:=hs
     cases hcap
     clear hf
     go_wp2_with (first
      | (go_at_call 228;refine kh.mono ?_;rintro e w' ⟨rfl,rfl⟩)
      | (go_at_call 229;refine ks.mono ?_;rintro e w7 ⟨rfl,hd7,hf7⟩))
     go_roundw
     case rel=>exact ⟨j + 1,by go_num,hjl,hd7,HF.out.trans hf7,HM.out.fb HD.out hf7,owns_fb HE.out HD.out hf7 (by decide) (by decide),fun f hf=>(HH.out f hf).fb hf7 (Nat.le_refl _)⟩
     case measure=>simp [intOf];omega
    ·have hjl':¬ ((j:Int) < fs.length):=by omega
     go_wp2
     go_ret
     exact ⟨w.heap.size,rfl,n1,hn1,hF1,HD.out,HF.out,⟨k,HM.out⟩,Nat.le_refl _⟩
end Go.Proofs.YtaepcfidpekflaaGreatDoor
namespace Go.Proofs.YtaepcfidpekflaaGreatDoor
open Go.RowKit Go.Maps Go.Shelf Pg
theorem info_case:(Tryz.prog.info? 341).map (fun i=>(i.zero,i.size,i.bytes)) = some (some (.agg #[.string ⟨#[]⟩,.int .i64 0]),2,24):=by kernel_rfl
theorem step_append_b {P:Program} {ops:Array Oper} {o:Oper} {a:Act} {w:World} {K:Act → World → Prop} {Q:Exit → Act → World → Prop} {E:Prop} (hg:o.guard = none) (s x:Operand) (t:TypeId)
  (ho:o.op = .call { callee:=.builtin .append,args:=#[s,x],argTypes:=#[t,t] })
  (base:Nat) (e:TypeId) (i:TypeInfo) (z:Value) (size bytes:Nat) (ht:P.underlying t = some (.slice e)) (hi:P.info? e = some i) (hz:i.zero = some z)
  (hsize:i.size = size) (hby:i.bytes = bytes) (hzs:z.cells.size = size) (hsz:0 < size)
  (v:Value) (n:Nat) (xs:List Value) (hs:a.eval s = v) (hown:w.ownsRow base e size v n xs)
  (ad:Addr) (m c:Nat) (news:List Value) (hx:a.eval x = .slice (some ad) m c) (hl:news.length = m * size) (hnews:∀ j u,news[j]? = some u → w.cell? (ad.add j) = some u) (h1:∀ u ∈ news,u.oneCell' = true)
  (h63:n + m ≤ maxLen) (hbytes:(n + m) * bytes ≤ 140737488355328) (hbase:base ≤ w.heap.size)
  (h:∀ v' w',w'.ownsRow base e size v' (n + m) (xs ++ news) → w.grownBy w' v.ownBlock → K (a.put o.dst v') w'):
  if Region.wanted o (yielded ops a.tmps) = true then Oper.wp P o a w K Q else E:=by
 have hw:Region.wanted o (yielded ops a.tmps) = true:=by simp [Region.wanted,hg]
 rw [if_pos hw]
 exact wp_append_own w s x t ho base e i z size bytes ht hi hz hsize hby hzs hsz v n xs hs hown ad m c news hx hl hnews h1 h63 hbytes hbase fun v' w' h2 h3 _=>h v' w' h2 h3
set_option maxHeartbeats 6400000 in
set_option maxRecDepth 100000 in
theorem btext_of (bs:Pg.Tr) (hB:BdBrs bs) (b n:Nat) (w:World) (nm:Pg.T) (a e0:Int) (va:Option Addr) (vn vc:Nat) (hvd:Vd bs) (hwf:Wf true bs) (hn:n + 1 + 2000 * nM bs ≤ 50000000) (hd:Bd w b n) (hrow:RowAt w (fun g=>g < b) 4 (.slice va vn vc) bs):
  Calls Tryz.prog 169 #[.pointer (some ⟨b,0,none⟩),.agg #[.string ⟨nm.toArray⟩,.int .i64 a,.slice va vn vc,.int .i64 e0]] w fun e w'=>e = .returned (.tuple #[]) ∧ ∃ n',n ≤ n' ∧ n' ≤ n + 1 + 3 * nM bs ∧ Bd w' b n' ∧ Fb b w w':=by
 obtain ⟨us,hsl,hlay⟩:=id hrow
 have hvn1:vn ≤ 1000:=by
  rcases hsl with ⟨_,h1⟩ | ⟨g,m,c,h1,_,_,_,_,h6,_⟩
  ·cases h1;omega
  ·cases h1;exact h6
 obtain ⟨i0,h01,h02,h03,h04⟩:=info_parts info_case
 have HI0:Hid (Tryz.prog.info? 341 = some i0 ∧ i0.zero = some (.agg #[.string ⟨#[]⟩,.int .i64 0]) ∧ i0.size = 2 ∧ i0.bytes = 24):=⟨h01,h02,h03,h04⟩
 have hb0:Below w.heap.size w (w.alloc (.cells #[.string ⟨nm.toArray⟩,.int .i64 a,.slice va vn vc,.int .i64 e0] 296)):=allocB _ _
 have hx0:(w.alloc (.cells #[.string ⟨nm.toArray⟩,.int .i64 a,.slice va vn vc,.int .i64 e0] 296)).heap[w.heap.size]? = some (.cells #[.string ⟨nm.toArray⟩,.int .i64 a,.slice va vn vc,.int .i64 e0] 296 (0,0)):=heap_nw w _
 have kh:=bhold_any b n _ (hd.keep hb0) (by omega)
 have HX0:Hid (_ = _):=hx0
 have HVD:Hid (Vd bs):=hvd
 have HWF:Hid (Wf true bs):=hwf
 have HSL:Hid (SlAt w (fun g=>g < b) 4 (.slice va vn vc) us):=hsl
 have HLY:Hid (Lay w (fun g=>g < b) bs (us.drop (0 * 4))):=by rw [Nat.zero_mul,List.drop_zero];exact hlay
 have HROW:Hid (RowAt w (fun g=>g < b) 4 (.slice va vn vc) bs):=hrow
 have HD0:Hid (Bd w b n):=hd
 have HF0:Hid (Fb b w (w.alloc (.cells #[.string ⟨nm.toArray⟩,.int .i64 a,.slice va vn vc,.int .i64 e0] 296))):=Fb.of hd hb0
 have HDA:Hid (Bd (w.alloc (.cells #[.string ⟨nm.toArray⟩,.int .i64 a,.slice va vn vc,.int .i64 e0] 296)) b n):=hd.keep hb0
 have hlb:=hd.lt
 have law:=sel_keyed
 have HU:Hid (Tryz.prog.underlying 337 = some (.map 330 3)):=Tryz.underlying337
 have HZK:Hid (∀ W,(zeroValue 3).run Tryz.prog W = .ok (.int .i64 0) W):=Tryz.zeroValue3
 have HBB:Hid (BdBrs bs):=hB
 clear h01 h02 h03 h04 hsl hlay hvd hwf hd hrow hB hb0 hx0
 go_enter Tryz.func169,Tryz.ntmps169
 go_wp2_with fail
 refine kh.mono ?_
 rintro e w1 ⟨f,rfl,hs1,hd1,hf1⟩
 have HS1:Hid (Hs w1 b (n + 1) f):=hs1
 have HD1:Hid (Bd w1 b (n + 1)):=hd1
 have HF1:Hid (Fb b w w1):=HF0.out.trans hf1
 have hx1:=(hf1.at HX0.out (not_bo HDA.out HX0.out (by decide) (by decide))).1
 have HX1:Hid (w1.heap[w.heap.size]? = some (.cells #[.string ⟨nm.toArray⟩,.int .i64 a,.slice va vn vc,.int .i64 e0] 296 (0,0))):=hx1
 have c2:w1.cell? ⟨w.heap.size,2,none⟩ = some (.slice va vn vc):=by simp [World.cell?,hx1]
 have kb:=HBB.out b (n + 1) w1 va vn vc HVD.out HWF.out (by omega) hd1 (row_fb HROW.out HD0.out HF1.out)
 obtain ⟨p,q,at_,hfe,_⟩:=hs1
 clear kh hd1 hf1 hx1 HX0 HF0 HDA
 subst hfe
 go_wp2_with fail
 refine kb.mono ?_
 rintro e w2 ⟨M,n2,km,rfl,g1,g2,hd2,hf2,hm2,hMz⟩
 have HD2:Hid (Bd w2 b n2):=hd2
 have HF2:Hid (Fb b w w2):=HF1.out.trans hf2
 have HS2:Hid (Hs w2 b n2 (.func (.func 229) #[] #[.pointer (some ⟨p,0,none⟩),.pointer (some ⟨q,0,none⟩)])):=HS1.out.fb hf2 g1
 have hx2:=(hf2.at HX1.out (not_bo HD1.out HX1.out (by decide) (by decide))).1
 have HX2:Hid (w2.heap[w.heap.size]? = some (.cells #[.string ⟨nm.toArray⟩,.int .i64 a,.slice va vn vc,.int .i64 e0] 296 (0,0))):=hx2
 have d2:w2.cell? ⟨w.heap.size,2,none⟩ = some (.slice va vn vc):=by simp [World.cell?,hx2]
 have HM2:Hid (Mp w2 M km):=hm2
 clear kb hd2 hf2 hm2 hx2 HX1 HS1 HD1 HF1 c2
 go_wp2_with fail
 go_loopw [6,20] (fun c i wr=>∃ (k m:Nat) (r:Pg.Tr) (xs:List Value) (ca:Option Addr) (cc:Nat),c = .slice ca m cc ∧ i = .int .i64 k ∧ k ≤ vn ∧ m ≤ k ∧ Hid (Vd r) ∧ Hid (Wf true r) ∧ Hid (Lay w (fun g=>g < b) r (us.drop (k * 4))) ∧ Hid (Below w2.heap.size w2 wr) ∧ Hid (wr.ownsRow w2.heap.size 341 2 (.slice ca m cc) m xs)) (fun _ i _=>vn - (intOf i).toNat)
 case atStart=>exact ⟨0,0,bs,[],none,0,rfl,rfl,Nat.zero_le _,Nat.le_refl _,HVD,HWF,HLY,Below.refl _ _,World.ownsRow_nil _ _ _ _⟩
 case round=>
  clear HVD HWF HLY
  obtain ⟨k,m,r,xs,ca,cc,rfl,rfl,hk,hmk,HVD,HWF,HLY,HBW,HOW⟩:=hrel
  have hzw:=HBW.out.size
  by_cases hlt:k < vn
  ·have hlt':(k:Int) < vn:=by omega
   obtain ⟨g,F,V,a1,t1,r',ya,yn,yc,rfl,hgb,hgl,hvc,hF,hV,d0,d1,d2',d3,hrow,hly2,vm,wm,vr,wr',hnM⟩:=branch_at HSL.out HLY.out HWF.out HVD.out hlt
   have hbw:Below b w wr:=(HF2.out.below HD0.out).trans (HBW.out.mono (by have:=HD2.out.lt;omega))
   have c0:=lay_fb hbw hgb d0
   have c1:=lay_fb hbw hgb d1
   have c2:=lay_fb hbw hgb d2'
   have c3:=lay_fb hbw hgb d3
   have HLY2:Hid (Lay w (fun g=>g < b) r' (us.drop ((k + 1) * 4))):=hly2
   have HVR:Hid (Vd r'):=vr
   have HWR:Hid (Wf true r'):=wr'
   have hkey:=sel_key F V (by omega) (by omega)
   have hba:Below wr.heap.size wr (wr.alloc (.cells #[.string ⟨F.toArray⟩,.int .u32 V,.int .i64 a1,.slice ya yn yc] 332)):=allocB _ _
   obtain ⟨D,hD⟩:=(HM2.out.keep HBW.out).keep hba
   obtain ⟨z,hl,-,-⟩:=hD.drew.lookup_int law HU.out Tryz.underlying3 (HZK.out _) hkey
   have hown0:(wr.alloc (.cells #[.string ⟨F.toArray⟩,.int .u32 V,.int .i64 a1,.slice ya yn yc] 332)).ownsRow w2.heap.size 341 2 (.slice ca m cc) m xs:=HOW.out.alloc _
   have HBA:Hid (Below w2.heap.size w2 (wr.alloc (.cells #[.string ⟨F.toArray⟩,.int .u32 V,.int .i64 a1,.slice ya yn yc] 332))):=HBW.out.alloc hzw _
   clear hrow hly2 vm wm vr wr' d0 d1 d2' d3 hbw HLY HVD HWF hD hba
   have hcell:∀ (W:World),W.heap.size = wr.heap.size + 1 → ∀ j u,[Value.string ⟨F.toArray⟩,.int .i64 z][j]? = some u → (W.alloc (.cells #[.string ⟨F.toArray⟩,.int .i64 z] 341)).cell? ((⟨wr.heap.size + 1,0,none⟩:Addr).add j) = some u:=fun W hW j u hj=>by
    rw [← hW]
    match j,hj with
    | 0,hj=>simp at hj;subst hj;simp [Addr.add]
    | 1,hj=>simp at hj;subst hj;simp [Addr.add]
   go_wp2_with fail
   ·go_region_law (refine step_append_b rfl (.tmp 28) (.tmp 37) 339 rfl w2.heap.size 341 i0 (.agg #[.string ⟨#[]⟩,.int .i64 0]) 2 24 Tryz.underlying339 HI0.out.1 HI0.out.2.1 HI0.out.2.2.1 HI0.out.2.2.2 rfl (by decide) (.slice ca m cc) m xs (by simp [Act.eval]) (by first | exact World.ownsRow.alloc hown0 _ | exact World.ownsRow.alloc (World.ownsRow.drew hown0) _) ⟨wr.heap.size + 1,0,none⟩ 1 1 [.string ⟨F.toArray⟩,.int .i64 z] (by simp [Act.eval]) rfl (hcell _ (by simp)) (by intro u hu;simp only [List.mem_cons,List.not_mem_nil,or_false] at hu;rcases hu with rfl | rfl <;> rfl) (by unfold maxLen;omega) (by omega) (by have:=HBA.out.size;first | (simp at this ⊢;omega) | (simp at this ⊢;done) | omega) ?_;intro v' w3 hown' hgrow)
    all_goals
     have hb3:Below w2.heap.size w2 w3:=(HBA.out.drew.alloc (by have:=HBA.out.size;first | (simp at this ⊢;omega) | (simp at this ⊢;done) | omega) _).grown hgrow (by have:=HBA.out.size;simp at this ⊢;omega) fun j hj=>(World.ownsRow.lt hown0 j hj).1
     have HB3:Hid (Below w2.heap.size w2 w3):=hb3
     obtain ⟨a3,q3,rfl⟩:=owns_len hown'
     have HOW3:Hid (w3.ownsRow w2.heap.size 341 2 (.slice a3 (m + 1) q3) (m + 1) (xs ++ [.string ⟨F.toArray⟩,.int .i64 z])):=hown'
     clear hown' hgrow hb3 hown0 HBA hcell hl hkey c0 c1 c2 c3
     go_wp2
     go_roundw
     case rel=>exact ⟨k + 1,m + 1,r',_,a3,_,rfl,by go_num,hlt,by omega,HVR,HWR,HLY2,HB3,HOW3⟩
     case measure=>simp [intOf];omega
   ·go_roundw
    case rel=>exact ⟨k + 1,m,r',xs,ca,cc,rfl,by go_num,hlt,by omega,HVR,HWR,HLY2,HBA,hown0⟩
    case measure=>simp [intOf];omega
  ·have hlt':¬ (k:Int) < vn:=by omega
   have HK:Hid (∀ (W:World) (t:TypeId) (v:Value),Below w2.heap.size w2 W → Calls Tryz.prog 229 #[.iface t v,.pointer (some ⟨p,0,none⟩),.pointer (some ⟨q,0,none⟩)] W fun e w'=>e = .returned (.tuple #[]) ∧ Bd w' b n2 ∧ Fb b w w'):=fun W t v hb=>by
    obtain ⟨cap2,he,kc⟩:=bset_any b n2 _ (.iface t v) (.inr ⟨t,v,rfl⟩) W (HD2.out.keep hb) (HS2.out.fb (Fb.of HD2.out hb) (Nat.le_refl _))
    cases he
    exact kc.mono fun e w' ⟨h1,h2,h3⟩=>⟨h1,h2,(HF2.out.trans (Fb.of HD2.out hb)).trans h3⟩
   have hx2:=HX2.out
   have hxl:=heap_ltO hx2
   have d0:wr.cell? ⟨w.heap.size,0,none⟩ = some (.string ⟨nm.toArray⟩):=by simp [World.cell?,(HBW.out.block _ hxl).trans hx2]
   have HKO:Hid (∀ W,Below w2.heap.size w2 W → Calls Tryz.prog 206 #[.map (some M),.string ⟨#[111,116,104,101,114]⟩] W fun e w'=>(∃ z:Int,e = .returned (.int .i64 z)) ∧ Below w2.heap.size w2 w' ∧ w'.cell? ⟨w.heap.size,0,none⟩ = some (.string ⟨nm.toArray⟩)):=fun W hW=>(of_any M km [111,116,104,101,114] (by decide) W (HM2.out.keep hW)).mono fun e w' ⟨h1,h2⟩=>⟨h1,below_of hW h2,by simp [World.cell?,((below_of hW h2).block _ hxl).trans hx2]⟩
   have eg:=enters_of (P:=Tryz.prog) Tryz.func229 (by kernel_rfl) rfl
   clear HVD HWF HLY HSL HROW HD0 HF2 HS2 HX2 HM2 HBB HU HZK law d2 hx2
   go_wp2_with fail
   go_region_with (first | (go_at_call 206;refine (HKO.out _ (by first | exact HBW.out | exact HBW.out.drew)).mono ?_;rintro e w4 ⟨⟨z,rfl⟩,hb4,d4⟩) | (go_at_call 229;refine (HK.out _ _ _ hb4).mono ?_;rintro e w5 ⟨rfl,hd5,hf5⟩))
   all_goals (go_wp2;go_end0;exact ⟨rfl,n2,by omega,by omega,hd5,hf5⟩)
end Go.Proofs.YtaepcfidpekflaaGreatDoor
namespace Go.Proofs.YtaepcfidpekflaaGreatDoor
open Go.RowKit Go.Maps Go.Shelf Pg
theorem info_eqf:(Tryz.prog.info? 349).map (fun i=>(i.zero,i.size,i.bytes)) = some (some .nilFunc,1,8):=by kernel_rfl
theorem six_at (k:Nat) (h:k < 6):∃ F:Pg.T,sixV[k]? = some (.string ⟨F.toArray⟩) ∧ F.length ≤ 1000:=by
 match k,h with
 | 0,_=>exact ⟨[122,101,114,111],rfl,by decide⟩
 | 1,_=>exact ⟨[111,110,101],rfl,by decide⟩
 | 2,_=>exact ⟨[116,119,111],rfl,by decide⟩
 | 3,_=>exact ⟨[102,101,119],rfl,by decide⟩
 | 4,_=>exact ⟨[109,97,110,121],rfl,by decide⟩
 | 5,_=>exact ⟨[111,116,104,101,114],rfl,by decide⟩
def ByC (w:World) (x:Nat) (ord:Bool):Prop:=∃ z0 z1 z2 z3 z4 z5:Int,w.heap[x]? = some (.cells #[.bool ord,.int .i64 z0,.int .i64 z1,.int .i64 z2,.int .i64 z3,.int .i64 z4,.int .i64 z5] 352 (0,0))
theorem ByC.set {w:World} {x:Nat} {ord:Bool} (h:ByC w x ord) (k:Nat) (hk:k < 6) (z:Int):ByC (w.setCell ⟨x,1 + k,none⟩ (.int .i64 z)) x ord:=by
 obtain ⟨z0,z1,z2,z3,z4,z5,h⟩:=h
 have e:∀ j,(w.setCell ⟨x,j,none⟩ (.int .i64 z)).heap[x]? = some (.cells ((#[.bool ord,.int .i64 z0,.int .i64 z1,.int .i64 z2,.int .i64 z3,.int .i64 z4,.int .i64 z5]:Array Value).setIfInBounds j (.int .i64 z)) 352 (0,0)):=fun j=>by
  simp only [World.setCell,Array.getElem?_modify,if_true,h]
  rfl
 match k,hk with
 | 0,_=>exact ⟨z,z1,z2,z3,z4,z5,e 1⟩
 | 1,_=>exact ⟨z0,z,z2,z3,z4,z5,e 2⟩
 | 2,_=>exact ⟨z0,z1,z,z3,z4,z5,e 3⟩
 | 3,_=>exact ⟨z0,z1,z2,z,z4,z5,e 4⟩
 | 4,_=>exact ⟨z0,z1,z2,z3,z,z5,e 5⟩
 | 5,_=>exact ⟨z0,z1,z2,z3,z4,z,e 6⟩
theorem ByC.cell {w:World} {x:Nat} {ord:Bool} (h:ByC w x ord) (k:Nat) (hk:k < 6):∃ z:Int,w.cell? ⟨x,1 + k,none⟩ = some (.int .i64 z):=by
 obtain ⟨z0,z1,z2,z3,z4,z5,h⟩:=h
 match k,hk with
 | 0,_=>exact ⟨z0,by simp [World.cell?,h]⟩
 | 1,_=>exact ⟨z1,by simp [World.cell?,h]⟩
 | 2,_=>exact ⟨z2,by simp [World.cell?,h]⟩
 | 3,_=>exact ⟨z3,by simp [World.cell?,h]⟩
 | 4,_=>exact ⟨z4,by simp [World.cell?,h]⟩
 | 5,_=>exact ⟨z5,by simp [World.cell?,h]⟩
theorem ByC.frozen {w:World} {x:Nat} {ord:Bool} (h:ByC w x ord) (k:Nat):w.frozen? ⟨x,k,none⟩ = false:=by
 obtain ⟨z0,z1,z2,z3,z4,z5,h⟩:=h
 simp [World.frozen?,h]
theorem ByC.keep {w w':World} {x:Nat} {ord:Bool} (h:ByC w x ord) (hb:Below w.heap.size w w'):ByC w' x ord:=by
 obtain ⟨z0,z1,z2,z3,z4,z5,h⟩:=h
 exact ⟨z0,z1,z2,z3,z4,z5,(hb.block x (heap_ltO h)).trans h⟩
theorem heap_cell {W:World} {x:Nat} {cs:Array Value} {T:TypeId} {fz:Nat × Nat} (h:W.heap[x]? = some (.cells cs T fz)) (j:Nat):W.cell? ⟨x,j,none⟩ = cs[j]?:=by simp [World.cell?,h]
set_option maxHeartbeats 6400000 in
set_option maxRecDepth 100000 in
theorem bnum_of (bs:Pg.Tr) (hB:BdBrs bs) (b n:Nat) (w:World) (nm:Pg.T) (a e0:Int) (ord:Bool) (off:Nat) (va:Option Addr) (vn vc:Nat) (hvd:Vd bs) (hwf:Wf true bs) (hn:n + 3000 + 2000 * nM bs ≤ 50000000) (hd:Bd w b n) (hrow:RowAt w (fun g=>g < b) 4 (.slice va vn vc) bs):
  Calls Tryz.prog 170 #[.pointer (some ⟨b,0,none⟩),.agg #[.string ⟨nm.toArray⟩,.int .i64 a,.bool ord,.int .u32 off,.slice va vn vc,.int .i64 e0]] w fun e w'=>e = .returned (.tuple #[]) ∧ ∃ n',n ≤ n' ∧ n' ≤ n + 3 + 3 * nM bs ∧ Bd w' b n' ∧ Fb b w w':=by
 obtain ⟨us,hsl,hlay⟩:=id hrow
 have hvn1:vn ≤ 1000:=by
  rcases hsl with ⟨_,h1⟩ | ⟨g,m,c,h1,_,_,_,_,h6,_⟩
  ·cases h1;omega
  ·cases h1;exact h6
 obtain ⟨i0,h01,h02,h03,h04⟩:=info_parts info_eqf
 have HI0:Hid (Tryz.prog.info? 349 = some i0 ∧ i0.zero = some .nilFunc ∧ i0.size = 1 ∧ i0.bytes = 8):=⟨h01,h02,h03,h04⟩
 obtain ⟨PX,hPX⟩:∃ PX:Array Value,PX = #[.string ⟨nm.toArray⟩,.int .i64 a,.bool ord,.int .u32 off,.slice va vn vc,.int .i64 e0]:=⟨_,rfl⟩
 have hb0:Below w.heap.size w (w.alloc (.cells PX 299)):=allocB _ _
 have hx0:(w.alloc (.cells PX 299)).heap[w.heap.size]? = some (.cells PX 299 (0,0)):=heap_nw w _
 have kh:=badd_any b n (.iface 345 (.agg #[.string ⟨nm.toArray⟩,.int .u32 off])) (.inr ⟨_,_,rfl⟩) _ (hd.keep hb0) (by omega)
 have HX0:Hid (_ = _):=hx0
 have HVD:Hid (Vd bs):=hvd
 have HWF:Hid (Wf true bs):=hwf
 have HSL:Hid (SlAt w (fun g=>g < b) 4 (.slice va vn vc) us):=hsl
 have HLY:Hid (Lay w (fun g=>g < b) bs (us.drop (0 * 4))):=by rw [Nat.zero_mul,List.drop_zero];exact hlay
 have HROW:Hid (RowAt w (fun g=>g < b) 4 (.slice va vn vc) bs):=hrow
 have HVW:Hid (Vd bs ∧ Wf true bs):=⟨hvd,hwf⟩
 have HD0:Hid (Bd w b n):=hd
 have HF0:Hid (Fb b w (w.alloc (.cells PX 299))):=Fb.of hd hb0
 have HDA:Hid (Bd (w.alloc (.cells PX 299)) b n):=hd.keep hb0
 have hlb:=hd.lt
 have HBB:Hid (BdBrs bs):=hB
 clear h01 h02 h03 h04 hsl hlay hvd hwf hd hrow hB hb0 hx0
 subst hPX
 go_enter Tryz.func170,Tryz.ntmps170
 go_wp2_with fail
 refine kh.mono ?_
 rintro e w1 ⟨rfl,hd1,hf1⟩
 have HD1:Hid (Bd w1 b (n + 1)):=hd1
 have HF1:Hid (Fb b w w1):=HF0.out.trans hf1
 have hx1:=(hf1.at HX0.out (not_bo HDA.out HX0.out (by decide) (by decide))).1
 have HX1:Hid (w1.heap[w.heap.size]? = some (.cells #[.string ⟨nm.toArray⟩,.int .i64 a,.bool ord,.int .u32 off,.slice va vn vc,.int .i64 e0] 299 (0,0))):=hx1
 have c2:w1.cell? ⟨w.heap.size,4,none⟩ = some (.slice va vn vc):=by simp [World.cell?,hx1]
 clear kh hd1 hf1 hx1 HX0 HF0 HDA
 go_wp2_with fail
 go_loopw [4,28] (fun e i wr=>∃ (k n1:Nat) (r:Pg.Tr) (fs:List Value) (ea:Option Addr) (en ec:Nat),e = .slice ea en ec ∧ i = .int .i64 k ∧ k ≤ vn ∧ n + 1 ≤ n1 ∧ n1 ≤ n + 1 + k ∧ Hid (Vd r) ∧ Hid (Wf true r) ∧ Hid (Lay w (fun g=>g < b) r (us.drop (k * 4))) ∧ Hid (Bd wr b n1) ∧ Hid (Fb b w wr) ∧ Hid (wr.ownsRow (w.heap.size + 1) 349 1 (.slice ea en ec) fs.length fs) ∧ Hid (∀ f ∈ fs,Eqs wr b n1 f) ∧ fs.length ≤ k ∧ Hid (wr.heap[w.heap.size]? = some (.cells #[.string ⟨nm.toArray⟩,.int .i64 a,.bool ord,.int .u32 off,.slice va vn vc,.int .i64 e0] 299 (0,0)))) (fun _ i _=>vn - (intOf i).toNat)
 case atStart=>exact ⟨0,n + 1,bs,[],none,0,0,rfl,rfl,Nat.zero_le _,Nat.le_refl _,Nat.le_refl _,HVD,HWF,HLY,HD1,HF1,World.ownsRow_nil _ _ _ _,fun f hf=>(by cases hf),by simp,HX1⟩
 case round=>
  clear HVD HWF HLY HD1 HF1 HX1 c2
  obtain ⟨k,n1,r,fs,ea,en,ec,rfl,rfl,hk,hn1,hnk,HVD,HWF,HLY,HD,HF,HE,HH,hfs,HX⟩:=hrel
  have hzw:=HF.out.size
  have hxl:=heap_ltO HX.out
  by_cases hlt:k < vn
  ·have hlt':(k:Int) < vn:=by omega
   obtain ⟨g,F,V,a1,t1,r',ya,yn,yc,rfl,hgb,hgl,hvc,hF,hV,d0,d1,d2',d3,hrow,hly2,vm,wm,vr,wr',hnM⟩:=branch_at HSL.out HLY.out HWF.out HVD.out hlt
   have hbw:Below b w wr:=HF.out.below HD0.out
   have c0:=lay_fb hbw hgb d0
   have c1:=lay_fb hbw hgb d1
   have c2:=lay_fb hbw hgb d2'
   have c3:=lay_fb hbw hgb d3
   have HLY2:Hid (Lay w (fun g=>g < b) r' (us.drop ((k + 1) * 4))):=hly2
   have HVR:Hid (Vd r'):=vr
   have HWR:Hid (Wf true r'):=wr'
   have hba:Below wr.heap.size wr (wr.alloc (.cells #[.string ⟨F.toArray⟩,.int .u32 V,.int .i64 a1,.slice ya yn yc] 332)):=allocB _ _
   have HBX:Hid ((wr.alloc (.cells #[.string ⟨F.toArray⟩,.int .u32 V,.int .i64 a1,.slice ya yn yc] 332)).heap[wr.heap.size]? = some (.cells #[.string ⟨F.toArray⟩,.int .u32 V,.int .i64 a1,.slice ya yn yc] 332 (0,0))):=heap_nw wr _
   have HBA:Hid (Below wr.heap.size wr (wr.alloc (.cells #[.string ⟨F.toArray⟩,.int .u32 V,.int .i64 a1,.slice ya yn yc] 332))):=hba
   have HDA:Hid (Bd (wr.alloc (.cells #[.string ⟨F.toArray⟩,.int .u32 V,.int .i64 a1,.slice ya yn yc] 332)) b n1):=HD.out.keep hba
   have HFA:Hid (Fb b wr (wr.alloc (.cells #[.string ⟨F.toArray⟩,.int .u32 V,.int .i64 a1,.slice ya yn yc] 332))):=Fb.of HD.out hba
   have kh:=bhold_any b n1 _ (HD.out.keep hba) (by omega)
   clear hrow hly2 vm wm vr wr' d0 d1 d2' d3 hbw HLY HVD HWF hba
   cases F with
   | nil=>
    have hxA:=(HBA.out.block _ hxl).trans HX.out
    have HXA:Hid (_ = _):=hxA
    have HEA:Hid ((wr.alloc (.cells #[.string ⟨#[]⟩,.int .u32 V,.int .i64 a1,.slice ya yn yc] 332)).ownsRow (w.heap.size + 1) 349 1 (.slice ea en ec) fs.length fs):=(Kx.of (X:=0) HBA.out).owns (by decide) HE.out
    have HHA:Hid (∀ f ∈ fs,Eqs (wr.alloc (.cells #[.string ⟨#[]⟩,.int .u32 V,.int .i64 a1,.slice ya yn yc] 332)) b n1 f):=fun f hf=>(HH.out f hf).fb HD.out HFA.out (Nat.le_refl _)
    have HFW:Hid (Fb b w (wr.alloc (.cells #[.string ⟨#[]⟩,.int .u32 V,.int .i64 a1,.slice ya yn yc] 332))):=HF.out.trans HFA.out
    clear HE HH HD HF HX hxA
    go_wp2_with (first
     | (go_at_call 204;refine kh.mono ?_;rintro e w3 ⟨f,rfl,hs3,hd3,hf3⟩;have HS3:Hid (Hs w3 b (n1 + 1) f):=hs3;have HD3:Hid (Bd w3 b (n1 + 1)):=hd3;have HF3:Hid (Fb b (wr.alloc (.cells #[.string ⟨#[]⟩,.int .u32 V,.int .i64 a1,.slice ya yn yc] 332)) w3):=hf3;obtain ⟨p3,q3,a3,rfl,_⟩:=hs3;have HE3:Hid (w3.ownsRow (w.heap.size + 1) 349 1 (.slice ea en ec) fs.length fs):=owns_fb HEA.out HDA.out hf3 (by decide) (by decide);have st:(store ⟨w3.heap.size,0,none⟩ (.func (.func 229) #[] #[.pointer (some ⟨p3,0,none⟩),.pointer (some ⟨q3,0,none⟩)])).run Tryz.prog (w3.alloc (.cells #[.nilFunc] 245)) = .ok () (w3.alloc (.cells #[.func (.func 229) #[] #[.pointer (some ⟨p3,0,none⟩),.pointer (some ⟨q3,0,none⟩)]] 245)):=(by rw [run_store _ _ _ _ _ rfl];simp [World.setCell_alloc_new]);clear hd3 hf3 kh)
     | (at_builtin;refine wpList_append_own_at _ rfl _ _ 346 rfl (w.heap.size + 1) 349 i0 .nilFunc 1 8 Tryz.underlying346 HI0.out.1 HI0.out.2.1 HI0.out.2.2.1 HI0.out.2.2.2 rfl (by decide) _ fs.length fs rfl (World.ownsRow.alloc (World.ownsRow.alloc HE3.out _) _) ⟨w3.heap.size + 1,0,none⟩ 1 1 [_] rfl rfl (by have hh:=cell_one_new (w3.alloc (.cells #[.func (.func 229) #[] #[.pointer (some ⟨p3,0,none⟩),.pointer (some ⟨q3,0,none⟩)]] 245)) (.func (.func 207) #[] #[.pointer (some ⟨w3.heap.size,0,none⟩),.pointer (some ⟨wr.heap.size,0,none⟩)]) 349;rw [World.size_alloc] at hh;exact hh) (by intro u hu;simp at hu;subst hu;rfl) (by unfold maxLen;omega) (by have:=HF3.out.size;simp at this;omega) (by have:=HF3.out.size;simp at this ⊢;omega) ?_;intro v4 w4 hown4 hgrow4 _ _))
    obtain ⟨a4,q4,rfl⟩:=owns_len hown4
    have hz3:=HF3.out.size
    rw [World.size_alloc] at hz3
    have hb3:Below w3.heap.size w3 (w3.alloc (.cells #[(.func (.func 229) #[] #[.pointer (some ⟨p3,0,none⟩),.pointer (some ⟨q3,0,none⟩)])] 245)):=allocB _ _
    have kx:=(Kx.of (X:=349) hb3).trans (Kx.row (World.ownsRow.alloc HE3.out _) hgrow4)
    have hd4:=kx.bd HD3.out (by decide) (by decide)
    have hb4:Below w.heap.size w3 w4:=(((Below.refl _ w3).alloc (by omega) _).alloc (by simp;omega) _).grown hgrow4 (by simp;omega) (fun q hq=>by have:=(HE3.out.lt q hq).1;omega)
    have hbx3:=(HF3.out.at HBX.out (not_bo HDA.out HBX.out (by decide) (by decide))).1
    have hx3:=(HF3.out.at HXA.out (not_bo HDA.out HXA.out (by decide) (by decide))).1
    have hset:w4.heap[w3.heap.size]? = some (.cells #[(.func (.func 229) #[] #[.pointer (some ⟨p3,0,none⟩),.pointer (some ⟨q3,0,none⟩)])] 245 (0,0)):=by
     refine (hgrow4.block _ (by simp;omega) fun e=>?_).trans ?_
     ·have:=(HE3.out.lt _ e.symm).2
      omega
     ·exact (Below.heap_alloc _ _ _ (by simp)).trans (heap_nw w3 _)
    have hb4':Below (w.heap.size + 1) w3 w4:=(((Below.refl _ w3).alloc (by omega) _).alloc (by simp;omega) _).grown hgrow4 (by simp;omega) (fun q hq=>by have:=(HE3.out.lt q hq).1;omega)
    have hs4:=kx.hs HS3.out hd4 (Nat.le_refl _) (by decide) (by decide)
    have hown5:w4.ownsRow (w.heap.size + 1) 349 1 (.slice a4 (fs.length + 1) q4) (fs ++ [(Value.func (.func 207) #[] #[.pointer (some ⟨w3.heap.size,0,none⟩),.pointer (some ⟨wr.heap.size,0,none⟩)])]).length (fs ++ [(Value.func (.func 207) #[] #[.pointer (some ⟨w3.heap.size,0,none⟩),.pointer (some ⟨wr.heap.size,0,none⟩)])]):=by simpa using hown4
    refine ⟨⟨k + 1,n1 + 1,r',fs ++ [(Value.func (.func 207) #[] #[.pointer (some ⟨w3.heap.size,0,none⟩),.pointer (some ⟨wr.heap.size,0,none⟩)])],a4,_,q4,rfl,by go_num,hlt,by omega,by omega,HVR,HWR,HLY2,hd4,(HFW.out.trans HF3.out).low hb4 hlb,hown5,?_,by simp;omega,(hb4'.block _ (by omega)).trans hx3⟩,by simp [intOf];omega⟩
    intro f hf
    rcases List.mem_append.1 hf with hf | hf
    ·have hq:=(HHA.out f hf).fb HDA.out HF3.out (n':=n1 + 1) (by omega)
     obtain ⟨p,q,F',V',a',m',sf,e1,e2,e3,e4,e5,e6⟩:=hq
     exact ⟨p,q,F',V',a',m',sf,e1,kx.cells _ _ _ _ (by decide) e2,kx.hs e3 hd4 (Nat.le_refl _) (by decide) (by decide),kx.cells _ _ _ _ (by decide) e4,e5,e6⟩
    ·rw [List.mem_singleton.1 hf]
     exact ⟨w3.heap.size,wr.heap.size,[],V,a1,.slice ya yn yc,(.func (.func 229) #[] #[.pointer (some ⟨p3,0,none⟩),.pointer (some ⟨q3,0,none⟩)]),rfl,hset,hs4,kx.cells _ _ _ _ (by decide) hbx3,by decide,by omega⟩
   | cons x F=>
    go_wp2_with fail
    go_roundw
    case rel=>exact ⟨k + 1,n1,r',fs,ea,en,ec,rfl,by go_num,hlt,hn1,by omega,HVR,HWR,HLY2,HDA,HF.out.trans HFA.out,(Kx.of (X:=0) HBA.out).owns (by decide) HE.out,fun f hf=>(HH.out f hf).fb HD.out HFA.out (Nat.le_refl _),by omega,(HBA.out.block _ hxl).trans HX.out⟩
    case measure=>simp [intOf];omega
  ·have hlt':¬ (k:Int) < vn:=by omega
   obtain rfl:k = vn:=by omega
   have hen:en = fs.length:=by
    obtain ⟨a',c',h⟩:=owns_len HE.out
    simp only [Value.slice.injEq] at h
    exact h.2.1
   subst hen
   have kh:=bhold_any b n1 _ HD.out (by omega)
   clear HLY HVD HWF HSL
   go_wp2_with fail
   refine kh.mono ?_
   rintro e w2 ⟨f,rfl,hs2,hd2,hf2⟩
   have HS2:Hid (Hs w2 b (n1 + 1) f):=hs2
   have HD2:Hid (Bd w2 b (n1 + 1)):=hd2
   have HF2:Hid (Fb b w w2):=HF.out.trans hf2
   have hx2:=(hf2.at HX.out (not_bo HD.out HX.out (by decide) (by decide))).1
   have HX2:Hid (w2.heap[w.heap.size]? = some (.cells #[.string ⟨nm.toArray⟩,.int .i64 a,.bool ord,.int .u32 off,.slice va k vc,.int .i64 e0] 299 (0,0))):=hx2
   have HE2:Hid (w2.ownsRow (w.heap.size + 1) 349 1 (.slice ea fs.length ec) fs.length fs):=owns_fb HE.out HD.out hf2 (by decide) (by decide)
   have HH2:Hid (∀ f ∈ fs,Eqs w2 b (n1 + 1) f):=fun f hf=>(HH.out f hf).fb HD.out hf2 (by omega)
   have d4:w2.cell? ⟨w.heap.size,4,none⟩ = some (.slice va k vc):=by simp [World.cell?,hx2]
   have kb:=HBB.out b (n1 + 1) w2 va k vc HVW.out.1 HVW.out.2 (by omega) hd2 (row_fb HROW.out HD0.out HF2.out)
   obtain ⟨p,q,at_,hfe,_⟩:=hs2
   clear kh hd2 hf2 hx2 HX HE HH HD HF
   subst hfe
   go_wp2_with fail
   refine kb.mono ?_
   rintro e w3 ⟨M,n2,km,rfl,g1,g2,hd3,hf3,hm3,_⟩
   have HD3:Hid (Bd w3 b n2):=hd3
   have HF3:Hid (Fb b w w3):=HF2.out.trans hf3
   have HS3:Hid (Hs w3 b n2 (.func (.func 229) #[] #[.pointer (some ⟨p,0,none⟩),.pointer (some ⟨q,0,none⟩)])):=HS2.out.fb hf3 g1
   have HX3:Hid (w3.heap[w.heap.size]? = some (.cells #[.string ⟨nm.toArray⟩,.int .i64 a,.bool ord,.int .u32 off,.slice va k vc,.int .i64 e0] 299 (0,0))):=(hf3.at HX2.out (not_bo HD2.out HX2.out (by decide) (by decide))).1
   have HE3:Hid (w3.ownsRow (w.heap.size + 1) 349 1 (.slice ea fs.length ec) fs.length fs):=owns_fb HE2.out HD2.out hf3 (by decide) (by decide)
   have HH3:Hid (∀ f ∈ fs,Eqs w3 b n2 f):=fun f hf=>(HH2.out f hf).fb HD2.out hf3 g1
   have HM3:Hid (Mp w3 M km):=hm3
   clear kb hd3 hf3 hm3 HX2 HE2 HH2 HS2 HD2 HF2 d4 HBB HROW HVW
   go_wp2_with fail
   go_loopw [52] (fun i ws=>∃ j:Nat,i = .int .i64 j ∧ j ≤ fs.length ∧ Hid (Bd ws b n2) ∧ Hid (Fb b w ws) ∧ Hid (Mp ws M km) ∧ Hid (ws.ownsRow (w.heap.size + 1) 349 1 (.slice ea fs.length ec) fs.length fs) ∧ Hid (∀ f ∈ fs,Eqs ws b n2 f) ∧ Hid (Hs ws b n2 (.func (.func 229) #[] #[.pointer (some ⟨p,0,none⟩),.pointer (some ⟨q,0,none⟩)])) ∧ Hid (ws.heap[w.heap.size]? = some (.cells #[.string ⟨nm.toArray⟩,.int .i64 a,.bool ord,.int .u32 off,.slice va k vc,.int .i64 e0] 299 (0,0)))) (fun i _=>fs.length - (intOf i).toNat)
   case atStart=>exact ⟨0,rfl,Nat.zero_le _,HD3,HF3,HM3,HE3,HH3,HS3,HX3⟩
   case round=>
    clear HD3 HF3 HM3 HE3 HH3 HS3 HX3
    obtain ⟨j,rfl,hj,HD,HF,HM,HE,HH,HS,HX⟩:=hrel
    by_cases hjl:j < fs.length
    ·have hjl':(j:Int) < fs.length:=by omega
     obtain ⟨f,hf⟩:∃ f,fs[j]? = some f:=⟨fs[j],List.getElem?_eq_getElem hjl⟩
     have hs:=HH.out f (List.mem_of_getElem? hf)
     obtain ⟨g,rfl⟩:∃ g,ea = some ⟨g,0,none⟩:=by
      rcases HE.out.2 with ⟨h3,h4⟩ | ⟨g,cap,cur,h3,_⟩
      ·omega
      ·simp only [Value.slice.injEq] at h3
       exact ⟨g,h3.1⟩
     have cg:=HE.out.cellAt j (by omega)
     rw [hf] at cg
     obtain ⟨cap,hcap,ks⟩:=eq1_any b n2 M km f _ HD.out HM.out hs
     obtain ⟨p',q',F',V',a',m',sf',rfl,_⟩:=hs
     cases hcap
     have eg:=enters_of (P:=Tryz.prog) Tryz.func207 (by kernel_rfl) rfl
     clear hf
     go_wp2_with (go_at_call 207;refine ks.mono ?_;rintro e w7 ⟨rfl,hd7,hf7⟩)
     go_roundw
     case rel=>exact ⟨j + 1,by go_num,hjl,hd7,HF.out.trans hf7,HM.out.fb HD.out hf7,owns_fb HE.out HD.out hf7 (by decide) (by decide),fun f hf=>(HH.out f hf).fb HD.out hf7 (Nat.le_refl _),HS.out.fb hf7 (Nat.le_refl _),(hf7.at HX.out (not_bo HD.out HX.out (by decide) (by decide))).1⟩
     case measure=>simp [intOf];omega
    ·have hjl':¬ ((j:Int) < fs.length):=by omega
     have d2:_ = some (Value.bool ord):=heap_cell HX.out 2
     have HB8:Hid (Below wr.heap.size wr (wr.alloc (.cells #[.bool ord,.int .i64 0,.int .i64 0,.int .i64 0,.int .i64 0,.int .i64 0,.int .i64 0] 352))):=allocB _ _
     have HC8:Hid (ByC (wr.alloc (.cells #[.bool ord,.int .i64 0,.int .i64 0,.int .i64 0,.int .i64 0,.int .i64 0,.int .i64 0] 352)) wr.heap.size ord):=⟨0,0,0,0,0,0,heap_nw wr _⟩
     have k6:=categories6_any (wr.alloc (.cells #[.bool ord,.int .i64 0,.int .i64 0,.int .i64 0,.int .i64 0,.int .i64 0,.int .i64 0] 352))
     rw [World.size_alloc] at k6
     have HK:Hid (∀ (W:World) (t:TypeId) (v:Value),Below wr.heap.size wr W → Calls Tryz.prog 229 #[.iface t v,.pointer (some ⟨p,0,none⟩),.pointer (some ⟨q,0,none⟩)] W fun e w'=>e = .returned (.tuple #[]) ∧ Bd w' b n2 ∧ Fb b w w'):=fun W t v hb=>by
      obtain ⟨cap2,he,kc⟩:=bset_any b n2 _ (.iface t v) (.inr ⟨t,v,rfl⟩) W (HD.out.keep hb) (HS.out.fb (Fb.of HD.out hb) (Nat.le_refl _))
      cases he
      exact kc.mono fun e w' ⟨h1,h2,h3⟩=>⟨h1,h2,(HF.out.trans (Fb.of HD.out hb)).trans h3⟩
     have HKO:Hid (∀ (W:World) (F:Pg.T),F.length ≤ 1000 → Below wr.heap.size wr W → Calls Tryz.prog 206 #[.map (some M),.string ⟨F.toArray⟩] W fun e w'=>(∃ z:Int,e = .returned (.int .i64 z)) ∧ Below W.heap.size W w'):=fun W F hF hW=>of_any M km F hF W (HM.out.keep hW)
     clear HE HH HX HD HF HS HM HD0
     go_wp2_with fail
     refine k6.mono ?_
     rintro e w8 ⟨rfl,hr8,hb8⟩
     have HR8:Hid (Row w8 (wr.heap.size + 1) sixV):=hr8
     have HB9:Hid (Below wr.heap.size wr w8):=HB8.out.trans (hb8.mono (by simp))
     have HC9:Hid (ByC w8 wr.heap.size ord):=HC8.out.keep (by rw [World.size_alloc];exact hb8)
     clear k6 hr8 hb8 HB8 HC8 d2
     go_wp2_with fail
     go_loopw [65] (fun i ws=>∃ j:Nat,i = .int .i64 j ∧ j ≤ 6 ∧ Hid (Below wr.heap.size wr ws) ∧ Hid (ByC ws wr.heap.size ord) ∧ Hid (Row ws (wr.heap.size + 1) sixV)) (fun i _=>6 - (intOf i).toNat)
     case atStart=>exact ⟨0,rfl,Nat.zero_le _,HB9,HC9,HR8⟩
     case round=>
      clear HB9 HC9 HR8
      obtain ⟨j,rfl,hj,HB,HC,HR⟩:=hrel
      by_cases hj6:j < 6
      ·have hj6':(j:Int) < 6:=by omega
       obtain ⟨F,hF1,hF2⟩:=six_at j hj6
       have cF:=(HR.out.2.1 j).trans hF1
       clear hF1
       go_wp2_with (go_at_call 206;refine (HKO.out _ F hF2 HB.out).mono ?_;rintro e w9 ⟨⟨z,rfl⟩,hb9⟩;have HB9:Hid (Below _ _ w9):=HB.out.trans (hb9.mono HB.out.size);have HC9:Hid (ByC w9 _ ord):=HC.out.keep hb9;have HR9:Hid (Row w9 _ sixV):=HR.out.keep hb9;obtain ⟨z0,hz0⟩:=HC9.out.cell j hj6;have hfz:=HC9.out.frozen (1 + j);clear hb9)
       go_roundw
       case rel=>exact ⟨j + 1,by go_num,hj6,HB9.out.setCell (Nat.le_refl _) _,HC9.out.set j hj6 z,HR9.out.setO (by omega) _⟩
       case measure=>simp [intOf];omega
      ·have hj6':¬ (j:Int) < 6:=by omega
       obtain ⟨z0,z1,z2,z3,z4,z5,hbx⟩:=HC.out
       have q:=heap_cell hbx
       have eg:=enters_of (P:=Tryz.prog) Tryz.func229 (by kernel_rfl) rfl
       clear hbx HC HR
       go_wp2_with (go_at_call 229;refine (HK.out _ _ _ HB.out).mono ?_;rintro e w9 ⟨rfl,hd9,hf9⟩;have HD9:Hid (Bd w9 b n2):=hd9;have HF9:Hid (Fb b w w9):=hf9;have ka:=badd_any b n2 (.iface 353 (.agg #[])) (.inr ⟨_,_,rfl⟩) w9 hd9 (by omega);clear hd9 hf9 HK HKO)
       refine ka.mono ?_
       rintro e w10 ⟨rfl,hd10,hf10⟩
       have HD10:Hid (Bd w10 b (n2 + 1)):=hd10
       have HF10:Hid (Fb b w w10):=HF9.out.trans hf10
       clear ka hd10 hf10
       go_wp2
       go_end0
       exact ⟨rfl,n2 + 1,by omega,by omega,HD10.out,HF10.out⟩
end Go.Proofs.YtaepcfidpekflaaGreatDoor
