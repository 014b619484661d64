/-
  Several texts in one (Bi, Bj). By the verifier.
-/
import Derived.Test.YtaepcfidpekflaaGreatDoorZ28
import Derived.Test.YtaepcfidpekflaaGreatDoorZ25
namespace Go.Proofs.YtaepcfidpekflaaGreatDoor
open Go.RowKit Go.Maps Go.Shelf Pg
set_option maxHeartbeats 6400000 in
set_option maxRecDepth 100000 in
theorem bmsg_of (t:Pg.Tr) (hB:∀ bs,nM bs < nM t → BdBrs bs):BdMsg t:=by
 intro b n w v hvd hwf hn hd hrow
 obtain ⟨us,hsl,hlay⟩:=hrow
 obtain ⟨va,vc,rfl⟩:∃ va vc,v = .slice va us.length vc:=by
  rcases hsl with ⟨h0,h1⟩ | ⟨g,n,c,h1,_,_,h4,_⟩
  ·exact ⟨none,0,by rw [h1,h0];rfl⟩
  ·exact ⟨_,_,by rw [h1,h4,Nat.mul_one]⟩
 have hul:us.length ≤ 1000:=by
  rcases hsl with ⟨h0,h1⟩ | ⟨g,n,c,h1,_,_,h4,h5,h6,_⟩
  ·rw [h0];simp
  ·omega
 have HSL:Hid (SlAt w (fun g=>g < b) 1 (.slice va us.length vc) us):=hsl
 have HLY:Hid (Lay w (fun g=>g < b) t us):=hlay
 have HVD:Hid (Vd t):=hvd
 have HWF:Hid (Wf false t):=hwf
 have HD0:Hid (Bd w b n):=hd
 obtain ⟨L,HL⟩:∃ L,L = nM t:=⟨_,rfl⟩
 have HBB:Hid (∀ bs,nM bs < L → BdBrs bs):=by rw [HL];exact hB
 have hL0:nM t ≤ L:=by omega
 rw [← HL] at hn ⊢
 clear hsl hlay hvd hwf hd hB HL
 go_enter Tryz.func133,Tryz.ntmps133
 go_wp2_with fail
 go_loopw [14] (fun i wr=>∃ (k n1:Nat) (r:Pg.Tr),i = .int .i64 k ∧ k ≤ us.length ∧ n ≤ n1 ∧ n1 + 3 * nM r ≤ n + 3 * L ∧ nM r ≤ L ∧ Hid (Bd wr b n1) ∧ Hid (Fb b w wr) ∧ Hid (Vd r) ∧ Hid (Wf false r) ∧ Hid (Lay w (fun g=>g < b) r (us.drop k))) (fun i _=>us.length - (intOf i).toNat)
 case atStart=>exact ⟨0,n,t,rfl,Nat.zero_le _,Nat.le_refl _,by omega,hL0,HD0,Fb.refl _ _,HVD,HWF,HLY⟩
 case round=>
  clear HVD HWF HLY hL0
  obtain ⟨k,n1,r,rfl,hk,hn1,hnk,hrL,HD,HF,HVD,HWF,HLY⟩:=hrel
  by_cases hlt:k < us.length
  ·have hlt':(k:Int) < us.length:=by omega
   have hdk:us.drop k = us[k] :: us.drop (k + 1):=List.drop_eq_getElem_cons hlt
   have hly:=HLY.out
   rw [hdk] at hly
   rcases HSL.out with ⟨h0,_⟩ | ⟨g,m0,c0,hv,hgB,hgl,hm0,hmc,hm1,hcell⟩
   ·rw [h0] at hlt;simp at hlt
   injection hv with hv1 hv2 hv3
   subst hv1
   subst hv3
   clear hv2
   have ck1:=lay_fb (HF.out.below HD0.out) hgB (hcell k us[k] (List.getElem?_eq_getElem hlt))
   obtain ⟨u,hu⟩:∃ u,us[k] = u:=⟨_,rfl⟩
   rw [hu] at hly ck1
   have HKA:Hid (∀ (W:World) (T:TypeId) (x:Value),Below wr.heap.size wr W → Calls Tryz.prog 134 #[.pointer (some ⟨b,0,none⟩),.iface T x] W fun e w'=>e = .returned (.tuple #[]) ∧ Bd w' b (n1 + 1) ∧ Fb b w w'):=fun W T x hW=>(badd_any b n1 _ (.inr ⟨T,x,rfl⟩) W (HD.out.keep hW) (by omega)).mono fun e w' ⟨h1,h2,h3⟩=>⟨h1,h2,(HF.out.trans (Fb.of HD.out hW)).trans h3⟩
   clear hdk hcell HLY hu hm0 hmc hm1
   cases r with
   | nil=>cases hly
   | br=>exact absurd HWF.out.1 (by simp)
   | text t r'=>
    cases hly with
    | text h2=>
    have HLY2:Hid (Lay w (fun g=>g < b) r' (us.drop (k + 1))):=h2
    have HV2:Hid (Vd r'):=HVD.out
    have HF2:Hid (Wf false r'):=HWF.out.2
    have hn2:nM r' + 1 ≤ nM (.text t r'):=by simp only [nM,flat];first | (simp;done) | (simp;omega)
    have t0:=fun v w=>ta_same (xT:=283) Tryz.underlying285 v w
    clear HVD HWF
    go_wp2_with (go_at_call 134;refine (HKA.out _ _ _ (by first | exact allocB _ _ | exact Below.refl _ _)).mono ?_;rintro e w2 ⟨rfl,hd2,hf2⟩;have HDn:Hid (Bd w2 b (n1 + 1)):=hd2;have HFn:Hid (Fb b w w2):=hf2;clear hd2 hf2)
    go_wp2
    go_roundw
    case rel=>exact ⟨k + 1,(n1 + 1),r',by go_num,by omega,by omega,by omega,by omega,HDn,HFn,HV2,HF2,HLY2⟩
    case measure=>simp [intOf];omega
   | sign  r'=>
    cases hly with
    | sign h2=>
    have HLY2:Hid (Lay w (fun g=>g < b) r' (us.drop (k + 1))):=h2
    have HV2:Hid (Vd r'):=HVD.out
    have HF2:Hid (Wf false r'):=HWF.out.2
    have hn2:nM r' + 1 ≤ nM (.sign r'):=by simp only [nM,flat];first | (simp;done) | (simp;omega)
    have t0:=fun v w=>ta_other (t:=287) (xT:=283) Tryz.underlying285 (by decide) Tryz.zeroValue285 v w
    have t1:=fun v w=>ta_same (xT:=283) Tryz.underlying287 v w
    clear HVD HWF
    go_wp2_with (go_at_call 134;refine (HKA.out _ _ _ (by first | exact allocB _ _ | exact Below.refl _ _)).mono ?_;rintro e w2 ⟨rfl,hd2,hf2⟩;have HDn:Hid (Bd w2 b (n1 + 1)):=hd2;have HFn:Hid (Fb b w w2):=hf2;clear hd2 hf2)
    go_wp2
    go_roundw
    case rel=>exact ⟨k + 1,(n1 + 1),r',by go_num,by omega,by omega,by omega,by omega,HDn,HFn,HV2,HF2,HLY2⟩
    case measure=>simp [intOf];omega
   | simple n a r'=>
    cases hly with
    | simple h2=>
    have HLY2:Hid (Lay w (fun g=>g < b) r' (us.drop (k + 1))):=h2
    have HV2:Hid (Vd r'):=HVD.out.2
    have HF2:Hid (Wf false r'):=HWF.out.2
    have hn2:nM r' + 1 ≤ nM (.simple n a r'):=by simp only [nM,flat];first | (simp;done) | (simp;omega)
    have t0:=fun v w=>ta_other (t:=290) (xT:=283) Tryz.underlying285 (by decide) Tryz.zeroValue285 v w
    have t1:=fun v w=>ta_other (t:=290) (xT:=283) Tryz.underlying287 (by decide) Tryz.zeroValue287 v w
    have t2:=fun v w=>ta_same (xT:=283) Tryz.underlying290 v w
    clear HVD HWF
    go_wp2_with (go_at_call 134;refine (HKA.out _ _ _ (by first | exact allocB _ _ | exact Below.refl _ _)).mono ?_;rintro e w2 ⟨rfl,hd2,hf2⟩;have HDn:Hid (Bd w2 b (n1 + 1)):=hd2;have HFn:Hid (Fb b w w2):=hf2;clear hd2 hf2)
    go_wp2
    go_roundw
    case rel=>exact ⟨k + 1,(n1 + 1),r',by go_num,by omega,by omega,by omega,by omega,HDn,HFn,HV2,HF2,HLY2⟩
    case measure=>simp [intOf];omega
   | num n a r'=>
    cases hly with
    | num h2=>
    have HLY2:Hid (Lay w (fun g=>g < b) r' (us.drop (k + 1))):=h2
    have HV2:Hid (Vd r'):=HVD.out.2
    have HF2:Hid (Wf false r'):=HWF.out.2
    have hn2:nM r' + 1 ≤ nM (.num n a r'):=by simp only [nM,flat];first | (simp;done) | (simp;omega)
    have t0:=fun v w=>ta_other (t:=291) (xT:=283) Tryz.underlying285 (by decide) Tryz.zeroValue285 v w
    have t1:=fun v w=>ta_other (t:=291) (xT:=283) Tryz.underlying287 (by decide) Tryz.zeroValue287 v w
    have t2:=fun v w=>ta_other (t:=291) (xT:=283) Tryz.underlying290 (by decide) Tryz.zeroValue290 v w
    have t3:=fun v w=>ta_same (xT:=283) Tryz.underlying291 v w
    clear HVD HWF
    go_wp2_with (go_at_call 134;refine (HKA.out _ _ _ (by first | exact allocB _ _ | exact Below.refl _ _)).mono ?_;rintro e w2 ⟨rfl,hd2,hf2⟩;have HDn:Hid (Bd w2 b (n1 + 1)):=hd2;have HFn:Hid (Fb b w w2):=hf2;clear hd2 hf2)
    go_wp2
    go_roundw
    case rel=>exact ⟨k + 1,(n1 + 1),r',by go_num,by omega,by omega,by omega,by omega,HDn,HFn,HV2,HF2,HLY2⟩
    case measure=>simp [intOf];omega
   | sel n a bs e1 r'=>
    cases hly with
    | sel hs hb h2=>
    have HLY2:Hid (Lay w (fun g=>g < b) r' (us.drop (k + 1))):=h2
    have HV2:Hid (Vd r'):=HVD.out.2.2
    have HF2:Hid (Wf false r'):=HWF.out.2.2
    have hn2:nM r' + nM bs + 2 ≤ nM (.sel n a bs e1 r'):=by simp only [nM,flat];first | (simp;done) | (simp;omega)
    rename_i v us2
    obtain ⟨ya,yn,yc,rfl⟩:∃ ya yn yc,v = .slice ya yn yc:=by
     rcases hs with ⟨_,h1⟩ | ⟨g,n,c,h1,_⟩
     ·exact ⟨_,_,_,h1⟩
     ·exact ⟨_,_,_,h1⟩
    have t0:=fun v w=>ta_other (t:=296) (xT:=283) Tryz.underlying285 (by decide) Tryz.zeroValue285 v w
    have t1:=fun v w=>ta_other (t:=296) (xT:=283) Tryz.underlying287 (by decide) Tryz.zeroValue287 v w
    have t2:=fun v w=>ta_other (t:=296) (xT:=283) Tryz.underlying290 (by decide) Tryz.zeroValue290 v w
    have t3:=fun v w=>ta_other (t:=296) (xT:=283) Tryz.underlying291 (by decide) Tryz.zeroValue291 v w
    have t4:=fun v w=>ta_same (xT:=283) Tryz.underlying296 v w
    have hbsL:nM bs < L:=by omega
    have hba:Below wr.heap.size wr (wr.alloc (.cells #[.string ⟨n.toArray⟩,.int .i64 (a:Nat),.slice ya yn yc,.int .i64 (e1:Nat)] 296)):=allocB _ _
    have hbw:=(HF.out.trans (Fb.of HD.out hba))
    have HRB:RowAt (wr.alloc (.cells #[.string ⟨n.toArray⟩,.int .i64 (a:Nat),.slice ya yn yc,.int .i64 (e1:Nat)] 296)) (fun g=>g < b) 4 (.slice ya yn yc) bs:=RowAt.mono (v:=.slice ya yn yc) ⟨us2,hs,hb⟩ hbw.size fun g hg _=>⟨(hbw.below HD0.out).block g hg,hg⟩
    have kb:=btext_of bs (HBB.out bs hbsL) b n1 _ n a e1 ya yn yc HVD.out.2.1 HWF.out.2.1 (by omega) (HD.out.keep hba) HRB
    have HFA:Hid (Fb b w (wr.alloc (.cells #[.string ⟨n.toArray⟩,.int .i64 (a:Nat),.slice ya yn yc,.int .i64 (e1:Nat)] 296))):=hbw
    clear HVD HWF hs hb HRB hbw HKA hba
    go_wp2_with fail
    refine kb.mono ?_
    rintro e w2 ⟨rfl,n2,g1,g2,hd2,hf2⟩
    have HDn:Hid (Bd w2 b n2):=hd2
    have HFn:Hid (Fb b w w2):=HFA.out.trans hf2
    clear kb hd2 hf2
    go_wp2
    go_roundw
    case rel=>exact ⟨k + 1,n2,r',by go_num,by omega,by omega,by omega,by omega,HDn,HFn,HV2,HF2,HLY2⟩
    case measure=>simp [intOf];omega
   | plu n a ord off bs e1 r'=>
    cases hly with
    | plu hs hb h2=>
    have HLY2:Hid (Lay w (fun g=>g < b) r' (us.drop (k + 1))):=h2
    have HV2:Hid (Vd r'):=HVD.out.2.2.2
    have HF2:Hid (Wf false r'):=HWF.out.2.2
    have hn2:nM r' + nM bs + 2 ≤ nM (.plu n a ord off bs e1 r'):=by simp only [nM,flat];first | (simp;done) | (simp;omega)
    rename_i v us2
    obtain ⟨ya,yn,yc,rfl⟩:∃ ya yn yc,v = .slice ya yn yc:=by
     rcases hs with ⟨_,h1⟩ | ⟨g,n,c,h1,_⟩
     ·exact ⟨_,_,_,h1⟩
     ·exact ⟨_,_,_,h1⟩
    have t0:=fun v w=>ta_other (t:=299) (xT:=283) Tryz.underlying285 (by decide) Tryz.zeroValue285 v w
    have t1:=fun v w=>ta_other (t:=299) (xT:=283) Tryz.underlying287 (by decide) Tryz.zeroValue287 v w
    have t2:=fun v w=>ta_other (t:=299) (xT:=283) Tryz.underlying290 (by decide) Tryz.zeroValue290 v w
    have t3:=fun v w=>ta_other (t:=299) (xT:=283) Tryz.underlying291 (by decide) Tryz.zeroValue291 v w
    have t4:=fun v w=>ta_other (t:=299) (xT:=283) Tryz.underlying296 (by decide) Tryz.zeroValue296 v w
    have t5:=fun v w=>ta_same (xT:=283) Tryz.underlying299 v w
    have hbsL:nM bs < L:=by omega
    have hba:Below wr.heap.size wr (wr.alloc (.cells #[.string ⟨n.toArray⟩,.int .i64 (a:Nat),.bool ord,.int .u32 (Pr.val off:Nat),.slice ya yn yc,.int .i64 (e1:Nat)] 299)):=allocB _ _
    have hbw:=(HF.out.trans (Fb.of HD.out hba))
    have HRB:RowAt (wr.alloc (.cells #[.string ⟨n.toArray⟩,.int .i64 (a:Nat),.bool ord,.int .u32 (Pr.val off:Nat),.slice ya yn yc,.int .i64 (e1:Nat)] 299)) (fun g=>g < b) 4 (.slice ya yn yc) bs:=RowAt.mono (v:=.slice ya yn yc) ⟨us2,hs,hb⟩ hbw.size fun g hg _=>⟨(hbw.below HD0.out).block g hg,hg⟩
    have kb:=bnum_of bs (HBB.out bs hbsL) b n1 _ n a e1 ord (Pr.val off) ya yn yc HVD.out.2.2.1 HWF.out.2.1 (by omega) (HD.out.keep hba) HRB
    have HFA:Hid (Fb b w (wr.alloc (.cells #[.string ⟨n.toArray⟩,.int .i64 (a:Nat),.bool ord,.int .u32 (Pr.val off:Nat),.slice ya yn yc,.int .i64 (e1:Nat)] 299))):=hbw
    clear HVD HWF hs hb HRB hbw HKA hba
    go_wp2_with fail
    refine kb.mono ?_
    rintro e w2 ⟨rfl,n2,g1,g2,hd2,hf2⟩
    have HDn:Hid (Bd w2 b n2):=hd2
    have HFn:Hid (Fb b w w2):=HFA.out.trans hf2
    clear kb hd2 hf2
    go_wp2
    go_roundw
    case rel=>exact ⟨k + 1,n2,r',by go_num,by omega,by omega,by omega,by omega,HDn,HFn,HV2,HF2,HLY2⟩
    case measure=>simp [intOf];omega
  ·have hlt':¬ ((k:Int) < us.length):=by omega
   clear HLY HSL HVD HWF
   go_wp2
   first | go_end0 | refine bodyPost_ret (results_none rfl _ _ _) rfl ?_
   exact ⟨rfl,n1,hn1,by omega,HD.out,HF.out⟩
theorem bd_all:∀ (k:Nat) (t:Pg.Tr),nM t ≤ k → BdMsg t ∧ BdBrs t:=by
 intro k
 induction k with
 | zero=>
  intro t h
  exact ⟨bmsg_of t fun bs hb=>absurd hb (by omega),bbrs_of t fun m hm=>absurd hm (by omega)⟩
 | succ k ih=>
  intro t h
  exact ⟨bmsg_of t fun bs hb=>(ih bs (by omega)).2,bbrs_of t fun m hm=>(ih m (by omega)).1⟩
end Go.Proofs.YtaepcfidpekflaaGreatDoor
namespace Go.Proofs.YtaepcfidpekflaaGreatDoor
open Go.RowKit Go.Maps Go.Shelf Pg
theorem row_form {w:World} {S:Nat → Prop} {k:Nat} {v:Value} {t:Pg.Tr} (h:RowAt w S k v t):∃ va vn vc,v = .slice va vn vc:=by
 obtain ⟨us,h1,_⟩:=h
 rcases h1 with ⟨_,h1⟩ | ⟨g,n,c,h1,_⟩
 ·exact ⟨_,_,_,h1⟩
 ·exact ⟨_,_,_,h1⟩
set_option maxHeartbeats 1600000 in
set_option maxRecDepth 100000 in
theorem pcompile_any (t:Pg.Tr) (w:World) (v:Value) (base:Nat) (hvd:Vd t) (hwf:Wf false t) (hn:nM t ≤ 10000) (hrow:RowAt w (fun g=>base ≤ g) 1 v t):
  Calls Tryz.prog 98 #[v] w fun e w'=>(∃ a n c,e = .returned (.slice a n c)) ∧ Below w.heap.size w w':=by
 obtain ⟨va,vn,vc,rfl⟩:=row_form hrow
 have hb1:Below w.heap.size w (w.alloc (.cells #[.slice none 0 0] 243)):=allocB _ _
 have hd1:Bd (w.alloc (.cells #[.slice none 0 0] 243)) w.heap.size 0:=⟨.slice none 0 0,[],Boxed.new _ _ _,World.ownsRow_nil _ _ _ _⟩
 have km:=(bd_all _ t (Nat.le_refl _)).1 w.heap.size 0 _ (.slice va vn vc) hvd hwf (by omega) hd1 (hrow.mono hb1.size fun g _ hl=>⟨hb1.block g hl,hl⟩)
 have HB1:Hid (Below w.heap.size w (w.alloc (.cells #[.slice none 0 0] 243))):=hb1
 have HD1:Hid (Bd (w.alloc (.cells #[.slice none 0 0] 243)) w.heap.size 0):=hd1
 clear hvd hwf hrow hb1 hd1
 go_enter Tryz.func98,Tryz.ntmps98
 go_wp2_with fail
 refine km.mono ?_
 rintro e w2 ⟨rfl,n2,_,hn2,hd2,hf2⟩
 have ka:=badd_any w.heap.size n2 (.iface 246 (.agg #[])) (.inr ⟨_,_,rfl⟩) w2 hd2 (by omega)
 have HF2:Hid (Fb w.heap.size (w.alloc (.cells #[.slice none 0 0] 243)) w2):=hf2
 clear km hd2 hf2
 go_wp2_with fail
 refine ka.mono ?_
 rintro e w3 ⟨rfl,hd3,hf3⟩
 have HBW:Hid (Below w.heap.size w w3):=HB1.out.trans ((HF2.out.trans hf3).below HD1.out)
 obtain ⟨v3,xs3,h31,h32⟩:=hd3
 obtain ⟨a3,c3,rfl⟩:=owns_len h32
 have c:=h31.cell
 clear ka hf3 h31 h32 HF2 HD1 HB1
 go_wp2
 go_ret
 exact ⟨⟨_,_,_,rfl⟩,HBW.out⟩
end Go.Proofs.YtaepcfidpekflaaGreatDoor
