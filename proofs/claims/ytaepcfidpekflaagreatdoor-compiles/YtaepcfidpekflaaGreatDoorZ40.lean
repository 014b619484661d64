/-
  Several texts in one (Db). By the verifier.
-/
import Derived.Test.YtaepcfidpekflaaGreatDoorZ29
import Derived.Test.YtaepcfidpekflaaGreatDoorZ35
import Derived.Test.YtaepcfidpekflaaGreatDoorZ38
import Derived.Test.YtaepcfidpekflaaGreatDoorZ39
namespace Go.Proofs.YtaepcfidpekflaaGreatDoor
open Go.RowKit Go.Maps Go.Shelf Pg
def CompSaid (ok:Bool) (s:Pg.T) (w:World) (e:Ending) (w':World):Prop:=Below w.heap.size w w' ∧ if ok = true then ∃ r,PatR s r ∧ (match r with
 | .inl (er,a)=>∃ v,e = .returned (.tuple #[.pointer none,v]) ∧ Flt w.heap.size w' v er a
 | .inr _=>∃ p,e = .returned (.tuple #[.pointer (some p),.nilIface]))
 else e = .returned (.tuple #[.pointer none,(.iface 30 (.int .i64 8))])
theorem nM_of {s:Pg.T} {t:Pg.Tr} (h:PatR s (.inr t)):Vd t ∧ Wf false t ∧ nM t ≤ 10000:=by
 cases h with
 | ok h h1 h2 h3=>
  obtain ⟨hp,hf⟩:=pts_of s h1
  obtain ⟨w1,w2,w3,w4,w5,w6⟩:=whole_marks hp.cps h2
  rw [hf] at w2
  exact ⟨w4,w3,by unfold nM;omega⟩
set_option maxHeartbeats 3200000 in
set_option maxRecDepth 100000 in
theorem phcompile_yes (a0 a1:Option Addr) (c0 c1:Nat) (l0 l1:List (Pr.T × Pr.T)) (mi po g:Int) (f n:Nat) (d:ByteArray) (s:Pg.T) (w:World) (hd:d.size ≤ 100000) (h0:RulesIn w a0 l0) (h1:RulesIn w a1 l1) (hB:Base w) (hs:s.length ≤ 1000000) (hK:locB l0 l1 mi po g f n d.data.toList = true):
  Calls Tryz.prog 69 #[.string ⟨s.toArray⟩,.agg #[.slice a0 l0.length c0,.slice a1 l1.length c1,.int .i32 mi,.int .i32 po,.int .i32 g,.int .u8 f,.int .u8 n,.string d]] w fun e w'=>CompSaid true s w e w':=by
 have hba:Below w.heap.size w (w.alloc (.cells #[.slice a0 l0.length c0,.slice a1 l1.length c1,.int .i32 mi,.int .i32 po,.int .i32 g,.int .u8 f,.int .u8 n,.string d] 25)):=allocB _ _
 have HBA:Hid (Below w.heap.size w (w.alloc (.cells #[.slice a0 l0.length c0,.slice a1 l1.length c1,.int .i32 mi,.int .i32 po,.int .i32 g,.int .u8 f,.int .u8 n,.string d] 25))):=hba
 have kn:=lnew_yes a0 a1 c0 c1 l0 l1 mi po g f n d _ hd (h0.keep hba) (h1.keep hba) (hB.below hba) hK
 have HB:Hid (Base w):=hB
 clear hba h0 h1 hB hK
 go_enter Tryz.func69,Tryz.ntmps69
 go_upto_region 1 with fail
 go_cut [6,7] (fun a b wd=>b = .nilIface ∧ ∃ (x:Nat) (z0 z1 z2 z3 z4 z5 z6 z7 z8 z9 z10 z11 z12 z13 z14 z15 z16:Value),a = .pointer (some ⟨x,0,none⟩) ∧ Row wd x #[z0,z1,z2,z3,z4,z5,z6,z7,z8,z9,z10,z11,z12,z13,z14,z15,z16] ∧ Below w.heap.size w wd)
 case first=>as_aux_lemma=>
  go_wp2_with fail
  refine kn.mono ?_
  rintro e w1 ⟨⟨d0,d1,d2,d3,d4,d5,d6,d7,d8,d9,k0,k1,u0,v0,x0,u1,v1,x1,rfl⟩,hb1⟩
  have HB1:Hid (Below w.heap.size w w1):=below_of HBA.out hb1
  clear kn hb1
  go_wp2
  go_meet
  exact ⟨rfl,w1.heap.size,_,_,_,_,_,_,_,_,_,_,_,_,_,_,_,_,_,rfl,row_at w1 _ _,HB1.out.alloc HB1.out.size _⟩
 case rest=>
 obtain ⟨rfl,x,z0,z1,z2,z3,z4,z5,z6,z7,z8,z9,z10,z11,z12,z13,z14,z15,z16,rfl,hrow,hbc⟩:=hcut
 have HRX:Hid (Row wc x #[z0,z1,z2,z3,z4,z5,z6,z7,z8,z9,z10,z11,z12,z13,z14,z15,z16]):=hrow
 have HBC:Hid (Below w.heap.size w wc):=hbc
 have kp:=pnew_any s _ (HB.out.below hbc).2.2.1 hs
 clear kn hrow hbc HBA HB
 go_wp2_with fail
 refine kp.mono ?_
 rintro e w2 ⟨hb3,r,hr,hm⟩
 have HB3:Hid (Below w.heap.size w w2):=below_of HBC.out hb3
 have HR:Hid (PatR s r):=hr
 have HR2:Hid (Row w2 x #[z0,z1,z2,z3,z4,z5,z6,z7,z8,z9,z10,z11,z12,z13,z14,z15,z16]):=HRX.out.keep hb3
 have hz2:=HBC.out.size
 clear kp hb3 HRX
 cases r with
 | inl y=>
  obtain ⟨er,a⟩:=y
  obtain ⟨v,rfl,hv⟩:=hm
  have HV:Hid (Flt w.heap.size w2 v er a):=hv.mono hz2
  obtain ⟨b,rfl,_⟩:=hv
  clear hr
  go_wp2
  go_ret2
  exact ⟨HB3.out,_,HR.out,_,rfl,HV.out⟩
 | inr t=>
  obtain ⟨v,rfl,hrow⟩:=hm
  obtain ⟨g1,g2,g3⟩:=nM_of hr
  obtain ⟨va,vn,vc,rfl⟩:=row_form hrow
  have HKC:Hid (∀ W,Below w2.heap.size w2 W → Calls Tryz.prog 98 #[.slice va vn vc] W fun e w'=>(∃ a n c,e = .returned (.slice a n c)) ∧ Below w2.heap.size w2 w' ∧ ∀ j,w'.cell? ⟨x,j,none⟩ = (#[z0,z1,z2,z3,z4,z5,z6,z7,z8,z9,z10,z11,z12,z13,z14,z15,z16]:Array Value)[j]?):=fun W hW=>(pcompile_any t W _ _ g1 g2 g3 (hrow.mono hW.size fun g hg hl=>⟨hW.block g hl,hg⟩)).mono fun e w' ⟨h1,h2⟩=>⟨h1,below_of hW h2,(HR2.out.keep (below_of hW h2)).2.1⟩
  clear hrow g1 g2 g3 hr
  have q2:=HR2.out.2.1
  go_wp2_with fail
  go_region_with (go_at_call 98;refine (HKC.out _ (by first | exact Below.refl _ _ | exact (Below.refl _ _).drew)).mono ?_;rintro e w3 ⟨⟨ca,cn,cc,rfl⟩,hb4,q3⟩)
  all_goals
   have HB4:Hid (Below w.heap.size w w3):=below_of HB3.out hb4
   clear hb4 HKC q2
   go_wp2
   go_ret2
   exact ⟨HB4.out.alloc HB4.out.size _,_,HR.out,_,rfl⟩
set_option maxHeartbeats 3200000 in
set_option maxRecDepth 100000 in
theorem phcompile_any (a0 a1:Option Addr) (c0 c1:Nat) (l0 l1:List (Pr.T × Pr.T)) (mi po g:Int) (f n:Nat) (d:ByteArray) (s:Pg.T) (w:World) (hd:d.size ≤ 100000) (h0:RulesIn w a0 l0) (h1:RulesIn w a1 l1) (hB:Base w) (hs:s.length ≤ 1000000):
  Calls Tryz.prog 69 #[.string ⟨s.toArray⟩,.agg #[.slice a0 l0.length c0,.slice a1 l1.length c1,.int .i32 mi,.int .i32 po,.int .i32 g,.int .u8 f,.int .u8 n,.string d]] w fun e w'=>CompSaid (locB l0 l1 mi po g f n d.data.toList) s w e w':=by
 obtain ⟨K,HK⟩:∃ K,Hid (locB l0 l1 mi po g f n d.data.toList = K):=⟨_,rfl⟩
 rw [HK.out]
 have hba:Below w.heap.size w (w.alloc (.cells #[.slice a0 l0.length c0,.slice a1 l1.length c1,.int .i32 mi,.int .i32 po,.int .i32 g,.int .u8 f,.int .u8 n,.string d] 25)):=allocB _ _
 have HBA:Hid (Below w.heap.size w (w.alloc (.cells #[.slice a0 l0.length c0,.slice a1 l1.length c1,.int .i32 mi,.int .i32 po,.int .i32 g,.int .u8 f,.int .u8 n,.string d] 25))):=hba
 cases K with
 | false=>
  have kn:=lnew_no a0 a1 c0 c1 l0 l1 mi po g f n d _ hd (h0.keep hba) (h1.keep hba) (hB.below hba) HK.out
  clear hba h0 h1 hB
  go_enter Tryz.func69,Tryz.ntmps69
  go_wp2_with fail
  refine kn.mono ?_
  rintro e w1 ⟨rfl,hb1⟩
  have HB1:Hid (Below w.heap.size w w1):=below_of HBA.out hb1
  clear kn hb1 HBA
  go_wp2
  go_ret2
  exact ⟨by first | exact HB1.out | exact HB1.out.alloc HB1.out.size _,rfl⟩
 | true=>
  exact phcompile_yes a0 a1 c0 c1 l0 l1 mi po g f n d s w hd h0 h1 hB hs HK.out
def CompX (ok:Bool) (s:Pg.T) (X:Nat × Nat):Prop:=if ok = true then ∃ r,PatR s r ∧ X = (match r with
 | .inl x=>x
 | .inr _=>(0,0)) else X = (8,0)
set_option maxHeartbeats 3200000 in
set_option maxRecDepth 100000 in
theorem plcompile_any (a0 a1:Option Addr) (c0 c1:Nat) (l0 l1:List (Pr.T × Pr.T)) (mi po g:Int) (f n:Nat) (d:ByteArray) (s:Pg.T) (w:World) (hd:d.size ≤ 100000) (h0:RulesIn w a0 l0) (h1:RulesIn w a1 l1) (hB:Base w) (hs:s.length ≤ 1000000):
  Calls Tryz.prog 45 #[.string ⟨s.toArray⟩,.agg #[.slice a0 l0.length c0,.slice a1 l1.length c1,.int .i32 mi,.int .i32 po,.int .i32 g,.int .u8 f,.int .u8 n,.string d]] w fun e w'=>Below w.heap.size w w' ∧ ∃ (X:Nat × Nat) (p:Option Addr),CompX (locB l0 l1 mi po g f n d.data.toList) s X ∧ e = .returned (.tuple #[.pointer p,.int .i64 (X.1:Nat),.int .i64 (X.2:Nat)]) ∧ (p = none ↔ X.1 ≠ 0):=by
 have hba:Below w.heap.size w (w.alloc (.cells #[.slice a0 l0.length c0,.slice a1 l1.length c1,.int .i32 mi,.int .i32 po,.int .i32 g,.int .u8 f,.int .u8 n,.string d] 25)):=allocB _ _
 have HBA:Hid (Below w.heap.size w (w.alloc (.cells #[.slice a0 l0.length c0,.slice a1 l1.length c1,.int .i32 mi,.int .i32 po,.int .i32 g,.int .u8 f,.int .u8 n,.string d] 25))):=hba
 have kc:=phcompile_any a0 a1 c0 c1 l0 l1 mi po g f n d s _ hd (h0.keep hba) (h1.keep hba) (hB.below hba) hs
 have HE:Hid (w.cell? ⟨0,0,none⟩ = some (.iface 208 (.agg #[.pointer (some ⟨9,67,none⟩)]))):=hB.1
 obtain ⟨K,HK⟩:∃ K,locB l0 l1 mi po g f n d.data.toList = K:=⟨_,rfl⟩
 rw [HK] at kc ⊢
 clear hba h0 h1 hB HK
 go_enter Tryz.func45,Tryz.ntmps45
 go_wp2_with fail
 refine kc.mono ?_
 rintro e w1 ⟨hb1,hm⟩
 have HB1:Hid (Below w.heap.size w w1):=below_of HBA.out hb1
 have hE1:=(HB1.out.cell (p:=⟨0,0,none⟩) (cell_lt HE.out)).trans HE.out
 clear kc hb1 HE HBA
 cases K with
 | false=>
  obtain rfl:e = _:=hm
  have kt:=tell_errno 8 w1 hE1
  clear hE1
  go_wp2_with fail
  refine kt.mono ?_
  rintro e w2 ⟨rfl,hb2⟩
  have HB2:Hid (Below w.heap.size w w2):=below_of HB1.out hb2
  clear kt hb2
  go_wp2
  refine bodyPost_ret (v:=.tuple #[.pointer none,.int .i64 8,.int .i64 0]) (by simp [results,Tryz.results45,go_sem]) rfl ?_
  exact ⟨HB2.out,(8,0),none,rfl,rfl,by simp⟩
 | true=>
  obtain ⟨r,hr,hm⟩:∃ r,PatR s r ∧ _:=hm
  have HR:Hid (PatR s r):=hr
  cases r with
  | inl x=>
   obtain ⟨er,a⟩:=x
   obtain ⟨v,rfl,b,rfl,hbl,hrow⟩:=hm
   have her:er ≠ 0:=(read_bad hr).2
   have HER:Hid (er ≠ 0):=her
   have kt:=tell_fault b er a w1 hE1 hrow.1 (hrow.2.1 0) (hrow.2.1 1)
   clear hr hrow hE1 hbl her
   go_wp2_with fail
   refine kt.mono ?_
   rintro e w2 ⟨rfl,hb2⟩
   have HB2:Hid (Below w.heap.size w w2):=below_of HB1.out hb2
   clear kt hb2
   go_wp2
   refine bodyPost_ret (v:=.tuple #[.pointer none,.int .i64 er,.int .i64 a]) (by simp [results,Tryz.results45,go_sem]) rfl ?_
   exact ⟨HB2.out,(er,a),none,⟨_,HR.out,rfl⟩,rfl,by simpa using HER.out⟩
  | inr t=>
   obtain ⟨p,rfl⟩:=hm
   have kt:=tell_nil w1
   clear hr hE1
   go_wp2_with fail
   refine kt.mono ?_
   rintro e w2 ⟨rfl,hb2⟩
   have HB2:Hid (Below w.heap.size w w2):=below_of HB1.out hb2
   clear kt hb2
   go_wp2
   refine bodyPost_ret (v:=.tuple #[.pointer (some p),.int .i64 0,.int .i64 0]) (by simp [results,Tryz.results45,go_sem]) rfl ?_
   exact ⟨HB2.out,(0,0),some p,⟨_,HR.out,rfl⟩,rfl,by simp⟩
end Go.Proofs.YtaepcfidpekflaaGreatDoor
