/-
  Several texts in one (Jq, Dc). By the verifier.
-/
import Derived.Test.YtaepcfidpekflaaGreatDoorZ51
import Derived.Test.YtaepcfidpekflaaGreatDoorZ50
import Derived.Test.YtaepcfidpekflaaGreatDoorZ39
import Derived.Test.YtaepcfidpekflaaGreatDoorZ34
import Derived.Test.YtaepcfidpekflaaGreatDoorZ09
import Derived.Test.YtaepcfidpekflaaGreatDoorZ26
import Derived.Test.YtaepcfidpekflaaGreatDoorZ40
import Derived.Test.YtaepcfidpekflaaGreatDoorZ41
import Derived.Test.YtaepcfidpekflaaGreatDoorZ46
namespace Go.Proofs.YtaepcfidpekflaaGreatDoor
open Go.RowKit
theorem MkAt.nil (w:World) (a:Option Addr):MkAt w a []:=fun i m h=>by simp at h
def ReadSaid (w w':World) (r:List Dk.Mark × Nat × Nat) (e:Ending):Prop:=∃ a c,e = .returned (.tuple #[.slice a r.1.length c,.int .i64 (r.2.1:Nat),.int .i64 (r.2.2:Nat)]) ∧ MkAt w' a r.1 ∧ Below w.heap.size w w'
set_option maxHeartbeats 3200000 in
set_option maxRecDepth 100000 in
theorem kread_any (w:World) (s:Pr.T) (hs:s.length ≤ 1000000) (HO:Hid (Dk.ReadOk s)):
  Calls Tryz.prog 46 #[.string ⟨s.toArray⟩] w fun e w'=>ReadSaid w w' (Dk.readS s) e:=by
 obtain ⟨R,HR⟩:∃ R,Hid (Dk.readS s = R):=⟨_,rfl⟩
 rw [HR.out]
 have hsz:(⟨s.toArray⟩:ByteArray).size = s.length:=by simp [ByteArray.size]
 go_enter Tryz.func46,Tryz.ntmps46
 by_cases hl:1000 < s.length
 ·have hl':(1000:Int) < s.length:=by omega
  have HX:Hid (R = ([],1,0)):=by
   show _ = _
   rw [← HR.out,Dk.readS,if_pos hl]
  clear HR HO
  go_wp2
  refine bodyPost_ret (v:=.tuple #[.slice none 0 0,.int .i64 1,.int .i64 0]) (by simp [results,Tryz.results46,go_sem]) rfl ?_
  rw [HX.out]
  exact ⟨none,0,rfl,MkAt.nil _ _,Below.refl _ _⟩
 ·have hl':¬ ((1000:Int) < s.length):=by omega
  have kp:=points_any ⟨s.toArray⟩ w (by rw [hsz];omega)
  obtain ⟨PL,HPL⟩:∃ PL,Hid (Pn.ptsLen s = PL):=⟨_,rfl⟩
  obtain ⟨PN,HPN⟩:∃ PN,Hid ((Pn.pts s).length = PN):=⟨_,rfl⟩
  have HPle:PL ≤ s.length:=by rw [← HPL.out];exact Pn.lenN_le _ _
  rw [show (⟨s.toArray⟩:ByteArray).data.toList = s from rfl,HPN.out,HPL.out] at kp
  go_wp2_with fail
  refine kp.mono ?_
  rintro e w1 ⟨ao,cv,rfl,_,hb1⟩
  clear kp
  have HB1:Hid (Below w.heap.size w w1):=hb1
  clear hb1
  by_cases hp:PL < s.length
  ·have hp':(PL:Int) < s.length:=by omega
   have HX:Hid (R = ([],2,PN)):=by
    show _ = _
    rw [← HR.out,Dk.readS,if_neg hl,if_pos (by rw [HPL.out];exact hp),HPN.out]
   clear HR HO HPL HPN
   go_wp2
   refine bodyPost_ret (v:=.tuple #[.slice none 0 0,.int .i64 2,.int .i64 PN]) (by simp [results,Tryz.results46,go_sem]) rfl ?_
   rw [HX.out]
   exact ⟨none,0,rfl,MkAt.nil _ _,HB1.out⟩
  ·have hp':¬ ((PL:Int) < s.length):=by omega
   have km:=kmarks_any w1 s (by omega)
   obtain ⟨X,HX⟩:∃ X,Hid (Dk.marks s = X):=⟨_,rfl⟩
   rw [HX.out] at km
   have HOK:=HO.out (by omega) (by rw [HPL.out];omega)
   rw [HX.out] at HOK
   have HR2:Hid ((if X.err ≠ 0 then (([],X.err,(Pn.pts (s.take X.place)).length):List Dk.Mark × Nat × Nat) else if (Dk.faults X.out).1 ≠ 0 then ([],(Dk.faults X.out).1,(Pn.pts (s.take (Dk.faults X.out).2)).length) else (X.out,0,0)) = R):=by
    show _ = _
    have h:=HR.out
    unfold Dk.readS at h
    rw [if_neg hl,if_neg (by rw [HPL.out];exact hp),HX.out] at h
    exact h
   clear HR HO HX HPL HPN
   go_wp2_with fail
   refine km.mono ?_
   rintro e w2 ⟨ov,rfl,hown2,hb2⟩
   obtain ⟨a,c,rfl,hM⟩:=MkAt.of hown2
   have HM:Hid (MkAt w2 a X.out):=hM
   have HB2:Hid (Below w.heap.size w w2):=below_of HB1.out hb2
   clear km hown2 hM HB1 hb2
   by_cases he:X.err = 0
   ·have he':((X.err:Int) == 0) = true:=by rw [he];rfl
    obtain ⟨hp1,h2⟩:=HOK
    obtain ⟨h3,h4,h5⟩:=h2 he
    have kf:=kfaults_any w2 a X.out c (by omega) HM h4
    obtain ⟨F1,HF1⟩:∃ F1,Hid ((Dk.faults X.out).1 = F1):=⟨_,rfl⟩
    obtain ⟨F2,HF2⟩:∃ F2,Hid ((Dk.faults X.out).2 = F2):=⟨_,rfl⟩
    rw [HF1.out,HF2.out] at kf
    rw [HF2.out] at h5
    have HR3:Hid ((if F1 ≠ 0 then (([],F1,(Pn.pts (s.take F2)).length):List Dk.Mark × Nat × Nat) else (X.out,0,0)) = R):=by
     show _ = _
     have:=HR2.out
     rw [if_neg (fun h=>h he),HF1.out,HF2.out] at this
     exact this
    clear HR2 h2 h4 HF1 HF2
    go_wp2_with fail
    refine kf.mono ?_
    rintro e w3 ⟨rfl,hb3⟩
    have HB3:Hid (Below w.heap.size w w3):=below_of HB2.out hb3
    have HM3:Hid (MkAt w3 a X.out):=HM.out.keep hb3
    clear kf hb3 HM HB2
    by_cases hf:F1 = 0
    ·have hf':((F1:Int) == 0) = true:=by rw [hf];rfl
     have HX:Hid (R = (X.out,0,0)):=by
      show _ = _
      rw [← HR3.out,if_neg (fun h=>h hf)]
     clear HR3
     go_wp2
     refine bodyPost_ret (v:=.tuple #[.slice a X.out.length c,.int .i64 0,.int .i64 0]) (by simp [results,Tryz.results46,go_sem]) rfl ?_
     rw [HX.out]
     exact ⟨a,c,rfl,HM3.out,HB3.out⟩
    ·have hf':((F1:Int) == 0) = false:=by rw [beq_eq_false_iff_ne];omega
     have kq:=points_any ⟨(s.take F2).toArray⟩ w3 (by simp [ByteArray.size];omega)
     rw [show (⟨(s.take F2).toArray⟩:ByteArray).data.toList = s.take F2 from rfl] at kq
     obtain ⟨QN,HQN⟩:∃ QN,Hid ((Pn.pts (s.take F2)).length = QN):=⟨_,rfl⟩
     rw [HQN.out] at kq
     have HX:Hid (R = ([],F1,QN)):=by
      show _ = _
      rw [← HR3.out,if_pos hf,HQN.out]
     have ex:=ex_take s F2
     have h5':(F2:Int) ≤ s.length:=by omega
     clear HR3 HQN
     go_wp2_with fail
     refine kq.mono ?_
     rintro e w4 ⟨ao,cv,rfl,_,hb4⟩
     have HB4:Hid (Below w.heap.size w w4):=below_of HB3.out hb4
     clear kq hb4
     go_wp2
     refine bodyPost_ret (v:=.tuple #[.slice none 0 0,.int .i64 F1,.int .i64 QN]) (by simp [results,Tryz.results46,go_sem]) rfl ?_
     rw [HX.out]
     exact ⟨none,0,rfl,MkAt.nil _ _,HB4.out⟩
   ·have he':((X.err:Int) == 0) = false:=by rw [beq_eq_false_iff_ne];omega
    obtain ⟨hp1,_⟩:=HOK
    have kq:=points_any ⟨(s.take X.place).toArray⟩ w2 (by simp [ByteArray.size];omega)
    rw [show (⟨(s.take X.place).toArray⟩:ByteArray).data.toList = s.take X.place from rfl] at kq
    obtain ⟨QN,HQN⟩:∃ QN,Hid ((Pn.pts (s.take X.place)).length = QN):=⟨_,rfl⟩
    rw [HQN.out] at kq
    have HX:Hid (R = ([],X.err,QN)):=by
     show _ = _
     rw [← HR2.out,if_pos he,HQN.out]
    have ex:=ex_take s X.place
    have h5':(X.place:Int) ≤ s.length:=by omega
    clear HR2 HQN
    go_wp2_with fail
    refine kq.mono ?_
    rintro e w4 ⟨ao,cv,rfl,_,hb4⟩
    have HB4:Hid (Below w.heap.size w w4):=below_of HB2.out hb4
    clear kq hb4
    go_wp2
    refine bodyPost_ret (v:=.tuple #[.slice none 0 0,.int .i64 X.err,.int .i64 QN]) (by simp [results,Tryz.results46,go_sem]) rfl ?_
    rw [HX.out]
    exact ⟨none,0,rfl,MkAt.nil _ _,HB4.out⟩
end Go.Proofs.YtaepcfidpekflaaGreatDoor
namespace Go.Proofs.YtaepcfidpekflaaGreatDoor
open Go.RowKit Pg
theorem read_comp {s:Pg.T} {X:Nat × Nat} (h:CompX true s X):(Dk.readS s).2 = X ∧ Dk.ReadOk s:=by
 obtain ⟨r,hr,rfl⟩:∃ r,PatR s r ∧ _:=h
 refine ⟨?_,read_ok hr⟩
 cases r with
 | inl x=>
  obtain ⟨er,a⟩:=x
  rw [(read_bad hr).1]
 | inr t=>rw [read_good hr]
set_option maxHeartbeats 3200000 in
set_option maxRecDepth 100000 in
theorem compiled_any (B0 B1:Nat) (l0 l1:List (Pr.T × Pr.T)) (v0 v1:Value) (mi po g:Int) (f n:Nat) (d:ByteArray) (s:Pg.T) (w:World) (hB:Base w) (hs:s.length ≤ 100000) (hd:d.size ≤ 100000) (k0:l0.length ≤ 100000) (k1:l1.length ≤ 100000) (m0:∀ q ∈ l0,q.1.length < 1000000 ∧ q.2.length < 1000000) (m1:∀ q ∈ l1,q.1.length < 1000000 ∧ q.2.length < 1000000) (h0:ApiV w B0 v0 l0) (h1:ApiV w B1 v1 l1):
  Calls Tryz.prog 25 #[.string ⟨s.toArray⟩,.agg #[v0,v1,.int .i32 mi,.int .i32 po,.int .i32 g,.int .u8 f,.int .u8 n,.string d]] w fun e w'=>(∃ (p b0 b1:Option Addr) (m0 e0 m1 e1:Nat),e = .returned (.tuple #[.agg #[.pointer p,.slice b0 m0 e0,.slice b1 m1 e1,.int .i32 mi,.int .i32 po,.int .i32 g,.int .u8 f,.int .u8 n,.string d,.string ⟨s.toArray⟩,.pointer none],.bool true])) ∧ Below w.heap.size w w':=by
 obtain ⟨a0,c0,rfl,i0⟩:=h0.form
 obtain ⟨a1,c1,rfl,i1⟩:=h1.form
 have hba:Below w.heap.size w ((w.alloc (.cells #[.slice a0 l0.length c0,.slice a1 l1.length c1,.int .i32 mi,.int .i32 po,.int .i32 g,.int .u8 f,.int .u8 n,.string d] 25)).alloc (.cells #[.pointer none,.slice none 0 0,.slice none 0 0,.int .i32 0,.int .i32 0,.int .i32 0,.int .u8 0,.int .u8 0,.string ⟨#[]⟩,.string ⟨#[]⟩,.pointer none] 54)):=((Below.refl _ _).alloc (Nat.le_refl _) _).alloc (by simp) _
 have kc:=copied_any B0 B1 l0 l1 _ _ mi po g f n d _ k0 k1 (h0.keep hba) (h1.keep hba)
 have HR0:Hid (RulesIn w a0 l0):=⟨k0,m0,i0⟩
 have HR1:Hid (RulesIn w a1 l1):=⟨k1,m1,i1⟩
 have HM:Hid ((∀ q ∈ l0,q.1.length < 1000000 ∧ q.2.length < 1000000) ∧ ∀ q ∈ l1,q.1.length < 1000000 ∧ q.2.length < 1000000):=⟨m0,m1⟩
 have HB:Hid (Base w):=hB
 have HBA:Hid (Below w.heap.size w ((w.alloc (.cells #[.slice a0 l0.length c0,.slice a1 l1.length c1,.int .i32 mi,.int .i32 po,.int .i32 g,.int .u8 f,.int .u8 n,.string d] 25)).alloc (.cells #[.pointer none,.slice none 0 0,.slice none 0 0,.int .i32 0,.int .i32 0,.int .i32 0,.int .u8 0,.int .u8 0,.string ⟨#[]⟩,.string ⟨#[]⟩,.pointer none] 54))):=hba
 have HRZ:Hid (Row ((w.alloc (.cells #[.slice a0 l0.length c0,.slice a1 l1.length c1,.int .i32 mi,.int .i32 po,.int .i32 g,.int .u8 f,.int .u8 n,.string d] 25)).alloc (.cells #[.pointer none,.slice none 0 0,.slice none 0 0,.int .i32 0,.int .i32 0,.int .i32 0,.int .u8 0,.int .u8 0,.string ⟨#[]⟩,.string ⟨#[]⟩,.pointer none] 54)) (w.heap.size + 1) #[.pointer none,.slice none 0 0,.slice none 0 0,.int .i32 0,.int .i32 0,.int .i32 0,.int .u8 0,.int .u8 0,.string ⟨#[]⟩,.string ⟨#[]⟩,.pointer none]):=by have:=row_at (w.alloc (.cells #[.slice a0 l0.length c0,.slice a1 l1.length c1,.int .i32 mi,.int .i32 po,.int .i32 g,.int .u8 f,.int .u8 n,.string d] 25)) #[.pointer none,.slice none 0 0,.slice none 0 0,.int .i32 0,.int .i32 0,.int .i32 0,.int .u8 0,.int .u8 0,.string ⟨#[]⟩,.string ⟨#[]⟩,.pointer none] 54;rw [World.size_alloc] at this;exact this
 have HRW:Hid (Row ((w.alloc (.cells #[.slice a0 l0.length c0,.slice a1 l1.length c1,.int .i32 mi,.int .i32 po,.int .i32 g,.int .u8 f,.int .u8 n,.string d] 25)).alloc (.cells #[.pointer none,.slice none 0 0,.slice none 0 0,.int .i32 0,.int .i32 0,.int .i32 0,.int .u8 0,.int .u8 0,.string ⟨#[]⟩,.string ⟨#[]⟩,.pointer none] 54)) w.heap.size #[.slice a0 l0.length c0,.slice a1 l1.length c1,.int .i32 mi,.int .i32 po,.int .i32 g,.int .u8 f,.int .u8 n,.string d]):=(row_at w _ _).alloc _
 clear h0 h1 i0 i1 m0 m1 hB hba
 go_enter Tryz.func25,Tryz.ntmps25
 go_wp2_with fail
 refine kc.mono ?_
 rintro e w1 ⟨⟨B,u0,u1,rfl,g0,g1⟩,hb1⟩
 obtain ⟨b0,e0,rfl,j0⟩:=g0.form
 obtain ⟨b1,e1,rfl,j1⟩:=g1.form
 have HB1:Hid (Below w.heap.size w w1):=below_of HBA.out hb1
 have HQ0:Hid (RulesIn w1 b0 l0):=⟨k0,HM.out.1,j0⟩
 have HQ1:Hid (RulesIn w1 b1 l1):=⟨k1,HM.out.2,j1⟩
 have HRW1:Hid (Row w1 w.heap.size #[.slice a0 l0.length c0,.slice a1 l1.length c1,.int .i32 mi,.int .i32 po,.int .i32 g,.int .u8 f,.int .u8 n,.string d]):=HRW.out.keep hb1
 have HRZ1:Hid (Row w1 (w.heap.size + 1) #[.pointer none,.slice none 0 0,.slice none 0 0,.int .i32 0,.int .i32 0,.int .i32 0,.int .u8 0,.int .u8 0,.string ⟨#[]⟩,.string ⟨#[]⟩,.pointer none]):=HRZ.out.keep hb1
 have hb2:Below w1.heap.size w1 (w1.alloc (.cells #[.slice b0 l0.length e0,.slice b1 l1.length e1,.int .i32 mi,.int .i32 po,.int .i32 g,.int .u8 f,.int .u8 n,.string d] 25)):=allocB _ _
 have HB2:Hid (Below w1.heap.size w1 (w1.alloc (.cells #[.slice b0 l0.length e0,.slice b1 l1.length e1,.int .i32 mi,.int .i32 po,.int .i32 g,.int .u8 f,.int .u8 n,.string d] 25))):=hb2
 have HRX:Hid (Row (w1.alloc (.cells #[.slice b0 l0.length e0,.slice b1 l1.length e1,.int .i32 mi,.int .i32 po,.int .i32 g,.int .u8 f,.int .u8 n,.string d] 25)) w1.heap.size #[.slice b0 l0.length e0,.slice b1 l1.length e1,.int .i32 mi,.int .i32 po,.int .i32 g,.int .u8 f,.int .u8 n,.string d]):=row_at w1 _ _
 have hbw:=below_of HB1.out hb2
 have kp:=plcompile_any a0 a1 c0 c1 l0 l1 mi po g f n d s _ hd (HR0.out.keep hbw) (HR1.out.keep hbw) (HB.out.below hbw) (by omega)
 have q0:=fun o=>(HRW1.out.alloc o).2.1
 clear kc g0 g1 j0 j1 hb1 hb2 hbw HBA HRW HRZ
 go_wp2_with fail
 refine kp.mono ?_
 rintro e w2 ⟨hb3,X,p,hX,rfl,hp⟩
 have HB3:Hid (Below w1.heap.size w1 w2):=below_of HB2.out hb3
 have HX:Hid (CompX (locB l0 l1 mi po g f n d.data.toList) s X):=hX
 have HRX2:Hid (Row w2 w1.heap.size #[.slice b0 l0.length e0,.slice b1 l1.length e1,.int .i32 mi,.int .i32 po,.int .i32 g,.int .u8 f,.int .u8 n,.string d]):=HRX.out.keep hb3
 have HRZ2:Hid (Row w2 (w.heap.size + 1) #[.pointer none,.slice none 0 0,.slice none 0 0,.int .i32 0,.int .i32 0,.int .i32 0,.int .u8 0,.int .u8 0,.string ⟨#[]⟩,.string ⟨#[]⟩,.pointer none]):=HRZ1.out.keep HB3.out
 have q2:=HRX2.out.2.1
 have kk:=knownR_any b0 b1 l0.length e0 l1.length e1 mi po g f n d w2 (Pr.rulesP [] l0).isSome (Pr.rulesP [] l1).isSome (show Hid _ from fun W hW=>ruled_any W b0 e0 l0 (HQ0.out.keep (below_of HB3.out hW))) (show Hid _ from fun W hW=>ruled_any W b1 e1 l1 (HQ1.out.keep (below_of HB3.out hW))) hd
 rw [show ((Pr.rulesP [] l0).isSome && (Pr.rulesP [] l1).isSome && Pn.knownB mi po g f n d.data.toList) = locB l0 l1 mi po g f n d.data.toList from rfl] at kk
 clear kp hb3 hX q0 HRX HQ0 HQ1 HR0 HR1 HM HRW1 HB2
 generalize locB l0 l1 mi po g f n d.data.toList = K at *
 obtain ⟨X1,X2⟩:=X
 simp only at hp
 go_wp2_with fail
 refine kk.mono ?_
 rintro e w3 ⟨rfl,hb4⟩
 have HB4:Hid (Below w.heap.size w w3):=below_of HB1.out (below_of HB3.out hb4)
 have HRX3:Hid (Row w3 w1.heap.size #[.slice b0 l0.length e0,.slice b1 l1.length e1,.int .i32 mi,.int .i32 po,.int .i32 g,.int .u8 f,.int .u8 n,.string d]):=HRX2.out.keep hb4
 have HRZ3:Hid (Row w3 (w.heap.size + 1) #[.pointer none,.slice none 0 0,.slice none 0 0,.int .i32 0,.int .i32 0,.int .i32 0,.int .u8 0,.int .u8 0,.string ⟨#[]⟩,.string ⟨#[]⟩,.pointer none]):=HRZ2.out.keep hb4
 clear kk hb4 q2 HRX2 HRZ2
 cases K with
 | false=>
  have hXX:(X1,X2) = (8,0):=HX.out
  cases hXX
  obtain rfl:p = none:=hp.2 (by decide)
  have q3:=HRX3.out.2.1
  have r3:=HRZ3.out.2.1
  have f3:=HRZ3.out.2.2
  clear hp HX
  go_wp2
  exact bodyPost_ret (v:=.tuple #[.agg #[.pointer none,.slice b0 l0.length e0,.slice b1 l1.length e1,.int .i32 mi,.int .i32 po,.int .i32 g,.int .u8 f,.int .u8 n,.string d,.string ⟨s.toArray⟩,.pointer none],.bool true]) (by simp [results,Tryz.results25,go_sem,r3]) rfl ⟨⟨_,_,_,_,_,_,_,rfl⟩,(((((((((((HB4.out.setCell (p:=⟨w.heap.size + 1,0,none⟩) (Nat.le_succ _) _).setCell (p:=⟨w.heap.size + 1,1,none⟩) (Nat.le_succ _) _).setCell (p:=⟨w.heap.size + 1,2,none⟩) (Nat.le_succ _) _).setCell (p:=⟨w.heap.size + 1,3,none⟩) (Nat.le_succ _) _).setCell (p:=⟨w.heap.size + 1,4,none⟩) (Nat.le_succ _) _).setCell (p:=⟨w.heap.size + 1,5,none⟩) (Nat.le_succ _) _).setCell (p:=⟨w.heap.size + 1,6,none⟩) (Nat.le_succ _) _).setCell (p:=⟨w.heap.size + 1,7,none⟩) (Nat.le_succ _) _).setCell (p:=⟨w.heap.size + 1,8,none⟩) (Nat.le_succ _) _).setCell (p:=⟨w.heap.size + 1,9,none⟩) (Nat.le_succ _) _).setCell (p:=⟨w.heap.size + 1,10,none⟩) (Nat.le_succ _) _)⟩
 | true=>
  obtain ⟨x1,x2⟩:=read_comp HX.out
  have kr:=kread_any w3 s (by omega) x2
  clear HX x2
  unfold ReadSaid at kr
  rw [x1] at kr
  have q3:=HRX3.out.2.1
  clear q3
  by_cases hX0:X1 = 0
  ·subst hX0
   obtain ⟨p,rfl⟩:∃ q,p = some q:=by
    cases p with
    | none=>exact absurd rfl (hp.1 rfl)
    | some q=>exact ⟨q,rfl⟩
   clear hp x1
   generalize (Dk.readS s).1 = L at *
   go_wp2_with fail
   refine kr.mono ?_
   rintro e w4 ⟨ra,rc,rfl,-,hb5⟩
   have HB5:Hid (Below w.heap.size w w4):=below_of HB4.out hb5
   have q4:=(HRX3.out.keep hb5).2.1
   have r4:=(HRZ3.out.keep hb5).2.1
   have f4:=(HRZ3.out.keep hb5).2.2
   clear kr hb5
   go_wp2
   exact bodyPost_ret (v:=.tuple #[.agg #[.pointer (some p),.slice b0 l0.length e0,.slice b1 l1.length e1,.int .i32 mi,.int .i32 po,.int .i32 g,.int .u8 f,.int .u8 n,.string d,.string ⟨s.toArray⟩,.pointer none],.bool true]) (by simp [results,Tryz.results25,go_sem,r4]) rfl ⟨⟨_,_,_,_,_,_,_,rfl⟩,(((((((((((HB5.out.setCell (p:=⟨w.heap.size + 1,0,none⟩) (Nat.le_succ _) _).setCell (p:=⟨w.heap.size + 1,1,none⟩) (Nat.le_succ _) _).setCell (p:=⟨w.heap.size + 1,2,none⟩) (Nat.le_succ _) _).setCell (p:=⟨w.heap.size + 1,3,none⟩) (Nat.le_succ _) _).setCell (p:=⟨w.heap.size + 1,4,none⟩) (Nat.le_succ _) _).setCell (p:=⟨w.heap.size + 1,5,none⟩) (Nat.le_succ _) _).setCell (p:=⟨w.heap.size + 1,6,none⟩) (Nat.le_succ _) _).setCell (p:=⟨w.heap.size + 1,7,none⟩) (Nat.le_succ _) _).setCell (p:=⟨w.heap.size + 1,8,none⟩) (Nat.le_succ _) _).setCell (p:=⟨w.heap.size + 1,9,none⟩) (Nat.le_succ _) _).setCell (p:=⟨w.heap.size + 1,10,none⟩) (Nat.le_succ _) _)⟩
  ·obtain rfl:p = none:=hp.2 hX0
   have hX1:((X1:Int) != 0) = true:=by rw [bne_iff_ne];omega
   clear hp x1 hX0
   generalize (Dk.readS s).1 = L at *
   go_wp2_with fail
   refine kr.mono ?_
   rintro e w4 ⟨ra,rc,rfl,-,hb5⟩
   have HB5:Hid (Below w.heap.size w w4):=below_of HB4.out hb5
   have q4:=(HRX3.out.keep hb5).2.1
   have r4:=(HRZ3.out.keep hb5).2.1
   have f4:=(HRZ3.out.keep hb5).2.2
   clear kr hb5
   go_wp2
   exact bodyPost_ret (v:=.tuple #[.agg #[.pointer none,.slice b0 l0.length e0,.slice b1 l1.length e1,.int .i32 mi,.int .i32 po,.int .i32 g,.int .u8 f,.int .u8 n,.string d,.string ⟨s.toArray⟩,.pointer none],.bool true]) (by simp [results,Tryz.results25,go_sem,r4]) rfl ⟨⟨_,_,_,_,_,_,_,rfl⟩,(((((((((((HB5.out.setCell (p:=⟨w.heap.size + 1,0,none⟩) (Nat.le_succ _) _).setCell (p:=⟨w.heap.size + 1,1,none⟩) (Nat.le_succ _) _).setCell (p:=⟨w.heap.size + 1,2,none⟩) (Nat.le_succ _) _).setCell (p:=⟨w.heap.size + 1,3,none⟩) (Nat.le_succ _) _).setCell (p:=⟨w.heap.size + 1,4,none⟩) (Nat.le_succ _) _).setCell (p:=⟨w.heap.size + 1,5,none⟩) (Nat.le_succ _) _).setCell (p:=⟨w.heap.size + 1,6,none⟩) (Nat.le_succ _) _).setCell (p:=⟨w.heap.size + 1,7,none⟩) (Nat.le_succ _) _).setCell (p:=⟨w.heap.size + 1,8,none⟩) (Nat.le_succ _) _).setCell (p:=⟨w.heap.size + 1,9,none⟩) (Nat.le_succ _) _).setCell (p:=⟨w.heap.size + 1,10,none⟩) (Nat.le_succ _) _)⟩
set_option maxHeartbeats 1600000 in
theorem compiles_any (s:Pg.T) (v0 v1 v:Value) (l0 l1:List Pr.T) (mi po g fi ne:Int) (d:ByteArray) (w:World) (hB:Base w) (s0:SlE w v0 l0) (s1:SlE w v1 l1) (hl0:l0.length < 2 ^ 47) (hs0:∀ t ∈ l0,t.length < 2 ^ 47) (hl1:l1.length < 2 ^ 47) (hs1:∀ t ∈ l1,t.length < 2 ^ 47)
  (g0:Hid (∀ w',Below w.heap.size w w' → Calls Tryz.prog 26 #[v,.int .i64 0] w' fun e w2=>e = .returned (.int .i32 mi) ∧ w2 = w'))
  (g1:Hid (∀ w',Below w.heap.size w w' → Calls Tryz.prog 26 #[v,.int .i64 1] w' fun e w2=>e = .returned (.int .i32 po) ∧ w2 = w'))
  (g2:Hid (∀ w',Below w.heap.size w w' → Calls Tryz.prog 26 #[v,.int .i64 2] w' fun e w2=>e = .returned (.int .i32 g) ∧ w2 = w')):
  Calls Tryz.prog 9 #[.string ⟨s.toArray⟩,v0,v1,v,.int .i64 fi,.int .i64 ne,.string d] w fun e w'=>e = .returned (.bool true) ∧ Below w.heap.size w w':=by
 have z0:=sizeL_any w v0 l0 hl0 hs0 s0
 have z1:=sizeL_any w v1 l1 hl1 hs1 s1
 have H0:Hid (SlE w v0 l0):=s0
 have H1:Hid (SlE w v1 l1):=s1
 have HB:Hid (Base w):=hB
 have HF:Hid (fi % 256 = ((fi % 256).toNat:Int)):=by show _ = _;omega
 have HE:Hid (ne % 256 = ((ne % 256).toNat:Int)):=by show _ = _;omega
 clear hl0 hs0 hl1 hs1 s0 s1 hB
 go_enter Tryz.func9,Tryz.ntmps9
 go_wp2_with fail
 refine z0.mono ?_
 rintro e w1 ⟨⟨n1,rfl,h1⟩,rfl⟩
 go_wp2_with fail
 refine z1.mono ?_
 rintro e w2 ⟨⟨n2,rfl,h2⟩,rfl⟩
 clear z0 z1
 have hsz:(⟨s.toArray⟩:ByteArray).size = s.length:=by simp [ByteArray.size]
 by_cases b1:n1 ≤ 65536
 ·have b1':¬ (65536:Int) < n1:=by omega
  by_cases b2:n2 ≤ 65536
  ·have b2':¬ (65536:Int) < n2:=by omega
   by_cases b3:s.length ≤ 65536
   ·have b3':¬ (65536:Int) < s.length:=by omega
    by_cases b4:d.size ≤ 65536
    ·have b4':¬ (65536:Int) < d.size:=by omega
     obtain ⟨x1,x2⟩:=h1 b1
     obtain ⟨y1,y2⟩:=h2 b2
     have kl:=localeR_any v0 v1 v l0 l1 mi po g fi ne d w2 (by omega) (by omega) H0.out H1.out g0 g1 g2
     obtain ⟨p1,p2⟩:=pairs_mem l0.length l0 (Nat.le_refl _)
     obtain ⟨r1,r2⟩:=pairs_mem l1.length l1 (Nat.le_refl _)
     have HP:Hid (∀ q ∈ pairsOf l0,q.1.length < 1000000 ∧ q.2.length < 1000000):=fun q hq=>⟨by have:=x2 _ (p2 q hq).1;omega,by have:=x2 _ (p2 q hq).2;omega⟩
     have HQ:Hid (∀ q ∈ pairsOf l1,q.1.length < 1000000 ∧ q.2.length < 1000000):=fun q hq=>⟨by have:=y2 _ (r2 q hq).1;omega,by have:=y2 _ (r2 q hq).2;omega⟩
     clear h1 h2 x2 y2 p2 r2 H0 H1
     rw [HF.out,HE.out] at kl
     generalize (fi % 256).toNat = f at *
     generalize (ne % 256).toNat = n at *
     go_wp2_with fail
     refine kl.mono ?_
     rintro e w3 ⟨⟨B0,B1,u0,u1,rfl,i0,i1⟩,hb3⟩
     have HI0:Hid (ApiV w3 B0 u0 (pairsOf l0)):=i0
     have HI1:Hid (ApiV w3 B1 u1 (pairsOf l1)):=i1
     obtain ⟨q0,e0,rfl,-⟩:=i0.form
     obtain ⟨q1,e1,rfl,-⟩:=i1.form
     have hb4:=below_of hb3 (allocB w3 (.cells #[.slice q0 (pairsOf l0).length e0,.slice q1 (pairsOf l1).length e1,.int .i32 mi,.int .i32 po,.int .i32 g,.int .u8 f,.int .u8 n,.string d] 25))
     have kc:=compiled_any B0 B1 (pairsOf l0) (pairsOf l1) _ _ mi po g f n d s _ (HB.out.below hb4) (by omega) (by omega) (by omega) (by omega) HP.out HQ.out (HI0.out.keep (allocB _ _)) (HI1.out.keep (allocB _ _))
     have HB4:Hid (Below w2.heap.size w2 _):=hb4
     clear kl hb3 hb4 i0 i1
     go_wp2_with fail
     refine kc.mono ?_
     rintro e w4 ⟨⟨p,b0,b1,m0,e0',m1,e1',rfl⟩,hb5⟩
     have HB5:Hid (Below w2.heap.size w2 w4):=below_of HB4.out hb5
     clear kc hb5 HB4
     go_wp2
     go_ret
     exact ⟨rfl,by first | exact HB5.out | exact HB5.out.alloc HB5.out.size _⟩
    ·have b4':(65536:Int) < d.size:=by omega
     clear h1 h2
     go_wp2
     go_ret
     exact ⟨rfl,Below.refl _ _⟩
   ·have b3':(65536:Int) < s.length:=by omega
    clear h1 h2
    go_wp2
    go_ret
    exact ⟨rfl,Below.refl _ _⟩
  ·have b2':(65536:Int) < n2:=by omega
   clear h1 h2
   go_wp2
   go_ret
   exact ⟨rfl,Below.refl _ _⟩
 ·have b1':(65536:Int) < n1:=by omega
  clear h1 h2
  go_wp2
  go_ret
  exact ⟨rfl,Below.refl _ _⟩
end Go.Proofs.YtaepcfidpekflaaGreatDoor
