/-
  Several texts in one (Kp, Je). By the verifier.
-/
import Derived.Test.YtaepcfidpekflaaGreatDoorZ13
import Derived.Test.YtaepcfidpekflaaGreatDoorZ46
namespace Go.Proofs.YtaepcfidpekflaaGreatDoor
open Go.RowKit
set_option maxHeartbeats 3200000 in
set_option maxRecDepth 100000 in
theorem kapos_any (w:World) (B b:Nat) (s:Pr.T) (x:Dk.Sc) (num:Bool) (hx:ScanAt [] w B b s x) (hs:s.length ≤ 1000) (hlt:x.i < s.length) (hsz:Sized (3 * x.i + 16) x):
  Calls Tryz.prog 136 #[.pointer (some ⟨b,0,none⟩),.bool num] w fun en w'=>en = .returned (.tuple #[]) ∧ ScanAt [] w' B b s (x.apostrophe s num) ∧ Below B w w':=by
 have hB:=hx.base
 obtain ⟨Y,hY⟩:∃ Y,Hid (x.apostrophe s num = Y):=⟨_,rfl⟩
 rw [hY.out]
 obtain ⟨a1,n1,c1,a2,c2,q0,f0⟩:=hx.cells
 have hw1:IntKind.i64.wrap ((x.i:Int) + 1) = ((x.i + 1:Nat):Int):=by rw [IntKind.wrap_i64];omega
 have hl1:x.i + 1 ≤ s.length:=by omega
 have hl2:(x.i:Int) + 1 ≤ s.length:=by omega
 have ht:((x.i:Int) + 1).toNat = x.i + 1:=by omega
 have h0:(0:Int) ≤ (x.i:Int) + 1:=by omega
 have HW:Hid (∀ n,ScanAt [] ((w.drewN n).setCell ⟨b,1,none⟩ (.int .i64 ((x.i:Int) + 1))) B b s (x.go 1)):=fun n=>setI_go hx (drewB w n) 1
 have HB:Hid (∀ n,Below B w ((w.drewN n).setCell ⟨b,1,none⟩ (.int .i64 ((x.i:Int) + 1)))):=fun n=>(below_to hB.2 (drewB w n) (Below.refl _ _)).setCell (p:=⟨b,1,none⟩) hB.1 _
 have ex0:=ex_drop s (x.i + 1)
 have hgi:(x.go 1).i = x.i + 1:=rfl
 have hY2:=hY.out
 unfold Dk.Sc.apostrophe at hY2
 simp only [hgi] at hY2
 clear hx hY
 cases hd:s.drop (x.i + 1) with
 | nil=>
  rw [hd] at ex0 hY2
  have hF:Hid ((x.go 1).say [39] = Y):=hY2
  clear hY2 hd
  go_enter Tryz.func136,Tryz.ntmps136
  go_wp2
  go_quiet (fail)
  go_upto_region 2 with fail
  have hs1:=HW.out nq
  have hb1:=HB.out nq
  clear q0 f0 HW HB
  generalize (w.drewN nq).setCell ⟨b,1,none⟩ (.int .i64 ((x.i:Int) + 1)) = w1 at *
  have hs2:=hs1.unbox
  have sy:=ksay_any (ms:=[]) w1 B b s (x.go 1) [39] hs1 (hsz.go.short (by omega)) (by decide)
  clear hs1
  go_wp2_with fail
  refine sy.mono ?_
  rintro e w2 ⟨rfl,hs3,hb3⟩
  go_wp2
  refine bodyPost_ret (results_none rfl _ _ _) rfl ?_
  exact ⟨rfl,by rw [← hF.out];exact hs3,hb1.trans hb3⟩
 | cons c r=>
  rw [hd] at ex0 hY2
  have hrl:r.length + 1 = s.length - (x.i + 1):=by
   have:=congrArg List.length hd
   simp at this
   omega
  have hg0:∀ h,((⟨(c :: r).toArray⟩:ByteArray)[0]'h) = c:=fun _=>rfl
  have hne:((c :: r) == ([]:Pr.T)) = false:=rfl
  clear hd
  by_cases e39:c = 39
  ·have b39:((c.toNat:Int) == 39) = true:=by rw [e39];rfl
   have n39:((c.toNat:Int) != 39) = false:=by rw [e39];rfl
   have hF:Hid (((x.go 1).go 1).say [39] = Y):=by show _ = _;rw [← hY2];simp [e39]
   clear hY2 e39
   go_enter Tryz.func136,Tryz.ntmps136
   go_wp2
   go_quiet (fail)
   go_upto_region 2 with fail
   have hs1:=HW.out nq
   have hb1:=HB.out nq
   clear q0 f0 HW HB
   generalize (w.drewN nq).setCell ⟨b,1,none⟩ (.int .i64 ((x.i:Int) + 1)) = w1 at *
   obtain ⟨a3,n3,c3,a4,c4,q1,f1⟩:=hs1.cells
   simp only [hgi] at q1
   have hw5:IntKind.i64.wrap ((x.i:Int) + 1 + 1) = (x.i:Int) + 1 + 1:=by rw [IntKind.wrap_i64];omega
   have hs5:ScanAt [] (w1.setCell ⟨b,1,none⟩ (.int .i64 ((x.i:Int) + 1 + 1))) B b s ((x.go 1).go 1):=setI_go hs1 (Below.refl _ _) 1
   have hb5:Below B w (w1.setCell ⟨b,1,none⟩ (.int .i64 ((x.i:Int) + 1 + 1))):=hb1.setCell (p:=⟨b,1,none⟩) hB.1 _
   have sy:=ksay_any (ms:=[]) _ B b s ((x.go 1).go 1) [39] hs5 (hsz.go.go.short (by omega)) (by decide)
   clear hs1 hs5
   go_wp2_with fail
   refine sy.mono ?_
   rintro e w2 ⟨rfl,hs3,hb3⟩
   go_wp2
   refine bodyPost_ret (results_none rfl _ _ _) rfl ?_
   exact ⟨rfl,by rw [← hF.out];exact hs3,hb5.trans hb3⟩
  have b39:((c.toNat:Int) == 39) = false:=byte_ne (n:=39) (by decide) e39
  have n39:((c.toNat:Int) != 39) = true:=by simpa using b39
  obtain ⟨E,hE⟩:∃ E:Bool,Hid (E = decide (¬ (c = 123 ∨ c = 125 ∨ c = 35 ∧ num = true))):=⟨_,rfl⟩
  have HF1:Hid (E = true → (x.go 1).say [39] = Y):=fun h=>by
   rw [hE.out,decide_eq_true_eq] at h
   rw [← hY2]
   simp only [if_neg e39,if_neg h]
  have HF2:Hid (E = false → (x.go 1).quoteGo (r.length + 2) (c :: r) = Y):=fun h=>by
   rw [hE.out,decide_eq_false_iff_not,Classical.not_not] at h
   rw [← hY2]
   simp only [if_neg e39,if_pos h]
  clear hY2 e39
  go_enter Tryz.func136,Tryz.ntmps136
  go_wp2
  go_quiet (fail)
  go_upto_region 2 with fail
  have hs1:=HW.out nq
  have hb1:=HB.out nq
  clear q0 f0 HW HB
  generalize (w.drewN nq).setCell ⟨b,1,none⟩ (.int .i64 ((x.i:Int) + 1)) = w1 at *
  go_cut [50] (fun z wd=>z = .bool E ∧ wd = w1)
  case first=>
   clear HF1 HF2 hs1 hb1
   by_cases e1:c = 123
   ·have m1:((c.toNat:Int) != 123) = false:=by rw [e1];rfl
    have hF:Hid (E = false):=by show _ = _;rw [hE.out];simp [e1]
    clear hE e1
    go_wp2
    go_meet
    case rel=>exact ⟨by rw [hF.out],rfl⟩
   have m1:((c.toNat:Int) != 123) = true:=by simpa using byte_ne (n:=123) (by decide) e1
   by_cases e2:c = 125
   ·have m2:((c.toNat:Int) != 125) = false:=by rw [e2];rfl
    have hF:Hid (E = false):=by show _ = _;rw [hE.out];simp [e2]
    clear hE e1 e2
    go_wp2
    go_meet
    case rel=>exact ⟨by rw [hF.out],rfl⟩
   have m2:((c.toNat:Int) != 125) = true:=by simpa using byte_ne (n:=125) (by decide) e2
   by_cases e3:c = 35
   ·have m3:((c.toNat:Int) != 35) = false:=by rw [e3];rfl
    have hF:Hid (E = !num):=by show _ = _;rw [hE.out];cases num <;> simp [e3]
    clear hE e1 e2 e3
    go_wp2
    go_meet
    case rel=>exact ⟨by rw [hF.out],rfl⟩
   have m3:((c.toNat:Int) != 35) = true:=by simpa using byte_ne (n:=35) (by decide) e3
   have hF:Hid (E = true):=by show _ = _;rw [hE.out];simp [e1,e2,e3]
   clear hE e1 e2 e3
   go_wp2
   go_meet
   case rel=>exact ⟨by rw [hF.out],rfl⟩
  case rest=>
   obtain ⟨rfl,rfl⟩:=hcut
   cases E with
   | true=>
    have hF:Hid ((x.go 1).say [39] = Y):=HF1.out rfl
    clear HF1 HF2 hE
    have hs2:=hs1.unbox
    have sy:=ksay_any (ms:=[]) wc B b s (x.go 1) [39] hs1 (hsz.go.short (by omega)) (by decide)
    clear hs1
    go_wp2_with fail
    refine sy.mono ?_
    rintro e w2 ⟨rfl,hs3,hb3⟩
    go_wp2
    refine bodyPost_ret (results_none rfl _ _ _) rfl ?_
    exact ⟨rfl,by rw [← hF.out];exact hs3,hb1.trans hb3⟩
   | false=>
    have hF:=HF2.out rfl
    clear HF1 HF2 hE
    have HG:Hid ((x.go 1).quoteGo (r.length + 2) (c :: r) = Y):=hF
    have HS:Hid (ScanAt [] wc B b s (x.go 1)):=hs1
    have HZ:Hid (Sized (3 * (x.go 1).i + 16) (x.go 1)):=(hsz.go (k:=1)).mono (by rw [hgi];omega)
    clear hF hs1 hsz
    go_wp2_with fail
    go_loopw [4] (fun v wr=>∃ (R:Pr.T) (z:Dk.Sc) (k:Nat),v = .string ⟨R.toArray⟩ ∧ R.length < k ∧ z.i + R.length = s.length ∧ Hid (ScanAt [] wr B b s z) ∧ Below B w wr ∧ Hid (Sized (3 * z.i + 16) z) ∧ Hid (z.quoteGo k R = Y)) (fun v _=>match v with | .string q=>q.size | _=>0)
    case atStart=>exact ⟨c :: r,x.go 1,r.length + 2,rfl,by simp,by rw [hgi];simp;omega,HS,hb1,HZ,HG⟩
    case round=>
     obtain ⟨R,z,k,rfl,hRk,hiR,HSz,hbw,HSd,HQ⟩:=hrel
     obtain ⟨k,rfl⟩:∃ k',k = k' + 1:=⟨k - 1,by omega⟩
     clear HS HZ HG hb1
     have rc:=rcut_quote ⟨R.toArray⟩ wr (by show R.toArray.size ≤ _;simp;omega)
     simp only [] at rc
     have sp:=cut39_spec R
     have Q1:=quote_stop z k R
     have Q2:=quote_end z k R
     have Q3:=quote_more z k R
     rw [HQ.out] at Q1 Q2
     generalize (Lib.cut R [39]).1 = A at *
     generalize (Lib.cut R [39]).2.1 = D at *
     generalize (Lib.cut R [39]).2.2 = more at *
     have hAl:A.length ≤ R.length ∧ (more = true → A.length + D.length + 1 = R.length):=by
      rcases sp with ⟨_,e,_⟩ | ⟨e1,e,_,_⟩
      ·rw [e];simp;omega
      ·rw [e];exact ⟨Nat.le_refl _,fun h=>by rw [h] at e1;cases e1⟩
     clear sp
     go_wp2_with fail
     refine rc.mono ?_
     rintro e w2 ⟨rfl,hb2⟩
     have hs2:=HSz.out.keep hb2
     have hz:=HSz.out.base
     have sy:=ksay_any (ms:=[]) w2 B b s z A hs2 (HSd.out.short (by omega)) (by omega)
     clear rc hs2
     go_wp2_with fail
     refine sy.mono ?_
     rintro e w3 ⟨rfl,hs3,hb3⟩
     clear sy
     have hb3':Below B w w3:=hbw.trans (below_to hz.2 hb2 hb3)
     have si:=(say_i z A).1
     obtain ⟨a5,n5,c5,a6,c6,q3,f3⟩:=hs3.cells
     rw [si] at q3
     have hs4:ScanAt [] (w3.setCell ⟨b,1,none⟩ (.int .i64 ((z.i:Int) + A.length))) B b s ((z.say A).go A.length):=by
      have:=setI_go hs3 (Below.refl _ _) A.length
      rw [si] at this
      exact this
     have hb4:Below B w (w3.setCell ⟨b,1,none⟩ (.int .i64 ((z.i:Int) + A.length))):=hb3'.setCell (p:=⟨b,1,none⟩) hB.1 _
     have hwA:IntKind.i64.wrap ((z.i:Int) + A.length) = (z.i:Int) + A.length:=by rw [IntKind.wrap_i64];omega
     have hwB:IntKind.i64.wrap ((z.i:Int) + A.length + 1) = (z.i:Int) + A.length + 1:=by rw [IntKind.wrap_i64];omega
     cases more with
     | false=>
      have hF:Hid (Y = (z.say A).go A.length):=Q1 rfl
      have HE:Hid (ScanAt [] (w3.setCell ⟨b,1,none⟩ (.int .i64 ((z.i:Int) + A.length))) B b s Y):=by show ScanAt _ _ _ _ _ _;rw [hF.out];exact hs4
      clear Q1 Q2 Q3 HQ hs3 hs4
      go_wp2
      refine bodyPost_ret (results_none rfl _ _ _) rfl ?_
      exact ⟨rfl,HE.out,hb4⟩
     | true=>
      have hDl:=hAl.2 rfl
      have hs5:ScanAt [] ((w3.setCell ⟨b,1,none⟩ (.int .i64 ((z.i:Int) + A.length))).setCell ⟨b,1,none⟩ (.int .i64 ((z.i:Int) + A.length + 1))) B b s (((z.say A).go A.length).go 1):=by
       have:=setI_go hs4 (Below.refl _ _) 1
       rw [show ((z.say A).go A.length).i = z.i + A.length by rw [Dk.Sc.go,si]] at this
       exact this
      have hb5:Below B w ((w3.setCell ⟨b,1,none⟩ (.int .i64 ((z.i:Int) + A.length))).setCell ⟨b,1,none⟩ (.int .i64 ((z.i:Int) + A.length + 1))):=hb4.setCell (p:=⟨b,1,none⟩) hB.1 _
      have HS5:Hid (ScanAt [] ((w3.setCell ⟨b,1,none⟩ (.int .i64 ((z.i:Int) + A.length))).setCell ⟨b,1,none⟩ (.int .i64 ((z.i:Int) + A.length + 1))) B b s (((z.say A).go A.length).go 1)):=hs5
      clear hs5 hs4 hs3
      cases D with
      | nil=>
       have hF:Hid (Y = ((z.say A).go A.length).go 1):=Q2 rfl (fun r=>by simp)
       clear Q1 Q2 Q3 HQ
       go_wp2
       refine bodyPost_ret (results_none rfl _ _ _) rfl ?_
       exact ⟨rfl,by rw [hF.out];exact HS5.out,hb5⟩
      | cons d r'=>
       have hg1:∀ h,((⟨(d :: r').toArray⟩:ByteArray)[0]'h) = d:=fun _=>rfl
       have hne1:((d :: r') == ([]:Pr.T)) = false:=rfl
       by_cases ed:d = 39
       ·have bd:((d.toNat:Int) != 39) = false:=by rw [ed];rfl
        have hF:Hid ((((((z.say A).go A.length).go 1).say [39]).go 1).quoteGo k r' = Y):=by show _ = _;rw [← HQ.out];exact (Q3 r' rfl (by rw [ed])).symm
        have ex5:=ex_drop (d :: r') 1
        simp only [List.drop_succ_cons,List.drop_zero,List.length_cons] at ex5
        simp only [List.length_cons] at hDl
        clear Q1 Q2 Q3 HQ ed
        go_upto_region 13 with fail
        generalize (w3.setCell ⟨b,1,none⟩ (.int .i64 ((z.i:Int) + A.length))).setCell ⟨b,1,none⟩ (.int .i64 ((z.i:Int) + A.length + 1)) = w5 at *
        have sz5:Sized (3 * z.i + 16 + A.length + 1) (((z.say A).go A.length).go 1):=HSd.out.say.go.go
        have sy:=ksay_any (ms:=[]) w5 B b s (((z.say A).go A.length).go 1) [39] HS5.out (sz5.short (by omega)) (by decide)
        clear q3 f3
        go_wp2_with fail
        refine sy.mono ?_
        rintro e w6 ⟨rfl,hs6,hb6⟩
        clear sy
        have s6:((((z.say A).go A.length).go 1).say [39]).i = z.i + A.length + 1:=by rw [(say_i _ _).1];simp only [Dk.Sc.go,si]
        obtain ⟨a7,n7,c7,a8,c8,q6,f6⟩:=hs6.cells
        rw [s6] at q6
        have hs7:Hid (ScanAt [] (w6.setCell ⟨b,1,none⟩ (.int .i64 ((z.i:Int) + A.length + 1 + 1))) B b s (((((z.say A).go A.length).go 1).say [39]).go 1)):=by
         have:=setI_go hs6 (Below.refl _ _) 1
         rw [s6] at this
         exact this
        have hb7:Below B w (w6.setCell ⟨b,1,none⟩ (.int .i64 ((z.i:Int) + A.length + 1 + 1))):=(hb5.trans hb6).setCell (p:=⟨b,1,none⟩) hB.1 _
        have hwC:IntKind.i64.wrap ((z.i:Int) + A.length + 1 + 1) = (z.i:Int) + A.length + 1 + 1:=by rw [IntKind.wrap_i64];omega
        have i7:(((((z.say A).go A.length).go 1).say [39]).go 1).i = z.i + A.length + 1 + 1:=by rw [Dk.Sc.go,s6]
        have z7:Hid (Sized (3 * (((((z.say A).go A.length).go 1).say [39]).go 1).i + 16) (((((z.say A).go A.length).go 1).say [39]).go 1)):=by
         show Sized _ _
         rw [i7]
         exact (sz5.say.go).mono (by simp;omega)
        clear hs6
        go_wp2
        go_roundw
        case rel=>exact ⟨r',_,k,rfl,by omega,by rw [i7];omega,hs7,hb7,z7,hF⟩
        case measure=>show r'.toArray.size < R.toArray.size;simp;omega
       ·have bd:((d.toNat:Int) != 39) = true:=by simpa using byte_ne (n:=39) (by decide) ed
        have hF:Hid (Y = ((z.say A).go A.length).go 1):=Q2 rfl (fun r e=>ed (by injection e))
        clear Q1 Q2 Q3 HQ ed
        go_wp2
        refine bodyPost_ret (results_none rfl _ _ _) rfl ?_
        exact ⟨rfl,by rw [hF.out];exact HS5.out,hb5⟩
end Go.Proofs.YtaepcfidpekflaaGreatDoor
namespace Go.Proofs.YtaepcfidpekflaaGreatDoor
open Go.RowKit
def PlaceIx (l:List Pr.T) (t:Pr.T) (k:Int):Prop:=k = -1 ∧ t ∉ l ∨ ∃ j:Nat,k = j ∧ j < l.length ∧ l.getD j [] = t ∧ ∀ i,i < j → l.getD i [] ≠ t
set_option maxHeartbeats 800000 in
theorem place_ix (w:World) (l:List Pr.T) (t:Pr.T) (blk off c:Nat) (hl:l.length ≤ 1000000) (_hcap:l.length ≤ c) (_hb:blk < w.heap.size) (hcell:∀ j,j < l.length → w.cell? ⟨blk,off + j,none⟩ = some (strV (l.getD j []))):
  Calls Tryz.prog 58 #[.slice (some ⟨blk,off,none⟩) l.length c,.string ⟨t.toArray⟩] w fun e w'=>(∃ k,e = .returned (.int .i64 k) ∧ PlaceIx l t k) ∧ w' = w:=by
 have HC:Hid (∀ j,j < l.length → w.cell? ⟨blk,off + j,none⟩ = some (strV (l.getD j []))):=hcell
 clear hcell
 go_enter Tryz.func58,Tryz.ntmps58
 go_wp2_with fail
 go_loop [5] (fun i=>∃ k:Nat,k ≤ l.length ∧ i = .int .i64 k ∧ Hid (∀ j,j < k → l.getD j [] ≠ t)) (fun i=>l.length - (intOf i).toNat)
 case atStart=>exact ⟨0,Nat.zero_le _,rfl,fun j h=>absurd h (Nat.not_lt_zero _)⟩
 case round=>
  obtain ⟨k,hk,rfl,HK⟩:=hrel
  by_cases hlt:k < l.length
  ·have hlt':(k:Int) < l.length:=by omega
   have ck:=HC.out k hlt
   unfold strV at ck
   obtain ⟨u,hu⟩:∃ u,l.getD k [] = u:=⟨_,rfl⟩
   have HU:Hid (l.getD k [] = u):=hu
   rw [hu] at ck
   by_cases hut:u = t
   ·have hut':(u == t) = true:=by rw [beq_iff_eq];exact hut
    have HM:Hid (l.getD k [] = t):=by show _ = _;rw [← hut];exact hu
    clear hut hu HU
    go_wp2
    go_ret
    exact ⟨⟨k,rfl,.inr ⟨k,rfl,hlt,HM.out,HK.out⟩⟩,rfl⟩
   ·have hut':(u == t) = false:=by rw [beq_eq_false_iff_ne];exact hut
    have HK2:Hid (∀ j,j < k + 1 → l.getD j [] ≠ t):=by
     intro j hj
     by_cases e:j = k
     ·rw [e,hu];exact hut
     ·exact HK.out j (by omega)
    clear hut hu HK HU
    go_wp2
    go_round
    case rel=>exact ⟨k + 1,hlt,by go_num,HK2⟩
    case measure=>simp [intOf];omega
  ·have hlt':¬ (k:Int) < l.length:=by omega
   have HM:Hid (t ∉ l):=mem_not (fun j hj=>HK.out j (by omega))
   clear HK
   go_wp2
   go_ret
   exact ⟨⟨-1,rfl,.inl ⟨rfl,HM.out⟩⟩,rfl⟩
def kinds4:List Pr.T:=[[110,117,109,98,101,114],[112,108,117,114,97,108],[115,101,108,101,99,116,111,114,100,105,110,97,108],[115,101,108,101,99,116]]
theorem known_ix (t:Pr.T) (k:Int) (h:PlaceIx kinds4 t k):(k = -1 ∧ Dk.knownOf t = 4) ∨ (k = Dk.knownOf t ∧ Dk.knownOf t < 4):=by
 rcases h with ⟨h1,h2⟩ | ⟨j,rfl,hj,ht,_⟩
 ·left
  refine ⟨h1,?_⟩
  simp only [kinds4,List.mem_cons,List.not_mem_nil,or_false,not_or] at h2
  obtain ⟨a,b,c,d⟩:=h2
  unfold Dk.knownOf
  rw [if_neg a,if_neg b,if_neg c,if_neg d]
 ·right
  have:j = 0 ∨ j = 1 ∨ j = 2 ∨ j = 3:=by
   simp [kinds4] at hj
   omega
  rcases this with rfl | rfl | rfl | rfl <;> (subst ht;decide)
end Go.Proofs.YtaepcfidpekflaaGreatDoor
