/-
  Several texts in one (Jg). By the verifier.
-/
import Derived.Test.YtaepcfidpekflaaGreatDoorZ48
import Derived.Test.YtaepcfidpekflaaGreatDoorZ25
namespace Go.Proofs.YtaepcfidpekflaaGreatDoor
open Go.RowKit
theorem ScanAt.puts0 {w7:World} {B b:Nat} {s:Pr.T} {z:Dk.Sc} (M:Dk.Mark) (h:ScanAt [] w7 B b s z):
  ∃ oa on oc pa pn pc,(∀ j,w7.cell? ⟨b,j,none⟩ = #[.string ⟨s.toArray⟩,.int .i64 z.i,.slice oa on oc,.slice pa pn pc,.int .i64 z.err,.int .i64 z.place][j]?) ∧ (∀ j,w7.frozen? ⟨b,j,none⟩ = false) ∧ w7.ownsRow B 130 6 (.slice oa on oc) z.out.length (marksCells z.out) ∧ b < w7.heap.size ∧ B ≤ b ∧
   Hid (∀ w8 v' o,w8.ownsRow B 130 6 v' (z.out.length + 1) (marksCells z.out ++ mCells M) → (w7.alloc o).grownBy w8 (Value.slice oa on oc).ownBlock → (v'.ownBlock = (Value.slice oa on oc).ownBlock ∨ v'.ownBlock = some (w7.heap.size + 1)) → Row w8 b #[.string ⟨s.toArray⟩,.int .i64 z.i,.slice oa on oc,.slice pa pn pc,.int .i64 z.err,.int .i64 z.place] ∧ ScanAt [] (w8.setCell ⟨b,2,none⟩ v') B b s (z.put M) ∧ Below B w7 (w8.setCell ⟨b,2,none⟩ v')):=by
 obtain ⟨ov2,pv2,k1,k2,k3,k4,k5,k6,k7,k8⟩:=h
 obtain ⟨oa2,on2,oc2,rfl⟩:=owns_form k3
 obtain ⟨pa2,pn2,pc2,rfl⟩:=owns_form k4
 refine ⟨oa2,on2,oc2,pa2,pn2,pc2,k1.2.1,k1.2.2,k3,k1.1,k2,?_⟩
 intro w8 v' o a1 a2 a3
 obtain ⟨p1,p2⟩:=ScanAt.put (m:=M) k1 k2 k4 k5 k6 k7 k3 k8 a1 a2 (by simpa using a3)
 exact ⟨(k1.alloc o).grown a2 k5,p1,p2⟩
set_option maxHeartbeats 3200000 in
set_option maxRecDepth 100000 in
theorem kone_any (w:World) (B b:Nat) (s:Pr.T) (x:Dk.Sc) (hx:ScanAt [] w B b s x) (hs:s.length ≤ 1000) (hlt:x.i < s.length) (hsz:Sized (3 * x.i + 16) x) (hop:x.opens.length ≤ 90000):
  Calls Tryz.prog 99 #[.pointer (some ⟨b,0,none⟩)] w fun en w'=>en = .returned (.tuple #[]) ∧ ScanAt [] w' B b s (x.one s) ∧ Below B w w':=by
 have hB:=hx.base
 obtain ⟨Y,hY⟩:∃ Y,Hid (x.one s = Y):=⟨_,rfl⟩
 rw [hY.out]
 have hso:x.out.length ≤ 90000:=by have:=hsz.1;omega
 obtain ⟨c,hg⟩:∃ c,s[x.i]? = some c:=⟨s[x.i],List.getElem?_eq_getElem hlt⟩
 have hgc:∀ h,((⟨s.toArray⟩:ByteArray)[x.i]'h) = c:=fun h=>by
  have:=hg
  rw [List.getElem?_eq_getElem hlt] at this
  exact Option.some.inj this
 have hlt':(x.i:Int) < s.length:=by omega
 have HY:Hid ((if c = 39 then x.apostrophe s x.byNumber
  else if c = 123 then x.brace s
  else if c = 125 ∧ x.opens = [] then x.fault 3 x.i
  else if c = 125 then ((x.go 1).put { kind:=93 }).behind s
  else if c = 35 ∧ x.byNumber = true then (x.go 1).put { kind:=35 }
  else (x.go 1).say [c]) = Y):=by
  have:=hY.out
  unfold Dk.Sc.one at this
  rw [hg] at this
  exact this
 clear hY hg
 obtain ⟨a1,n1,c1,a2,c2,q0,f0⟩:=hx.cells
 have HX:Hid (ScanAt [] w B b s x):=hx
 have kbn:=fun W (h:Below w.heap.size w W)=>kbyNumber_any (ms:=[]) W B b s x (hx.keep h) (by omega)
 clear hx
 go_enter Tryz.func99,Tryz.ntmps99
 go_upto_region 0 with fail
 go_cut [2] (fun z wd=>z = .int .u8 c.toNat ∧ Below w.heap.size w wd)
 case first=>
  clear HY kbn
  go_wp2
  go_quiet (fail)
  go_wp2
  go_meet
  case rel=>exact ⟨rfl,drewB _ _⟩
 case rest=>
  obtain ⟨rfl,hb1⟩:=hcut
  clear q0 f0
  go_wp2_with fail
  refine (kbn _ hb1).mono ?_
  rintro e w1 ⟨rfl,hb2⟩
  have hb3:Below w.heap.size w w1:=hb1.trans (hb2.mono hb1.size)
  have hx1:ScanAt [] w1 B b s x:=HX.out.keep hb3
  have hb4:Below B w w1:=hb3.mono (by omega)
  clear kbn hb1 hb2 hb3 HX
  obtain ⟨a3,n3,c3,a4,c4,q1,f1⟩:=hx1.cells
  generalize x.byNumber = num at *
  by_cases h39:c = 39
  ·have t39:((c.toNat:Int) == 39) = true:=by rw [h39];rfl
   have ka:=kapos_any w1 B b s x num hx1 hs hlt hsz
   have HY2:Hid (x.apostrophe s num = Y):=by show _ = _;rw [← HY.out,if_pos h39]
   clear HY hx1 h39 hgc
   go_wp2_with fail
   refine ka.mono ?_
   rintro e w2 ⟨rfl,hs2,hb5⟩
   clear ka
   go_wp2
   first | go_end0 | refine bodyPost_ret (results_none rfl _ _ _) rfl ?_
   exact ⟨rfl,by rw [← HY2.out];exact hs2,hb4.trans hb5⟩
  ·have f39:((c.toNat:Int) == 39) = false:=byte_ne (n:=39) (by decide) h39
   by_cases h123:c = 123
   ·have t123:((c.toNat:Int) == 123) = true:=by rw [h123];rfl
    have ka:=kbrace_go w1 B b s x hx1 (by omega) hlt hso hop
    have HY2:Hid (x.brace s = Y):=by show _ = _;rw [← HY.out,if_neg h39,if_pos h123]
    clear HY hx1 h39 h123 hgc
    go_wp2_with fail
    refine ka.mono ?_
    rintro e w2 ⟨rfl,hs2,hb5⟩
    clear ka
    go_wp2
    first | go_end0 | refine bodyPost_ret (results_none rfl _ _ _) rfl ?_
    exact ⟨rfl,by rw [← HY2.out];exact hs2,hb4.trans hb5⟩
   ·have f123:((c.toNat:Int) == 123) = false:=byte_ne (n:=123) (by decide) h123
    have hw1:IntKind.i64.wrap ((x.i:Int) + 1) = (x.i:Int) + 1:=by rw [IntKind.wrap_i64];omega
    have hs2:ScanAt [] (w1.setCell ⟨b,1,none⟩ (.int .i64 ((x.i:Int) + 1))) B b s (x.go 1):=setI_go hx1 (Below.refl _ _) 1
    have hb5:Below B w (w1.setCell ⟨b,1,none⟩ (.int .i64 ((x.i:Int) + 1))):=hb4.setCell (p:=⟨b,1,none⟩) hB.1 _
    by_cases h125:c = 125
    ·have t125:((c.toNat:Int) == 125) = true:=by rw [h125];rfl
     by_cases hop0:x.opens = []
     ·have to0:((x.opens.length:Int) == 0) = true:=by rw [hop0];rfl
      have kf:=fun W (h:Below w1.heap.size w1 W)=>kfault_any (ms:=[]) W B b s x 3 x.i (hx1.keep h)
      have HY2:Hid (x.fault 3 x.i = Y):=by show _ = _;rw [← HY.out,if_neg h39,if_neg h123,if_pos ⟨h125,hop0⟩]
      have HK:Hid (w1.heap.size ≥ B):=by have:=hx1.base;show _ ≤ _;omega
      clear HY hx1 h39 h123 h125 hgc hs2 hb5 hop0
      go_wp2_with fail
      refine (kf _ (Below.refl _ _)).mono ?_
      rintro e w2 ⟨rfl,hs3,hb6⟩
      clear kf
      go_wp2
      first | go_end0 | refine bodyPost_ret (results_none rfl _ _ _) rfl ?_
      exact ⟨rfl,by rw [← HY2.out];exact hs3,hb4.trans hb6⟩
     ·have to0:((x.opens.length:Int) == 0) = false:=by
       rw [beq_eq_false_iff_ne]
       intro e
       exact hop0 (List.eq_nil_of_length_eq_zero (by omega))
      obtain ⟨l,d,hl⟩:∃ l d,x.opens = l ++ [d]:=by
       rcases List.eq_nil_or_concat x.opens with h | ⟨l,d,h⟩
       ·exact absurd h hop0
       ·exact ⟨l,d,by rw [h];try simp⟩
      have HY2:Hid (((x.go 1).put { kind:=93 }).behind s = Y):=by show _ = _;rw [← HY.out,if_neg h39,if_neg h123,if_neg (fun h=>hop0 h.2),if_pos h125]
      have HX1:Hid (ScanAt [] w1 B b s x):=hx1
      have HBe:Hid (∀ W,ScanAt [] W B b s ((x.go 1).put { kind:=93 }) → Calls Tryz.prog 138 #[.pointer (some ⟨b,0,none⟩)] W fun en w'=>en = .returned (.tuple #[]) ∧ ScanAt [] w' B b s (((x.go 1).put { kind:=93 }).behind s) ∧ Below B W w'):=fun W h=>kbehind_any W B b s ((x.go 1).put { kind:=93 }) l d h (by omega) (by show x.i + 1 ≤ _;omega) (by show (x.out ++ [_]).length ≤ _;simp;have:=hsz.1;omega) (by show x.opens.length ≤ _;omega) hl
      rw [HY2.out] at HBe
      clear HY hx1 h39 h123 h125 hgc hop0 HY2 hl
      obtain ⟨oa,on,oc,pa,pn,pc,q7,f7,k3',hbl,hBb,HP⟩:=ScanAt.puts0 { kind:=93 } hs2
      have hM:=mcells_at { kind:=93 } (w1.setCell ⟨b,1,none⟩ (.int .i64 ((x.i:Int) + 1))) 130
      have hWs:(w1.setCell ⟨b,1,none⟩ (.int .i64 ((x.i:Int) + 1))).heap.size = w1.heap.size:=by simp
      rw [hWs] at hM
      have hzo:(x.go 1).out.length ≤ 90000:=hso
      obtain ⟨i2,hi0,hz0,hz1,hz2⟩:=info_parts info_mark
      have HI2:Hid (Tryz.prog.info? 130 = some i2 ∧ i2.zero = some (.agg #[.int .u8 0,.string ⟨#[]⟩,.string ⟨#[]⟩,.string ⟨#[]⟩,.string ⟨#[]⟩,.int .i64 0]) ∧ i2.size = 6 ∧ i2.bytes = 80):=⟨hi0,hz0,hz1,hz2⟩
      clear hi0 hz0 hz1 hz2 hs2
      have q8':=q7
      clear q7 f7
      obtain ⟨a9,n9,c9,a10,c10,q9,f9⟩:=HX1.out.cells
      have e2:(Value.slice a9 n9 c9) = .slice oa on oc:=by
       have h1:=q8' 2
       rw [show ∀ v,(w1.setCell ⟨b,1,none⟩ v).cell? ⟨b,2,none⟩ = w1.cell? ⟨b,2,none⟩ from fun v=>World.cell?_setCell_other _ _ _ _ (by simp),q9 2] at h1
       simpa using h1
      clear q1 f1 q8'
      cases e2
      go_wp2_with (at_builtin;refine wpList_append_own_at _ rfl _ _ 92 rfl B 130 i2 (.agg #[.int .u8 0,.string ⟨#[]⟩,.string ⟨#[]⟩,.string ⟨#[]⟩,.string ⟨#[]⟩,.int .i64 0]) 6 80 Tryz.underlying92 HI2.out.1 HI2.out.2.1 HI2.out.2.2.1 HI2.out.2.2.2 rfl (by decide) _ (x.go 1).out.length (marksCells (x.go 1).out) rfl (World.ownsRow.alloc k3' _) ⟨w1.heap.size,0,none⟩ 1 1 (mCells { kind:=93 }) rfl rfl hM (mcells_one _) (by unfold maxLen;omega) (by omega) (by simp;omega) ?_)
      intro v8 w8 hown8 hgrow8 _ hat8
      obtain ⟨r8,e8,b8⟩:=HP.out w8 v8 _ hown8 hgrow8 (by simpa using hat8)
      obtain ⟨va8,vn8,vc8,rfl⟩:=owns_form hown8
      have q8:=r8.2.1
      have f8:=r8.2.2
      have b9:=hb5.trans b8
      clear hown8 hgrow8 hat8 r8 HP hM b8 hb5 q9 f9 k3'
      go_wp2_with fail
      refine (HBe.out _ e8).mono ?_
      rintro e w9 ⟨rfl,hs3,hb6⟩
      clear q8 f8 e8
      go_wp2
      first | go_end0 | refine bodyPost_ret (results_none rfl _ _ _) rfl ?_
      exact ⟨rfl,hs3,b9.trans hb6⟩
    ·have f125:((c.toNat:Int) == 125) = false:=byte_ne (n:=125) (by decide) h125
     have HX1:Hid (ScanAt [] w1 B b s x):=hx1
     by_cases hh:c = 35 ∧ num = true
     ·have t35:((c.toNat:Int) == 35) = true:=by rw [hh.1];rfl
      have HY2:Hid ((x.go 1).put { kind:=35 } = Y):=by show _ = _;rw [← HY.out,if_neg h39,if_neg h123,if_neg (fun h=>h125 h.1),if_neg h125,if_pos hh]
      obtain ⟨_,rfl⟩:=hh
      clear HY hx1 h39 h123 h125 hgc
      obtain ⟨oa,on,oc,pa,pn,pc,q7,f7,k3',hbl,hBb,HP⟩:=ScanAt.puts0 { kind:=35 } hs2
      have hM:=mcells_at { kind:=35 } (w1.setCell ⟨b,1,none⟩ (.int .i64 ((x.i:Int) + 1))) 130
      have hWs:(w1.setCell ⟨b,1,none⟩ (.int .i64 ((x.i:Int) + 1))).heap.size = w1.heap.size:=by simp
      rw [hWs] at hM
      have hzo:(x.go 1).out.length ≤ 90000:=hso
      obtain ⟨i2,hi0,hz0,hz1,hz2⟩:=info_parts info_mark
      have HI2:Hid (Tryz.prog.info? 130 = some i2 ∧ i2.zero = some (.agg #[.int .u8 0,.string ⟨#[]⟩,.string ⟨#[]⟩,.string ⟨#[]⟩,.string ⟨#[]⟩,.int .i64 0]) ∧ i2.size = 6 ∧ i2.bytes = 80):=⟨hi0,hz0,hz1,hz2⟩
      clear hi0 hz0 hz1 hz2 hs2
      have q8':=q7
      clear q7 f7
      obtain ⟨a9,n9,c9,a10,c10,q9,f9⟩:=HX1.out.cells
      have e2:(Value.slice a9 n9 c9) = .slice oa on oc:=by
       have h1:=q8' 2
       rw [show ∀ v,(w1.setCell ⟨b,1,none⟩ v).cell? ⟨b,2,none⟩ = w1.cell? ⟨b,2,none⟩ from fun v=>World.cell?_setCell_other _ _ _ _ (by simp),q9 2] at h1
       simpa using h1
      clear q1 f1 q8'
      cases e2
      go_wp2_with (at_builtin;refine wpList_append_own_at _ rfl _ _ 92 rfl B 130 i2 (.agg #[.int .u8 0,.string ⟨#[]⟩,.string ⟨#[]⟩,.string ⟨#[]⟩,.string ⟨#[]⟩,.int .i64 0]) 6 80 Tryz.underlying92 HI2.out.1 HI2.out.2.1 HI2.out.2.2.1 HI2.out.2.2.2 rfl (by decide) _ (x.go 1).out.length (marksCells (x.go 1).out) rfl (World.ownsRow.alloc k3' _) ⟨w1.heap.size,0,none⟩ 1 1 (mCells { kind:=35 }) rfl rfl hM (mcells_one _) (by unfold maxLen;omega) (by omega) (by simp;omega) ?_)
      intro v8 w8 hown8 hgrow8 _ hat8
      obtain ⟨r8,e8,b8⟩:=HP.out w8 v8 _ hown8 hgrow8 (by simpa using hat8)
      obtain ⟨va8,vn8,vc8,rfl⟩:=owns_form hown8
      have q8:=r8.2.1
      have f8:=r8.2.2
      have b9:=hb5.trans b8
      clear hown8 hgrow8 hat8 r8 HP hM b8 hb5 q9 f9 k3'
      go_wp2
      first | go_end0 | refine bodyPost_ret (results_none rfl _ _ _) rfl ?_
      exact ⟨rfl,by rw [← HY2.out];exact e8,b9⟩
     ·have hh':(((c.toNat:Int) == 35) && num) = false:=by
       cases num with
       | false=>simp
       | true=>rw [Bool.and_true];exact byte_ne (n:=35) (by decide) (fun h=>hh ⟨h,rfl⟩)
      have HY2:Hid ((x.go 1).say [c] = Y):=by show _ = _;rw [← HY.out,if_neg h39,if_neg h123,if_neg (fun h=>h125 h.1),if_neg h125,if_neg hh]
      have ky:=fun W (h:Below (w1.setCell ⟨b,1,none⟩ (.int .i64 ((x.i:Int) + 1))).heap.size (w1.setCell ⟨b,1,none⟩ (.int .i64 ((x.i:Int) + 1))) W)=>ksay_any (ms:=[]) W B b s (x.go 1) [c] (hs2.keep h) (hsz.go.short (by omega)) (by simp)
      have hw2:IntKind.i64.wrap ((x.i:Int) + 1 - 1) = x.i:=by rw [IntKind.wrap_i64];omega
      have hw3:IntKind.i64.wrap (x.i:Int) = x.i:=by rw [IntKind.wrap_i64];omega
      have d0:x.i ≤ s.length:=by omega
      have d1:(x.i:Int) ≤ s.length:=by omega
      have d2:(x.i:Int) + 1 ≤ s.length:=by omega
      have d3:(x.i:Int) ≤ (x.i:Int) + 1:=by omega
      have d4:((x.i:Int) + 1).toNat = x.i + 1:=by omega
      have ex1:(⟨s.toArray⟩:ByteArray).extract x.i (x.i + 1) = ⟨#[c]⟩:=by
       rw [ex_seg,List.drop_eq_getElem_cons hlt]
       have:=hgc (by show x.i < s.toArray.size;simpa using hlt)
       simp only [List.take_succ_cons,List.take_zero]
       congr 2
       rw [← this]
       rfl
      clear HY hx1 h39 h123 h125 hgc hs2 hh
      by_cases h35:((c.toNat:Int) == 35) = true
      ·cases num with
       | true=>rw [h35] at hh';cases hh'
       | false=>
        clear hh'
        go_wp2_with fail
        go_region_with (go_at_call 139;refine (ky _ (by first | exact Below.refl _ _ | exact (Below.refl _ _).drew)).mono ?_;rintro e w2 ⟨rfl,hs3,hb6⟩)
        all_goals go_wp2
        all_goals first | go_end0 | refine bodyPost_ret (results_none rfl _ _ _) rfl ?_
        all_goals first | exact ⟨rfl,by rw [← HY2.out];exact hs3,hb5.trans hb6⟩ | exact ⟨rfl,by rw [← HY2.out];exact hs3,hb5.drew.trans hb6⟩
      ·have f35:((c.toNat:Int) == 35) = false:=by simpa using h35
       clear hh' h35
       go_wp2_with fail
       go_region_with (go_at_call 139;refine (ky _ (by first | exact Below.refl _ _ | exact (Below.refl _ _).drew)).mono ?_;rintro e w2 ⟨rfl,hs3,hb6⟩)
       all_goals go_wp2
       all_goals first | go_end0 | refine bodyPost_ret (results_none rfl _ _ _) rfl ?_
       all_goals first | exact ⟨rfl,by rw [← HY2.out];exact hs3,hb5.trans hb6⟩ | exact ⟨rfl,by rw [← HY2.out];exact hs3,hb5.drew.trans hb6⟩
end Go.Proofs.YtaepcfidpekflaaGreatDoor
