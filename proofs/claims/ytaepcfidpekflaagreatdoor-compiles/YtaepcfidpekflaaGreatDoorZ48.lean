/-
  Several texts in one (Jd). By the verifier.
-/
import Derived.Test.YtaepcfidpekflaaGreatDoorZ47
import Derived.Test.YtaepcfidpekflaaGreatDoorZ14
namespace Go.Proofs.YtaepcfidpekflaaGreatDoor
open Go.RowKit
def argCells (k:UInt8) (n h o:Pr.T) (i:Nat):Array Value:=#[.int .u8 k.toNat,.string ⟨#[]⟩,.string ⟨n.toArray⟩,.string ⟨h.toArray⟩,.string ⟨o.toArray⟩,.int .i64 i]
theorem nameT_le (s:Pr.T) (x:Dk.Sc):(x.nameT s).length ≤ 16:=by
 have:=(named_le (s.drop x.i)).2
 simp only [Dk.Sc.nameT,Dk.Sc.next,List.length_take]
 omega
theorem ScanAt.puts {w w7:World} {B b mb:Nat} {s:Pr.T} {z:Dk.Sc} {M:Dk.Mark} (h:ScanAt [(mb,#[.int .u8 M.kind.toNat,strV M.text,strV M.name,strV M.how,strV M.offset,.int .i64 M.at_])] w7 B b s z) (hb:Below B w w7):
  ∃ oa on oc pa pn pc,(∀ j,w7.cell? ⟨b,j,none⟩ = #[.string ⟨s.toArray⟩,.int .i64 z.i,.slice oa on oc,.slice pa pn pc,.int .i64 z.err,.int .i64 z.place][j]?) ∧ (∀ j,w7.frozen? ⟨b,j,none⟩ = false) ∧ (∀ j,w7.cell? ⟨mb,j,none⟩ = #[.int .u8 M.kind.toNat,.string ⟨M.text.toArray⟩,.string ⟨M.name.toArray⟩,.string ⟨M.how.toArray⟩,.string ⟨M.offset.toArray⟩,.int .i64 M.at_][j]?) ∧ w7.ownsRow B 130 6 (.slice oa on oc) z.out.length (marksCells z.out) ∧ b < w7.heap.size ∧ B ≤ b ∧
   Hid (∀ w8 v' o,w8.ownsRow B 130 6 v' (z.out.length + 1) (marksCells z.out ++ mCells M) → (w7.alloc o).grownBy w8 (Value.slice oa on oc).ownBlock → (v'.ownBlock = (Value.slice oa on oc).ownBlock ∨ v'.ownBlock = some (w7.heap.size + 1)) → Row w8 b #[.string ⟨s.toArray⟩,.int .i64 z.i,.slice oa on oc,.slice pa pn pc,.int .i64 z.err,.int .i64 z.place] ∧ ScanAt [] (w8.setCell ⟨b,2,none⟩ v') B b s (z.put M) ∧ Below B w (w8.setCell ⟨b,2,none⟩ v')):=by
 obtain ⟨ov2,pv2,k1,k2,k3,k4,k5,k6,k7,k8⟩:=h
 have m7:=(k8 _ (List.mem_singleton.2 rfl)).1.2.1
 obtain ⟨oa2,on2,oc2,rfl⟩:=owns_form k3
 obtain ⟨pa2,pn2,pc2,rfl⟩:=owns_form k4
 refine ⟨oa2,on2,oc2,pa2,pn2,pc2,k1.2.1,k1.2.2,m7,k3,k1.1,k2,?_⟩
 intro w8 v' o a1 a2 a3
 obtain ⟨p1,p2⟩:=ScanAt.put (m:=M) k1 k2 k4 k5 k6 k7 k3 k8 a1 a2 (by simpa using a3)
 exact ⟨(k1.alloc o).grown a2 k5,p1.unbox,hb.trans p2⟩
def ArgCut (w wd:World) (B b:Nat) (s:Pr.T) (x:Dk.Sc) (kn:Nat) (NT HT:Pr.T) (Y:Dk.Sc):Prop:=∃ (z:Dk.Sc) (t:Pr.T),ScanAt [(w.heap.size,argCells 40 NT HT t x.i)] wd B b s z ∧ Below B w wd ∧ z.i ≤ s.length ∧ z.opens = x.opens ∧ z.out = x.out ∧ t.length ≤ 9 ∧ (z.put { kind:=40,name:=NT,how:=HT,offset:=t,at_:=x.i }).branch s (decide (kn < 3)) = Y
set_option maxHeartbeats 6400000 in
set_option maxRecDepth 100000 in
theorem kbrace_go (w:World) (B b:Nat) (s:Pr.T) (x:Dk.Sc) (hx:ScanAt [] w B b s x) (hs:s.length ≤ 100000) (hi:x.i < s.length) (ho:x.out.length ≤ 90000) (hop:x.opens.length ≤ 90000):
  Calls Tryz.prog 137 #[.pointer (some ⟨b,0,none⟩)] w fun en w'=>en = .returned (.tuple #[]) ∧ ScanAt [] w' B b s (x.brace s) ∧ Below B w w':=by
 have hB:=hx.base
 obtain ⟨Y,hY⟩:∃ Y,Hid (x.brace s = Y):=⟨_,rfl⟩
 rw [hY.out]
 obtain ⟨a1,n1,c1,a2,c2,q0,f0⟩:=hx.cells
 have hw2:IntKind.i64.wrap ((x.i:Int) + 1) = (x.i:Int) + 1:=by rw [IntKind.wrap_i64];omega
 have hx1:ScanAt [(w.heap.size,argCells 112 [] [] [] x.i)] ((w.setCell ⟨b,1,none⟩ (.int .i64 ((x.i:Int) + 1))).alloc (.cells (argCells 112 [] [] [] x.i) 130)) B b s (x.go 1):=by
  have:=(setI_go hx (Below.refl _ _) 1).box (argCells 112 [] [] [] x.i) 130
  simpa using this
 have hb1:Below B w ((w.setCell ⟨b,1,none⟩ (.int .i64 ((x.i:Int) + 1))).alloc (.cells (argCells 112 [] [] [] x.i) 130)):=((Below.refl B w).setCell (p:=⟨b,1,none⟩) hB.1 _).alloc (by simp;omega) _
 have kb:=kblanks_any (ms:=[(w.heap.size,argCells 112 [] [] [] x.i)]) _ B b s (x.go 1) hx1 (by omega) (by show x.i + 1 ≤ _;omega)
 have bi:=blanks_i s (x.go 1) (by show x.i + 1 ≤ _;omega)
 have HY:Hid ((let a:=(x.go 1).blanks s;let b:=(a.name s).blanks s
   if b.err ≠ 0 then b
   else if s[b.i]? ≠ some 44 then (b.needs s 125).put { kind:=112,name:=a.nameT s,at_:=x.i }
   else
    let c:=(b.go 1).blanks s
    let d:=c.name s
    let how:=c.nameT s
    if Dk.knownOf how = 4 then d.fault 3 c.i
    else
     let e:=d.blanks s
     if Dk.knownOf how = 0 then (e.needs s 125).put { kind:=110,name:=a.nameT s,how:=how,at_:=x.i }
     else e.args s (Dk.knownOf how) { kind:=40,name:=a.nameT s,how:=how,at_:=x.i }) = Y):=hY.out
 have hxo:(x.go 1).out = x.out ∧ (x.go 1).opens = x.opens:=⟨rfl,rfl⟩
 clear hx hx1 hY
 go_enter Tryz.func137,Tryz.ntmps137
 go_wp2_with fail
 refine kb.mono ?_
 rintro e w1 ⟨rfl,hs1,hb2⟩
 have hb3:=hb1.trans hb2
 clear kb hb1 hb2 q0 f0
 obtain ⟨i1,i2,i3⟩:=bi
 rw [hxo.1] at i3
 rw [hxo.2] at i2
 generalize (x.go 1).blanks s = A at *
 have kn:=kname_any (ms:=[(w.heap.size,argCells 112 [] [] [] x.i)]) w1 B b s A hs1 (by omega) i1
 obtain ⟨j1,j2,j3⟩:=name_i s A i1
 have hTl:=nameT_le s A
 clear hs1
 go_wp2_with fail
 refine kn.mono ?_
 rintro e w2 ⟨rfl,hs2,hb4⟩
 have r2:=hs2.rowOf
 have m2:=r2.2.1
 have g2:=r2.2.2
 have hs3:=hs2.setBox 2 (.string ⟨(A.nameT s).toArray⟩) (by simp [argCells])
 have hb5:Below B w (w2.setCell ⟨w.heap.size,2,none⟩ (.string ⟨(A.nameT s).toArray⟩)):=(hb3.trans hb4).setCell (p:=⟨w.heap.size,2,none⟩) (by show B ≤ w.heap.size;omega) _
 clear kn hb3 hb4 r2 hs2
 unfold argCells at m2
 have kb2:=kblanks_any (ms:=[(w.heap.size,argCells 112 (A.nameT s) [] [] x.i)]) _ B b s (A.name s) hs3 (by omega) j1
 obtain ⟨k1,k2,k3⟩:=blanks_i s (A.name s) j1
 rw [j2,i2] at k2
 rw [j3,i3] at k3
 clear j1 j2 j3 i1 i2 i3 hxo hs3
 generalize A.nameT s = NT at *
 generalize (A.name s).blanks s = D at *
 go_wp2_with fail
 refine kb2.mono ?_
 rintro e w3 ⟨rfl,hs4,hb6⟩
 have hb7:=hb5.trans hb6
 clear kb2 hb5 hb6 m2 g2
 obtain ⟨a3,n3,c3,a4,c4,q3,f3⟩:=hs4.cells
 by_cases he:D.err = 0
 ·have he':((D.err:Int) != 0) = false:=by rw [he];rfl
  have HY2:Hid ((if s[D.i]? ≠ some 44 then (D.needs s 125).put { kind:=112,name:=NT,at_:=x.i }
   else
    let c:=(D.go 1).blanks s
    let d:=c.name s
    let how:=c.nameT s
    if Dk.knownOf how = 4 then d.fault 3 c.i
    else
     let e:=d.blanks s
     if Dk.knownOf how = 0 then (e.needs s 125).put { kind:=110,name:=NT,how:=how,at_:=x.i }
     else e.args s (Dk.knownOf how) { kind:=40,name:=NT,how:=how,at_:=x.i }) = Y):=by
   have:=HY.out
   rw [if_neg (by rw [he];simp)] at this
   exact this
  clear HY
  go_upto_region 6 with fail
  obtain ⟨E,hE⟩:∃ E:Bool,Hid ((s[D.i]? != some 44) = E):=⟨_,rfl⟩
  go_cut [50] (fun z wd=>z = .bool E ∧ Below w3.heap.size w3 wd)
  case first=>
   clear HY2 hs4
   cases hd:s.drop D.i with
   | nil=>
    have hge:s.length ≤ D.i:=List.drop_eq_nil_iff.1 hd
    have hk':((D.i:Int) < s.length) = False:=eq_false (by omega)
    have hk2:((s.length:Int) ≤ D.i) = True:=eq_true (by omega)
    have hF:Hid (E = true):=by show _ = _;rw [← hE.out,List.getElem?_eq_none hge];rfl
    clear hE hd
    go_wp2
    go_quiet (fail)
    go_wp2
    go_meet
    case rel=>exact ⟨by rw [hF.out],drewB _ _⟩
   | cons c r=>
    obtain ⟨hkl,_,hgc⟩:=at_drop hd
    have hkl':(D.i:Int) < s.length:=by omega
    have hk2:((s.length:Int) ≤ D.i) = False:=eq_false (by omega)
    have hg:s[D.i]? = some c:=by
     have:=congrArg List.head? hd
     rw [List.head?_drop] at this
     simpa using this
    by_cases hc:c = 44
    ·have hc':((c.toNat:Int) != 44) = false:=by rw [hc];rfl
     have hc2:((c.toNat:Int) == 44) = true:=by rw [hc];rfl
     have hF:Hid (E = false):=by show _ = _;rw [← hE.out,hg,hc];rfl
     clear hE hd hg hc
     go_wp2
     go_quiet (fail)
     go_wp2
     go_meet
     case rel=>exact ⟨by rw [hF.out],drewB _ _⟩
    ·have hc':((c.toNat:Int) != 44) = true:=by simpa using byte_ne (n:=44) (by decide) hc
     have hc2:((c.toNat:Int) == 44) = false:=byte_ne (n:=44) (by decide) hc
     have hF:Hid (E = true):=by show _ = _;rw [← hE.out,hg];simpa using hc
     clear hE hd hg hc
     go_wp2
     go_quiet (fail)
     go_wp2
     go_meet
     case rel=>exact ⟨by rw [hF.out],drewB _ _⟩
  case rest=>
   obtain ⟨rfl,hbc⟩:=hcut
   have hs5:=hs4.keep hbc
   have hb8:Below B w wc:=hb7.trans (below_to hs4.base.2 hbc (Below.refl _ _))
   clear hs4 hb7 hbc q3 f3
   cases E with
   | true=>
    have HY3:Hid ((D.needs s 125).put { kind:=112,name:=NT,at_:=x.i } = Y):=by
     have:=HY2.out
     rw [if_pos (by have:=hE.out;simpa using this)] at this
     exact this
    have kn:=kneeds_any (ms:=[(w.heap.size,argCells 112 NT [] [] x.i)]) wc B b s D 125 hs5 (by omega) k1
    obtain ⟨l1,l2,l3⟩:=needs_i s D 125 k1
    rw [k2] at l2
    rw [k3] at l3
    clear HY2 hE hs5 k1 k2 k3
    generalize D.needs s 125 = F at *
    go_wp2_with fail
    refine kn.mono ?_
    rintro e w4 ⟨rfl,hs6,hb9⟩
    have hb10:=hb8.trans hb9
    clear kn hb8 hb9
    obtain ⟨oa,on,oc,pa,pn,pc,q7,f7,m7,k3',hbl,hBb,HP⟩:=ScanAt.puts (M:={ kind:=112,name:=NT,at_:=x.i }) hs6 hb10
    clear hs6 hb10
    have hzo:F.out.length ≤ 90000:=by rw [l3];omega
    obtain ⟨i2,hi0,hz0,hz1,hz2⟩:=info_parts info_mark
    have HI2:Hid (Tryz.prog.info? 130 = some i2 ∧ i2.zero = some (.agg #[.int .u8 0,.string ⟨#[]⟩,.string ⟨#[]⟩,.string ⟨#[]⟩,.string ⟨#[]⟩,.int .i64 0]) ∧ i2.size = 6 ∧ i2.bytes = 80):=⟨hi0,hz0,hz1,hz2⟩
    clear hi0 hz0 hz1 hz2
    have qA:=fun j=>(World.cell?_alloc_lt w4 (.cells #[.int .u8 112,.string ⟨#[]⟩,.string ⟨NT.toArray⟩,.string ⟨#[]⟩,.string ⟨#[]⟩,.int .i64 x.i] 130) ⟨b,j,none⟩ hbl).trans (q7 j)
    go_wp2_with fail
    go_region_law (refine step_append_at rfl (.tmp 57) (.tmp 59) 92 rfl B 130 i2 (.agg #[.int .u8 0,.string ⟨#[]⟩,.string ⟨#[]⟩,.string ⟨#[]⟩,.string ⟨#[]⟩,.int .i64 0]) 6 80 Tryz.underlying92 HI2.out.1 HI2.out.2.1 HI2.out.2.2.1 HI2.out.2.2.2 rfl (by decide) (.slice oa on oc) F.out.length (marksCells F.out) (by simp [Act.eval]) (by first | exact World.ownsRow.alloc k3' _ | exact World.ownsRow.alloc (World.ownsRow.drew k3') _) ⟨w4.heap.size,0,none⟩ 1 1 (mCells { kind:=112,name:=NT,at_:=x.i }) (by simp [Act.eval]) rfl (by first | exact mcells_at { kind:=112,name:=NT,at_:=x.i } w4 _ | exact mcells_at { kind:=112,name:=NT,at_:=x.i } w4.drew _) (mcells_one _) (by unfold maxLen;omega) (by omega) (by simp;omega) ?_;intro v8 w8 hown8 hgrow8 hat8;obtain ⟨r8,e8,b8⟩:=HP.out w8 v8 (.cells #[.int .u8 112,.string ⟨#[]⟩,.string ⟨NT.toArray⟩,.string ⟨#[]⟩,.string ⟨#[]⟩,.int .i64 x.i] 130) hown8 ⟨hgrow8.os,hgrow8.tape,hgrow8.output,hgrow8.size,hgrow8.block⟩ (by simpa using hat8);obtain ⟨va8,vn8,vc8,rfl⟩:=owns_form hown8;have q8:=r8.2.1;have f8:=r8.2.2;clear hown8 hgrow8 hat8 r8)
    all_goals go_wp2
    all_goals refine bodyPost_ret (results_none rfl _ _ _) rfl ?_
    all_goals exact ⟨rfl,by rw [← HY3.out];exact e8,b8⟩
   | false=>
    have hlt:D.i < s.length:=by
     have:=hE.out
     rcases Nat.lt_or_ge D.i s.length with h' | h'
     ·exact h'
     ·rw [List.getElem?_eq_none h'] at this;cases this
    have HY3:Hid ((let c:=(D.go 1).blanks s
     let d:=c.name s
     let how:=c.nameT s
     if Dk.knownOf how = 4 then d.fault 3 c.i
     else
      let e:=d.blanks s
      if Dk.knownOf how = 0 then (e.needs s 125).put { kind:=110,name:=NT,how:=how,at_:=x.i }
      else e.args s (Dk.knownOf how) { kind:=40,name:=NT,how:=how,at_:=x.i }) = Y):=by
     have:=HY2.out
     rw [if_neg (by have:=hE.out;simpa using this)] at this
     exact this
    clear HY2 hE
    obtain ⟨a5,n5,c5,a6,c6,q5,f5⟩:=hs5.cells
    have hw3:IntKind.i64.wrap ((D.i:Int) + 1) = (D.i:Int) + 1:=by rw [IntKind.wrap_i64];omega
    have hs6:ScanAt [(w.heap.size,argCells 112 NT [] [] x.i)] (wc.setCell ⟨b,1,none⟩ (.int .i64 ((D.i:Int) + 1))) B b s (D.go 1):=setI_go hs5 (Below.refl _ _) 1
    have hb9:Below B w (wc.setCell ⟨b,1,none⟩ (.int .i64 ((D.i:Int) + 1))):=hb8.setCell (p:=⟨b,1,none⟩) hB.1 _
    have kb:=kblanks_any (ms:=[(w.heap.size,argCells 112 NT [] [] x.i)]) _ B b s (D.go 1) hs6 (by omega) (by show D.i + 1 ≤ _;omega)
    have bi:=blanks_i s (D.go 1) (by show D.i + 1 ≤ _;omega)
    clear hs5 hs6 hb8
    go_wp2_with fail
    refine kb.mono ?_
    rintro e w5 ⟨rfl,hs7,hb10⟩
    have hb11:=hb9.trans hb10
    clear kb hb9 hb10 q5 f5
    obtain ⟨i1,i2,i3⟩:=bi
    rw [show (D.go 1).opens = D.opens from rfl,k2] at i2
    rw [show (D.go 1).out = D.out from rfl,k3] at i3
    generalize (D.go 1).blanks s = C at *
    obtain ⟨a7,n7,c7,a8,c8,q7,f7⟩:=hs7.cells
    have kn:=kname_any (ms:=[(w.heap.size,argCells 112 NT [] [] x.i)]) w5 B b s C hs7 (by omega) i1
    obtain ⟨j1,j2,j3⟩:=name_i s C i1
    rw [i2] at j2
    rw [i3] at j3
    have hHl:=nameT_le s C
    clear hs7 i1 i2 i3 k1 k2 k3
    go_wp2_with fail
    refine kn.mono ?_
    rintro e w6 ⟨rfl,hs8,hb12⟩
    have hb13:=hb11.trans hb12
    clear kn hb11 hb12 q7 f7
    have r6:=hs8.rowOf
    have m6:=r6.2.1
    have g6:=r6.2.2
    have hs9:=hs8.setBox 3 (.string ⟨(C.nameT s).toArray⟩) (by simp [argCells])
    have hb14:Below B w (w6.setCell ⟨w.heap.size,3,none⟩ (.string ⟨(C.nameT s).toArray⟩)):=hb13.setCell (p:=⟨w.heap.size,3,none⟩) (by show B ≤ w.heap.size;omega) _
    clear hb13 r6 hs8
    unfold argCells at m6
    generalize C.nameT s = HT at *
    generalize C.name s = G at *
    generalize C.i = ci at *
    obtain ⟨W,hW⟩:∃ W,Hid (w6.setCell ⟨w.heap.size,3,none⟩ (.string ⟨HT.toArray⟩) = W):=⟨_,rfl⟩
    have hs10:ScanAt [(w.heap.size,argCells 112 NT HT [] x.i)] W B b s G:=by rw [← hW.out];simpa [argCells] using hs9
    have hb15:Below B w W:=by rw [← hW.out];exact hb14
    have hmb:w.heap.size < W.heap.size:=hs10.rowOf.1
    have mW:=hs10.rowOf.2.1
    have mA:(((w6.setCell ⟨w.heap.size,3,none⟩ (.string ⟨HT.toArray⟩)).alloc (.cells #[.string ⟨#[110,117,109,98,101,114]⟩,.string ⟨#[112,108,117,114,97,108]⟩,.string ⟨#[115,101,108,101,99,116,111,114,100,105,110,97,108]⟩,.string ⟨#[115,101,108,101,99,116]⟩] 9)).cell? ⟨w.heap.size,3,none⟩) = some (.string ⟨HT.toArray⟩):=by
     rw [hW.out,World.cell?_alloc_lt W _ _ hmb,mW]
     rfl
    clear hs9 hb14
    go_wp2_with fail
    rw [hW.out]
    have hW6:w6.heap.size = W.heap.size:=by rw [← hW.out];simp
    have pl:=place_ix (W.alloc (.cells #[.string ⟨#[110,117,109,98,101,114]⟩,.string ⟨#[112,108,117,114,97,108]⟩,.string ⟨#[115,101,108,101,99,116,111,114,100,105,110,97,108]⟩,.string ⟨#[115,101,108,101,99,116]⟩] 9)) kinds4 HT W.heap.size 0 4 (by decide) (by decide) (by simp) (fun j hj=>by
     rw [Nat.zero_add]
     match j,hj with
     | 0,_=>simp [kinds4,strV]
     | 1,_=>simp [kinds4,strV]
     | 2,_=>simp [kinds4,strV]
     | 3,_=>simp [kinds4,strV])
    rw [hW6]
    clear mA m6 g6 hW6 hW mW
    refine pl.mono ?_
    rintro e w7 ⟨⟨k,rfl,hk⟩,rfl⟩
    have hkn:=known_ix HT k hk
    clear pl hk
    have hba:Below W.heap.size W (W.alloc (.cells #[.string ⟨#[110,117,109,98,101,114]⟩,.string ⟨#[112,108,117,114,97,108]⟩,.string ⟨#[115,101,108,101,99,116,111,114,100,105,110,97,108]⟩,.string ⟨#[115,101,108,101,99,116]⟩] 9)):=(Below.refl _ _).alloc (Nat.le_refl _) _
    have hs11:=hs10.keep hba
    have hb16:Below B w (W.alloc (.cells #[.string ⟨#[110,117,109,98,101,114]⟩,.string ⟨#[112,108,117,114,97,108]⟩,.string ⟨#[115,101,108,101,99,116,111,114,100,105,110,97,108]⟩,.string ⟨#[115,101,108,101,99,116]⟩] 9)):=hb15.trans (hba.mono (by omega))
    generalize W.alloc (.cells #[.string ⟨#[110,117,109,98,101,114]⟩,.string ⟨#[112,108,117,114,97,108]⟩,.string ⟨#[115,101,108,101,99,116,111,114,100,105,110,97,108]⟩,.string ⟨#[115,101,108,101,99,116]⟩] 9) = w7 at *
    clear hs10 hb15 hba hmb
    rcases hkn with ⟨rfl,hkn⟩ | ⟨rfl,hkn⟩
    ·have kf:=kfault_any (ms:=[(w.heap.size,argCells 112 NT HT [] x.i)]) w7 B b s G 3 ci hs11
     have HY4:Hid (G.fault 3 ci = Y):=by
      have:=HY3.out
      rw [if_pos hkn] at this
      exact this
     clear HY3 hs11
     go_wp2_with fail
     refine kf.mono ?_
     rintro e w8 ⟨rfl,hs12,hb17⟩
     go_wp2
     refine bodyPost_ret (results_none rfl _ _ _) rfl ?_
     exact ⟨rfl,by rw [← HY4.out];exact hs12.unbox,hb16.trans hb17⟩
    ·have hk0:¬ ((Dk.knownOf HT:Int) < 0):=by omega
     have kb:=kblanks_any (ms:=[(w.heap.size,argCells 112 NT HT [] x.i)]) w7 B b s G hs11 (by omega) j1
     obtain ⟨b1,b2,b3⟩:=blanks_i s G j1
     rw [j2] at b2
     rw [j3] at b3
     have HY4:Hid ((if Dk.knownOf HT = 0 then ((G.blanks s).needs s 125).put { kind:=110,name:=NT,how:=HT,at_:=x.i } else (G.blanks s).args s (Dk.knownOf HT) { kind:=40,name:=NT,how:=HT,at_:=x.i }) = Y):=by
      have:=HY3.out
      rw [if_neg (by omega)] at this
      exact this
     clear HY3 hs11 j1 j2 j3
     generalize Dk.knownOf HT = kn at *
     generalize G.blanks s = H at *
     go_wp2_with fail
     refine kb.mono ?_
     rintro e w8 ⟨rfl,hs12,hb17⟩
     have hb18:=hb16.trans hb17
     clear kb hb16 hb17
     have r8:=hs12.rowOf
     have m8:=r8.2.1
     have g8:=r8.2.2
     unfold argCells at m8
     clear r8
     by_cases hz:kn = 0
     ·have hz':((kn:Int) == 0) = true:=by rw [hz];rfl
      have HY5:Hid ((H.needs s 125).put { kind:=110,name:=NT,how:=HT,at_:=x.i } = Y):=by
       have:=HY4.out
       rw [if_pos hz] at this
       exact this
      have hs13:ScanAt [(w.heap.size,argCells 110 NT HT [] x.i)] (w8.setCell ⟨w.heap.size,0,none⟩ (.int .u8 110)) B b s H:=by
       have:=hs12.setBox 0 (.int .u8 110) (by simp [argCells])
       simpa [argCells] using this
      have hb19:Below B w (w8.setCell ⟨w.heap.size,0,none⟩ (.int .u8 110)):=hb18.setCell (p:=⟨w.heap.size,0,none⟩) (by show B ≤ w.heap.size;omega) _
      have kn2:=kneeds_any (ms:=[(w.heap.size,argCells 110 NT HT [] x.i)]) _ B b s H 125 hs13 (by omega) b1
      obtain ⟨l1,l2,l3⟩:=needs_i s H 125 b1
      rw [b2] at l2
      rw [b3] at l3
      clear HY4 hs12 hs13 b1 b2 b3 hb18
      generalize H.needs s 125 = F at *
      go_wp2_with fail
      refine kn2.mono ?_
      rintro e w9 ⟨rfl,hs14,hb20⟩
      have hb21:=hb19.trans hb20
      clear kn2 hb19 hb20 m8 g8
      obtain ⟨oa,on,oc,pa,pn,pc,q7,f7,m7,k3',hbl,hBb,HP⟩:=ScanAt.puts (M:={ kind:=110,name:=NT,how:=HT,at_:=x.i }) hs14 hb21
      clear hs14 hb21
      have hzo:F.out.length ≤ 90000:=by rw [l3];omega
      obtain ⟨i2,hi0,hz0,hz1,hz2⟩:=info_parts info_mark
      have HI2:Hid (Tryz.prog.info? 130 = some i2 ∧ i2.zero = some (.agg #[.int .u8 0,.string ⟨#[]⟩,.string ⟨#[]⟩,.string ⟨#[]⟩,.string ⟨#[]⟩,.int .i64 0]) ∧ i2.size = 6 ∧ i2.bytes = 80):=⟨hi0,hz0,hz1,hz2⟩
      clear hi0 hz0 hz1 hz2
      have qA:=fun j=>(World.cell?_alloc_lt w9 (.cells #[.int .u8 110,.string ⟨#[]⟩,.string ⟨NT.toArray⟩,.string ⟨HT.toArray⟩,.string ⟨#[]⟩,.int .i64 x.i] 130) ⟨b,j,none⟩ hbl).trans (q7 j)
      go_wp2_with fail
      go_region_law (refine step_append_at rfl (.tmp 99) (.tmp 101) 92 rfl B 130 i2 (.agg #[.int .u8 0,.string ⟨#[]⟩,.string ⟨#[]⟩,.string ⟨#[]⟩,.string ⟨#[]⟩,.int .i64 0]) 6 80 Tryz.underlying92 HI2.out.1 HI2.out.2.1 HI2.out.2.2.1 HI2.out.2.2.2 rfl (by decide) (.slice oa on oc) F.out.length (marksCells F.out) (by simp [Act.eval]) (by first | exact World.ownsRow.alloc k3' _ | exact World.ownsRow.alloc (World.ownsRow.drew k3') _) ⟨w9.heap.size,0,none⟩ 1 1 (mCells { kind:=110,name:=NT,how:=HT,at_:=x.i }) (by simp [Act.eval]) rfl (by first | exact mcells_at { kind:=110,name:=NT,how:=HT,at_:=x.i } w9 _ | exact mcells_at { kind:=110,name:=NT,how:=HT,at_:=x.i } w9.drew _) (mcells_one _) (by unfold maxLen;omega) (by omega) (by simp;omega) ?_;intro v8 w10 hown8 hgrow8 hat8;obtain ⟨r8,e8,b8⟩:=HP.out w10 v8 (.cells #[.int .u8 110,.string ⟨#[]⟩,.string ⟨NT.toArray⟩,.string ⟨HT.toArray⟩,.string ⟨#[]⟩,.int .i64 x.i] 130) hown8 ⟨hgrow8.os,hgrow8.tape,hgrow8.output,hgrow8.size,hgrow8.block⟩ (by simpa using hat8);obtain ⟨va8,vn8,vc8,rfl⟩:=owns_form hown8;have q8:=r8.2.1;have f8:=r8.2.2;clear hown8 hgrow8 hat8 r8)
      all_goals go_wp2
      all_goals refine bodyPost_ret (results_none rfl _ _ _) rfl ?_
      all_goals exact ⟨rfl,by rw [← HY5.out];exact e8,b8⟩
     ·have hz':((kn:Int) == 0) = false:=by rw [beq_eq_false_iff_ne];omega
      have HY5:Hid (H.args s kn { kind:=40,name:=NT,how:=HT,at_:=x.i } = Y):=by
       have:=HY4.out
       rw [if_neg hz] at this
       exact this
      have hs13:ScanAt [(w.heap.size,argCells 40 NT HT [48] x.i)] ((w8.setCell ⟨w.heap.size,0,none⟩ (.int .u8 40)).setCell ⟨w.heap.size,4,none⟩ (.string ⟨#[48]⟩)) B b s H:=by
       have:=(hs12.setBox 0 (.int .u8 40) (by simp [argCells])).setBox 4 (.string ⟨#[48]⟩) (by simp [argCells])
       simpa [argCells] using this
      have hb19:Below B w ((w8.setCell ⟨w.heap.size,0,none⟩ (.int .u8 40)).setCell ⟨w.heap.size,4,none⟩ (.string ⟨#[48]⟩)):=(hb18.setCell (p:=⟨w.heap.size,0,none⟩) (by show B ≤ w.heap.size;omega) _).setCell (p:=⟨w.heap.size,4,none⟩) (by show B ≤ w.heap.size;omega) _
      have kn2:=kneeds_any (ms:=[(w.heap.size,argCells 40 NT HT [48] x.i)]) _ B b s H 44 hs13 (by omega) b1
      obtain ⟨l1,l2,l3⟩:=needs_i s H 44 b1
      rw [b2] at l2
      rw [b3] at l3
      clear HY4 hs12 hs13 b1 b2 b3 hb18
      unfold Dk.Sc.args at HY5
      generalize H.needs s 44 = F at *
      go_wp2_with fail
      refine kn2.mono ?_
      rintro e w9 ⟨rfl,hs14,hb20⟩
      have hb21:=hb19.trans hb20
      clear kn2 hb19 hb20 m8 g8
      have kb:=kblanks_any (ms:=[(w.heap.size,argCells 40 NT HT [48] x.i)]) w9 B b s F hs14 (by omega) l1
      obtain ⟨b1,b2,b3⟩:=blanks_i s F l1
      rw [l2] at b2
      rw [l3] at b3
      clear hs14 l1 l2 l3
      generalize F.blanks s = U at *
      go_wp2_with fail
      refine kb.mono ?_
      rintro e w10 ⟨rfl,hs15,hb22⟩
      have hb23:=hb21.trans hb22
      clear kb hb21 hb22
      go_wp2_with fail
      obtain ⟨E,hE⟩:∃ E:Bool,Hid ((decide (kn < 3) && (U.next s 7 == Dk.offsetW)) = E):=⟨_,rfl⟩
      obtain ⟨a9,n9,c9,a10,c10,q10,f10⟩:=hs15.cells
      go_cut [142] (fun z wd=>z = .bool E ∧ Below w10.heap.size w10 wd)
      case first=>
       clear HY5 hs15 hb23
       by_cases hk3:kn < 3
       ·have hk3':(kn:Int) < 3:=by omega
        by_cases hl7:U.i + 7 ≤ s.length
        ·have hw4:IntKind.i64.wrap ((s.length:Int) - U.i) = (s.length:Int) - U.i:=by rw [IntKind.wrap_i64];omega
         have hw5:IntKind.i64.wrap ((U.i:Int) + 7) = (U.i:Int) + 7:=by rw [IntKind.wrap_i64];omega
         have c1':(7:Int) ≤ (s.length:Int) - U.i:=by omega
         have c2':(U.i:Int) ≤ s.length:=by omega
         have c3':(U.i:Int) + 7 ≤ s.length:=by omega
         have c4':(U.i:Int) ≤ (U.i:Int) + 7:=by omega
         have c5':((U.i:Int) + 7).toNat = U.i + 7:=by omega
         have ex1:=ex_seg s U.i 7
         have hNx:(s.drop U.i).take 7 = U.next s 7:=rfl
         rw [hNx] at ex1
         clear hNx
         generalize U.next s 7 = N at *
         have hF:Hid (E = (N == [111,102,102,115,101,116,58])):=by show _ = _;rw [← hE.out,decide_eq_true hk3,Bool.true_and];rfl
         clear hE
         go_wp2
         go_quiet (fail)
         go_wp2
         go_meet
         case rel=>exact ⟨by rw [hF.out],drewB _ _⟩
        ·have hw4:IntKind.i64.wrap ((s.length:Int) - U.i) = (s.length:Int) - U.i:=by rw [IntKind.wrap_i64];omega
         have c1':((7:Int) ≤ (s.length:Int) - U.i) = False:=eq_false (by omega)
         have hF:Hid (E = false):=by
          show _ = _
          rw [← hE.out,Bool.and_eq_false_iff]
          right
          rw [beq_eq_false_iff_ne]
          intro e
          have:=congrArg List.length e
          simp only [Dk.Sc.next,List.length_take,List.length_drop,Dk.offsetW,List.length_cons,List.length_nil] at this
          omega
         clear hE
         go_wp2
         go_quiet (fail)
         go_wp2
         go_meet
         case rel=>exact ⟨by rw [hF.out],drewB _ _⟩
       ·have hk3':((kn:Int) < 3) = False:=eq_false (by omega)
        have hF:Hid (E = false):=by show _ = _;rw [← hE.out,decide_eq_false hk3];rfl
        clear hE
        go_wp2
        go_quiet (fail)
        go_wp2
        go_meet
        case rel=>exact ⟨by rw [hF.out],drewB _ _⟩
      case rest=>
       obtain ⟨rfl,hbc⟩:=hcut
       have hs16:=hs15.keep hbc
       have hb24:Below B w wc:=hb23.trans (below_to hs15.base.2 hbc (Below.refl _ _))
       clear hs15 hb23 hbc q10 f10
       go_upto_if 142 with fail
       go_cut [4] (fun p wd=>p = .int .i64 kn ∧ ArgCut w wd B b s x kn NT HT Y)
       case first=>
        obtain ⟨a11,n11,c11,a12,c12,q11,f11⟩:=hs16.cells
        cases E with
        | true=>
         have hE':=hE.out
         rw [Bool.and_eq_true,decide_eq_true_iff,beq_iff_eq] at hE'
         have hl7:U.i + 7 ≤ s.length:=by
          have:=congrArg List.length hE'.2
          simp only [Dk.Sc.next,List.length_take,List.length_drop,Dk.offsetW,List.length_cons,List.length_nil] at this
          omega
         have hw5:IntKind.i64.wrap ((U.i:Int) + 7) = (U.i:Int) + 7:=by rw [IntKind.wrap_i64];omega
         have HY6:Hid ((((((U.go 7).blanks s).whole s).blanks s).put { kind:=40,name:=NT,how:=HT,offset:=((U.go 7).blanks s).wholeT s,at_:=x.i }).branch s (decide (kn < 3)) = Y):=by
          have:=HY5.out
          rw [if_pos hE',← decide_eq_true hE'.1] at this
          exact this
         clear hE hE' HY5
         have hs17:ScanAt [(w.heap.size,argCells 40 NT HT [48] x.i)] (wc.setCell ⟨b,1,none⟩ (.int .i64 ((U.i:Int) + 7))) B b s (U.go 7):=setI_go hs16 (Below.refl _ _) 7
         have hb25:Below B w (wc.setCell ⟨b,1,none⟩ (.int .i64 ((U.i:Int) + 7))):=hb24.setCell (p:=⟨b,1,none⟩) hB.1 _
         have kb:=kblanks_any (ms:=[(w.heap.size,argCells 40 NT HT [48] x.i)]) _ B b s (U.go 7) hs17 (by omega) (by show U.i + 7 ≤ _;omega)
         have bi:=blanks_i s (U.go 7) (by show U.i + 7 ≤ _;omega)
         clear hs16 hs17 hb24
         go_wp2_with fail
         refine kb.mono ?_
         rintro e w11 ⟨rfl,hs18,hb26⟩
         have hb27:=hb25.trans hb26
         clear kb hb25 hb26 q11 f11
         obtain ⟨i1,i2,i3⟩:=bi
         rw [show (U.go 7).opens = U.opens from rfl,b2] at i2
         rw [show (U.go 7).out = U.out from rfl,b3] at i3
         generalize (U.go 7).blanks s = V at *
         have kw:=kwhole_any (ms:=[(w.heap.size,argCells 40 NT HT [48] x.i)]) w11 B b s V hs18 (by omega) i1
         obtain ⟨v1,v2,v3⟩:=whole_i s V i1
         rw [i2] at v2
         rw [i3] at v3
         have hTl2:(V.wholeT s).length ≤ 9:=by
          have:=(whole_le (s.drop V.i)).2
          simp only [Dk.Sc.wholeT,Dk.Sc.next,List.length_take]
          omega
         clear hs18 i1 i2 i3 b1 b2 b3
         generalize V.wholeT s = OT at *
         generalize V.whole s = V2 at *
         go_wp2_with fail
         refine kw.mono ?_
         rintro e w12 ⟨rfl,hs19,hb28⟩
         have hb29:=hb27.trans hb28
         clear kw hb27 hb28
         have r12:=hs19.rowOf
         have m12:=r12.2.1
         have g12:=r12.2.2
         unfold argCells at m12
         have hs20:ScanAt [(w.heap.size,argCells 40 NT HT OT x.i)] (w12.setCell ⟨w.heap.size,4,none⟩ (.string ⟨OT.toArray⟩)) B b s V2:=by
          have:=hs19.setBox 4 (.string ⟨OT.toArray⟩) (by simp [argCells])
          simpa [argCells] using this
         have hb30:Below B w (w12.setCell ⟨w.heap.size,4,none⟩ (.string ⟨OT.toArray⟩)):=hb29.setCell (p:=⟨w.heap.size,4,none⟩) (by show B ≤ w.heap.size;omega) _
         have kb:=kblanks_any (ms:=[(w.heap.size,argCells 40 NT HT OT x.i)]) _ B b s V2 hs20 (by omega) v1
         obtain ⟨u1,u2,u3⟩:=blanks_i s V2 v1
         rw [v2] at u2
         rw [v3] at u3
         clear hs19 hs20 hb29 r12 v1 v2 v3
         generalize V2.blanks s = V3 at *
         go_wp2_with fail
         refine kb.mono ?_
         rintro e w13 ⟨rfl,hs21,hb31⟩
         have HB:Hid (ArgCut w w13 B b s x kn NT HT Y):=⟨V3,OT,hs21,hb30.trans hb31,u1,u2,u3,hTl2,HY6.out⟩
         clear kb hs21 hb31 hb30 m12 g12 HY6
         go_wp2
         go_meet
         case rel=>exact ⟨rfl,HB.out⟩
        | false=>
         have HB:Hid (ArgCut w wc B b s x kn NT HT Y):=by
          refine ⟨U,[48],hs16,hb24,b1,b2,b3,by decide,?_⟩
          have:=HY5.out
          rw [if_neg (fun h=>by
           have h':=hE.out
           rw [decide_eq_true h.1,h.2] at h'
           exact absurd h' (by decide))] at this
          exact this
         clear HY5 hs16 hb24 hE
         go_wp2
         go_meet
         case rel=>exact ⟨rfl,HB.out⟩
       case rest=>
        obtain ⟨rfl,F,OT,hs14,hb21,l1,l2,l3,hOl,hYe⟩:=hcut
        have HY6:Hid ((F.put { kind:=40,name:=NT,how:=HT,offset:=OT,at_:=x.i }).branch s (decide (kn < 3)) = Y):=hYe
        clear hYe HY5 hE hs16
        obtain ⟨oa,on,oc,pa,pn,pc,q7,f7,m7,k3',hbl,hBb,HP⟩:=ScanAt.puts (M:={ kind:=40,name:=NT,how:=HT,offset:=OT,at_:=x.i }) hs14 hb21
        clear hs14 hb21
        have hzo:F.out.length ≤ 90000:=by rw [l3];omega
        have HBr:Hid (∀ W,ScanAt [] W B b s (F.put { kind:=40,name:=NT,how:=HT,offset:=OT,at_:=x.i }) → Calls Tryz.prog 175 #[.pointer (some ⟨b,0,none⟩),.bool (decide ((kn:Int) < 3))] W fun en w'=>en = .returned (.tuple #[]) ∧ ScanAt [] w' B b s Y ∧ Below B W w'):=by
         intro W h
         have e:decide ((kn:Int) < 3) = decide (kn < 3):=by
          by_cases h:kn < 3
          ·rw [decide_eq_true h,decide_eq_true (by omega)]
          ·rw [decide_eq_false h,decide_eq_false (by omega)]
         have:=kbranch_any W B b s _ (decide (kn < 3)) h hs l1 (by show (F.out ++ [_]).length ≤ _;simp;omega) (by show F.opens.length ≤ _;rw [l2];omega)
         rw [HY6.out] at this
         rw [e]
         exact this
        obtain ⟨i2,hi0,hz0,hz1,hz2⟩:=info_parts info_mark
        have HI2:Hid (Tryz.prog.info? 130 = some i2 ∧ i2.zero = some (.agg #[.int .u8 0,.string ⟨#[]⟩,.string ⟨#[]⟩,.string ⟨#[]⟩,.string ⟨#[]⟩,.int .i64 0]) ∧ i2.size = 6 ∧ i2.bytes = 80):=⟨hi0,hz0,hz1,hz2⟩
        clear hi0 hz0 hz1 hz2 HY6
        have qA:=fun j=>(World.cell?_alloc_lt wc (.cells #[.int .u8 40,.string ⟨#[]⟩,.string ⟨NT.toArray⟩,.string ⟨HT.toArray⟩,.string ⟨OT.toArray⟩,.int .i64 x.i] 130) ⟨b,j,none⟩ hbl).trans (q7 j)
        go_wp2_with fail
        go_region_law (refine step_append_at rfl (.tmp 162) (.tmp 164) 92 rfl B 130 i2 (.agg #[.int .u8 0,.string ⟨#[]⟩,.string ⟨#[]⟩,.string ⟨#[]⟩,.string ⟨#[]⟩,.int .i64 0]) 6 80 Tryz.underlying92 HI2.out.1 HI2.out.2.1 HI2.out.2.2.1 HI2.out.2.2.2 rfl (by decide) (.slice oa on oc) F.out.length (marksCells F.out) (by simp [Act.eval]) (by first | exact World.ownsRow.alloc k3' _ | exact World.ownsRow.alloc (World.ownsRow.drew k3') _) ⟨wc.heap.size,0,none⟩ 1 1 (mCells { kind:=40,name:=NT,how:=HT,offset:=OT,at_:=x.i }) (by simp [Act.eval]) rfl (by first | exact mcells_at { kind:=40,name:=NT,how:=HT,offset:=OT,at_:=x.i } wc _ | exact mcells_at { kind:=40,name:=NT,how:=HT,offset:=OT,at_:=x.i } wc.drew _) (mcells_one _) (by unfold maxLen;omega) (by omega) (by simp;omega) ?_;intro v8 w10 hown8 hgrow8 hat8;obtain ⟨r8,e8,b8⟩:=HP.out w10 v8 (.cells #[.int .u8 40,.string ⟨#[]⟩,.string ⟨NT.toArray⟩,.string ⟨HT.toArray⟩,.string ⟨OT.toArray⟩,.int .i64 x.i] 130) hown8 ⟨hgrow8.os,hgrow8.tape,hgrow8.output,hgrow8.size,hgrow8.block⟩ (by simpa using hat8);obtain ⟨va8,vn8,vc8,rfl⟩:=owns_form hown8;have q8:=r8.2.1;have f8:=r8.2.2;clear hown8 hgrow8 hat8 r8)
        all_goals go_wp2_with fail
        all_goals refine (HBr.out _ e8).mono ?_
        all_goals rintro e w11 ⟨rfl,hs22,hb32⟩
        all_goals clear q8 f8 e8
        all_goals go_wp2
        all_goals first | go_end0 | refine bodyPost_ret (results_none rfl _ _ _) rfl ?_ | trace_state
        all_goals exact ⟨rfl,hs22,b8.trans hb32⟩
 ·have he':((D.err:Int) != 0) = true:=by rw [bne_iff_ne];omega
  have HZ:Hid (ScanAt [] w3 B b s Y):=by
   have:=HY.out
   rw [if_pos he] at this
   show ScanAt _ _ _ _ _ _
   rw [← this]
   exact hs4.unbox
  clear HY hs4
  go_wp2
  refine bodyPost_ret (results_none rfl _ _ _) rfl ?_
  exact ⟨rfl,HZ.out,hb7⟩
end Go.Proofs.YtaepcfidpekflaaGreatDoor
