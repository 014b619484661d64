/-
  Several texts in one (Jn). By the verifier.
-/
import Derived.Test.YtaepcfidpekflaaGreatDoorZ50
namespace Go.Proofs.YtaepcfidpekflaaGreatDoor
open Go.RowKit
set_option maxHeartbeats 3200000 in
set_option maxRecDepth 100000 in
theorem kfaults_any (w:World) (a:Option Addr) (l:List Dk.Mark) (c:Nat) (hl:l.length ≤ 90000) (HM:Hid (MkAt w a l)) (HE:Hid (∀ i m,l[i]? = some m → m.kind = 40 → Dk.endAt l i < l.length)):
  Calls Tryz.prog 71 #[.slice a l.length c] w fun e w'=>e = .returned (.tuple #[.int .i64 (Dk.faults l).1,.int .i64 (Dk.faults l).2]) ∧ Below w.heap.size w w':=by
 obtain ⟨F,hF⟩:∃ F,Hid (Dk.faults l = F):=⟨_,rfl⟩
 rw [hF.out]
 have H0:Hid (Dk.faultsFrom l l.length 0 (0,0) = F):=by show _ = _;rw [← hF.out,Dk.faults_from]
 clear hF
 go_enter Tryz.func71,Tryz.ntmps71
 go_wp2_with fail
 go_loopg [4,5,6] l.length (fun g e p i wr=>∃ (n:Nat) (st:Nat × Nat),g + n = l.length ∧ i = .int .i64 n ∧ e = .int .i64 st.1 ∧ p = .int .i64 st.2 ∧ Below w.heap.size w wr ∧ Hid (Dk.faultsFrom l g n st = F))
 case atStart=>exact ⟨0,(0,0),by omega,rfl,rfl,rfl,Below.refl _ _,H0⟩
 case round=>
  obtain ⟨n,st,hgn,rfl,rfl,rfl,hb1,HG⟩:=hrel
  clear H0
  by_cases hlt:n < l.length
  ·have hlt':(n:Int) < l.length:=by omega
   obtain ⟨m,hm⟩:∃ m,l[n]? = some m:=⟨l[n],List.getElem?_eq_getElem hlt⟩
   obtain ⟨g,rfl,hg,c0,c1,c2,c3,c4,c5⟩:=(HM.out.keep hb1).six hm
   have ks:=ksort_any wr m
   unfold mkV at ks
   obtain ⟨Sm,hSm⟩:∃ Sm:Nat,Hid (Dk.sortM m = Sm):=⟨_,rfl⟩
   rw [hSm.out] at ks
   have Hm:Hid (l[n]? = some m):=hm
   clear hm
   go_wp2_with fail
   refine ks.mono ?_
   rintro e w1 ⟨rfl,hb2⟩
   have hb3:Below w.heap.size w w1:=hb1.trans (hb2.mono hb1.size)
   clear ks c0 c1 c2 c3 c4 c5 hb1 hb2 hg
   obtain ⟨st1,hst1⟩:∃ st1:Nat × Nat,Hid ((Dk.kindC (l.take n) m).foldl Dk.upd st = st1):=⟨_,rfl⟩
   go_upto_block 2 with fail
   go_cut [4,5] (fun e p wd=>e = .int .i64 st1.1 ∧ p = .int .i64 st1.2 ∧ Below w.heap.size w wd)
   case first=>
    have HMw:=HM
    clear HG HM HE
    go_wp2_with fail
    go_loopg [4,5,8] n (fun g e p k wr=>∃ j:Nat,g + j = n ∧ k = .int .i64 j ∧ e = .int .i64 st.1 ∧ p = .int .i64 st.2 ∧ Below w.heap.size w wr ∧ Hid (Dk.firstK m.name ((l.take n).drop j) = Dk.firstK m.name (l.take n)))
    case atStart=>exact ⟨0,by omega,rfl,rfl,rfl,hb3,rfl⟩
    case round=>
     obtain ⟨j,hgj,rfl,rfl,rfl,hb4,HF⟩:=hrel
     clear hb3
     by_cases hs0:Sm = 0
     ·have hs0':((Sm:Int) != 0) = false:=by rw [hs0];rfl
      have He:Hid (st = st1):=by show _ = _;rw [← hst1.out,Dk.kind_none (.inl (by rw [hSm.out];exact hs0))]
      clear HF hs0
      go_wp2
      all_goals go_meet
      all_goals exact ⟨by rw [He.out],by rw [He.out],hb4⟩
     ·have hs0':((Sm:Int) != 0) = true:=by rw [bne_iff_ne];omega
      by_cases hj:j < n
      ·have hj':(j:Int) < n:=by omega
       have hjl':(j:Int) < l.length:=by omega
       obtain ⟨q,hq⟩:∃ q,l[j]? = some q:=⟨l[j]'(by omega),List.getElem?_eq_getElem (by omega)⟩
       have HQ:Hid ((l.take n).drop j = q :: (l.take n).drop (j + 1)):=by
        show _ = _
        have hjt:j < (l.take n).length:=by simp;omega
        rw [List.drop_eq_getElem_cons hjt]
        congr 1
        have h2:(l.take n)[j]? = some q:=by rw [List.getElem?_take,if_pos hj];exact hq
        rw [List.getElem?_eq_getElem hjt] at h2
        exact Option.some.inj h2
       obtain ⟨g1,hg1,hgl,c0,c1,c2,c3,c4,c5⟩:=(HMw.out.keep hb4).six hq
       cases hg1
       have ks:=ksort_any wr q
       unfold mkV at ks
       obtain ⟨Sq,hSq⟩:∃ Sq:Nat,Hid (Dk.sortM q = Sq):=⟨_,rfl⟩
       rw [hSq.out] at ks
       go_wp2_with fail
       refine ks.mono ?_
       rintro e w2 ⟨rfl,hb5⟩
       have hb6:Below w.heap.size w w2:=hb4.trans (hb5.mono hb4.size)
       clear ks c0 c1 c2 c3 c4 c5 hb4 hb5 hgl
       obtain ⟨g2,hg2,hgl2,_,_,c2,_,_,c5⟩:=(HMw.out.keep hb6).six Hm.out
       cases hg2
       obtain ⟨g3,hg3,_,_,_,d2,_,_,d5⟩:=(HMw.out.keep hb6).six hq
       cases hg3
       have hb7:∀ k,Below w.heap.size w (w2.drewN k):=fun k=>below_of hb6 (drewB w2 k)
       have HB7:Hid (∀ k,Below w.heap.size w (w2.drewN k)):=hb7
       clear hq hb7
       by_cases hz:Sq = 0
       ·have hz':((Sq:Int) == 0) = true:=by rw [hz];rfl
        have HF2:Hid (Dk.firstK m.name ((l.take n).drop (j + 1)) = Dk.firstK m.name (l.take n)):=by
         show _ = _
         rw [← HF.out,HQ.out,Dk.first_skip (.inl (by rw [hSq.out];exact hz))]
        clear HF HQ hz
        go_wp2
        go_quiet (fail)
        go_wp2
        go_roundg (gk - 1)
        case measure=>omega
        case rel=>exact ⟨j + 1,by omega,by go_num,rfl,rfl,HB7.out _,HF2⟩
       ·have hz':((Sq:Int) == 0) = false:=by rw [beq_eq_false_iff_ne];omega
        by_cases hnm:q.name = m.name
        ·have hnm':(q.name == m.name) = true:=by rw [beq_iff_eq];exact hnm
         have HF2:Hid (Dk.firstK m.name (l.take n) = Sq):=by
          show _ = _
          rw [← HF.out,HQ.out,Dk.first_hit (by rw [hSq.out];exact hz) hnm,hSq.out]
         clear HF HQ
         by_cases hsame:Sq = Sm
         ·have hsame':((Sq:Int) != Sm) = false:=by rw [hsame];simp
          have He:Hid (st = st1):=by show _ = _;rw [← hst1.out,Dk.kind_same (by rw [HF2.out,hSm.out];exact hsame)]
          clear HF2 hsame hz hnm
          generalize q.name = qn at *
          go_wp2
          go_quiet (fail)
          go_wp2
          go_meet
          case rel=>exact ⟨by rw [He.out],by rw [He.out],HB7.out _⟩
         ·have hsame':((Sq:Int) != Sm) = true:=by rw [bne_iff_ne];omega
          have He:Hid ((if st.1 = 0 ∨ m.at_ < st.2 then (5,m.at_) else st) = st1):=by
           show _ = _
           rw [← hst1.out,Dk.kind_other (by rw [hSm.out];exact hs0) (by rw [HF2.out];exact hz) (by rw [HF2.out,hSm.out];exact hsame)]
          clear HF2 hsame hz hnm
          generalize q.name = qn at *
          by_cases h0:st.1 = 0
          ·have h0':((st.1:Int) == 0) = true:=by rw [h0];rfl
           have He2:Hid (st1 = (5,m.at_)):=by show _ = _;rw [← He.out,if_pos (.inl h0)]
           clear He h0
           go_wp2
           go_quiet (fail)
           go_wp2
           go_meet
           case rel=>exact ⟨by rw [He2.out];try rfl,by rw [He2.out],HB7.out _⟩
          ·have h0':((st.1:Int) == 0) = false:=by rw [beq_eq_false_iff_ne];omega
           by_cases h1:m.at_ < st.2
           ·have h1':(m.at_:Int) < st.2:=by omega
            have He2:Hid (st1 = (5,m.at_)):=by show _ = _;rw [← He.out,if_pos (.inr h1)]
            clear He h0
            go_wp2
            go_quiet (fail)
            go_wp2
            go_meet
            case rel=>exact ⟨by rw [He2.out];try rfl,by rw [He2.out],HB7.out _⟩
           ·have h1':((m.at_:Int) < st.2) = False:=eq_false (by omega)
            have He2:Hid (st = st1):=by show _ = _;rw [← He.out,if_neg (fun h=>h.elim h0 h1)]
            clear He h0
            go_wp2
            go_quiet (fail)
            go_wp2
            go_meet
            case rel=>exact ⟨by rw [He2.out],by rw [He2.out],HB7.out _⟩
        ·have hnm':(q.name == m.name) = false:=by rw [beq_eq_false_iff_ne];exact hnm
         have HF2:Hid (Dk.firstK m.name ((l.take n).drop (j + 1)) = Dk.firstK m.name (l.take n)):=by
          show _ = _
          rw [← HF.out,HQ.out,Dk.first_skip (.inr hnm)]
         clear HF HQ hz hnm
         generalize q.name = qn at *
         go_wp2
         go_quiet (fail)
         go_wp2
         go_roundg (gk - 1)
         case measure=>omega
         case rel=>exact ⟨j + 1,by omega,by go_num,rfl,rfl,HB7.out _,HF2⟩
      ·have hj':((j:Int) < n) = False:=eq_false (by omega)
       have He:Hid (st = st1):=by
        show _ = _
        rw [← hst1.out,Dk.kind_none (.inr ?_)]
        rw [← HF.out,List.drop_eq_nil_of_le (by simp;omega)]
        rfl
       clear HF
       go_wp2
       go_meet
       case rel=>exact ⟨by rw [He.out],by rw [He.out],hb4⟩
   case rest=>
    obtain ⟨rfl,rfl,hb8⟩:=hcut
    have hg1:gk = gk - 1 + 1:=by omega
    have HG2:Hid (Dk.faultsFrom l (gk - 1) (n + 1) (if m.kind = 40 then (Dk.othC l n (Dk.brsAt l n)).foldl Dk.upd ((Dk.twGo l [] (Dk.brsAt l n)).foldl Dk.upd st1) else st1) = F):=by
     show _ = _
     rw [← HG.out,hg1,Dk.faultsFrom,Dk.cands_some Hm.out,hst1.out]
     rfl
    clear HG hg1 hst1 hb3 hSm
    obtain ⟨g2,hg2,hgl2,c0,_,_,_,_,c5⟩:=(HM.out.keep hb8).six Hm.out
    cases hg2
    by_cases hk:m.kind = 40
    ·have hk':((m.kind.toNat:Int) != 40) = false:=by rw [hk];rfl
     have HG3:Hid (Dk.faultsFrom l (gk - 1) (n + 1) ((Dk.othC l n (Dk.brsAt l n)).foldl Dk.upd ((Dk.twGo l [] (Dk.brsAt l n)).foldl Dk.upd st1)) = F):=by
      show _ = _
      rw [← HG2.out,if_pos hk]
     have hz:=HE.out n m Hm.out hk
     have kb:=kbranches_any wc (some ⟨g,0,none⟩) l c n hl (by omega) (HM.out.keep hb8)
     clear HG2 hk
     generalize m.kind.toNat = kk at *
     go_wp2_with fail
     refine kb.mono ?_
     rintro e w3 ⟨bv,rfl,hbs,hb9⟩
     have hb10:Below w.heap.size w w3:=hb8.trans (hb9.mono hb8.size)
     clear kb c0 c5 hb8 hb9
     obtain ⟨ba,bn,bc,rfl⟩:=owns_form hbs
     have hbl:=hbs.len
     subst hbl
     have hlt2:∀ x ∈ Dk.brsAt l n,x < l.length:=fun x hx=>Nat.lt_of_lt_of_le (Dk.brGo_lt _ _ _ _ _ hx) (Nat.le_of_lt hz)
     have HL2:Hid (∀ x ∈ Dk.brsAt l n,x < l.length):=hlt2
     have HBS:Hid (IxAt w3 wc.heap.size (.slice ba (Dk.brsAt l n).length bc) (Dk.brsAt l n)):=hbs
     clear hlt2 hbs
     have hbsl:(Dk.brsAt l n).length ≤ l.length:=Dk.brGo_len _ _ _ _
     generalize Dk.brsAt l n = BS at *
     obtain ⟨st2,hst2⟩:∃ st2:Nat × Nat,Hid ((Dk.twGo l [] BS).foldl Dk.upd st1 = st2):=⟨_,rfl⟩
     obtain ⟨OT,hOT⟩:∃ OT:Bool,Hid (BS.any (fun b=>Dk.textAt l b == Dk.otherW) = OT):=⟨_,rfl⟩
     go_upto_block 4 with fail
     go_cut [4,5,11] (fun e p o wd=>e = .int .i64 st2.1 ∧ p = .int .i64 st2.2 ∧ o = .bool OT ∧ Below w.heap.size w wd)
     case first=>
      clear HG3 HE Hm
      go_wp2_with fail
      go_loopg [4,5,11,12] BS.length (fun g e p o a wr=>∃ (j:Nat) (sj:Nat × Nat),g + j = BS.length ∧ a = .int .i64 j ∧ e = .int .i64 sj.1 ∧ p = .int .i64 sj.2 ∧ o = .bool ((BS.take j).any (fun b=>Dk.textAt l b == Dk.otherW)) ∧ Below w3.heap.size w3 wr ∧ Hid ((Dk.twGo l (BS.take j) (BS.drop j)).foldl Dk.upd sj = st2))
      case atStart=>exact ⟨0,st1,by omega,rfl,rfl,rfl,by simp,Below.refl _ _,hst2⟩
      case round=>
       obtain ⟨j,sj,hgj,rfl,rfl,rfl,rfl,hb12,HT⟩:=hrel
       by_cases hj:j < BS.length
       ·have hj':(j:Int) < BS.length:=by omega
        obtain ⟨x,hx⟩:∃ x,BS[j]? = some x:=⟨BS[j],List.getElem?_eq_getElem hj⟩
        have hxl:x < l.length:=HL2.out x (List.mem_of_getElem? hx)
        have hxl':(x:Int) < l.length:=by omega
        obtain ⟨mx,hmx⟩:∃ mx,l[x]? = some mx:=⟨l[x],List.getElem?_eq_getElem hxl⟩
        have htx:Dk.textAt l x = mx.text:=by rw [Dk.textAt,hmx];rfl
        have hpx:Dk.placeAt l x = mx.at_:=by rw [Dk.placeAt,hmx];rfl
        have HTk:Hid (BS.take (j + 1) = BS.take j ++ [x]):=by show _ = _;rw [List.take_add_one,hx];rfl
        have HDk:Hid (BS.drop j = x :: BS.drop (j + 1)):=by
         show _ = _
         rw [List.drop_eq_getElem_cons hj]
         rw [List.getElem?_eq_getElem hj] at hx
         rw [Option.some.inj hx]
        have HXX:Hid (BS[j]? = some x ∧ l[x]? = some mx):=⟨hx,hmx⟩
        obtain ⟨s2,hs2⟩:∃ s2:Nat × Nat,Hid ((Dk.same l x (BS.take j)).foldl Dk.upd sj = s2):=⟨_,rfl⟩
        have HT2:Hid ((Dk.twGo l (BS.take (j + 1)) (BS.drop (j + 1))).foldl Dk.upd s2 = st2):=by
         show _ = _
         rw [← HT.out,HDk.out,Dk.tw_step,hs2.out,HTk.out]
        have HO2:Hid ((BS.take (j + 1)).any (fun b=>Dk.textAt l b == Dk.otherW) = ((BS.take j).any (fun b=>Dk.textAt l b == Dk.otherW) || (mx.text == [111,116,104,101,114]))):=by
         show _ = _
         rw [HTk.out,List.any_append]
         simp [htx,Dk.otherW]
        obtain ⟨gb,hgb,_,hgbl,cb⟩:=(HBS.out.keep hb12).at hx
        cases hgb
        obtain ⟨g5,hg5,_,_,d1,_,_,_,d5⟩:=(HM.out.keep (hb10.trans (hb12.mono hb10.size))).six hmx
        cases hg5
        clear hx hmx HT HTk HDk
        obtain ⟨o0,ho0⟩:∃ o0:Bool,(BS.take j).any (fun b=>Dk.textAt l b == Dk.otherW) = o0:=⟨_,rfl⟩
        rw [ho0] at HO2
        rw [ho0]
        clear ho0
        go_upto_region 21 with fail
        go_cut [11] (fun o wd=>o = .bool ((BS.take (j + 1)).any (fun b=>Dk.textAt l b == Dk.otherW)) ∧ Below w3.heap.size w3 wd)
        case first=>
         clear HT2 hs2 HXX
         have HB4:Hid (∀ k,Below w3.heap.size w3 (wr.drewN k)):=fun k=>below_of hb12 (drewB wr k)
         generalize mx.text = tx at *
         cases o0 with
         | true=>
          have HO3:Hid ((BS.take (j + 1)).any (fun b=>Dk.textAt l b == Dk.otherW) = true):=HO2
          clear HO2
          go_wp2
          go_meet
          case rel=>exact ⟨by rw [HO3.out],hb12⟩
         | false=>
          have HO3:Hid ((BS.take (j + 1)).any (fun b=>Dk.textAt l b == Dk.otherW) = (tx == [111,116,104,101,114])):=HO2
          clear HO2
          go_wp2
          go_meet
          case rel=>exact ⟨by rw [HO3.out],hb12⟩
        case rest=>
         obtain ⟨rfl,hb13⟩:=hcut
         clear HO2 cb d1 d5 hb12 hgbl
         obtain ⟨o1,Ho1⟩:∃ o1:Bool,Hid ((BS.take (j + 1)).any (fun b=>Dk.textAt l b == Dk.otherW) = o1):=⟨_,rfl⟩
         rw [Ho1.out]
         have hgA:∃ gA,gA = gk:=⟨gk,rfl⟩
         obtain ⟨gA,hgA⟩:=hgA
         rw [← hgA] at hgj
         all_goals
          clear hst2 hOT
          go_wp2_with fail
          go_loopg [4,5,13] j (fun g e p b wr=>∃ (i:Nat) (si:Nat × Nat),g + i = j ∧ b = .int .i64 i ∧ e = .int .i64 si.1 ∧ p = .int .i64 si.2 ∧ Below w3.heap.size w3 wr ∧ Hid ((Dk.same l x ((BS.take j).drop i)).foldl Dk.upd si = s2))
          case atStart=>exact ⟨0,sj,by omega,rfl,rfl,rfl,hb13,hs2⟩
          case round=>
           obtain ⟨i,si,hgi,rfl,rfl,rfl,hb14,HS⟩:=hrel
           clear hs2 hb13
           by_cases hi:i < j
           ·have hi':(i:Int) < j:=by omega
            have hib:(i:Int) < BS.length:=by omega
            have hib2:i < BS.length:=by omega
            obtain ⟨y,hy⟩:∃ y,BS[i]? = some y:=⟨BS[i],List.getElem?_eq_getElem hib2⟩
            have hyl:y < l.length:=HL2.out y (List.mem_of_getElem? hy)
            have hyl':(y:Int) < l.length:=by omega
            obtain ⟨my,hmy⟩:∃ my,l[y]? = some my:=⟨l[y],List.getElem?_eq_getElem hyl⟩
            have hty:Dk.textAt l y = my.text:=by rw [Dk.textAt,hmy];rfl
            have HS2:Hid ((Dk.same l x ((BS.take j).drop (i + 1))).foldl Dk.upd (if mx.text = my.text then (if si.1 = 0 ∨ mx.at_ < si.2 then (7,mx.at_) else si) else si) = s2):=by
             show _ = _
             have hit:i < (BS.take j).length:=by simp;omega
             have hyt:(BS.take j)[i] = y:=by
              have h2:(BS.take j)[i]? = some y:=by rw [List.getElem?_take,if_pos hi];exact hy
              rw [List.getElem?_eq_getElem hit] at h2
              exact Option.some.inj h2
             rw [← HS.out,List.drop_eq_getElem_cons hit,hyt,Dk.same_step,htx,hty,hpx]
            obtain ⟨gb2,hgb2,_,_,cb⟩:=(HBS.out.keep hb14).at HXX.out.1
            cases hgb2
            obtain ⟨gb3,hgb3,_,_,cy⟩:=(HBS.out.keep hb14).at hy
            cases hgb3
            obtain ⟨g6,hg6,_,_,d1,_,_,_,d5⟩:=(HM.out.keep (hb10.trans (hb14.mono hb10.size))).six HXX.out.2
            cases hg6
            obtain ⟨g7,hg7,_,_,y1,_,_,_,_⟩:=(HM.out.keep (hb10.trans (hb14.mono hb10.size))).six hmy
            cases hg7
            have HB5:Hid (∀ k,Below w3.heap.size w3 (wr.drewN k)):=fun k=>below_of hb14 (drewB wr k)
            clear hy hmy hty HS htx hpx HXX
            generalize mx.text = tx at *
            generalize my.text = ty at *
            generalize mx.at_ = ax at *
            by_cases heq:tx = ty
            ·have heq':(tx == ty) = true:=by rw [beq_iff_eq];exact heq
             by_cases h0:si.1 = 0
             ·have h0':((si.1:Int) == 0) = true:=by rw [h0];rfl
              have HI2:Hid ((Dk.same l x ((BS.take j).drop (i + 1))).foldl Dk.upd (7,ax) = s2):=by
               show _ = _
               rw [← HS2.out,if_pos heq,if_pos (.inl h0)]
              clear HS2 heq h0
              go_wp2
              go_quiet (fail)
              go_wp2
              go_roundg (gk - 1)
              case measure=>omega
              case rel=>exact ⟨i + 1,(7,ax),by omega,by go_num,rfl,rfl,HB5.out _,HI2⟩
             ·have h0':((si.1:Int) == 0) = false:=by rw [beq_eq_false_iff_ne];omega
              by_cases h1:ax < si.2
              ·have h1':(ax:Int) < si.2:=by omega
               have HI2:Hid ((Dk.same l x ((BS.take j).drop (i + 1))).foldl Dk.upd (7,ax) = s2):=by
                show _ = _
                rw [← HS2.out,if_pos heq,if_pos (.inr h1)]
               clear HS2 heq h0
               go_wp2
               go_quiet (fail)
               go_wp2
               go_roundg (gk - 1)
               case measure=>omega
               case rel=>exact ⟨i + 1,(7,ax),by omega,by go_num,rfl,rfl,HB5.out _,HI2⟩
              ·have h1':((ax:Int) < si.2) = False:=eq_false (by omega)
               have HI2:Hid ((Dk.same l x ((BS.take j).drop (i + 1))).foldl Dk.upd si = s2):=by
                show _ = _
                rw [← HS2.out,if_pos heq,if_neg (fun h=>h.elim h0 h1)]
               clear HS2 heq h0
               go_wp2
               go_quiet (fail)
               go_wp2
               go_roundg (gk - 1)
               case measure=>omega
               case rel=>exact ⟨i + 1,si,by omega,by go_num,rfl,rfl,HB5.out _,HI2⟩
            ·have heq':(tx == ty) = false:=by rw [beq_eq_false_iff_ne];exact heq
             have HI2:Hid ((Dk.same l x ((BS.take j).drop (i + 1))).foldl Dk.upd si = s2):=by
              show _ = _
              rw [← HS2.out,if_neg heq]
             clear HS2 heq
             go_wp2
             go_quiet (fail)
             go_wp2
             go_roundg (gk - 1)
             case measure=>omega
             case rel=>exact ⟨i + 1,si,by omega,by go_num,rfl,rfl,HB5.out _,HI2⟩
           ·have hi':((i:Int) < j) = False:=eq_false (by omega)
            have He:Hid (si = s2):=by
             show _ = _
             rw [← HS.out,List.drop_eq_nil_of_le (by simp;omega)]
             rfl
            have HT3:Hid ((Dk.twGo l (BS.take (j + 1)) (BS.drop (j + 1))).foldl Dk.upd si = st2):=by rw [He.out];exact HT2
            clear HS HT2 He
            go_wp2
            go_roundg (gA - 1)
            case measure=>omega
            case rel=>exact ⟨j + 1,si,by omega,by go_num,rfl,rfl,by rw [Ho1.out],hb14,HT3⟩
       ·have hj':((j:Int) < BS.length) = False:=eq_false (by omega)
        have He:Hid (sj = st2):=by
         show _ = _
         rw [← HT.out,List.drop_eq_nil_of_le (by omega)]
         rfl
        have Ho:Hid ((BS.take j).any (fun b=>Dk.textAt l b == Dk.otherW) = OT):=by
         show _ = _
         rw [← hOT.out,List.take_of_length_le (by omega)]
        have HBx:Hid (Below w.heap.size w wr):=hb10.trans (hb12.mono hb10.size)
        clear HT
        go_wp2
        go_meet
        case rel=>exact ⟨by rw [He.out],by rw [He.out],by rw [Ho.out],HBx.out⟩
     case rest=>
      obtain ⟨rfl,rfl,rfl,hb11⟩:=hcut
      have HG4:Hid (Dk.faultsFrom l (gk - 1) (n + 1) ((if OT = true then [] else [(6,Dk.placeAt l (Dk.endAt l n))]).foldl Dk.upd st2) = F):=by
       show _ = _
       rw [← HG3.out,hst2.out,← hOT.out]
       rfl
      have ke:=kend_any wc (some ⟨g,0,none⟩) l c n (by omega) (by omega) (HM.out.keep hb11)
      clear HG3 hst2 hOT HBS hb10
      obtain ⟨mz,hmz⟩:∃ mz,l[Dk.endAt l n]? = some mz:=⟨l[Dk.endAt l n]'hz,List.getElem?_eq_getElem hz⟩
      have hpl:Dk.placeAt l (Dk.endAt l n) = mz.at_:=by rw [Dk.placeAt,hmz];rfl
      rw [hpl] at HG4
      obtain ⟨g4,hg4,_,_,_,_,_,_,e5⟩:=(HM.out.keep hb11).six hmz
      cases hg4
      clear hmz hpl
      generalize Dk.endAt l n = Z at *
      have hz':(Z:Int) < l.length:=by omega
      go_wp2_with fail
      refine ke.mono ?_
      rintro e w5 ⟨rfl,hw5⟩
      have hw5':=hw5.symm
      subst hw5'
      clear ke
      cases OT with
      | true=>
       have HG5:Hid (Dk.faultsFrom l (gk - 1) (n + 1) st2 = F):=HG4
       clear HG4
       go_wp2
       go_roundg (gk - 1)
       case measure=>omega
       case rel=>exact ⟨n + 1,st2,by omega,by go_num,rfl,rfl,hb11,HG5⟩
      | false=>
       have HG5':Hid (Dk.faultsFrom l (gk - 1) (n + 1) (if st2.1 = 0 ∨ mz.at_ < st2.2 then (6,mz.at_) else st2) = F):=HG4
       clear HG4
       by_cases h0:st2.1 = 0
       ·have h0':((st2.1:Int) == 0) = true:=by rw [h0];rfl
        have HG5:Hid (Dk.faultsFrom l (gk - 1) (n + 1) (6,mz.at_) = F):=by show _ = _;rw [← HG5'.out,if_pos (.inl h0)]
        clear HG5' h0
        go_wp2
        go_roundg (gk - 1)
        case measure=>omega
        case rel=>exact ⟨n + 1,(6,mz.at_),by omega,by go_num,rfl,rfl,hb11,HG5⟩
       ·have h0':((st2.1:Int) == 0) = false:=by rw [beq_eq_false_iff_ne];omega
        by_cases h1:mz.at_ < st2.2
        ·have h1':(mz.at_:Int) < st2.2:=by omega
         have HG5:Hid (Dk.faultsFrom l (gk - 1) (n + 1) (6,mz.at_) = F):=by show _ = _;rw [← HG5'.out,if_pos (.inr h1)]
         clear HG5' h0
         go_wp2
         go_roundg (gk - 1)
         case measure=>omega
         case rel=>exact ⟨n + 1,(6,mz.at_),by omega,by go_num,rfl,rfl,hb11,HG5⟩
        ·have h1':((mz.at_:Int) < st2.2) = False:=eq_false (by omega)
         have HG5:Hid (Dk.faultsFrom l (gk - 1) (n + 1) st2 = F):=by show _ = _;rw [← HG5'.out,if_neg (fun h=>h.elim h0 h1)]
         clear HG5' h0
         go_wp2
         go_roundg (gk - 1)
         case measure=>omega
         case rel=>exact ⟨n + 1,st2,by omega,by go_num,rfl,rfl,hb11,HG5⟩
    ·have hk':((m.kind.toNat:Int) != 40) = true:=by simpa using byte_ne (n:=40) (by decide) hk
     have HG3:Hid (Dk.faultsFrom l (gk - 1) (n + 1) st1 = F):=by
      show _ = _
      rw [← HG2.out,if_neg hk]
     clear HG2 hk
     generalize m.kind.toNat = kk at *
     go_wp2
     go_roundg (gk - 1)
     case measure=>omega
     case rel=>exact ⟨n + 1,st1,by omega,by go_num,rfl,rfl,hb8,HG3⟩
  ·have hlt':((n:Int) < l.length) = False:=eq_false (by omega)
   have e0:gk = 0:=by omega
   have HF:Hid (st = F):=by show _ = _;rw [← HG.out,e0];rfl
   clear HG HM HE
   go_wp2
   go_ret2
   exact ⟨by rw [← HF.out];try rfl,hb1⟩
end Go.Proofs.YtaepcfidpekflaaGreatDoor
