/-
  Several texts in one (Mk). By the verifier.
-/
import Derived.Test.YtaepcfidpekflaaGreatDoorZ17
namespace Go.Proofs.YtaepcfidpekflaaGreatDoor
open Go.RowKit Pg
theorem spec_some {rs:List Pg.T} {q:Nat} {num:Bool} (h:(match rs[q]? with | some c=>spec num c | none=>false) = true):∃ d,rs[q]? = some d ∧ spec num d = true:=by
 cases e:rs[q]? with
 | none=>rw [e] at h;cases h
 | some d=>rw [e] at h;exact ⟨d,rfl,h⟩
theorem spec_none {rs:List Pg.T} {q:Nat} {num:Bool} (h:(match rs[q]? with | some c=>spec num c | none=>false) = false):¬ ∃ d,rs[q]? = some d ∧ spec num d = true:=by
 rintro ⟨d,hd,hs⟩
 rw [hd] at h
 simp only at h
 rw [hs] at h
 cases h
set_option maxHeartbeats 6400000 in
theorem psaid_any (P:Nat) (w:World) (rs:List Pg.T) (p:Nat) (num:Bool) (h:Scn P w rs p):
  Calls Tryz.prog 194 #[.pointer (some ⟨P,0,none⟩),.bool num] w fun e w'=>e = .returned (.agg #[.string ⟨(saidGo num false (rs.drop p)).1.toArray⟩]) ∧ Scn P w' rs (p + (saidGo num false (rs.drop p)).2) ∧ Ag P w w':=by
 obtain ⟨hp1,hp2,hp3⟩:=h.pts
 have HP:Hid (Pts rs):=hp1
 have hPl:=h.lt
 have hb0:Below w.heap.size w ((w.alloc (.cells #[.string ⟨#[]⟩] 285)).alloc (.cells #[.pointer none,.slice none 0 0] 148)):=((Below.refl w.heap.size w).alloc (Nat.le_refl _) _).alloc (by simp) _
 have r0:Row ((w.alloc (.cells #[.string ⟨#[]⟩] 285)).alloc (.cells #[.pointer none,.slice none 0 0] 148)) w.heap.size #[.string ⟨#[]⟩]:=(row_at w #[.string ⟨#[]⟩] 285).alloc _
 have hI:Lib.IsBuilderF 148 5 (w.heap.size + 1) (w.heap.size + 1) (Lib.byteCells []) ((w.alloc (.cells #[.string ⟨#[]⟩] 285)).alloc (.cells #[.pointer none,.slice none 0 0] 148)):=by
  have h:=Lib.IsBuilderF.of (Lib.fresh_isBuilder 148 5 (w.alloc (.cells #[.string ⟨#[]⟩] 285)))
  rw [show (w.alloc (.cells #[.string ⟨#[]⟩] 285)).heap.size = w.heap.size + 1 from by simp] at h
  exact h
 have HI:Hid (Lib.IsBuilderF 148 5 (w.heap.size + 1) (w.heap.size + 1) (Lib.byteCells []) ((w.alloc (.cells #[.string ⟨#[]⟩] 285)).alloc (.cells #[.pointer none,.slice none 0 0] 148))):=hI
 have HR:Hid (Row ((w.alloc (.cells #[.string ⟨#[]⟩] 285)).alloc (.cells #[.pointer none,.slice none 0 0] 148)) w.heap.size #[.string ⟨#[]⟩]):=r0
 have HS:Hid (Scn P ((w.alloc (.cells #[.string ⟨#[]⟩] 285)).alloc (.cells #[.pointer none,.slice none 0 0] 148)) rs p):=h.then hb0
 have HA:Hid (Ag P w ((w.alloc (.cells #[.string ⟨#[]⟩] 285)).alloc (.cells #[.pointer none,.slice none 0 0] 148))):=Ag.of hb0 (Nat.le_refl _)
 clear h hp1 hb0 r0 hI
 go_enter Tryz.func194,Tryz.ntmps194
 go_wp2_with fail
 go_loopw [6] (fun v wr=>∃ (q:Nat) (quoted:Bool) (acc:Pg.T),v = .bool quoted ∧ Hid (Sd num rs p q quoted acc) ∧ Hid (Scn P wr rs q) ∧ Hid (Ag P w wr) ∧ Hid (Lib.IsBuilderF 148 5 (w.heap.size + 1) (w.heap.size + 1) (Lib.byteCells acc) wr) ∧ Hid (Row wr w.heap.size #[.string ⟨#[]⟩]) ∧ w.heap.size + 1 < wr.heap.size) (fun _ wr=>rs.length - posOf wr P)
 case atStart=>exact ⟨p,false,[],rfl,Sd.start _ _ _,HS,HA,HI,HR,by simp⟩
 case round=>
  clear HS HA HI HR
  obtain ⟨q,quoted,acc,rfl,HD,HS,HA,HI,HR,hz⟩:=hrel
  have kp:=peek_any P wr rs q 0 HS.out (by omega)
  rw [Nat.add_zero] at kp
  have hl:=HS.out.pts.2.2
  have hpos:=HS.out.pos
  have hsm:=HD.out.small
  have bd:=pk_bd HP.out q
  have sz:=specZ_at HP.out q num
  go_wp2_with fail
  refine kp.mono ?_
  rintro e w1 ⟨rfl,hb1⟩
  have HS1:Hid (Scn P w1 rs q):=HS.out.then hb1
  have HA1:Hid (Ag P w w1):=HA.out.then hb1
  have HI1:Hid (Lib.IsBuilderF 148 5 (w.heap.size + 1) (w.heap.size + 1) (Lib.byteCells acc) w1):=bld_ag HI.out (Ag.of (P:=P) hb1 (Nat.le_refl _)) (by omega)
  have HR1:Hid (Row w1 w.heap.size #[.string ⟨#[]⟩]):=HR.out.keep hb1
  have hz1:w.heap.size + 1 < w1.heap.size:=by have:=hb1.size;omega
  have ks:=pisSpecial_any (pk rs q) num w1
  have kst:=(Tryz.Builder_String_any_k (w.heap.size + 1) (w.heap.size + 1) acc w1 HI1.out (by omega))
  clear kp HS HA HI HR hb1
  cases hc:rs[q]? with
  | none=>
   have hK:pk rs q = -1:=pk_none hc
   obtain ⟨e1,e2⟩:=HD.out.stop (.inl hc)
   have HE:Hid (acc = (saidGo num false (rs.drop p)).1):=e1
   have HQ:Hid (q = p + (saidGo num false (rs.drop p)).2):=e2
   rw [hK]
   clear e1 e2 hc sz bd ks hK
   go_wp2_with fail
   refine kst.mono ?_
   rintro e w2 ⟨rfl,hi2,hb2,_⟩
   have HR2:Hid (Row w2 w.heap.size #[.string ⟨#[]⟩]):=HR1.out.below hb2 (by omega)
   have HS2:Hid (Scn P w2 rs q):=HS1.out.low hb2 (by omega)
   have HA2:Hid (Ag P w w2):=HA1.out.low hb2 (by omega)
   have q2:=HR2.out.2.1
   have f2:=HR2.out.2.2
   clear kst hi2 hb2
   go_wp2
   refine bodyPost_ret (v:=.agg #[.string ⟨acc.toArray⟩]) (by simp [results,Tryz.results194,go_sem,q2]) rfl ?_
   exact ⟨by rw [HE.out],by rw [← HQ.out];exact HS2.out.set hPl _,HA2.out.setNew (Nat.le_refl _) 0 _⟩
  | some c=>
   have hpt:=HP.out.pt hc
   rw [hc] at sz
   simp only at sz
   have hKc:pk rs q = rv c:=pk_some hc
   have HPt:Hid (Pt c ∧ (pk rs q = 39 ↔ c = [39]) ∧ c = Lib.encodeRune (pk rs q)):=⟨hpt,by rw [hKc];exact hpt.eq (b:=39) (by decide),by rw [hKc];exact hpt.enc.symm⟩
   have hKe:(pk rs q == -1) = false:=by rw [beq_eq_false_iff_ne,hKc];have:=rv_lo c;omega
   have sz1:=specZ_at HP.out (q + 1) num
   rw [sz] at ks
   clear hKc hpt sz
   generalize pk rs q = K at *
   cases quoted with
   | false=>
    by_cases hsp:spec num c = true
    ·rw [hsp] at ks
     obtain ⟨e1,e2⟩:=HD.out.stop (.inr ⟨rfl,c,hc,hsp⟩)
     have HE:Hid (acc = (saidGo num false (rs.drop p)).1):=e1
     have HQ:Hid (q = p + (saidGo num false (rs.drop p)).2):=e2
     clear e1 e2 hc hsp HPt
     go_wp2_with (go_at_call 197;refine ks.mono ?_;rintro e w9 ⟨rfl,rfl⟩)
     refine kst.mono ?_
     rintro e w2 ⟨rfl,hi2,hb2,_⟩
     have HR2:Hid (Row w2 w.heap.size #[.string ⟨#[]⟩]):=HR1.out.below hb2 (by omega)
     have HS2:Hid (Scn P w2 rs q):=HS1.out.low hb2 (by omega)
     have HA2:Hid (Ag P w w2):=HA1.out.low hb2 (by omega)
     have q2:=HR2.out.2.1
     have f2:=HR2.out.2.2
     clear kst hi2 hb2
     go_wp2
     refine bodyPost_ret (v:=.agg #[.string ⟨acc.toArray⟩]) (by simp [results,Tryz.results194,go_sem,q2]) rfl ?_
     exact ⟨by rw [HE.out],by rw [← HQ.out];exact HS2.out.set hPl _,HA2.out.setNew (Nat.le_refl _) 0 _⟩
    have hsp':spec num c = false:=by simpa using hsp
    rw [hsp'] at ks
    by_cases h39:c = [39]
    ·have hK39:K = 39:=HPt.out.2.1.2 h39
     have HC:Hid (rs[q]? = some [39]):=by show _ = _;rw [hc,h39]
     have HBy:Hid (([39]:Pg.T) = Lib.encodeRune 39):=rfl
     subst hK39
     have kp1:=peek_any P w1 rs q 1 HS1.out (by omega)
     clear hc h39 HPt hKe kst
     clear hsp hsp'
     by_cases hd1:rs[q + 1]? = some [39]
     ·have HD1:Hid (rs[q + 1]? = some [39]):=hd1
      have hK1:pk rs (q + 1) = 39:=(pk_eq HP.out (q + 1) 39 (by decide)).2 hd1
      rw [hK1] at kp1
      have HN:Hid (Sd num rs p (q + 2) false (acc ++ [39])):=HD.out.two HC.out HD1.out
      clear hd1 hK1 sz1
      go_wp2_with (go_at_call 197;refine ks.mono ?_;rintro e w9 ⟨rfl,rfl⟩)
      refine kp1.mono ?_
      rintro e wx ⟨rfl,hbx⟩
      have HSX:Hid (Scn P wx rs q):=HS1.out.then hbx
      have HAX:Hid (Ag P w wx):=HA1.out.then hbx
      have HIX:Hid (Lib.IsBuilderF 148 5 (w.heap.size + 1) (w.heap.size + 1) (Lib.byteCells acc) wx):=bld_ag HI1.out (Ag.of (P:=P) hbx (Nat.le_refl _)) (by omega)
      have HRX:Hid (Row wx w.heap.size #[.string ⟨#[]⟩]):=HR1.out.keep hbx
      have hzx:w.heap.size + 1 < wx.heap.size:=by have:=hbx.size;omega
      clear kp1 hbx
      go_wp2_with fail
      refine (Tryz.Builder_WriteRune_k (w.heap.size + 1) (w.heap.size + 1) _ 39 (by omega) (by omega) _ HIX.out (by rw [Lib.byteCells_length];omega) (by omega)).mono ?_
      rintro e w3 ⟨rfl,hi3,hb3,_⟩
      have HS3:Hid (Scn P w3 rs q):=HSX.out.low hb3 (by omega)
      have HA3:Hid (Ag P w w3):=HAX.out.low hb3 (by omega)
      have HR3:Hid (Row w3 w.heap.size #[.string ⟨#[]⟩]):=HRX.out.below hb3 (by omega)
      have HI3:Hid (Lib.IsBuilderF 148 5 (w.heap.size + 1) (w.heap.size + 1) (Lib.byteCells (acc ++ [39])) w3):=by
       show Lib.IsBuilderF _ _ _ _ _ _
       rw [Lib.byteCells_append,HBy.out,Lib.byteCells_encodeRune]
       exact .inr hi3
      have hz3:w.heap.size + 1 < w3.heap.size:=by have:=hb3.size;omega
      clear hi3 hb3
      have hl2:q < rs.length:=lt_of_some HC.out
      obtain ⟨hs3,ha3⟩:=HS3.out.inc hl2 HA3.out
      obtain ⟨a3,c3,q3,f3⟩:=HS3.out.rows
      have hw3:IntKind.i64.wrap ((q:Int) + 1) = (q:Int) + 1:=by rw [IntKind.wrap_i64];omega
      have hpos4:=hs3.pos
      have HS4:Hid (Scn P (w3.setCell ⟨P,1,none⟩ (.int .i64 ((q:Int) + 1))) rs (q + 1)):=hs3
      have HA4:Hid (Ag P w (w3.setCell ⟨P,1,none⟩ (.int .i64 ((q:Int) + 1)))):=ha3
      have HI4:Hid (Lib.IsBuilderF 148 5 (w.heap.size + 1) (w.heap.size + 1) (Lib.byteCells (acc ++ [39])) (w3.setCell ⟨P,1,none⟩ (.int .i64 ((q:Int) + 1)))):=bld_ag HI3.out ((Ag.refl P w3).setCell 1 _) (by omega)
      have HR4:Hid (Row (w3.setCell ⟨P,1,none⟩ (.int .i64 ((q:Int) + 1))) w.heap.size #[.string ⟨#[]⟩]):=HR3.out.setO (by omega) _
      clear hs3 ha3
      obtain ⟨hs5,ha5⟩:=HS4.out.inc (lt_of_some HD1.out) HA4.out
      obtain ⟨a5,c5,q5,f5⟩:=HS4.out.rows
      have hw5:IntKind.i64.wrap ((q:Int) + 1 + 1) = (q:Int) + 1 + 1:=by rw [IntKind.wrap_i64];omega
      have HS6:Hid (Scn P ((w3.setCell ⟨P,1,none⟩ (.int .i64 ((q:Int) + 1))).setCell ⟨P,1,none⟩ (.int .i64 ((q:Int) + 1 + 1))) rs (q + 2)):=hs5
      have hpos6:=HS6.out.pos
      have HA6:Hid (Ag P w ((w3.setCell ⟨P,1,none⟩ (.int .i64 ((q:Int) + 1))).setCell ⟨P,1,none⟩ (.int .i64 ((q:Int) + 1 + 1)))):=ha5
      have HI6:Hid (Lib.IsBuilderF 148 5 (w.heap.size + 1) (w.heap.size + 1) (Lib.byteCells (acc ++ [39])) ((w3.setCell ⟨P,1,none⟩ (.int .i64 ((q:Int) + 1))).setCell ⟨P,1,none⟩ (.int .i64 ((q:Int) + 1 + 1)))):=bld_ag HI4.out ((Ag.refl P _).setCell 1 _) (by omega)
      have HR6:Hid (Row ((w3.setCell ⟨P,1,none⟩ (.int .i64 ((q:Int) + 1))).setCell ⟨P,1,none⟩ (.int .i64 ((q:Int) + 1 + 1))) w.heap.size #[.string ⟨#[]⟩]):=HR4.out.setO (by omega) _
      clear hs5 ha5
      go_wp2
      go_roundw
      case rel=>exact ⟨q + 2,false,acc ++ [39],rfl,HN,HS6,HA6,HI6,HR6,by simpa using hz3⟩
      case measure=>rw [hpos6,hpos];omega
     have hK1:(pk rs (q + 1) == 39) = false:=by
      rw [beq_eq_false_iff_ne]
      exact fun e=>hd1 ((pk_eq HP.out (q + 1) 39 (by decide)).1 e)
     have HD1:Hid (rs[q + 1]? ≠ some [39]):=hd1
     have bd1:=pk_bd HP.out (q + 1)
     clear hd1
     cases hs1:specZ num (pk rs (q + 1)) with
     | true=>
      have HN:Hid (Sd num rs p (q + 1) true acc):=HD.out.quote HC.out HD1.out (.inr (spec_some (sz1.symm.trans hs1)))
      have HS9:Hid (specZ num (pk rs (q + 1)) = true):=hs1
      clear hs1 sz1
      go_wp2_with (go_at_call 197;refine ks.mono ?_;rintro e w9 ⟨rfl,rfl⟩)
      refine kp1.mono ?_
      rintro e wx ⟨rfl,hbx⟩
      have HSX:Hid (Scn P wx rs q):=HS1.out.then hbx
      have HAX:Hid (Ag P w wx):=HA1.out.then hbx
      have HIX:Hid (Lib.IsBuilderF 148 5 (w.heap.size + 1) (w.heap.size + 1) (Lib.byteCells acc) wx):=bld_ag HI1.out (Ag.of (P:=P) hbx (Nat.le_refl _)) (by omega)
      have HRX:Hid (Row wx w.heap.size #[.string ⟨#[]⟩]):=HR1.out.keep hbx
      have hzx:w.heap.size + 1 < wx.heap.size:=by have:=hbx.size;omega
      clear kp1 hbx
      go_wp2_with fail
      refine (peek_any P wx rs q 1 HSX.out (by omega)).mono ?_
      rintro e wa ⟨rfl,hba⟩
      have HSA:Hid (Scn P wa rs q):=HSX.out.then hba
      have HAA:Hid (Ag P w wa):=HAX.out.then hba
      have HIA:Hid (Lib.IsBuilderF 148 5 (w.heap.size + 1) (w.heap.size + 1) (Lib.byteCells acc) wa):=bld_ag HIX.out (Ag.of (P:=P) hba (Nat.le_refl _)) (by omega)
      have HRA:Hid (Row wa w.heap.size #[.string ⟨#[]⟩]):=HRX.out.keep hba
      have hza:w.heap.size + 1 < wa.heap.size:=by have:=hba.size;omega
      have k2:=pisSpecial_any (pk rs (q + 1)) num wa
      rw [HS9.out] at k2
      clear hba
      generalize pk rs (q + 1) = K1 at *
      have hl2:q < rs.length:=lt_of_some HC.out
      obtain ⟨hs3,ha3⟩:=HSA.out.inc hl2 HAA.out
      obtain ⟨a3,c3,q3,f3⟩:=HSA.out.rows
      have hw3:IntKind.i64.wrap ((q:Int) + 1) = (q:Int) + 1:=by rw [IntKind.wrap_i64];omega
      have hpos4:=hs3.pos
      have HS4:Hid (Scn P (wa.setCell ⟨P,1,none⟩ (.int .i64 ((q:Int) + 1))) rs (q + 1)):=hs3
      have HA4:Hid (Ag P w (wa.setCell ⟨P,1,none⟩ (.int .i64 ((q:Int) + 1)))):=ha3
      have HI4:Hid (Lib.IsBuilderF 148 5 (w.heap.size + 1) (w.heap.size + 1) (Lib.byteCells acc) (wa.setCell ⟨P,1,none⟩ (.int .i64 ((q:Int) + 1)))):=bld_ag HIA.out ((Ag.refl P wa).setCell 1 _) (by omega)
      have HR4:Hid (Row (wa.setCell ⟨P,1,none⟩ (.int .i64 ((q:Int) + 1))) w.heap.size #[.string ⟨#[]⟩]):=HRA.out.setO (by omega) _
      clear hs3 ha3
      go_wp2_with (go_at_call 197;refine k2.mono ?_;rintro e wa ⟨rfl,rfl⟩)
      go_roundw
      case rel=>exact ⟨q + 1,true,acc,rfl,HN,HS4,HA4,HI4,HR4,by simpa using hza⟩
      case measure=>rw [hpos4,hpos];omega
     | false=>
      have HN:Hid (Sd num rs p (q + 1) false (acc ++ [39])):=HD.out.one HC.out HD1.out (spec_none (sz1.symm.trans hs1))
      have HS9:Hid (specZ num (pk rs (q + 1)) = false):=hs1
      clear hs1 sz1
      go_wp2_with (go_at_call 197;refine ks.mono ?_;rintro e w9 ⟨rfl,rfl⟩)
      refine kp1.mono ?_
      rintro e wx ⟨rfl,hbx⟩
      have HSX:Hid (Scn P wx rs q):=HS1.out.then hbx
      have HAX:Hid (Ag P w wx):=HA1.out.then hbx
      have HIX:Hid (Lib.IsBuilderF 148 5 (w.heap.size + 1) (w.heap.size + 1) (Lib.byteCells acc) wx):=bld_ag HI1.out (Ag.of (P:=P) hbx (Nat.le_refl _)) (by omega)
      have HRX:Hid (Row wx w.heap.size #[.string ⟨#[]⟩]):=HR1.out.keep hbx
      have hzx:w.heap.size + 1 < wx.heap.size:=by have:=hbx.size;omega
      clear kp1 hbx
      go_wp2_with fail
      refine (peek_any P wx rs q 1 HSX.out (by omega)).mono ?_
      rintro e wa ⟨rfl,hba⟩
      have HSA:Hid (Scn P wa rs q):=HSX.out.then hba
      have HAA:Hid (Ag P w wa):=HAX.out.then hba
      have HIA:Hid (Lib.IsBuilderF 148 5 (w.heap.size + 1) (w.heap.size + 1) (Lib.byteCells acc) wa):=bld_ag HIX.out (Ag.of (P:=P) hba (Nat.le_refl _)) (by omega)
      have HRA:Hid (Row wa w.heap.size #[.string ⟨#[]⟩]):=HRX.out.keep hba
      have hza:w.heap.size + 1 < wa.heap.size:=by have:=hba.size;omega
      have k2:=pisSpecial_any (pk rs (q + 1)) num wa
      rw [HS9.out] at k2
      clear hba
      generalize pk rs (q + 1) = K1 at *
      go_wp2_with (go_at_call 197;refine k2.mono ?_;rintro e wa ⟨rfl,rfl⟩)
      refine (Tryz.Builder_WriteRune_k (w.heap.size + 1) (w.heap.size + 1) _ 39 (by omega) (by omega) _ HIA.out (by rw [Lib.byteCells_length];omega) (by omega)).mono ?_
      rintro e w3 ⟨rfl,hi3,hb3,_⟩
      have HS3:Hid (Scn P w3 rs q):=HSA.out.low hb3 (by omega)
      have HA3:Hid (Ag P w w3):=HAA.out.low hb3 (by omega)
      have HR3:Hid (Row w3 w.heap.size #[.string ⟨#[]⟩]):=HRA.out.below hb3 (by omega)
      have HI3:Hid (Lib.IsBuilderF 148 5 (w.heap.size + 1) (w.heap.size + 1) (Lib.byteCells (acc ++ [39])) w3):=by
       show Lib.IsBuilderF _ _ _ _ _ _
       rw [Lib.byteCells_append,HBy.out,Lib.byteCells_encodeRune]
       exact .inr hi3
      have hz3:w.heap.size + 1 < w3.heap.size:=by have:=hb3.size;omega
      clear hi3 hb3
      have hl2:q < rs.length:=lt_of_some HC.out
      obtain ⟨hs3,ha3⟩:=HS3.out.inc hl2 HA3.out
      obtain ⟨a3,c3,q3,f3⟩:=HS3.out.rows
      have hw3:IntKind.i64.wrap ((q:Int) + 1) = (q:Int) + 1:=by rw [IntKind.wrap_i64];omega
      have hpos4:=hs3.pos
      have HS4:Hid (Scn P (w3.setCell ⟨P,1,none⟩ (.int .i64 ((q:Int) + 1))) rs (q + 1)):=hs3
      have HA4:Hid (Ag P w (w3.setCell ⟨P,1,none⟩ (.int .i64 ((q:Int) + 1)))):=ha3
      have HI4:Hid (Lib.IsBuilderF 148 5 (w.heap.size + 1) (w.heap.size + 1) (Lib.byteCells (acc ++ [39])) (w3.setCell ⟨P,1,none⟩ (.int .i64 ((q:Int) + 1)))):=bld_ag HI3.out ((Ag.refl P w3).setCell 1 _) (by omega)
      have HR4:Hid (Row (w3.setCell ⟨P,1,none⟩ (.int .i64 ((q:Int) + 1))) w.heap.size #[.string ⟨#[]⟩]):=HR3.out.setO (by omega) _
      clear hs3 ha3
      go_wp2
      go_roundw
      case rel=>exact ⟨q + 1,false,acc ++ [39],rfl,HN,HS4,HA4,HI4,HR4,by simpa using hz3⟩
      case measure=>rw [hpos4,hpos];omega
    ·have hKn:(K == 39) = false:=by rw [beq_eq_false_iff_ne];exact fun e=>h39 (HPt.out.2.1.1 e)
     have HC:Hid (rs[q]? = some c):=hc
     have HN:Hid (Sd num rs p (q + 1) false (acc ++ c)):=HD.out.plain HP.out hc (by simp [hsp']) h39
     have HBy:Hid (c = Lib.encodeRune K):=HPt.out.2.2
     clear hc h39 HPt kst sz1
     clear hsp hsp'
     go_wp2_with (go_at_call 197;refine ks.mono ?_;rintro e w9 ⟨rfl,rfl⟩)
     refine (Tryz.Builder_WriteRune_k (w.heap.size + 1) (w.heap.size + 1) _ K (by omega) (by omega) _ HI1.out (by rw [Lib.byteCells_length];omega) (by omega)).mono ?_
     rintro e w3 ⟨rfl,hi3,hb3,_⟩
     have HS3:Hid (Scn P w3 rs q):=HS1.out.low hb3 (by omega)
     have HA3:Hid (Ag P w w3):=HA1.out.low hb3 (by omega)
     have HR3:Hid (Row w3 w.heap.size #[.string ⟨#[]⟩]):=HR1.out.below hb3 (by omega)
     have HI3:Hid (Lib.IsBuilderF 148 5 (w.heap.size + 1) (w.heap.size + 1) (Lib.byteCells (acc ++ c)) w3):=by
      show Lib.IsBuilderF _ _ _ _ _ _
      rw [Lib.byteCells_append,HBy.out,Lib.byteCells_encodeRune]
      exact .inr hi3
     have hz3:w.heap.size + 1 < w3.heap.size:=by have:=hb3.size;omega
     clear hi3 hb3
     have hl2:q < rs.length:=lt_of_some HC.out
     obtain ⟨hs3,ha3⟩:=HS3.out.inc hl2 HA3.out
     obtain ⟨a3,c3,q3,f3⟩:=HS3.out.rows
     have hw3:IntKind.i64.wrap ((q:Int) + 1) = (q:Int) + 1:=by rw [IntKind.wrap_i64];omega
     have hpos4:=hs3.pos
     have HS4:Hid (Scn P (w3.setCell ⟨P,1,none⟩ (.int .i64 ((q:Int) + 1))) rs (q + 1)):=hs3
     have HA4:Hid (Ag P w (w3.setCell ⟨P,1,none⟩ (.int .i64 ((q:Int) + 1)))):=ha3
     have HI4:Hid (Lib.IsBuilderF 148 5 (w.heap.size + 1) (w.heap.size + 1) (Lib.byteCells (acc ++ c)) (w3.setCell ⟨P,1,none⟩ (.int .i64 ((q:Int) + 1)))):=bld_ag HI3.out ((Ag.refl P w3).setCell 1 _) (by omega)
     have HR4:Hid (Row (w3.setCell ⟨P,1,none⟩ (.int .i64 ((q:Int) + 1))) w.heap.size #[.string ⟨#[]⟩]):=HR3.out.setO (by omega) _
     clear hs3 ha3
     go_wp2
     go_roundw
     case rel=>exact ⟨q + 1,false,acc ++ c,rfl,HN,HS4,HA4,HI4,HR4,by simpa using hz3⟩
     case measure=>rw [hpos4,hpos];omega
   | true=>
    clear ks
    by_cases h39:c = [39]
    ·have hK39:K = 39:=HPt.out.2.1.2 h39
     have HC:Hid (rs[q]? = some [39]):=by show _ = _;rw [hc,h39]
     have HBy:Hid (([39]:Pg.T) = Lib.encodeRune 39):=rfl
     subst hK39
     have kp1:=peek_any P w1 rs q 1 HS1.out (by omega)
     clear hc h39 HPt hKe kst
     by_cases hd1:rs[q + 1]? = some [39]
     ·have HD1:Hid (rs[q + 1]? = some [39]):=hd1
      have hK1:pk rs (q + 1) = 39:=(pk_eq HP.out (q + 1) 39 (by decide)).2 hd1
      rw [hK1] at kp1
      have HN:Hid (Sd num rs p (q + 2) true (acc ++ [39])):=HD.out.two HC.out HD1.out
      clear hd1 hK1 sz1
      go_wp2_with fail
      refine kp1.mono ?_
      rintro e wx ⟨rfl,hbx⟩
      have HSX:Hid (Scn P wx rs q):=HS1.out.then hbx
      have HAX:Hid (Ag P w wx):=HA1.out.then hbx
      have HIX:Hid (Lib.IsBuilderF 148 5 (w.heap.size + 1) (w.heap.size + 1) (Lib.byteCells acc) wx):=bld_ag HI1.out (Ag.of (P:=P) hbx (Nat.le_refl _)) (by omega)
      have HRX:Hid (Row wx w.heap.size #[.string ⟨#[]⟩]):=HR1.out.keep hbx
      have hzx:w.heap.size + 1 < wx.heap.size:=by have:=hbx.size;omega
      clear kp1 hbx
      go_wp2_with fail
      refine (Tryz.Builder_WriteRune_k (w.heap.size + 1) (w.heap.size + 1) _ 39 (by omega) (by omega) _ HIX.out (by rw [Lib.byteCells_length];omega) (by omega)).mono ?_
      rintro e w3 ⟨rfl,hi3,hb3,_⟩
      have HS3:Hid (Scn P w3 rs q):=HSX.out.low hb3 (by omega)
      have HA3:Hid (Ag P w w3):=HAX.out.low hb3 (by omega)
      have HR3:Hid (Row w3 w.heap.size #[.string ⟨#[]⟩]):=HRX.out.below hb3 (by omega)
      have HI3:Hid (Lib.IsBuilderF 148 5 (w.heap.size + 1) (w.heap.size + 1) (Lib.byteCells (acc ++ [39])) w3):=by
       show Lib.IsBuilderF _ _ _ _ _ _
       rw [Lib.byteCells_append,HBy.out,Lib.byteCells_encodeRune]
       exact .inr hi3
      have hz3:w.heap.size + 1 < w3.heap.size:=by have:=hb3.size;omega
      clear hi3 hb3
      have hl2:q < rs.length:=lt_of_some HC.out
      obtain ⟨hs3,ha3⟩:=HS3.out.inc hl2 HA3.out
      obtain ⟨a3,c3,q3,f3⟩:=HS3.out.rows
      have hw3:IntKind.i64.wrap ((q:Int) + 1) = (q:Int) + 1:=by rw [IntKind.wrap_i64];omega
      have hpos4:=hs3.pos
      have HS4:Hid (Scn P (w3.setCell ⟨P,1,none⟩ (.int .i64 ((q:Int) + 1))) rs (q + 1)):=hs3
      have HA4:Hid (Ag P w (w3.setCell ⟨P,1,none⟩ (.int .i64 ((q:Int) + 1)))):=ha3
      have HI4:Hid (Lib.IsBuilderF 148 5 (w.heap.size + 1) (w.heap.size + 1) (Lib.byteCells (acc ++ [39])) (w3.setCell ⟨P,1,none⟩ (.int .i64 ((q:Int) + 1)))):=bld_ag HI3.out ((Ag.refl P w3).setCell 1 _) (by omega)
      have HR4:Hid (Row (w3.setCell ⟨P,1,none⟩ (.int .i64 ((q:Int) + 1))) w.heap.size #[.string ⟨#[]⟩]):=HR3.out.setO (by omega) _
      clear hs3 ha3
      obtain ⟨hs5,ha5⟩:=HS4.out.inc (lt_of_some HD1.out) HA4.out
      obtain ⟨a5,c5,q5,f5⟩:=HS4.out.rows
      have hw5:IntKind.i64.wrap ((q:Int) + 1 + 1) = (q:Int) + 1 + 1:=by rw [IntKind.wrap_i64];omega
      have HS6:Hid (Scn P ((w3.setCell ⟨P,1,none⟩ (.int .i64 ((q:Int) + 1))).setCell ⟨P,1,none⟩ (.int .i64 ((q:Int) + 1 + 1))) rs (q + 2)):=hs5
      have hpos6:=HS6.out.pos
      have HA6:Hid (Ag P w ((w3.setCell ⟨P,1,none⟩ (.int .i64 ((q:Int) + 1))).setCell ⟨P,1,none⟩ (.int .i64 ((q:Int) + 1 + 1)))):=ha5
      have HI6:Hid (Lib.IsBuilderF 148 5 (w.heap.size + 1) (w.heap.size + 1) (Lib.byteCells (acc ++ [39])) ((w3.setCell ⟨P,1,none⟩ (.int .i64 ((q:Int) + 1))).setCell ⟨P,1,none⟩ (.int .i64 ((q:Int) + 1 + 1)))):=bld_ag HI4.out ((Ag.refl P _).setCell 1 _) (by omega)
      have HR6:Hid (Row ((w3.setCell ⟨P,1,none⟩ (.int .i64 ((q:Int) + 1))).setCell ⟨P,1,none⟩ (.int .i64 ((q:Int) + 1 + 1))) w.heap.size #[.string ⟨#[]⟩]):=HR4.out.setO (by omega) _
      clear hs5 ha5
      go_wp2
      go_roundw
      case rel=>exact ⟨q + 2,true,acc ++ [39],rfl,HN,HS6,HA6,HI6,HR6,by simpa using hz3⟩
      case measure=>rw [hpos6,hpos];omega
     have hK1:(pk rs (q + 1) == 39) = false:=by
      rw [beq_eq_false_iff_ne]
      exact fun e=>hd1 ((pk_eq HP.out (q + 1) 39 (by decide)).1 e)
     have HD1:Hid (rs[q + 1]? ≠ some [39]):=hd1
     have bd1:=pk_bd HP.out (q + 1)
     clear hd1
     have HN:Hid (Sd num rs p (q + 1) false acc):=HD.out.quote HC.out HD1.out (.inl rfl)
     go_wp2_with fail
     refine kp1.mono ?_
     rintro e wx ⟨rfl,hbx⟩
     have HSX:Hid (Scn P wx rs q):=HS1.out.then hbx
     have HAX:Hid (Ag P w wx):=HA1.out.then hbx
     have HIX:Hid (Lib.IsBuilderF 148 5 (w.heap.size + 1) (w.heap.size + 1) (Lib.byteCells acc) wx):=bld_ag HI1.out (Ag.of (P:=P) hbx (Nat.le_refl _)) (by omega)
     have HRX:Hid (Row wx w.heap.size #[.string ⟨#[]⟩]):=HR1.out.keep hbx
     have hzx:w.heap.size + 1 < wx.heap.size:=by have:=hbx.size;omega
     clear kp1 hbx
     have HSA:=HSX
     have HAA:=HAX
     have HIA:=HIX
     have HRA:=HRX
     have hza:=hzx
     obtain ⟨wa,hwa⟩:∃ wa,wa = wx:=⟨_,rfl⟩
     subst hwa
     generalize pk rs (q + 1) = K1 at *
     have hl2:q < rs.length:=lt_of_some HC.out
     obtain ⟨hs3,ha3⟩:=HSA.out.inc hl2 HAA.out
     obtain ⟨a3,c3,q3,f3⟩:=HSA.out.rows
     have hw3:IntKind.i64.wrap ((q:Int) + 1) = (q:Int) + 1:=by rw [IntKind.wrap_i64];omega
     have hpos4:=hs3.pos
     have HS4:Hid (Scn P (wa.setCell ⟨P,1,none⟩ (.int .i64 ((q:Int) + 1))) rs (q + 1)):=hs3
     have HA4:Hid (Ag P w (wa.setCell ⟨P,1,none⟩ (.int .i64 ((q:Int) + 1)))):=ha3
     have HI4:Hid (Lib.IsBuilderF 148 5 (w.heap.size + 1) (w.heap.size + 1) (Lib.byteCells acc) (wa.setCell ⟨P,1,none⟩ (.int .i64 ((q:Int) + 1)))):=bld_ag HIA.out ((Ag.refl P wa).setCell 1 _) (by omega)
     have HR4:Hid (Row (wa.setCell ⟨P,1,none⟩ (.int .i64 ((q:Int) + 1))) w.heap.size #[.string ⟨#[]⟩]):=HRA.out.setO (by omega) _
     clear hs3 ha3
     go_wp2
     go_roundw
     case rel=>exact ⟨q + 1,false,acc,rfl,HN,HS4,HA4,HI4,HR4,by simpa using hza⟩
     case measure=>rw [hpos4,hpos];omega
    ·have hKn:(K == 39) = false:=by rw [beq_eq_false_iff_ne];exact fun e=>h39 (HPt.out.2.1.1 e)
     have HC:Hid (rs[q]? = some c):=hc
     have HN:Hid (Sd num rs p (q + 1) true (acc ++ c)):=HD.out.plain HP.out hc (by simp) h39
     have HBy:Hid (c = Lib.encodeRune K):=HPt.out.2.2
     clear hc h39 HPt kst sz1
     go_wp2_with fail
     refine (Tryz.Builder_WriteRune_k (w.heap.size + 1) (w.heap.size + 1) _ K (by omega) (by omega) _ HI1.out (by rw [Lib.byteCells_length];omega) (by omega)).mono ?_
     rintro e w3 ⟨rfl,hi3,hb3,_⟩
     have HS3:Hid (Scn P w3 rs q):=HS1.out.low hb3 (by omega)
     have HA3:Hid (Ag P w w3):=HA1.out.low hb3 (by omega)
     have HR3:Hid (Row w3 w.heap.size #[.string ⟨#[]⟩]):=HR1.out.below hb3 (by omega)
     have HI3:Hid (Lib.IsBuilderF 148 5 (w.heap.size + 1) (w.heap.size + 1) (Lib.byteCells (acc ++ c)) w3):=by
      show Lib.IsBuilderF _ _ _ _ _ _
      rw [Lib.byteCells_append,HBy.out,Lib.byteCells_encodeRune]
      exact .inr hi3
     have hz3:w.heap.size + 1 < w3.heap.size:=by have:=hb3.size;omega
     clear hi3 hb3
     have hl2:q < rs.length:=lt_of_some HC.out
     obtain ⟨hs3,ha3⟩:=HS3.out.inc hl2 HA3.out
     obtain ⟨a3,c3,q3,f3⟩:=HS3.out.rows
     have hw3:IntKind.i64.wrap ((q:Int) + 1) = (q:Int) + 1:=by rw [IntKind.wrap_i64];omega
     have hpos4:=hs3.pos
     have HS4:Hid (Scn P (w3.setCell ⟨P,1,none⟩ (.int .i64 ((q:Int) + 1))) rs (q + 1)):=hs3
     have HA4:Hid (Ag P w (w3.setCell ⟨P,1,none⟩ (.int .i64 ((q:Int) + 1)))):=ha3
     have HI4:Hid (Lib.IsBuilderF 148 5 (w.heap.size + 1) (w.heap.size + 1) (Lib.byteCells (acc ++ c)) (w3.setCell ⟨P,1,none⟩ (.int .i64 ((q:Int) + 1)))):=bld_ag HI3.out ((Ag.refl P w3).setCell 1 _) (by omega)
     have HR4:Hid (Row (w3.setCell ⟨P,1,none⟩ (.int .i64 ((q:Int) + 1))) w.heap.size #[.string ⟨#[]⟩]):=HR3.out.setO (by omega) _
     clear hs3 ha3
     go_wp2
     go_roundw
     case rel=>exact ⟨q + 1,true,acc ++ c,rfl,HN,HS4,HA4,HI4,HR4,by simpa using hz3⟩
     case measure=>rw [hpos4,hpos];omega
end Go.Proofs.YtaepcfidpekflaaGreatDoor
