/-
  Several texts in one (Mt, Mv, Mu, Mw, Mx, My, Mz). By the verifier.
-/
import Derived.Test.YtaepcfidpekflaaGreatDoorZ23
import Derived.Test.YtaepcfidpekflaaGreatDoorProg
import Derived.DeepKeys4
import Derived.Maps.OwnSet
import Derived.Maps.Views
import Derived.StringKeys
namespace Go.Proofs.YtaepcfidpekflaaGreatDoor.Pg
open Go.Proofs.YtaepcfidpekflaaGreatDoor
theorem rv_app {c:T} (h:Pt c) (r:T):Lib.decodeL (c ++ r) = Lib.decodeL c:=by
 rcases h.1 with ⟨b,rfl,hb⟩ | ⟨h2,_⟩
 ·rw [List.singleton_append,Lib.decodeL_ascii b r hb,Lib.decodeL_ascii b [] hb]
 ·have hd:=h.dec.2
  rw [Lib.decodeL_N] at hd
  have g:∀ i,i < c.length → (c ++ r).getD i 0 = c.getD i 0:=fun i hi=>by
   simp [List.getElem?_append_left hi]
  rw [Lib.decodeL_N,Lib.decodeL_N,g 0 (by omega)]
  exact Lib.decodeN_more c.length (c ++ r).length _ _ _ _ _ _ _ h2 (by simp) hd (fun h=>by rw [g 1 h]) (fun h=>by rw [g 2 h]) (fun h=>by rw [g 3 h])
theorem head_pt {R:T} (hR:R ≠ []) (hz:Pn.szL R ≠ 0):Pt (R.take (Pn.szL R)) ∧ (Lib.decodeL R).2 = Pn.szL R ∧ rv (R.take (Pn.szL R)) = (Lib.decodeL R).1 ∧ (R.take (Pn.szL R)).length = Pn.szL R:=by
 have hle:=Pn.szL_le R hR
 have hl:(R.take (Pn.szL R)).length = Pn.szL R:=by rw [List.length_take];omega
 have hp:Pt (R.take (Pn.szL R)):=⟨(szL_any R hz hR []).2,fun r=>by rw [(szL_any R hz hR r).1,hl]⟩
 have hd:=Pn.szL_dec R
 refine ⟨hp,?_,?_,hl⟩
 ·split at hd
  ·omega
  ·exact hd.symm
 ·have:=rv_app hp (R.drop (Pn.szL R))
  rw [List.take_append_drop] at this
  unfold rv
  rw [this]
theorem pts_len_le {rs:List T} (h:Pts rs):rs.length ≤ rs.flatten.length:=by
 induction rs with
 | nil=>simp
 | cons c r ih=>
  have h1:=(h c (by simp)).1.ne
  have h2:0 < c.length:=List.length_pos_iff.2 h1
  have h3:=ih (fun x hx=>h x (by simp [hx]))
  simp only [List.length_cons,List.flatten_cons,List.length_append]
  omega
theorem pts_part:∀ (rs:List T) (R:T) (n:Nat),Pts rs → R ≠ [] → Pn.szL R = 0 → rs.length ≤ n → Pn.ptsN (n + 1) (rs.flatten ++ R) = rs ∧ Pn.lenN (n + 1) (rs.flatten ++ R) = rs.flatten.length:=by
 intro rs
 induction rs with
 | nil=>
  intro R n _ hR hz _
  simp only [List.flatten_nil,List.nil_append]
  rw [Pn.ptsN,Pn.lenN,if_neg hR,if_pos hz,if_neg hR,if_pos hz]
  exact ⟨rfl,rfl⟩
 | cons c r ih=>
  intro R n h hR hz hn
  obtain ⟨m,rfl⟩:∃ m,n = m + 1:=⟨n - 1,by simp at hn;omega⟩
  have hc:=h c (by simp)
  have hne:c ++ (r.flatten ++ R) ≠ []:=by simp [hc.1.ne]
  have hsz:=hc.2 (r.flatten ++ R)
  have hl:c.length ≠ 0:=fun e=>hc.1.ne (List.length_eq_zero_iff.1 e)
  obtain ⟨i1,i2⟩:=ih R m (fun x hx=>h x (by simp [hx])) hR hz (by simp at hn;omega)
  rw [List.flatten_cons,List.append_assoc,Pn.ptsN,Pn.lenN,if_neg hne,if_neg (by rw [hsz];exact hl),if_neg hne,if_neg (by rw [hsz];exact hl),hsz]
  simp only [List.take_left,List.drop_left]
  rw [i1,i2]
  exact ⟨rfl,by simp⟩
end Go.Proofs.YtaepcfidpekflaaGreatDoor.Pg
namespace Go.Proofs.YtaepcfidpekflaaGreatDoor
open Go.RowKit Pg
theorem info_i32:(Tryz.prog.info? 21).map (fun i=>(i.zero,i.size,i.bytes)) = some (some (.int .i32 0),1,4):=by kernel_rfl
theorem owns_len {w:World} {B:Nat} {T:TypeId} {k:Nat} {v:Value} {n:Nat} {vs:List Value} (h:w.ownsRow B T k v n vs):∃ a c,v = .slice a n c:=by
 rcases h.2 with ⟨rfl,hz⟩ | ⟨g,cap,cur,rfl,_⟩
 ·exact ⟨none,0,by rw [hz]⟩
 ·exact ⟨_,_,rfl⟩
def rnV (c:Pg.T):Value:=.int .i32 (rv c)
def RunesSaid (s:Pg.T) (w:World) (e:Ending) (w':World):Prop:=Below w.heap.size w w' ∧
 ((1000 < s.length ∧ ∃ v,e = .returned (.tuple #[.slice none 0 0,v]) ∧ Flt w.heap.size w' v 1 0) ∨
 (s.length ≤ 1000 ∧ Pn.ptsLen s < s.length ∧ ∃ v,e = .returned (.tuple #[.slice none 0 0,v]) ∧ Flt w.heap.size w' v 2 (Pn.pts s).length) ∨
 (s.length ≤ 1000 ∧ Pn.ptsLen s = s.length ∧ ∃ a c,e = .returned (.tuple #[.slice a (Pn.pts s).length c,.nilIface]) ∧ Rns w'.heap.size w' a c (Pn.pts s) ∧ (Pn.pts s).length ≤ c))
set_option maxHeartbeats 6400000 in
theorem prunesOf_any (s:Pg.T) (w:World) (hU:Lib.Utf8Tabs 1 2 w) (hs:s.length ≤ 1000000):
  Calls Tryz.prog 126 #[.string ⟨s.toArray⟩] w fun e w'=>RunesSaid s w e w':=by
 have kf:=pfault_any w 1 0
 by_cases hl:1000 < s.length
 ·have hl':(1000:Int) < s.length:=by omega
  have HL:Hid (1000 < s.length):=hl
  clear hl
  go_enter Tryz.func126,Tryz.ntmps126
  go_wp2_with (go_at_call 158;refine kf.mono ?_;rintro e w1 ⟨⟨v,rfl,hv⟩,hb1⟩)
  go_ret2
  exact ⟨hb1,.inl ⟨HL.out,_,rfl,hv⟩⟩
 ·have hl':¬ (1000:Int) < s.length:=by omega
  clear kf
  obtain ⟨i0,hi0,hz0,hz1',hz2'⟩:=info_parts info_i32
  have HI:Hid (Tryz.prog.info? 21 = some i0 ∧ i0.zero = some (.int .i32 0) ∧ i0.size = 1 ∧ i0.bytes = 4):=⟨hi0,hz0,hz1',hz2'⟩
  clear hi0 hz0 hz1' hz2'
  go_enter Tryz.func126,Tryz.ntmps126
  go_wp2_with fail
  go_loopw [0,4] (fun x y wr=>∃ (R:Pg.T) (rs:List Pg.T) (lv:Value),x = .string ⟨R.toArray⟩ ∧ y = lv ∧ Hid (Pts rs) ∧ Hid (s = rs.flatten ++ R) ∧ Hid (wr.ownsRow w.heap.size 21 1 lv rs.length (rs.map rnV)) ∧ Hid (Below w.heap.size w wr)) (fun x _ _=>match x with | .string q=>q.size | _=>0)
  case atStart=>exact ⟨s,[],.slice none 0 0,rfl,rfl,fun c h=>by simp at h,rfl,World.ownsRow_nil _ _ _ _,Below.refl _ _⟩
  case round=>
   obtain ⟨R,rs,lv,rfl,rfl,HP,HE,HO,HW⟩:=hrel
   have hrl:rs.length + R.length ≤ s.length:=by
    have:=pts_len_le HP.out
    rw [HE.out,List.length_append]
    omega
   obtain ⟨la,lc,rfl⟩:=owns_len HO.out
   by_cases hR:R = []
   ·have hR':(R == ([]:Pg.T)) = true:=by rw [hR];rfl
    have hs2:s = rs.flatten:=by have:=HE.out;rw [hR,List.append_nil] at this;exact this
    have HPS:Hid (Pn.pts s = rs ∧ Pn.ptsLen s = s.length):=by
     rw [hs2]
     exact pts_flat rs rs.flatten.length HP.out (Nat.le_refl _)
    have HRN:Hid (Rns wr.heap.size wr la lc rs ∧ rs.length ≤ lc):=by
     rcases HO.out.2 with ⟨hv,hz⟩ | ⟨g,cap,cur,hv,hb,hg,hnc,hcm,hcs,htake⟩
     ·simp only [Value.slice.injEq] at hv
      exact ⟨.inl ⟨List.length_eq_zero_iff.1 hz,hv.1,hv.2.2⟩,by omega⟩
     ·simp only [Value.slice.injEq,true_and] at hv
      obtain ⟨rfl,rfl⟩:=hv
      refine ⟨.inr ⟨g,rfl,(World.ownsRow.lt HO.out g rfl).2,(World.ownsRow.lt HO.out g rfl).2,fun j hj=>?_⟩,hnc⟩
      rw [HO.out.cellAt j (by omega)]
      simp [hj,rnV]
    clear hR hs2
    go_wp2
    go_ret2
    refine ⟨HW.out,.inr (.inr ⟨by omega,HPS.out.2,la,lc,?_,?_,?_⟩)⟩
    ·rw [HPS.out.1];rfl
    ·rw [HPS.out.1];exact HRN.out.1
    ·rw [HPS.out.1];exact HRN.out.2
   ·have hR':(R == ([]:Pg.T)) = false:=by rw [beq_eq_false_iff_ne];exact hR
    have hne:(⟨R.toArray⟩:ByteArray).size ≠ 0:=by
     show R.toArray.size ≠ 0
     simp [hR]
    have kd:=Tryz.utf8_DecodeRuneInString ⟨R.toArray⟩ wr (Utf8Tabs_below hU HW.out)
    rw [show Lib.decodeGo ⟨R.toArray⟩ = Lib.decodeL R from by unfold Lib.decodeGo;rw [if_neg hne];rfl] at kd
    have hd1:=Lib.decodeL_rune R
    have hd2:=Lib.decodeL_width R
    have hd3:=Lib.decodeL_le R hR
    have hsz:=Pn.szL_dec R
    by_cases hbad:(Lib.decodeL R).1 = 65533 ∧ (Lib.decodeL R).2 = 1
    ·rw [if_pos hbad] at hsz
     rw [hbad.1,hbad.2] at kd
     have HPS:Hid (Pn.pts s = rs ∧ Pn.ptsLen s < s.length):=by
      have h1:=pts_part rs R (s.length - 1) HP.out hR hsz (by have:0 < R.length:=List.length_pos_iff.2 hR;omega)
      have hsl:s.length - 1 + 1 = s.length:=by have:0 < R.length:=List.length_pos_iff.2 hR;omega
      rw [hsl,← HE.out] at h1
      refine ⟨h1.1,?_⟩
      show Pn.lenN s.length s < s.length
      rw [h1.2]
      have:=congrArg List.length HE.out
      rw [List.length_append] at this
      have:0 < R.length:=List.length_pos_iff.2 hR
      omega
     clear hR hbad hsz hd1 hd2 hd3 hne
     go_wp2_with fail
     refine kd.mono ?_
     rintro e w1 ⟨rfl,hb1⟩
     have kf:=pfault_any w1 2 rs.length
     have HW1:Hid (Below w.heap.size w w1):=below_of HW.out hb1
     clear kd hb1
     go_wp2_with (go_at_call 158;refine kf.mono ?_;rintro e w2 ⟨⟨v,rfl,hv⟩,hb2⟩)
     go_ret2
     refine ⟨below_of HW1.out hb2,.inr (.inl ⟨by omega,HPS.out.2,v,rfl,?_⟩)⟩
     rw [HPS.out.1]
     exact hv.mono HW1.out.size
    ·rw [if_neg hbad] at hsz
     obtain ⟨g1,g2,g3,g4⟩:=head_pt hR (by omega)
     have hbad':((((Lib.decodeL R).1:Int) == 65533) && (((Lib.decodeL R).2:Int) == 1)) = false:=by
      rw [Bool.and_eq_false_iff,beq_eq_false_iff_ne,beq_eq_false_iff_ne]
      omega
     have HNX:Hid (Pts (rs ++ [R.take (Lib.decodeL R).2]) ∧ s = (rs ++ [R.take (Lib.decodeL R).2]).flatten ++ R.drop (Lib.decodeL R).2 ∧ rnV (R.take (Lib.decodeL R).2) = .int .i32 (Lib.decodeL R).1):=by
      rw [← hsz]
      refine ⟨fun c hc=>?_,?_,?_⟩
      ·rcases List.mem_append.1 hc with hc | hc
       ·exact HP.out c hc
       ·rw [List.mem_singleton.1 hc];exact g1
      ·rw [List.flatten_append,List.append_assoc]
       simp only [List.flatten_cons,List.flatten_nil,List.append_nil,List.take_append_drop]
       exact HE.out
      ·unfold rnV;rw [g3]
     have ex:=ex_drop R (Lib.decodeL R).2
     generalize (Lib.decodeL R).1 = D1 at *
     generalize (Lib.decodeL R).2 = D2 at *
     clear hR hbad hsz hne g1 g2 g3 g4
     have hD2:(D2:Int) ≤ R.length:=by omega
     go_wp2_with fail
     refine kd.mono ?_
     rintro e w1 ⟨rfl,hb1⟩
     have HW1:Hid (Below w.heap.size w w1):=below_of HW.out hb1
     have HO1:Hid (w1.ownsRow w.heap.size 21 1 (.slice la rs.length lc) rs.length (rs.map rnV)):=World.ownsRow.kept (row:=none) HO.out ⟨hb1.os,hb1.tape,hb1.output,hb1.size,fun k hk _=>hb1.block k hk⟩ (by
      cases e:(Value.slice la rs.length lc).ownBlock with
      | none=>exact .inl rfl
      | some _=>exact .inr (by simp))
     have HO2:Hid ((w1.alloc (.cells #[.int .i32 D1] 21)).ownsRow w.heap.size 21 1 (.slice la rs.length lc) rs.length (rs.map rnV)):=World.ownsRow.alloc HO1.out _
     have hBz:=HW1.out.size
     clear kd hb1
     by_cases t1:(D1:Int) = 65533
     ·have t1':((D1:Int) == 65533) = true:=by rw [beq_iff_eq];exact t1
      have t2':((D2:Int) == 1) = false:=by rw [t1'] at hbad';simpa using hbad'
      clear hbad' t1
      go_wp2_with (at_builtin;refine wpList_append_own_at _ rfl _ _ 232 rfl w.heap.size 21 i0 (.int .i32 0) 1 4 Tryz.underlying232 HI.out.1 HI.out.2.1 HI.out.2.2.1 HI.out.2.2.2 rfl (by decide) (.slice la rs.length lc) rs.length (rs.map rnV) rfl HO2.out ⟨w1.heap.size,0,none⟩ 1 1 [.int .i32 D1] rfl rfl ?c1 ?c2 ?c3 ?c4 ?c5 ?_)
      case c1=>exact cells_new w1 _ [.int .i32 D1] 21 rfl
      case c2=>intro u hu;rw [List.mem_singleton.1 hu];rfl
      case c3=>unfold maxLen;omega
      case c4=>omega
      case c5=>simp;omega
      intro v8 w8 hown8 hgrow8 _ hat8
      have HO8:Hid (w8.ownsRow w.heap.size 21 1 v8 (rs ++ [R.take D2]).length ((rs ++ [R.take D2]).map rnV)):=by
       show World.ownsRow _ _ _ _ _ _ _
       rw [List.map_append,List.length_append]
       simp only [List.map_cons,List.map_nil,List.length_singleton,HNX.out.2.2]
       exact hown8
      have HW8:Hid (Below w.heap.size w w8):=(below_of HW1.out (allocB w1 _)).grown hgrow8 (by simp;omega) (fun k e=>(World.ownsRow.lt HO1.out k e).1)
      obtain ⟨va8,vc8,rfl⟩:=owns_len hown8
      clear hown8 hgrow8 hat8 HO2 HO1 HO
      go_wp2
      refine ⟨⟨R.drop D2,rs ++ [R.take D2],_,rfl,rfl,HNX.out.1,HNX.out.2.1,HO8,HW8⟩,?_⟩
      show (R.drop D2).toArray.size < R.toArray.size
      simp
      omega
     ·have t1':((D1:Int) == 65533) = false:=by rw [beq_eq_false_iff_ne];exact t1
      clear hbad' t1
      go_wp2_with (at_builtin;refine wpList_append_own_at _ rfl _ _ 232 rfl w.heap.size 21 i0 (.int .i32 0) 1 4 Tryz.underlying232 HI.out.1 HI.out.2.1 HI.out.2.2.1 HI.out.2.2.2 rfl (by decide) (.slice la rs.length lc) rs.length (rs.map rnV) rfl HO2.out ⟨w1.heap.size,0,none⟩ 1 1 [.int .i32 D1] rfl rfl ?c1 ?c2 ?c3 ?c4 ?c5 ?_)
      case c1=>exact cells_new w1 _ [.int .i32 D1] 21 rfl
      case c2=>intro u hu;rw [List.mem_singleton.1 hu];rfl
      case c3=>unfold maxLen;omega
      case c4=>omega
      case c5=>simp;omega
      intro v8 w8 hown8 hgrow8 _ hat8
      have HO8:Hid (w8.ownsRow w.heap.size 21 1 v8 (rs ++ [R.take D2]).length ((rs ++ [R.take D2]).map rnV)):=by
       show World.ownsRow _ _ _ _ _ _ _
       rw [List.map_append,List.length_append]
       simp only [List.map_cons,List.map_nil,List.length_singleton,HNX.out.2.2]
       exact hown8
      have HW8:Hid (Below w.heap.size w w8):=(below_of HW1.out (allocB w1 _)).grown hgrow8 (by simp;omega) (fun k e=>(World.ownsRow.lt HO1.out k e).1)
      obtain ⟨va8,vc8,rfl⟩:=owns_len hown8
      clear hown8 hgrow8 hat8 HO2 HO1 HO
      go_wp2
      refine ⟨⟨R.drop D2,rs ++ [R.take D2],_,rfl,rfl,HNX.out.1,HNX.out.2.1,HO8,HW8⟩,?_⟩
      show (R.drop D2).toArray.size < R.toArray.size
      simp
      omega
end Go.Proofs.YtaepcfidpekflaaGreatDoor
namespace Go.Proofs.YtaepcfidpekflaaGreatDoor
theorem laidAll:laidOutB Tryz.prog = true:=by kernel_rfl
end Go.Proofs.YtaepcfidpekflaaGreatDoor
namespace Go.Proofs.YtaepcfidpekflaaGreatDoor
open Go.RowKit Go.Maps Pg
theorem sel_row:(330:TypeId) < Tryz.prog.types.size:=of_decide_eq_true (by kernel_rfl)
theorem sel_at:Tryz.prog.keyTypeAt 3 330 = true:=by kernel_rfl
theorem sel_law:WideMaps.KeyLaw Tryz.prog 330:=deep_law_laid laidAll (m:=3) (by omega) sel_row sel_at (by rw [Tryz.underlying330])
theorem sel_keyed:Keyed Tryz.prog 330:=Keyed.of_law sel_law
def selB (t:Pg.T):List UInt8:=keyBytes [.string (selV t).1,.int .u32 ((selV t).2:Nat)]
theorem sel_cells:Tryz.prog.cellsOf 330 = 2:=by kernel_rfl
theorem sel_cells1:Tryz.prog.cellsOf 9 = 1:=by kernel_rfl
theorem sel_cells2:Tryz.prog.cellsOf 264 = 1:=by kernel_rfl
theorem sel_type:Tryz.prog.keyType 330 = true:=by kernel_rfl
theorem types_n:Tryz.prog.types.size = 471:=by kernel_rfl
theorem sel_lits (d:Nat) (F:Pg.T) (V:Nat) (hs:(⟨F.toArray⟩:ByteArray).size ≤ maxLen) (hw:(Lit.int .u32 (V:Int)).wf = true):Tryz.prog.keyLits (d + 2) 330 [.string ⟨F.toArray⟩,.int .u32 V] = some [.string F,.int .u32 V]:=by
 unfold Program.keyLits
 simp only [Tryz.underlying330,sel_cells]
 simp [Program.keyLits,Tryz.underlying9,Tryz.underlying264,sel_cells1,sel_cells2,hs,hw]
theorem sel_key (F:Pg.T) (V:Nat) (hF:F.length ≤ 1000000) (hV:V < 4294967296):keyOf Tryz.prog 330 (.agg #[.string ⟨F.toArray⟩,.int .u32 V]) = some (.string (keyBytes [.string F,.int .u32 V])):=by
 have hform:(Value.agg #[.string ⟨F.toArray⟩,.int .u32 V]).formed Tryz.prog 330 = true:=by simp [Value.formed,Tryz.underlying330,sel_cells]
 have hs:(⟨F.toArray⟩:ByteArray).size ≤ maxLen:=by show F.toArray.size ≤ _;simp [maxLen];omega
 have hw:(Lit.int .u32 (V:Int)).wf = true:=by
  have h0:IntKind.u32.min = 0:=rfl
  have h1:IntKind.u32.max = 4294967295:=rfl
  simp only [Lit.wf,h0,h1]
  simp
  omega
 unfold keyOf
 rw [Tryz.underlying330]
 simp only [sel_type,hform,Bool.and_self,if_true,types_n]
 rw [show (471 + 1:Nat) = (471 - 1) + 2 from rfl]
 rw [show (Value.agg #[.string ⟨F.toArray⟩,.int .u32 V]).cells.toList = [.string ⟨F.toArray⟩,.int .u32 V] from rfl,sel_lits _ F V hs hw]
 rfl
end Go.Proofs.YtaepcfidpekflaaGreatDoor
namespace Go.Proofs.YtaepcfidpekflaaGreatDoor.Pg
open Go.Proofs.YtaepcfidpekflaaGreatDoor
def NumOk (d:T):Prop:=(∀ c ∈ d,Pn.isDig c = true) ∧ d ≠ [] ∧ d.length ≤ 9 ∧ (1 < d.length → d.head? ≠ some 48)
theorem val_cons (c:UInt8) (r:T):Pr.val (c :: r) = (c.toNat - 48) * 10 ^ r.length + Pr.val r:=by
 unfold Pr.val
 have gen:∀ (r:T) (a:Nat),r.foldl (fun v c=>10 * v + (c.toNat - 48)) a = a * 10 ^ r.length + r.foldl (fun v c=>10 * v + (c.toNat - 48)) 0:=by
  intro r
  induction r with
  | nil=>intro a;simp
  | cons x r ih=>
   intro a
   simp only [List.foldl_cons,List.length_cons]
   rw [ih,ih (10 * 0 + _),Nat.pow_succ]
   simp only [Nat.mul_zero,Nat.zero_add,Nat.add_mul]
   rw [Nat.mul_comm 10 a,Nat.mul_assoc,Nat.mul_comm 10 (10 ^ r.length)]
   omega
 simp only [List.foldl_cons]
 rw [gen]
 simp
theorem val_same:∀ (d e:T),d.length = e.length → (∀ c ∈ d,Pn.isDig c = true) → (∀ c ∈ e,Pn.isDig c = true) → Pr.val d = Pr.val e → d = e:=by
 intro d
 induction d with
 | nil=>intro e h _ _ _;exact (List.length_eq_zero_iff.1 h.symm).symm
 | cons c r ih=>
  intro e h hd he hv
  cases e with
  | nil=>simp at h
  | cons x s=>
   simp only [List.length_cons,Nat.add_right_cancel_iff] at h
   have h1:=val_lt' _ r rfl (fun c hc=>hd c (by simp [hc]))
   have h2:=val_lt' _ s rfl (fun c hc=>he c (by simp [hc]))
   rw [val_cons,val_cons,h] at hv
   rw [h] at h1
   have hc:=(Pn.isDig_iff c).1 (hd c (by simp))
   have hx:=(Pn.isDig_iff x).1 (he x (by simp))
   have hp:0 < 10 ^ s.length:=Nat.pow_pos (by omega)
   have hq:c.toNat - 48 = x.toNat - 48:=by
    have e1:((c.toNat - 48) * 10 ^ s.length + Pr.val r) / 10 ^ s.length = c.toNat - 48:=by
     rw [Nat.mul_comm,Nat.mul_add_div hp,Nat.div_eq_of_lt h1];simp
    have e2:((x.toNat - 48) * 10 ^ s.length + Pr.val s) / 10 ^ s.length = x.toNat - 48:=by
     rw [Nat.mul_comm,Nat.mul_add_div hp,Nat.div_eq_of_lt h2];simp
    rw [← e1,hv,e2]
   have hcx:c = x:=UInt8.toNat_inj.1 (by omega)
   rw [hq] at hv
   rw [hcx,ih s h (fun c hc=>hd c (by simp [hc])) (fun c hc=>he c (by simp [hc])) (by omega)]
theorem val_lead {d:T} (h:NumOk d) (h1:1 < d.length):10 ^ (d.length - 1) ≤ Pr.val d:=by
 cases d with
 | nil=>simp at h1
 | cons c r=>
  have hc:=(Pn.isDig_iff c).1 (h.1 c (by simp))
  have hn:c ≠ 48:=fun e=>h.2.2.2 h1 (by rw [e];rfl)
  have:49 ≤ c.toNat:=by
   have:c.toNat ≠ 48:=fun e=>hn (UInt8.toNat_inj.1 e)
   omega
  rw [val_cons]
  have:1 * 10 ^ r.length ≤ (c.toNat - 48) * 10 ^ r.length:=Nat.mul_le_mul_right _ (by omega)
  simp only [List.length_cons,Nat.add_sub_cancel]
  omega
theorem val_inj {d e:T} (hd:NumOk d) (he:NumOk e) (h:Pr.val d = Pr.val e):d = e:=by
 have key:∀ {d e:T},NumOk d → NumOk e → Pr.val d = Pr.val e → ¬ d.length < e.length:=by
  intro d e hd he h hlt
  have h0:0 < d.length:=List.length_pos_iff.2 hd.2.1
  have h1:=val_lt' _ d rfl hd.1
  have h2:=val_lead he (by omega)
  have h3:10 ^ d.length ≤ 10 ^ (e.length - 1):=Nat.pow_le_pow_right (by omega) (by omega)
  omega
 exact val_same d e (by have:=key hd he h;have:=key he hd h.symm;omega) hd.1 he.1 h
theorem val_small {d:T} (h:NumOk d):Pr.val d < 1000000000:=by
 have h1:=val_lt' _ d rfl h.1
 have h2:10 ^ d.length ≤ 10 ^ 9:=Nat.pow_le_pow_right (by omega) h.2.2.1
 omega
def SelOk (w:T):Prop:=(∃ d,w = 61 :: d ∧ NumOk d) ∨ (w.head? ≠ some 61 ∧ w ≠ [] ∧ w.length ≤ 16)
theorem selV_inj {a b:T} (ha:SelOk a) (hb:SelOk b) (h:selV a = selV b):a = b:=by
 rcases ha with ⟨d,rfl,hd⟩ | ⟨h1,h2,_⟩ <;> rcases hb with ⟨e,rfl,he⟩ | ⟨h3,h4,_⟩
 ·have:Pr.val d = Pr.val e:=congrArg Prod.snd h
  rw [val_inj hd he this]
 ·rw [selV_ne h3] at h
  exact absurd (congrArg Prod.fst h).symm h4
 ·rw [selV_ne h1] at h
  exact absurd (congrArg Prod.fst h) h2
 ·rw [selV_ne h1,selV_ne h3] at h
  exact congrArg Prod.fst h
theorem selV_bd {a:T} (ha:SelOk a):(selV a).1.length ≤ 16 ∧ (selV a).2 < 1000000000:=by
 rcases ha with ⟨d,rfl,hd⟩ | ⟨h1,h2,h3⟩
 ·exact ⟨by simp [selV],val_small hd⟩
 ·rw [selV_ne h1];exact ⟨h3,by simp⟩
def Vd:Tr → Prop
 | .nil=>True
 | .text _ r=>Vd r
 | .sign r=>Vd r
 | .simple n _ r=>n.length ≤ 16 ∧ Vd r
 | .num n _ r=>n.length ≤ 16 ∧ Vd r
 | .sel n _ bs _ r=>n.length ≤ 16 ∧ Vd bs ∧ Vd r
 | .plu n _ _ off bs _ r=>n.length ≤ 16 ∧ NumOk off ∧ Vd bs ∧ Vd r
 | .br w _ m r=>SelOk w ∧ Vd m ∧ Vd r
theorem Vd.app {t u:Tr} (h:Vd t) (h2:Vd u):Vd (t.app u):=by
 induction t with
 | nil=>exact h2
 | text _ r ih=>exact ih h
 | sign r ih=>exact ih h
 | simple _ _ r ih=>exact ⟨h.1,ih h.2⟩
 | num _ _ r ih=>exact ⟨h.1,ih h.2⟩
 | sel _ _ bs _ r _ ih=>exact ⟨h.1,h.2.1,ih h.2.2⟩
 | plu _ _ _ _ bs _ r _ ih=>exact ⟨h.1,h.2.1,h.2.2.1,ih h.2.2.2⟩
 | br _ _ m r _ ih=>exact ⟨h.1,h.2.1,ih h.2.2⟩
theorem nameR_ok {rs:List T} {p:Nat} {n:T} {q:Nat} (h:nameR rs p = .inr (n,q)):n.length ≤ 16 ∧ n ≠ [] ∧ n.head? ≠ some 61:=by
 have h1:=(nameR_inr h).1
 unfold nameR at h
 split at h
 ·cases h
 ·split at h
  ·cases h
  ·rename_i h0
   split at h
   ·cases h
   ·rename_i h16
    rw [h1]
    refine ⟨by rw [word_len];omega,fun e=>h0 (by rw [← word_len,e];rfl),word_61 rs p⟩
theorem valR_ok {rs:List T} {p:Nat} {n:T} {q:Nat} (h:valR rs p = .inr (n,q)):NumOk n:=by
 unfold valR at h
 split at h
 ·cases h
 ·rename_i h0
  split at h
  ·cases h
  ·rename_i h1
   split at h
   ·cases h
   ·rename_i h9
    injection h with h
    injection h with h _
    have hfl:(digs rs p).flatten.length = (digs rs p).length:=flat_len isDig_lt _
    subst h
    refine ⟨fun c hc=>?_,fun e=>h0 (by rw [← hfl,e];rfl),by omega,fun hl hh=>h1 ⟨by omega,?_⟩⟩
    ·obtain ⟨x,hx,hcx⟩:=List.mem_flatten.1 hc
     have:=List.all_eq_true.1 (List.all_takeWhile (l:=rs.drop p) (p:=one1 Pn.isDig)) x hx
     unfold one1 at this
     split at this
     ·rename_i b
      rw [List.mem_singleton] at hcx
      rw [hcx];exact this
     ·cases this
    ·obtain ⟨b,hb,hbd⟩:=at1_some (at_tw Pn.isDig p 0 (by show 0 < (digs rs p).length;omega))
     rw [Nat.add_zero] at hb
     have hd0:(digs rs p) = [b] :: (digs rs p).tail:=by
      unfold digs
      rw [drop_at hb,List.takeWhile_cons,show one1 Pn.isDig [b] = true from hbd]
      simp
     rw [hd0] at hh
     simp at hh
     rw [hb,hh]
theorem num48:NumOk [48]:=⟨by decide,by simp,by simp,by simp⟩
theorem offR_ok {rs:List T} {p:Nat} {n:T} {q:Nat} (h:offR rs p = .inr (n,q)):NumOk n:=by
 unfold offR at h
 split at h
 ·exact valR_ok h
 ·injection h with h
  injection h with h _
  rw [← h]
  exact num48
theorem selR_ok {num:Bool} {rs:List T} {p:Nat} {n:T} {q:Nat} (h:selR num rs p = .inr (n,q)):SelOk n:=by
 unfold selR at h
 split at h
 ·obtain ⟨h1,h2,h3⟩:=nameR_ok h
  exact .inr ⟨h3,h2,h1⟩
 ·split at h
  ·split at h
   ·cases h
   ·rename_i t q' hv
    injection h with h
    injection h with h _
    rw [← h]
    exact .inl ⟨_,rfl,valR_ok hv⟩
  ·split at h
   ·rename_i hc
    injection h with h
    injection h with h _
    rw [← h]
    obtain ⟨c1,c2,_⟩:=cat_len _ hc
    exact .inr ⟨word_61 rs p,fun e=>by rw [e] at c1;simp at c1,by omega⟩
   ·cases h
theorem vd_of {rs:List T} {m:Mode} {p:Nat} {res:Res} (h:Rd rs m p res):Vd (resT res):=by
 have pre:∀ {n:Tr} {res:Res},Vd n → Vd (resT res) → Vd (resT (res.pre n)):=by
  intro n res h1 h2
  cases res with
  | ok=>exact h1.app h2
  | okB=>exact h1.app h2
  | bad=>trivial
 have sel1:∀ {res:Res} {n:T} {p:Nat},n.length ≤ 16 → Vd (resT res) → Vd (resT (res.sel n p)):=by
  intro res n p h1 h2
  cases res with
  | ok=>exact h2
  | okB=>exact ⟨h1,h2,trivial⟩
  | bad=>trivial
 have plu1:∀ {res:Res} {n:T} {p:Nat} {ord:Bool} {off:T},n.length ≤ 16 → NumOk off → Vd (resT res) → Vd (resT (res.plu n p ord off)):=by
  intro res n p ord off h1 h3 h2
  cases res with
  | ok=>exact h2
  | okB=>exact ⟨h1,h3,h2,trivial⟩
  | bad=>trivial
 induction h with
 | argK _ _ _ ih1 ih2=>exact pre ih1 ih2
 | sign _ _ ih=>exact pre (n:=.sign .nil) trivial ih
 | said _ _ _ ih=>exact pre (n:=.text _ .nil) trivial ih
 | simple h _=>exact ⟨(nameR_ok h).1,trivial⟩
 | num h _ _ _ _ _=>exact ⟨(nameR_ok h).1,trivial⟩
 | sel h _ _ _ _ _ _ ih=>exact sel1 (nameR_ok h).1 ih
 | plu h _ _ _ _ _ ho _ ih=>exact plu1 (nameR_ok h).1 (offR_ok ho) ih
 | brs _ h1 _ _ _ _ _ ih1 ih2=>exact pre (n:=.br _ _ _ .nil) ⟨selR_ok h1,ih1,trivial⟩ ih2
 | _=>trivial
end Go.Proofs.YtaepcfidpekflaaGreatDoor.Pg
namespace Go.Proofs.YtaepcfidpekflaaGreatDoor
open Go.RowKit Go.Maps Pg
def kz (s:Nat):Int:=if s = 110 then 1 else 2
structure KM (D:DataW Unit) (P:List Dk.Mark):Prop where
 isMap:IsMap D
 has:∀ x:Pg.T,Maps.has D (.string x) = decide (Dk.firstK x P ≠ 0)
 val:∀ x:Pg.T,Dk.firstK x P ≠ 0 → ∀ z,D.atKey (.string x) z = .lit (.int .i64 (kz (Dk.firstK x P)))
theorem firstK_snoc (x:Pg.T) (P:List Dk.Mark) (m:Dk.Mark):Dk.firstK x (P ++ [m]) = if Dk.firstK x P ≠ 0 then Dk.firstK x P else if Dk.sortM m ≠ 0 ∧ m.name = x then Dk.sortM m else 0:=by
 induction P with
 | nil=>simp [Dk.firstK]
 | cons a P ih=>
  simp only [List.cons_append,Dk.firstK]
  by_cases h:Dk.sortM a ≠ 0 ∧ a.name = x
  ·simp only [if_pos h]
   rw [if_pos h.1]
  ·simp only [if_neg h]
   exact ih
theorem sort_cases (m:Dk.Mark):Dk.sortM m = 0 ∨ Dk.sortM m = 110 ∨ Dk.sortM m = 116:=by
 unfold Dk.sortM
 split
 ·exact .inr (.inl rfl)
 ·split
  ·exact .inr (.inr rfl)
  ·exact .inl rfl
theorem first_cases (x:Pg.T) (P:List Dk.Mark):Dk.firstK x P = 0 ∨ Dk.firstK x P = 110 ∨ Dk.firstK x P = 116:=by
 induction P with
 | nil=>exact .inl rfl
 | cons a P ih=>
  unfold Dk.firstK
  split
  ·exact sort_cases a
  ·exact ih
theorem KM.none {D:DataW Unit} {P:List Dk.Mark} (h:KM D P) (m:Dk.Mark) (hm:Dk.sortM m = 0):KM D (P ++ [m]):=by
 have e:∀ x,Dk.firstK x (P ++ [m]) = Dk.firstK x P:=fun x=>by
  rw [firstK_snoc,hm]
  simp
  exact fun h=>h.symm
 exact ⟨h.isMap,fun x=>by rw [e];exact h.has x,fun x hx z=>by rw [e] at hx ⊢;exact h.val x hx z⟩
theorem KM.put {D:DataW Unit} {P:List Dk.Mark} (h:KM D P) (m:Dk.Mark) (hm:Dk.sortM m ≠ 0) (hk:¬ kindBad P m):KM (D.put (.string m.name) (.lit (.int .i64 (kz (Dk.sortM m))))) (P ++ [m]):=by
 have hk':Dk.firstK m.name P = 0 ∨ Dk.firstK m.name P = Dk.sortM m:=by
  rw [kindBad_iff] at hk
  by_cases h0:Dk.firstK m.name P = 0
  ·exact .inl h0
  ·exact .inr (Classical.byContradiction fun h1=>hk ⟨h0,h1⟩)
 have key:WideAt.IsKeyLit (.string m.name):=trivial
 have e1:Dk.firstK m.name (P ++ [m]) = Dk.sortM m:=by
  rw [firstK_snoc]
  rcases hk' with h0 | h0
  ·rw [h0];simp [hm]
  ·rw [h0,if_pos hm]
 have e2:∀ x,x ≠ m.name → Dk.firstK x (P ++ [m]) = Dk.firstK x P:=fun x hx=>by
  rw [firstK_snoc]
  split
  ·rfl
  ·rename_i h0
   rw [if_neg (fun e=>hx e.2.symm)]
   simpa using (Classical.not_not.1 h0).symm
 refine ⟨h.isMap.put _ _,fun x=>?_,fun x hx z=>?_⟩
 ·by_cases hx:x = m.name
  ·subst hx
   rw [has_put_same h.isMap key,e1]
   simp [hm]
  ·rw [has_put_other (by simpa using hx),e2 x hx];exact h.has x
 ·by_cases hx2:x = m.name
  ·subst hx2
   rw [atKey_put_same h.isMap key,e1]
  ·rw [atKey_put_other (by simpa using hx2)]
   rw [e2 x hx2] at hx ⊢
   exact h.val x hx z
def Kmap (w:World) (M n:Nat) (P:List Dk.Mark):Prop:=∃ D:DataW Unit,w.ownsMap Tryz.prog 9 (plainElem Tryz.prog 362) M n D ∧ KM D P
def CkSaid (M n:Nat) (r:Option (Nat × Nat)) (Q:List Dk.Mark) (w:World) (e:Ending) (w':World):Prop:=Ag M w w' ∧ match r with
 | some (er,a)=>∃ v,e = .returned v ∧ Flt w.heap.size w' v er a
 | none=>e = .returned .nilIface ∧ ∃ n',n' ≤ n ∧ Kmap w' M n' Q
theorem Kmap.ag {w w':World} {M n g:Nat} {P:List Dk.Mark} (h:Kmap w M n P) (ha:Ag g w w') (hg:g ≠ M):Kmap w' M n P:=by
 obtain ⟨D,h1,h2⟩:=h
 exact ⟨D,h1.kept (row:=some g) ⟨ha.os,ha.tape,ha.output,ha.size,fun k hk hkP=>ha.block k hk (fun e=>hkP (by rw [e]))⟩ (by intro e;injection e with e;exact hg e.symm),h2⟩
theorem Kmap.keep {w w':World} {M n:Nat} {P:List Dk.Mark} (h:Kmap w M n P) (hb:Below w.heap.size w w'):Kmap w' M n P:=by
 obtain ⟨D,h1,h2⟩:=h
 exact ⟨D,h1.kept (row:=none) ⟨hb.os,hb.tape,hb.output,hb.size,fun k hk _=>hb.block k hk⟩ (by simp),h2⟩
theorem name_key (n:Pg.T) (h:n.length ≤ 16):keyOf Tryz.prog 9 (.string ⟨n.toArray⟩) = some (.string n):=by
 have:=WideMaps.keyOf_string_mk (P:=Tryz.prog) (k:=9) Tryz.underlying9 (s:=⟨n.toArray⟩) (by show n.toArray.size ≤ _;simp [maxLen];omega)
 simpa using this
theorem kz_ne {f s:Nat} (hf:f = 0 ∨ f = 110 ∨ f = 116) (hs:s = 0 ∨ s = 110 ∨ s = 116) (h1:f ≠ 0) (h2:s ≠ 0) (h:f ≠ s):kz f ≠ kz s:=by
 rcases hf with rfl | rfl | rfl
 ·exact absurd rfl h1
 ·rcases hs with rfl | rfl | rfl
  ·exact absurd rfl h2
  ·exact absurd rfl h
  ·decide
 ·rcases hs with rfl | rfl | rfl
  ·exact absurd rfl h2
  ·decide
  ·exact absurd rfl h
theorem kz_wf (s:Nat):(Lit.int .i64 (kz s)).wf = true:=by
 unfold kz
 split <;> decide
set_option maxHeartbeats 3200000 in
set_option maxRecDepth 100000 in
theorem puse_any (M n a:Nat) (w:World) (P:List Dk.Mark) (m:Dk.Mark) (hm:Dk.sortM m ≠ 0) (hl:m.name.length ≤ 16) (hn:n < 1000000) (hK:Kmap w M n P):
  Calls Tryz.prog 223 #[.agg #[.map (some M)],.agg #[.string ⟨m.name.toArray⟩,.int .i64 a],.int .i64 (kz (Dk.sortM m))] w fun e w'=>CkSaid M (n + 1) (if kindBad P m then some (5,a) else none) (P ++ [m]) w e w':=by
 obtain ⟨R, HR⟩ : ∃ R : Option (Nat × Nat), Hid ((if kindBad P m then some (5, a) else none) = R) := ⟨_, rfl⟩
 rw [HR.out]
 have hb0:Below w.heap.size w ((w.alloc (.cells #[.map (some M)] 280)).alloc (.cells #[.string ⟨m.name.toArray⟩,.int .i64 a] 189)):=(allocB _ _).alloc (by simp) _
 have hkey:=name_key m.name hl
 have law:Keyed Tryz.prog 9:=string_keyed Tryz.underlying9
 obtain ⟨D,hD,hKM⟩:=hK.keep hb0
 have HZK:Hid (∀ W,(zeroValue 362).run Tryz.prog W = .ok (.int .i64 0) W):=Tryz.zeroValue362
 have HKM:Hid (KM D P):=hKM
 have HKEY:Hid (keyOf Tryz.prog 9 (.string ⟨m.name.toArray⟩) = some (.string m.name)):=hkey
 have HD:Hid (((w.alloc (.cells #[.map (some M)] 280)).alloc (.cells #[.string ⟨m.name.toArray⟩,.int .i64 a] 189)).ownsMap Tryz.prog 9 (plainElem Tryz.prog 362) M n D):=hD
 clear hK hD hKM hkey
 go_enter Tryz.func223,Tryz.ntmps223
 obtain ⟨S,HS⟩:∃ S,Hid (kz (Dk.sortM m) = S):=⟨_,rfl⟩
 have HWF:Hid ((Lit.int .i64 S).wf = true):=by show _ = _;rw [← HS.out];exact kz_wf _
 rw [HS.out]
 by_cases hf:Dk.firstK m.name P = 0
 ·have hasE:Hid (Maps.has D (.string m.name) = false):=by show _ = _;rw [HKM.out.has,hf];rfl
  have HNB:Hid (¬ kindBad P m) := fun h => (kindBad_iff.1 h).1 hf
  clear hf
  go_wp2_with (first | (at_lookup;refine wpList_lookup_own_ok_int _ rfl _ _ 278 rfl 9 362 .i64 law Tryz.underlying278 Tryz.underlying362 (HZK.out _) M n D rfl HD.out _ _ rfl HKEY.out ?_;intro c hat hwc;rw [hasE.out]) | (at_mapUpdate;refine wpList_mapUpdate_own _ rfl _ _ _ 278 rfl 9 362 law Tryz.underlying278 (plainElem (H:=Unit) Tryz.prog 362) M n D rfl HD.out (by unfold maxLen;omega) _ _ _ rfl rfl HKEY.out (.lit (.int .i64 S)) [] (plainElem_int Tryz.underlying362 HWF.out) ?_;intro w3 hmap3 hgrow3))
  go_ret
  have hag:Ag M w w3:=((Ag.of hb0 (Nat.le_refl _)).trans ⟨hgrow3.os,hgrow3.tape,hgrow3.output,hgrow3.size,fun k hk hk2=>hgrow3.block k hk (fun e=>hk2 (by injection e))⟩)
  refine ⟨hag,?_⟩
  rw [← HR.out, if_neg HNB.out]
  exact ⟨rfl,n + 1,Nat.le_refl _,_,hmap3,by rw [← HS.out];exact HKM.out.put m hm HNB.out⟩
 ·have hasE:Hid (Maps.has D (.string m.name) = true):=by show _ = _;rw [HKM.out.has];simp [hf]
  have HVAL:Hid (∀ z,D.atKey (.string m.name) z = .lit (.int .i64 (kz (Dk.firstK m.name P)))):=HKM.out.val m.name hf
  by_cases hs:Dk.firstK m.name P = Dk.sortM m
  ·have HNB:Hid (¬ kindBad P m) := fun h => (kindBad_iff.1 h).2 hs
   rw [hs,HS.out] at HVAL
   clear hf hs
   go_wp2_with (first | (at_lookup;refine wpList_lookup_own_ok_int _ rfl _ _ 278 rfl 9 362 .i64 law Tryz.underlying278 Tryz.underlying362 (HZK.out _) M n D rfl HD.out _ _ rfl HKEY.out ?_;intro c hat hwc;rw [hasE.out];rw [HVAL.out] at hat;injection hat with hat;injection hat with _ hat;subst hat) | (at_mapUpdate;refine wpList_mapUpdate_own _ rfl _ _ _ 278 rfl 9 362 law Tryz.underlying278 (plainElem (H:=Unit) Tryz.prog 362) M n D rfl HD.out (by unfold maxLen;omega) _ _ _ rfl rfl HKEY.out (.lit (.int .i64 S)) [] (plainElem_int Tryz.underlying362 HWF.out) ?_;intro w3 hmap3 hgrow3))
   go_ret
   have hag:Ag M w w3:=((Ag.of hb0 (Nat.le_refl _)).trans ⟨hgrow3.os,hgrow3.tape,hgrow3.output,hgrow3.size,fun k hk hk2=>hgrow3.block k hk (fun e=>hk2 (by injection e))⟩)
   refine ⟨hag,?_⟩
   rw [← HR.out, if_neg HNB.out]
   exact ⟨rfl,n + 1,Nat.le_refl _,_,hmap3,by rw [← HS.out];exact HKM.out.put m hm HNB.out⟩
  ·have HB:Hid (kindBad P m) := kindBad_iff.2 ⟨hf, hs⟩
   have hne:(kz (Dk.firstK m.name P) == S) = false:=by
    rw [beq_eq_false_iff_ne,← HS.out]
    exact kz_ne (first_cases m.name P) (sort_cases m) hf hm hs
   obtain ⟨C,HCC⟩:∃ C,Hid (kz (Dk.firstK m.name P) = C):=⟨_,rfl⟩
   rw [HCC.out] at HVAL hne
   have kf:=fun W=>pfault_any W 5 a
   clear hf hs
   go_wp2_with (first | (at_lookup;refine wpList_lookup_own_ok_int _ rfl _ _ 278 rfl 9 362 .i64 law Tryz.underlying278 Tryz.underlying362 (HZK.out _) M n D rfl HD.out _ _ rfl HKEY.out ?_;intro c hat hwc;rw [hasE.out];rw [HVAL.out] at hat;injection hat with hat;injection hat with _ hat;subst hat) | (go_at_call 158;refine (kf _).mono ?_;rintro e w4 ⟨⟨v,rfl,hv⟩,hb4⟩))
   go_ret
   refine ⟨Ag.of (below_of hb0 hb4) (Nat.le_refl _),?_⟩
   rw [← HR.out, if_pos HB.out]
   exact ⟨v,rfl,hv.mono (by simp;omega)⟩
end Go.Proofs.YtaepcfidpekflaaGreatDoor
namespace Go.Proofs.YtaepcfidpekflaaGreatDoor.Pg
open Go.Proofs.YtaepcfidpekflaaGreatDoor
def hd:Tr → Tr
 | .nil=>.nil
 | .text t _=>.text t .nil
 | .sign _=>.sign .nil
 | .simple n a _=>.simple n a .nil
 | .num n a _=>.num n a .nil
 | .sel n a bs e _=>.sel n a bs e .nil
 | .plu n a ord off bs e _=>.plu n a ord off bs e .nil
 | .br w a m _=>.br w a m .nil
def tl:Tr → Tr
 | .nil=>.nil
 | .text _ r=>r
 | .sign r=>r
 | .simple _ _ r=>r
 | .num _ _ r=>r
 | .sel _ _ _ _ r=>r
 | .plu _ _ _ _ _ _ r=>r
 | .br _ _ _ r=>r
theorem hd_tl (t:Tr):(hd t).app (tl t) = t:=by cases t <;> rfl
theorem flat_hd (o:Nat → Nat) (t:Tr):flat o t = flat o (hd t) ++ flat o (tl t):=by rw [← flat_app,hd_tl]
theorem vd_hd {t:Tr} (h:Vd t):Vd (hd t) ∧ Vd (tl t):=by
 cases t with
 | nil=>exact ⟨trivial,trivial⟩
 | text=>exact ⟨trivial,h⟩
 | sign=>exact ⟨trivial,h⟩
 | simple=>exact ⟨⟨h.1,trivial⟩,h.2⟩
 | num=>exact ⟨⟨h.1,trivial⟩,h.2⟩
 | sel=>exact ⟨⟨h.1,h.2.1,trivial⟩,h.2.2⟩
 | plu=>exact ⟨⟨h.1,h.2.1,h.2.2.1,trivial⟩,h.2.2.2⟩
 | br=>exact ⟨⟨h.1,h.2.1,trivial⟩,h.2.2⟩
theorem wf_hd {k:Bool} {t:Tr} (h:Wf k t):Wf k (hd t) ∧ Wf k (tl t):=by
 cases t with
 | nil=>exact ⟨trivial,trivial⟩
 | text=>exact ⟨⟨h.1,trivial⟩,by rw [h.1];exact h.2⟩
 | sign=>exact ⟨⟨h.1,trivial⟩,by rw [h.1];exact h.2⟩
 | simple=>exact ⟨⟨h.1,trivial⟩,by rw [h.1];exact h.2⟩
 | num=>exact ⟨⟨h.1,trivial⟩,by rw [h.1];exact h.2⟩
 | sel=>exact ⟨⟨h.1,h.2.1,trivial⟩,by rw [h.1];exact h.2.2⟩
 | plu=>exact ⟨⟨h.1,h.2.1,trivial⟩,by rw [h.1];exact h.2.2⟩
 | br=>exact ⟨⟨h.1,h.2.1,trivial⟩,by rw [h.1];exact h.2.2⟩
theorem ck_hd (o:Nat → Nat) (P:List Dk.Mark) {t:Tr} (h:Wf false t) (hn:t ≠ .nil):ck o P [] t = match ck o P [] (hd t) with | some f=>some f | none=>ck o (P ++ flat o (hd t)) [] (tl t):=by
 cases t with
 | nil=>exact absurd rfl hn
 | text=>simp [ck,hd,tl,flat]
 | sign=>simp [ck,hd,tl,flat]
 | simple=>simp [ck,hd,tl,flat]
 | num n a r=>
  simp only [ck,hd,tl,flat]
  have e:nodeM o (.num n a .nil) = nodeM o (.num n a r):=rfl
  rw [e]
  split <;> simp [nodeM]
 | sel n a bs e r=>
  simp only [ck,hd,tl,flat]
  have e1:nodeM o (.sel n a bs e .nil) = nodeM o (.sel n a bs e r):=rfl
  rw [e1]
  split
  ·rfl
  ·split
   ·rfl
   ·split <;> rfl
 | plu n a ord off bs e r=>
  simp only [ck,hd,tl,flat]
  have e1:nodeM o (.plu n a ord off bs e .nil) = nodeM o (.plu n a ord off bs e r):=rfl
  rw [e1]
  split
  ·rfl
  ·split
   ·rfl
   ·split <;> rfl
 | br=>exact absurd h.1 (by simp)
end Go.Proofs.YtaepcfidpekflaaGreatDoor.Pg
namespace Go.Proofs.YtaepcfidpekflaaGreatDoor
open Go.RowKit Go.Maps Pg
theorem lay_hd {w:World} {S:Nat → Prop} {t:Pg.Tr} {u:Value} {us:List Value} (h:Lay w S t (u :: us)) (hw:Wf false t):t ≠ .nil ∧ Lay w S (hd t) [u] ∧ Lay w S (tl t) us:=by
 cases h with
 | text h=>exact ⟨by simp,.text .nil,h⟩
 | sign h=>exact ⟨by simp,.sign .nil,h⟩
 | simple h=>exact ⟨by simp,.simple .nil,h⟩
 | num h=>exact ⟨by simp,.num .nil,h⟩
 | sel hs hb h=>exact ⟨by simp,.sel hs hb .nil,h⟩
 | plu hs hb h=>exact ⟨by simp,.plu hs hb .nil,h⟩
 | br=>exact absurd hw.1 (by simp)
theorem lay_end {w:World} {S:Nat → Prop} {t:Pg.Tr} (h:Lay w S t []):t = .nil:=by cases h;rfl
def nM (t:Pg.Tr):Nat:=(flat id t).length
def CkBrs (bs:Pg.Tr):Prop:=∀ M n w v e P,Vd bs → Wf true bs → n + nM bs ≤ 1000000 → Kmap w M n P → M < w.heap.size → RowAt w (fun g=>g ≠ M) 4 v bs →
 Calls Tryz.prog 224 #[.agg #[.map (some M)],.agg #[v,.int .i64 (e:Nat)]] w fun en w'=>CkSaid M (n + nM bs) (match ck id P [] bs with | some f=>some f | none=>if Dk.otherW ∈ keys bs then none else some (6,e)) (P ++ flat id bs) w en w'
def CkMsg (t:Pg.Tr):Prop:=∀ M n w v P,Vd t → Wf false t → n + nM t ≤ 1000000 → Kmap w M n P → M < w.heap.size → RowAt w (fun g=>g ≠ M) 1 v t →
 Calls Tryz.prog 162 #[.agg #[.map (some M)],v] w fun en w'=>CkSaid M (n + nM t) (ck id P [] t) (P ++ flat id t) w en w'
def CkNode (x:Pg.Tr):Prop:=∀ M n w u P,Vd x → Wf false x → n + nM x ≤ 1000000 → Kmap w M n P → M < w.heap.size → Lay w (fun g=>g ≠ M) x [u] →
 Calls Tryz.prog 195 #[.agg #[.map (some M)],u] w fun en w'=>CkSaid M (n + nM x) (ck id P [] x) (P ++ flat id x) w en w'
theorem ta_same {t xT:TypeId} {fs:Array Field} (hu:Tryz.prog.underlying t = some (.struct fs)) (v:Value) (w:World):(Instr.typeAssert (.iface t v) xT t true).run Tryz.prog w = .ok (.tuple #[v,.bool true]) w:=by
 simp [Instr.typeAssert,run_underlying hu]
theorem ta_other {t a xT:TypeId} {fs:Array Field} {z:Value} (hu:Tryz.prog.underlying a = some (.struct fs)) (hne:t ≠ a) (hz:∀ w,(zeroValue a).run Tryz.prog w = .ok z w) (v:Value) (w:World):(Instr.typeAssert (.iface t v) xT a true).run Tryz.prog w = .ok (.tuple #[z,.bool false]) w:=by
 simp [Instr.typeAssert,run_underlying hu,hne,hz]
theorem ta_num (t:TypeId) (h:t ≠ 291) (v:Value) (w:World):(Instr.typeAssert (.iface t v) 283 291 true).run Tryz.prog w = .ok (.tuple #[.agg #[.string ⟨#[]⟩,.int .i64 0],.bool false]) w:=ta_other Tryz.underlying291 h Tryz.zeroValue291 v w
theorem ta_sel (t:TypeId) (h:t ≠ 296) (v:Value) (w:World):(Instr.typeAssert (.iface t v) 283 296 true).run Tryz.prog w = .ok (.tuple #[.agg #[.string ⟨#[]⟩,.int .i64 0,.slice none 0 0,.int .i64 0],.bool false]) w:=ta_other Tryz.underlying296 h Tryz.zeroValue296 v w
theorem ta_plu (t:TypeId) (h:t ≠ 299) (v:Value) (w:World):(Instr.typeAssert (.iface t v) 283 299 true).run Tryz.prog w = .ok (.tuple #[.agg #[.string ⟨#[]⟩,.int .i64 0,.bool false,.int .u32 0,.slice none 0 0,.int .i64 0],.bool false]) w:=ta_other Tryz.underlying299 h Tryz.zeroValue299 v w
theorem ta_num1 (v:Value) (w:World):(Instr.typeAssert (.iface 291 v) 283 291 true).run Tryz.prog w = .ok (.tuple #[v,.bool true]) w:=ta_same Tryz.underlying291 v w
theorem ta_sel1 (v:Value) (w:World):(Instr.typeAssert (.iface 296 v) 283 296 true).run Tryz.prog w = .ok (.tuple #[v,.bool true]) w:=ta_same Tryz.underlying296 v w
theorem ta_plu1 (v:Value) (w:World):(Instr.typeAssert (.iface 299 v) 283 299 true).run Tryz.prog w = .ok (.tuple #[v,.bool true]) w:=ta_same Tryz.underlying299 v w
set_option maxHeartbeats 3200000 in
set_option maxRecDepth 100000 in
theorem pnode_plain (T:TypeId) (cs:Array Value) (hT:T = 285 ∨ T = 287 ∨ T = 290) (M:Nat) (w:World):
  Calls Tryz.prog 195 #[.agg #[.map (some M)],.iface T (.agg cs)] w fun en w'=>en = .returned .nilIface ∧ Below w.heap.size w w':=by
 have hb:=allocB w (.cells #[.map (some M)] 280)
 have e1:T ≠ 291:=by rcases hT with rfl | rfl | rfl <;> decide
 have e2:T ≠ 296:=by rcases hT with rfl | rfl | rfl <;> decide
 have e3:T ≠ 299:=by rcases hT with rfl | rfl | rfl <;> decide
 have t1:=ta_num T e1
 have t2:=ta_sel T e2
 have t3:=ta_plu T e3
 clear hT e1 e2 e3
 go_enter Tryz.func195,Tryz.ntmps195
 go_wp2
 go_ret
 exact ⟨rfl,hb⟩
end Go.Proofs.YtaepcfidpekflaaGreatDoor
namespace Go.Proofs.YtaepcfidpekflaaGreatDoor
open Go.RowKit Go.Maps Pg
theorem CkSaid.tail {M n n':Nat} {r:Option (Nat × Nat)} {Q:List Dk.Mark} {w w1 w':World} {e:Ending} (h:CkSaid M n' r Q w1 e w') (ha:Ag M w w1) (hn:n' ≤ n):CkSaid M n r Q w e w':=by
 obtain ⟨h1,h2⟩:=h
 refine ⟨ha.trans h1,?_⟩
 cases r with
 | none=>
  obtain ⟨h3,k,hk,h4⟩:=h2
  exact ⟨h3,k,by omega,h4⟩
 | some x=>
  obtain ⟨er,a⟩:=x
  obtain ⟨v,h3,h4⟩:=h2
  exact ⟨v,h3,h4.mono ha.size⟩
theorem CkSaid.ret {M n:Nat} {r:Option (Nat × Nat)} {Q:List Dk.Mark} {w w':World} {e:Ending} (h:CkSaid M n r Q w e w'):∃ v,e = .returned v:=by
 obtain ⟨_,h2⟩:=h
 cases r with
 | none=>exact ⟨_,h2.1⟩
 | some x=>
  obtain ⟨er,a⟩:=x
  obtain ⟨v,h3,_⟩:=h2
  exact ⟨v,h3⟩
set_option maxHeartbeats 3200000 in
set_option maxRecDepth 100000 in
theorem pnode_num (M n a:Nat) (nm:Pg.T) (w:World) (P:List Dk.Mark) (hl:nm.length ≤ 16) (hn:n < 1000000) (hK:Kmap w M n P):
  Calls Tryz.prog 195 #[.agg #[.map (some M)],.iface 291 (.agg #[.string ⟨nm.toArray⟩,.int .i64 a])] w fun en w'=>CkSaid M (n + 1) (if kindBad P (nodeM id (.num nm a .nil)) then some (5,a) else none) (P ++ [nodeM id (.num nm a .nil)]) w en w':=by
 have ku:=fun W (hW:Below w.heap.size w W)=>puse_any M n a W P (nodeM id (.num nm a .nil)) (by show (110:Nat) ≠ 0;decide) hl hn (hK.keep hW)
 rw [show kz (Dk.sortM (nodeM id (.num nm a .nil))) = 1 from rfl,show (nodeM id (.num nm a .nil)).name = nm from rfl] at ku
 generalize (if kindBad P (nodeM id (.num nm a .nil)) then some (5,a) else none) = R at *
 have t1:=ta_num1
 have hb1:Below w.heap.size w ((w.alloc (.cells #[.map (some M)] 280)).alloc (.cells #[.string ⟨nm.toArray⟩,.int .i64 a] 291)):=(allocB _ _).alloc (by simp) _
 have k1:=ku _ hb1
 clear ku
 go_enter Tryz.func195,Tryz.ntmps195
 go_wp2_with fail
 refine k1.mono ?_
 intro e w2 hs
 have HS:Hid (CkSaid M (n + 1) R (P ++ [nodeM id (.num nm a .nil)]) _ e w2):=hs
 obtain ⟨v,rfl⟩:=hs.ret
 clear hs k1
 go_wp2
 go_ret
 exact HS.out.tail (Ag.of hb1 (Nat.le_refl _)) (Nat.le_refl _)
theorem sort_sel (n:Pg.T) (a:Nat) (bs:Pg.Tr) (e:Nat) (r:Pg.Tr):Dk.sortM (nodeM id (.sel n a bs e r)) = 116:=by
 unfold Dk.sortM nodeM
 simp
theorem sort_plu (n:Pg.T) (a:Nat) (ord:Bool) (off:Pg.T) (bs:Pg.Tr) (e:Nat) (r:Pg.Tr):Dk.sortM (nodeM id (.plu n a ord off bs e r)) = 110:=by
 unfold Dk.sortM nodeM
 rw [if_pos]
 right
 exact ⟨rfl,by cases ord <;> simp [ordinalW,pluralW,selectW]⟩
theorem CkSaid.close {M n:Nat} {r:Option (Nat × Nat)} {Q:List Dk.Mark} {w w':World} {e:Ending} (h:CkSaid M n r Q w e w') (m:Dk.Mark) (hm:Dk.sortM m = 0):CkSaid M (n + 1) r (Q ++ [m]) w e w':=by
 obtain ⟨h1,h2⟩:=h
 refine ⟨h1,?_⟩
 cases r with
 | none=>
  obtain ⟨h3,k,hk,D,h4,h5⟩:=h2
  exact ⟨h3,k,by omega,D,h4,h5.none m hm⟩
 | some x=>exact h2
set_option maxHeartbeats 6400000 in
set_option maxRecDepth 100000 in
theorem pnode_sel (M n a e0:Nat) (nm:Pg.T) (bs:Pg.Tr) (v:Value) (w:World) (P:List Dk.Mark) (hB:CkBrs bs) (hl:nm.length ≤ 16) (hvd:Vd bs) (hwf:Wf true bs) (hn:n + 1 + nM bs ≤ 1000000) (hK:Kmap w M n P) (hMw:M < w.heap.size) (hrow:RowAt w (fun g=>g ≠ M) 4 v bs):
  Calls Tryz.prog 195 #[.agg #[.map (some M)],.iface 296 (.agg #[.string ⟨nm.toArray⟩,.int .i64 a,v,.int .i64 e0])] w fun en w'=>CkSaid M (n + 1 + nM bs + 1) (ck id P [] (.sel nm a bs e0 .nil)) (P ++ flat id (.sel nm a bs e0 .nil)) w en w':=by
 have hs116:=sort_sel nm a bs e0 .nil
 have ku:=fun W (hW:Below w.heap.size w W)=>puse_any M n a W P (nodeM id (.sel nm a bs e0 .nil)) (by rw [hs116];decide) hl (by omega) (hK.keep hW)
 rw [hs116,show kz 116 = 2 from rfl,show (nodeM id (.sel nm a bs e0 .nil)).name = nm from rfl] at ku
 have hfl:P ++ flat id (.sel nm a bs e0 .nil) = ((P ++ [nodeM id (.sel nm a bs e0 .nil)]) ++ flat id bs) ++ [{ kind:=41,at_:=e0 }]:=by simp [flat,nodeM]
 rw [hfl]
 have HCK:Hid (ck id P [] (.sel nm a bs e0 .nil) = if kindBad P (nodeM id (.sel nm a bs e0 .nil)) then some (5,a) else match ck id (P ++ [nodeM id (.sel nm a bs e0 .nil)]) [] bs with | some f=>some f | none=>if Dk.otherW ∈ keys bs then none else some (6,e0)):=by
  show _ = _
  simp only [ck]
  rfl
 generalize ck id P [] (.sel nm a bs e0 .nil) = R at *
 have t0:=ta_num 296 (by decide)
 have t1:=ta_sel1
 obtain ⟨va,vn,vc,rfl⟩:∃ va vn vc,v = .slice va vn vc:=by
  obtain ⟨us,h1,_⟩:=hrow
  rcases h1 with ⟨_,h1⟩ | ⟨g,n,c,h1,_⟩
  ·exact ⟨_,_,_,h1⟩
  ·exact ⟨_,_,_,h1⟩
 have hb1:Below w.heap.size w ((w.alloc (.cells #[.map (some M)] 280)).alloc (.cells #[.string ⟨nm.toArray⟩,.int .i64 a,.slice va vn vc,.int .i64 e0] 296)):=(allocB _ _).alloc (by simp) _
 have rc:Row ((w.alloc (.cells #[.map (some M)] 280)).alloc (.cells #[.string ⟨nm.toArray⟩,.int .i64 a,.slice va vn vc,.int .i64 e0] 296)) w.heap.size #[.map (some M)]:=(row_at w _ _).alloc _
 have rn:Row ((w.alloc (.cells #[.map (some M)] 280)).alloc (.cells #[.string ⟨nm.toArray⟩,.int .i64 a,.slice va vn vc,.int .i64 e0] 296)) (w.heap.size + 1) #[.string ⟨nm.toArray⟩,.int .i64 a,.slice va vn vc,.int .i64 e0]:=by
  have:=row_at (w.alloc (.cells #[.map (some M)] 280)) #[.string ⟨nm.toArray⟩,.int .i64 a,.slice va vn vc,.int .i64 e0] 296
  rw [World.size_alloc] at this
  exact this
 have k1:=ku _ hb1
 have hz1:((w.alloc (.cells #[.map (some M)] 280)).alloc (.cells #[.string ⟨nm.toArray⟩,.int .i64 a,.slice va vn vc,.int .i64 e0] 296)).heap.size = w.heap.size + 2:=by simp
 have hrow1:=hrow.keep hb1
 clear ku hrow
 go_enter Tryz.func195,Tryz.ntmps195
 go_wp2_with fail
 refine k1.mono ?_
 rintro e w2 ⟨ha,hm⟩
 have ha1:Ag M w w2:=(Ag.of hb1 (Nat.le_refl _)).trans ha
 have hz2:=ha.size
 clear k1
 by_cases hkb:kindBad P (nodeM id (.sel nm a bs e0 .nil))
 ·rw [if_pos hkb] at hm HCK
  obtain ⟨u,rfl,hu⟩:=hm
  have HU:Hid (Flt (w.heap.size + 2) w2 u 5 a):=by rw [hz1] at hu;exact hu
  obtain ⟨b,rfl,_⟩:=hu
  clear hkb
  go_wp2
  go_ret
  refine ⟨ha1,?_⟩
  rw [HCK.out]
  exact ⟨_,rfl,HU.out.mono (by omega)⟩
 ·rw [if_neg hkb] at hm HCK
  obtain ⟨rfl,n2,hn2,hK2⟩:=hm
  have HRC:Hid (Row w2 w.heap.size #[.map (some M)]):=rc.ag ha (by omega)
  have HRN:Hid (Row w2 (w.heap.size + 1) #[.string ⟨nm.toArray⟩,.int .i64 a,.slice va vn vc,.int .i64 e0]):=rn.ag ha (by omega)
  have kb:=hB M n2 w2 (.slice va vn vc) e0 (P ++ [nodeM id (.sel nm a bs e0 .nil)]) hvd hwf (by omega) hK2 (by omega) (hrow1.ag ha (fun g hg=>hg))
  have qc:=HRC.out.2.1
  have qn:=HRN.out.2.1
  clear hkb rc rn hK2 hrow1
  go_wp2_with fail
  refine kb.mono ?_
  intro e w3 hs
  have HS:Hid (CkSaid M (n2 + nM bs) (match ck id (P ++ [nodeM id (.sel nm a bs e0 .nil)]) [] bs with | some f=>some f | none=>if Dk.otherW ∈ keys bs then none else some (6,e0)) ((P ++ [nodeM id (.sel nm a bs e0 .nil)]) ++ flat id bs) w2 e w3):=hs
  obtain ⟨u,rfl⟩:=hs.ret
  clear hs kb
  go_wp2
  go_ret
  rw [HCK.out]
  exact (HS.out.close _ (by rfl)).tail ha1 (by omega)
set_option maxHeartbeats 6400000 in
set_option maxRecDepth 100000 in
theorem pnode_plu (M n a e0:Nat) (nm:Pg.T) (ord:Bool) (off:Pg.T) (bs:Pg.Tr) (v:Value) (w:World) (P:List Dk.Mark) (hB:CkBrs bs) (hl:nm.length ≤ 16) (hvd:Vd bs) (hwf:Wf true bs) (hn:n + 1 + nM bs ≤ 1000000) (hK:Kmap w M n P) (hMw:M < w.heap.size) (hrow:RowAt w (fun g=>g ≠ M) 4 v bs):
  Calls Tryz.prog 195 #[.agg #[.map (some M)],.iface 299 (.agg #[.string ⟨nm.toArray⟩,.int .i64 a,.bool ord,.int .u32 (Pr.val off:Nat),v,.int .i64 e0])] w fun en w'=>CkSaid M (n + 1 + nM bs + 1) (ck id P [] (.plu nm a ord off bs e0 .nil)) (P ++ flat id (.plu nm a ord off bs e0 .nil)) w en w':=by
 have hs110:=sort_plu nm a ord off bs e0 .nil
 have ku:=fun W (hW:Below w.heap.size w W)=>puse_any M n a W P (nodeM id (.plu nm a ord off bs e0 .nil)) (by rw [hs110];decide) hl (by omega) (hK.keep hW)
 rw [hs110,show kz 110 = 1 from rfl,show (nodeM id (.plu nm a ord off bs e0 .nil)).name = nm from rfl] at ku
 have hfl:P ++ flat id (.plu nm a ord off bs e0 .nil) = ((P ++ [nodeM id (.plu nm a ord off bs e0 .nil)]) ++ flat id bs) ++ [{ kind:=41,at_:=e0 }]:=by simp [flat,nodeM]
 rw [hfl]
 have HCK:Hid (ck id P [] (.plu nm a ord off bs e0 .nil) = if kindBad P (nodeM id (.plu nm a ord off bs e0 .nil)) then some (5,a) else match ck id (P ++ [nodeM id (.plu nm a ord off bs e0 .nil)]) [] bs with | some f=>some f | none=>if Dk.otherW ∈ keys bs then none else some (6,e0)):=by
  show _ = _
  simp only [ck]
  rfl
 generalize ck id P [] (.plu nm a ord off bs e0 .nil) = R at *
 have t0:=ta_num 299 (by decide)
 have t2:=ta_sel 299 (by decide)
 have t1:=ta_plu1
 obtain ⟨OV,hOV⟩:∃ OV:Nat,Hid (Pr.val off = OV):=⟨_,rfl⟩
 rw [hOV.out]
 obtain ⟨va,vn,vc,rfl⟩:∃ va vn vc,v = .slice va vn vc:=by
  obtain ⟨us,h1,_⟩:=hrow
  rcases h1 with ⟨_,h1⟩ | ⟨g,n,c,h1,_⟩
  ·exact ⟨_,_,_,h1⟩
  ·exact ⟨_,_,_,h1⟩
 have hb1:Below w.heap.size w ((w.alloc (.cells #[.map (some M)] 280)).alloc (.cells #[.string ⟨nm.toArray⟩,.int .i64 a,.bool ord,.int .u32 OV,.slice va vn vc,.int .i64 e0] 299)):=(allocB _ _).alloc (by simp) _
 have rc:Row ((w.alloc (.cells #[.map (some M)] 280)).alloc (.cells #[.string ⟨nm.toArray⟩,.int .i64 a,.bool ord,.int .u32 OV,.slice va vn vc,.int .i64 e0] 299)) w.heap.size #[.map (some M)]:=(row_at w _ _).alloc _
 have rn:Row ((w.alloc (.cells #[.map (some M)] 280)).alloc (.cells #[.string ⟨nm.toArray⟩,.int .i64 a,.bool ord,.int .u32 OV,.slice va vn vc,.int .i64 e0] 299)) (w.heap.size + 1) #[.string ⟨nm.toArray⟩,.int .i64 a,.bool ord,.int .u32 OV,.slice va vn vc,.int .i64 e0]:=by
  have:=row_at (w.alloc (.cells #[.map (some M)] 280)) #[.string ⟨nm.toArray⟩,.int .i64 a,.bool ord,.int .u32 OV,.slice va vn vc,.int .i64 e0] 299
  rw [World.size_alloc] at this
  exact this
 have k1:=ku _ hb1
 have hz1:((w.alloc (.cells #[.map (some M)] 280)).alloc (.cells #[.string ⟨nm.toArray⟩,.int .i64 a,.bool ord,.int .u32 OV,.slice va vn vc,.int .i64 e0] 299)).heap.size = w.heap.size + 2:=by simp
 have hrow1:=hrow.keep hb1
 clear ku hrow
 go_enter Tryz.func195,Tryz.ntmps195
 go_wp2_with fail
 refine k1.mono ?_
 rintro e w2 ⟨ha,hm⟩
 have ha1:Ag M w w2:=(Ag.of hb1 (Nat.le_refl _)).trans ha
 have hz2:=ha.size
 clear k1
 by_cases hkb:kindBad P (nodeM id (.plu nm a ord off bs e0 .nil))
 ·rw [if_pos hkb] at hm HCK
  obtain ⟨u,rfl,hu⟩:=hm
  have HU:Hid (Flt (w.heap.size + 2) w2 u 5 a):=by rw [hz1] at hu;exact hu
  obtain ⟨b,rfl,_⟩:=hu
  clear hkb
  go_wp2
  go_ret
  refine ⟨ha1,?_⟩
  rw [HCK.out]
  exact ⟨_,rfl,HU.out.mono (by omega)⟩
 ·rw [if_neg hkb] at hm HCK
  obtain ⟨rfl,n2,hn2,hK2⟩:=hm
  have HRC:Hid (Row w2 w.heap.size #[.map (some M)]):=rc.ag ha (by omega)
  have HRN:Hid (Row w2 (w.heap.size + 1) #[.string ⟨nm.toArray⟩,.int .i64 a,.bool ord,.int .u32 OV,.slice va vn vc,.int .i64 e0]):=rn.ag ha (by omega)
  have kb:=hB M n2 w2 (.slice va vn vc) e0 (P ++ [nodeM id (.plu nm a ord off bs e0 .nil)]) hvd hwf (by omega) hK2 (by omega) (hrow1.ag ha (fun g hg=>hg))
  have qc:=HRC.out.2.1
  have qn:=HRN.out.2.1
  clear hkb rc rn hK2 hrow1
  go_wp2_with fail
  refine kb.mono ?_
  intro e w3 hs
  have HS:Hid (CkSaid M (n2 + nM bs) (match ck id (P ++ [nodeM id (.plu nm a ord off bs e0 .nil)]) [] bs with | some f=>some f | none=>if Dk.otherW ∈ keys bs then none else some (6,e0)) ((P ++ [nodeM id (.plu nm a ord off bs e0 .nil)]) ++ flat id bs) w2 e w3):=hs
  obtain ⟨u,rfl⟩:=hs.ret
  clear hs kb
  go_wp2
  go_ret
  rw [HCK.out]
  exact (HS.out.close _ (by rfl)).tail ha1 (by omega)
end Go.Proofs.YtaepcfidpekflaaGreatDoor
