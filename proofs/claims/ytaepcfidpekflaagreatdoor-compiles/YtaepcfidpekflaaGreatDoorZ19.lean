/-
  Several texts in one (Ml, Kb, Pu, Sn, So). By the verifier.
-/
import Derived.Test.YtaepcfidpekflaaGreatDoorZ18
import Derived.Test.YtaepcfidpekflaaGreatDoorZ12
import Derived.Test.YtaepcfidpekflaaGreatDoorZ09
import Derived.Test.YtaepcfidpekflaaGreatDoorZ10
import Derived.OneCell
import Derived.Test.YtaepcfidpekflaaGreatDoorZ08
namespace Go.Proofs.YtaepcfidpekflaaGreatDoor
open Go.RowKit Pg
theorem RowAt.set {w:World} {S:Nat → Prop} {k g j:Nat} {v:Value} {t:Pg.Tr} (h:RowAt w S k v t) (hS:∀ x,S x → x ≠ g) (u:Value):RowAt (w.setCell ⟨g,j,none⟩ u) S k v t:=
 h.mono (by simp) fun x hx _=>⟨Below.heap_setCell _ _ _ _ (hS x hx),hx⟩
theorem RowAt.wide {w:World} {S S':Nat → Prop} {k:Nat} {v:Value} {t:Pg.Tr} (h:RowAt w S k v t) (hS:∀ x,S x → S' x):RowAt w S' k v t:=h.mono (Nat.le_refl _) fun x hx _=>⟨rfl,hS x hx⟩
def Slv (P:Nat) (rs:List Pg.T) (num:Bool) (w:World) (v:Value):Prop:=∃ g bd lb,v = .func (.func g) bd lb ∧ Enters g ∧ ∀ W q,Ag P w W → Scn P W rs q → Calls Tryz.prog g (bd ++ lb) W fun e w'=>SelSaid P rs num q W e w'
theorem Slv.later {P:Nat} {rs:List Pg.T} {num:Bool} {w w':World} {v:Value} (h:Slv P rs num w v) (ha:Ag P w w'):Slv P rs num w' v:=by
 obtain ⟨g,bd,lb,h1,h2,h3⟩:=h
 exact ⟨g,bd,lb,h1,h2,fun W q hA hs=>h3 W q (ha.trans hA) hs⟩
def MsgOk (d:Nat):Prop:=∀ P w rs p num,Scn P w rs p → Calls Tryz.prog 160 #[.pointer (some ⟨P,0,none⟩),.int .i64 d,.bool num] w fun e w'=>Rdn P rs (.msg d num) p w e w'
def BrSaid (P:Nat) (rs:List Pg.T) (num:Bool) (d p:Nat) (w:World) (e:Ending) (w':World):Prop:=Ag P w w' ∧
 ((∃ (er a:Nat) (u:ByteArray × Int × Int × Option Addr × Nat × Nat) (v:Value),(∀ p0 first,bl rs p0 = p → (first = true ∨ rs[p]? ≠ some [125]) → Rd rs (.brs d num first) p0 (.bad er a)) ∧ e = .returned (.tuple #[.agg #[.string u.1,.int .u32 u.2.1,.int .i64 u.2.2.1,.slice u.2.2.2.1 u.2.2.2.2.1 u.2.2.2.2.2],v]) ∧ Flt w.heap.size w' v er a) ∨
 (∃ t m j v,(∀ p0 first res,bl rs p0 = p → (first = true ∨ rs[p]? ≠ some [125]) → Rd rs (.brs d num false) (j + 1) res → Rd rs (.brs d num first) p0 (res.pre (.br t p m .nil))) ∧ p ≤ j ∧ e = .returned (.tuple #[.agg #[.string ⟨(selV t).1.toArray⟩,.int .u32 ((selV t).2:Nat),.int .i64 (p:Nat),v],.nilIface]) ∧ RowAt w' (fun g=>w.heap.size < g) 1 v m ∧ Scn P w' rs (j + 1)))
theorem BrSaid.bad {P:Nat} {rs:List Pg.T} {num:Bool} {d p er a:Nat} {w w':World} {s0:ByteArray} {k z:Int} {ad:Option Addr} {n c:Nat} {v:Value} (hr:∀ p0 first,bl rs p0 = p → (first = true ∨ rs[p]? ≠ some [125]) → Rd rs (.brs d num first) p0 (.bad er a)) (ha:Ag P w w') (hv:Flt w.heap.size w' v er a):BrSaid P rs num d p w (.returned (.tuple #[.agg #[.string s0,.int .u32 k,.int .i64 z,.slice ad n c],v])) w':=
 ⟨ha,.inl ⟨er,a,(s0,k,z,ad,n,c),v,hr,rfl,hv⟩⟩
theorem Ag.set4 {P g:Nat} {w w':World} (h:Ag P w w') (hg:w.heap.size ≤ g) (a b c d:Value):Ag P w ((((w'.setCell ⟨g,0,none⟩ a).setCell ⟨g,1,none⟩ b).setCell ⟨g,2,none⟩ c).setCell ⟨g,3,none⟩ d):=(((h.setNew hg 0 a).setNew hg 1 b).setNew hg 2 c).setNew hg 3 d
theorem Flt.set4 {B g:Nat} {w:World} {v:Value} {e x:Nat} (h:Flt B w v e x) (hg:g < B) (a b c d:Value):Flt B ((((w.setCell ⟨g,0,none⟩ a).setCell ⟨g,1,none⟩ b).setCell ⟨g,2,none⟩ c).setCell ⟨g,3,none⟩ d) v e x:=(((h.set hg a).set hg b).set hg c).set hg d
theorem Scn.set4 {P g:Nat} {w:World} {rs:List Pg.T} {p:Nat} (h:Scn P w rs p) (hg:P < g) (a b c d:Value):Scn P ((((w.setCell ⟨g,0,none⟩ a).setCell ⟨g,1,none⟩ b).setCell ⟨g,2,none⟩ c).setCell ⟨g,3,none⟩ d) rs p:=(((h.set hg a).set hg b).set hg c).set hg d
theorem RowAt.set4 {w:World} {S:Nat → Prop} {k g:Nat} {v:Value} {t:Pg.Tr} (h:RowAt w S k v t) (hS:∀ x,S x → x ≠ g) (a b c d:Value):RowAt ((((w.setCell ⟨g,0,none⟩ a).setCell ⟨g,1,none⟩ b).setCell ⟨g,2,none⟩ c).setCell ⟨g,3,none⟩ d) S k v t:=(((h.set hS a).set hS b).set hS c).set hS d
theorem pneed_ret (P:Nat) (w:World) (rs:List Pg.T) (p:Nat) (b:UInt8) (hb:b.toNat < 128) (h:Scn P w rs p):
  Calls Tryz.prog 241 #[.pointer (some ⟨P,0,none⟩),.int .i32 b.toNat] w fun e w'=>∃ v,e = .returned v ∧ Ag P w w' ∧ ((rs[p]? = some [b] ∧ v = .nilIface ∧ Scn P w' rs (p + 1)) ∨ (rs[p]? ≠ some [b] ∧ Flt w.heap.size w' v 3 p)):=by
 refine (pneed_any P w rs p b hb h).mono ?_
 rintro e w' ⟨ha,⟨h1,h2,h3⟩ | ⟨h1,v,h2,h3⟩⟩
 ·exact ⟨_,h2,ha,.inl ⟨h1,rfl,h3⟩⟩
 ·exact ⟨v,h2,ha,.inr ⟨h1,h3⟩⟩
theorem allocB (w:World) (o:Obj):Below w.heap.size w (w.alloc o):=(Below.refl _ _).alloc (Nat.le_refl _) o
set_option maxHeartbeats 6400000 in
theorem pbranch_any (d:Nat) (hd:d ≤ 6) (hM:d < 6 → MsgOk (d + 1)) (P:Nat) (w:World) (rs:List Pg.T) (p:Nat) (num:Bool) (v:Value) (h:Scn P w rs p) (hv:Slv P rs num w v):
  Calls Tryz.prog 279 #[.pointer (some ⟨P,0,none⟩),v,.int .i64 d,.bool num] w fun e w'=>BrSaid P rs num d p w e w':=by
 obtain ⟨g,bd,lb,rfl,eg,cm⟩:=hv
 unfold Enters at eg
 have hb0:=(Below.refl w.heap.size w).alloc (Nat.le_refl _) (.cells #[.string ⟨#[]⟩,.int .u32 0,.int .i64 0,.slice none 0 0] 332)
 have r0:=row_at w #[.string ⟨#[]⟩,.int .u32 0,.int .i64 0,.slice none 0 0] 332
 have hz0:(w.alloc (.cells #[.string ⟨#[]⟩,.int .u32 0,.int .i64 0,.slice none 0 0] 332)).heap.size = w.heap.size + 1:=by simp
 have hPl:=h.lt
 have hpl:=h.pts.2.2
 have h0:=h.then hb0
 have ha0:Ag P w _:=Ag.of hb0 (Nat.le_refl _)
 have c0:=cm _ p ha0 h0
 obtain ⟨a1,c1,q0,f0⟩:=h0.rows
 clear h h0 cm
 go_enter Tryz.func279,Tryz.ntmps279
 go_wp2_with fail
 refine c0.mono ?_
 rintro e w1 ⟨ha,hn⟩
 have HR1:Hid (Row w1 w.heap.size #[.string ⟨#[]⟩,.int .u32 0,.int .i64 0,.slice none 0 0]):=r0.ag ha (by omega)
 have ha1:Ag P w w1:=ha0.trans ha
 have hz1:w.heap.size < w1.heap.size:=by have:=ha.size;omega
 rw [hz0] at hn
 clear c0 r0 hb0 hz0 ha ha0 q0 f0
 cases hr:selR num rs p with
 | inl a=>
  rw [hr] at hn
  obtain ⟨v,rfl,hv⟩:=hn
  have HV:Hid (Flt (w.heap.size + 1) w1 v 3 a):=hv
  have HN:Hid (∀ p0 first,bl rs p0 = p → (first = true ∨ rs[p]? ≠ some [125]) → Rd rs (.brs d num first) p0 (.bad 3 a)):=fun p0 first h1 h2=>.brsSel (by rw [h1];exact h2) (by rw [h1];exact hr)
  obtain ⟨b,rfl,_⟩:=hv
  have q1:=HR1.out.2.1
  have f1:=HR1.out.2.2
  clear hr
  go_wp2
  refine bodyPost_ret (v:=.tuple #[.agg #[.string ⟨#[]⟩,.int .u32 0,.int .i64 0,.slice none 0 0],.iface 113 (.pointer (some ⟨b,0,none⟩))]) (by simp [results,Tryz.results279,go_sem,q1,World.cell?_alloc_lt,hz1]) rfl ?_
  exact BrSaid.bad HN.out ((ha1.set4 (Nat.le_refl _) _ _ _ _).then (allocB _ _)) (((HV.out.set4 (by omega) _ _ _ _).keep (allocB _ _)).mono (by omega))
 | inr x=>
  obtain ⟨t,q⟩:=x
  rw [hr] at hn
  obtain ⟨rfl,hs1⟩:=hn
  have HSR:Hid (selR num rs p = .inr (t,q)):=hr
  have hpq:p ≤ q:=((selR_le (num:=num) hpl).1 t q hr).1
  obtain ⟨F,hF⟩:∃ F,Hid ((selV t).1 = F):=⟨_,rfl⟩
  obtain ⟨V,hV⟩:∃ V,Hid ((selV t).2 = V):=⟨_,rfl⟩
  rw [hF.out,hV.out]
  have hb1:=allocB w1 (.cells #[.string ⟨F.toArray⟩,.int .u32 V] 330)
  have rb:=row_at w1 #[.string ⟨F.toArray⟩,.int .u32 V] 330
  have kb:=pblanks_any P _ rs q (hs1.then hb1)
  clear hr
  go_wp2_with fail
  refine kb.mono ?_
  rintro e w2 ⟨rfl,hs2,ha2⟩
  have HRB:Hid (Row w2 w1.heap.size #[.string ⟨F.toArray⟩,.int .u32 V]):=rb.ag ha2 (by have:=ha1.size;omega)
  have HR2:Hid (Row w2 w.heap.size #[.string ⟨#[]⟩,.int .u32 0,.int .i64 0,.slice none 0 0]):=(HR1.out.keep hb1).ag ha2 (by omega)
  have ha3:Ag P w w2:=(ha1.then hb1).trans ha2
  have hz2:w1.heap.size < w2.heap.size:=by have:=ha2.size;simp at this;omega
  have hlz:w.heap.size < w1.heap.size:=hz1
  clear kb hs1 hb1 rb HR1 ha1 ha2 hz1
  generalize w1.heap.size = bb at *
  clear w1
  have kn:=pneed_any P w2 rs (bl rs q) 123 (by decide) hs2
  obtain ⟨a2,c2,q2,f2⟩:=hs2.rows
  go_wp2_with fail
  refine kn.mono ?_
  rintro e w3 ⟨ha4,hn⟩
  have HRB3:Hid (Row w3 bb #[.string ⟨F.toArray⟩,.int .u32 V]):=HRB.out.ag ha4 (by omega)
  have HR3:Hid (Row w3 w.heap.size #[.string ⟨#[]⟩,.int .u32 0,.int .i64 0,.slice none 0 0]):=HR2.out.ag ha4 (by omega)
  have ha5:Ag P w w3:=ha3.trans ha4
  have hz3:bb < w3.heap.size:=by have:=ha4.size;omega
  have hzw:w2.heap.size ≤ w3.heap.size:=ha4.size
  clear kn HRB HR2 ha3 ha4 q2 f2 hs2
  rcases hn with ⟨hc,rfl,hs3⟩ | ⟨hc,v,rfl,hv⟩
  ·have HC:Hid (rs[bl rs q]? = some [123]):=hc
   clear hc
   by_cases h6:d = 6
   ·have e6:((d:Int) == 6) = true:=by rw [h6];rfl
    have HN:Hid (∀ p0 first,bl rs p0 = p → (first = true ∨ rs[p]? ≠ some [125]) → Rd rs (.brs d num first) p0 (.bad 4 (bl rs q))):=fun p0 first h1 h2=>by
     rw [h6]
     exact .brsDeep (by rw [h1];exact h2) (by rw [h1];exact HSR.out) HC.out
    have kf:=pfault_any w3 4 (bl rs q)
    clear hs3 h6
    go_wp2_with (go_at_call 158;refine kf.mono ?_;rintro e w4 ⟨⟨v,rfl,hv⟩,hb4⟩;have HR4:=HR3.out.keep hb4;have q4:=HR4.2.1;have f4:=HR4.2.2)
    refine bodyPost_ret (v:=.tuple #[.agg #[.string ⟨#[]⟩,.int .u32 0,.int .i64 0,.slice none 0 0],v]) (by simp [results,Tryz.results279,go_sem,q4]) rfl ?_
    exact BrSaid.bad HN.out ((ha5.then hb4).set4 (Nat.le_refl _) _ _ _ _) ((hv.set4 (by omega) _ _ _ _).mono (by omega))
   ·have e6:((d:Int) == 6) = false:=by rw [beq_eq_false_iff_ne];omega
    have hw:IntKind.i64.wrap ((d:Int) + 1) = ((d + 1:Nat):Int):=by rw [IntKind.wrap_i64];omega
    have km:=hM (by omega) P w3 rs (bl rs q + 1) num hs3
    go_wp2_with fail
    refine km.mono ?_
    rintro e w4 ⟨ha6,res,hrd,hm⟩
    have HRB4:Hid (Row w4 bb #[.string ⟨F.toArray⟩,.int .u32 V]):=HRB3.out.ag ha6 (by omega)
    have HR4:Hid (Row w4 w.heap.size #[.string ⟨#[]⟩,.int .u32 0,.int .i64 0,.slice none 0 0]):=HR3.out.ag ha6 (by omega)
    have ha7:Ag P w w4:=ha5.trans ha6
    have hz4:bb < w4.heap.size:=by have:=ha6.size;omega
    have HD:Hid (d < 6):=by show d < 6;omega
    have hw34:=ha6.size
    have HRD:Hid (Rd rs (.msg (d + 1) num) (bl rs q + 1) res):=hrd
    clear km HRB3 HR3 ha5 ha6 hs3 hrd h6
    cases res with
    | okB t2 b2 q2=>exact absurd (fine_of HRD.out (lt_of_some HC.out)) (fun h=>h)
    | bad er a=>
     obtain ⟨u,v,rfl,hv,_⟩:=hm
     have HN:Hid (∀ p0 first,bl rs p0 = p → (first = true ∨ rs[p]? ≠ some [125]) → Rd rs (.brs d num first) p0 (.bad er a)):=fun p0 first h1 h2=>.brsMsg (by rw [h1];exact h2) (by rw [h1];exact HSR.out) HC.out HD.out HRD.out
     have HV:Hid (Flt (w.heap.size + 1) w4 v er a):=hv.mono (by omega)
     obtain ⟨b,rfl,_⟩:=hv
     have q4:=HR4.out.2.1
     have f4:=HR4.out.2.2
     go_wp2
     refine bodyPost_ret (v:=.tuple #[.agg #[.string ⟨#[]⟩,.int .u32 0,.int .i64 0,.slice none 0 0],.iface 113 (.pointer (some ⟨b,0,none⟩))]) (by simp [results,Tryz.results279,go_sem,q4]) rfl ?_
     exact BrSaid.bad HN.out (ha7.set4 (Nat.le_refl _) _ _ _ _) ((HV.out.set4 (by omega) _ _ _ _).mono (by omega))
    | ok m j=>
     obtain ⟨v,rfl,hs4,hrow⟩:=hm
     have HROW:Hid (RowAt w4 (fun g=>w3.heap.size ≤ g) 1 v m):=hrow
     have kn:=fun W (hW:Below w4.heap.size w4 W)=>pneed_ret P W rs j 125 (by decide) (hs4.then hW)
     obtain ⟨va,vn,vc,rfl⟩:∃ va vn vc,v = .slice va vn vc:=by
      obtain ⟨us,h1,_⟩:=hrow
      rcases h1 with ⟨_,h1⟩ | ⟨g,n,c,h1,_⟩
      ·exact ⟨_,_,_,h1⟩
      ·exact ⟨_,_,_,h1⟩
     have q4:=HR4.out.2.1
     have f4:=HR4.out.2.2
     have qb4:=HRB4.out.2.1
     have HL:Hid (p ≤ j):=by
      have h1:=fine_of HRD.out (lt_of_some HC.out)
      have h2:=h1.2.1.le
      have:=bl_ge rs q
      show p ≤ j
      omega
     have hdr:Below w4.heap.size w4 w4.drew:=(Below.refl _ _).drew
     clear hrow
     go_wp2_with fail
     go_region_with (go_at_call 241;refine (kn _ (Below.refl _ _).drew).mono ?_;rintro e w5 ⟨y,rfl,ha8,hn⟩;have HR5:Hid (Row w5 w.heap.size #[.string ⟨#[]⟩,.int .u32 0,.int .i64 0,.slice none 0 0]):=(HR4.out.keep (Below.refl _ _).drew).ag ha8 (by omega);have HRB5:Hid (Row w5 bb #[.string ⟨F.toArray⟩,.int .u32 V]):=(HRB4.out.keep (Below.refl _ _).drew).ag ha8 (by omega);have q5:=HR5.out.2.1;have f5:=HR5.out.2.2;have qb5:=HRB5.out.2.1)
     all_goals
      go_wp2
      refine bodyPost_ret (v:=.tuple #[.agg #[.string ⟨F.toArray⟩,.int .u32 V,.int .i64 p,.slice va vn vc],y]) (by simp [results,Tryz.results279,go_sem,q5]) rfl ?_
      have hag:Ag P w w5:=(ha7.then hdr).trans ha8
      rcases hn with ⟨hc5,rfl,hs5⟩ | ⟨hc5,hv5⟩
      ·refine ⟨hag.set4 (Nat.le_refl _) _ _ _ _,.inr ⟨t,m,j,.slice va vn vc,fun p0 first res h1 h2 h3=>?_,HL.out,by rw [hF.out,hV.out],?_,hs5.set4 (by omega) _ _ _ _⟩⟩
       ·have:=Rd.brs (p:=p0) (by rw [h1];exact h2) (by rw [h1];exact HSR.out) HC.out HD.out HRD.out hc5 h3
        rw [h1] at this
        exact this
       ·exact ((((HROW.out.keep hdr).ag ha8 (fun g hg=>by omega)).set4 (fun g hg=>by omega) _ _ _ _)).wide (fun g hg=>by omega)
      ·exact BrSaid.bad (fun p0 first h1 h2=>.brsClose (by rw [h1];exact h2) (by rw [h1];exact HSR.out) HC.out HD.out HRD.out hc5) (hag.set4 (Nat.le_refl _) _ _ _ _) ((hv5.set4 (by have:=hdr.size;omega) _ _ _ _).mono (by have:=hdr.size;omega))
  ·have HC:Hid (rs[bl rs q]? ≠ some [123]):=hc
   have HN:Hid (∀ p0 first,bl rs p0 = p → (first = true ∨ rs[p]? ≠ some [125]) → Rd rs (.brs d num first) p0 (.bad 3 (bl rs q))):=fun p0 first h1 h2=>.brsOpen (by rw [h1];exact h2) (by rw [h1];exact HSR.out) HC.out
   have HV:Hid (Flt (w.heap.size + 1) w3 v 3 (bl rs q)):=hv.mono (by omega)
   obtain ⟨b,rfl,_⟩:=hv
   have q3:=HR3.out.2.1
   have f3:=HR3.out.2.2
   clear hc
   go_wp2
   refine bodyPost_ret (v:=.tuple #[.agg #[.string ⟨#[]⟩,.int .u32 0,.int .i64 0,.slice none 0 0],.iface 113 (.pointer (some ⟨b,0,none⟩))]) (by simp [results,Tryz.results279,go_sem,q3]) rfl ?_
   exact BrSaid.bad HN.out (ha5.set4 (Nat.le_refl _) _ _ _ _) ((HV.out.set4 (by omega) _ _ _ _).mono (by omega))
end Go.Proofs.YtaepcfidpekflaaGreatDoor
namespace Go.Proofs.YtaepcfidpekflaaGreatDoor
open Go.RowKit
def mCells (m:Dk.Mark):List Value:=[.int .u8 m.kind.toNat,strV m.text,strV m.name,strV m.how,strV m.offset,.int .i64 m.at_]
def marksCells:List Dk.Mark → List Value
 | []=>[]
 | m :: r=>mCells m ++ marksCells r
def ScanAt (ms:List (Nat × Array Value)) (w:World) (B b:Nat) (s:Pr.T) (x:Dk.Sc):Prop:=∃ ov pv,Row w b #[.string ⟨s.toArray⟩,.int .i64 x.i,ov,pv,.int .i64 x.err,.int .i64 x.place] ∧ B ≤ b ∧
 w.ownsRow B 130 6 ov x.out.length (marksCells x.out) ∧ w.ownsRow B 4 1 pv x.opens.length (x.opens.map .bool) ∧
 (ov.ownBlock ≠ some b) ∧ (pv.ownBlock ≠ some b) ∧ (∀ g,ov.ownBlock = some g → pv.ownBlock ≠ some g) ∧
 ∀ q ∈ ms,Row w q.1 q.2 ∧ q.1 ≠ b ∧ ov.ownBlock ≠ some q.1 ∧ pv.ownBlock ≠ some q.1
theorem Row.other {w:World} {b g j:Nat} {cs:Array Value} (h:Row w b cs) (hne:b ≠ g) (u:Value):Row (w.setCell ⟨g,j,none⟩ u) b cs:=by
 have hb:(w.setCell ⟨g,j,none⟩ u).heap[b]? = w.heap[b]?:=Below.heap_setCell w ⟨g,j,none⟩ u b hne
 refine ⟨by have:=h.1;simpa [World.setCell] using this,fun i=>(World.cell?_of_block (w:=w) (a:=⟨b,i,none⟩) hb).trans (h.2.1 i),fun i=>(World.frozen?_of_block (w:=w) (a:=⟨b,i,none⟩) hb).trans (h.2.2 i)⟩
variable {ms:List (Nat × Array Value)}
theorem ScanAt.keep {w w1:World} {B b:Nat} {s:Pr.T} {x:Dk.Sc} (h:ScanAt ms w B b s x) (hb:Below w.heap.size w w1):ScanAt ms w1 B b s x:=by
 obtain ⟨ov,pv,h1,h2,h3,h4,h5,h6,h7,h8⟩:=h
 have kp:∀ {e:TypeId} {z n:Nat} {v:Value} {xs:List Value},w.ownsRow B e z v n xs → w1.ownsRow B e z v n xs:=fun {e z n v xs} h=>by
  refine World.ownsRow.kept (row:=none) h ⟨hb.os,hb.tape,hb.output,hb.size,fun k hk _=>hb.block k hk⟩ ?_
  cases e:v.ownBlock with
  | none=>exact .inl rfl
  | some _=>exact .inr (by simp)
 exact ⟨ov,pv,h1.keep hb,h2,kp h3,kp h4,h5,h6,h7,fun q hq=>⟨(h8 q hq).1.keep hb,(h8 q hq).2⟩⟩
theorem ScanAt.setI {w:World} {B b:Nat} {s:Pr.T} {x:Dk.Sc} (h:ScanAt ms w B b s x) (n:Nat):ScanAt ms (w.setCell ⟨b,1,none⟩ (.int .i64 n)) B b s { x with i:=n }:=by
 obtain ⟨ov,pv,h1,h2,h3,h4,h5,h6,h7,h8⟩:=h
 exact ⟨ov,pv,h1.setC 1 _ (by simp),h2,ownsRow_setCell_other h3 h5 _,ownsRow_setCell_other h4 h6 _,h5,h6,h7,fun q hq=>⟨(h8 q hq).1.other (h8 q hq).2.1 _,(h8 q hq).2⟩⟩
theorem ScanAt.setF {w:World} {B b:Nat} {s:Pr.T} {x:Dk.Sc} (h:ScanAt ms w B b s x) (e p:Nat):ScanAt ms ((w.setCell ⟨b,4,none⟩ (.int .i64 e)).setCell ⟨b,5,none⟩ (.int .i64 p)) B b s { x with err:=e,place:=p }:=by
 obtain ⟨ov,pv,h1,h2,h3,h4,h5,h6,h7,h8⟩:=h
 exact ⟨ov,pv,(h1.setC 4 _ (by simp)).setC 5 _ (by simp),h2,ownsRow_setCell_other (ownsRow_setCell_other h3 h5 _) h5 _,ownsRow_setCell_other (ownsRow_setCell_other h4 h6 _) h6 _,h5,h6,h7,fun q hq=>⟨((h8 q hq).1.other (h8 q hq).2.1 _).other (h8 q hq).2.1 _,(h8 q hq).2⟩⟩
theorem ScanAt.base {w:World} {B b:Nat} {s:Pr.T} {x:Dk.Sc} (h:ScanAt ms w B b s x):B ≤ b ∧ b < w.heap.size:=by
 obtain ⟨ov,pv,h1,h2,_⟩:=h
 exact ⟨h2,h1.1⟩
set_option maxHeartbeats 800000 in
theorem kfault_any (w:World) (B b:Nat) (s:Pr.T) (x:Dk.Sc) (e p:Nat) (hx:ScanAt ms w B b s x):
  Calls Tryz.prog 100 #[.pointer (some ⟨b,0,none⟩),.int .i64 e,.int .i64 p] w fun en w'=>en = .returned (.tuple #[]) ∧ ScanAt ms w' B b s (x.fault e p) ∧ Below B w w':=by
 have hB:=hx.base
 obtain ⟨ov,pv,h1,_⟩:=id hx
 have q0:=h1.2.1
 have q1:=h1.2.2
 by_cases he:x.err = 0
 ·have he':((x.err:Int) == 0) = true:=by rw [he];rfl
  have HF:Hid (ScanAt ms ((w.setCell ⟨b,4,none⟩ (.int .i64 e)).setCell ⟨b,5,none⟩ (.int .i64 p)) B b s (x.fault e p) ∧ Below B w ((w.setCell ⟨b,4,none⟩ (.int .i64 e)).setCell ⟨b,5,none⟩ (.int .i64 p))):=by
   refine ⟨?_,?_⟩
   ·rw [Dk.Sc.fault,if_pos he];exact hx.setF e p
   ·exact ((Below.refl B w).setCell (p:=⟨b,4,none⟩) hB.1 _).setCell (p:=⟨b,5,none⟩) hB.1 _
  clear hx h1 he
  go_enter Tryz.func100,Tryz.ntmps100
  go_wp2
  go_end0
  exact ⟨rfl,HF.out⟩
 ·have he':((x.err:Int) == 0) = false:=by rw [beq_eq_false_iff_ne];omega
  have HF:Hid (ScanAt ms w B b s (x.fault e p)):=by show ScanAt ms _ _ _ _ _;rw [Dk.Sc.fault,if_neg he];exact hx
  clear hx h1 he
  go_enter Tryz.func100,Tryz.ntmps100
  go_wp2
  go_end0
  exact ⟨rfl,HF.out,Below.refl _ _⟩
end Go.Proofs.YtaepcfidpekflaaGreatDoor
namespace Go.Proofs.YtaepcfidpekflaaGreatDoor.Pr
theorem part_len (l:T):partLen l ≤ l.length:=by
 cases l with
 | nil=>simp [partLen]
 | cons c r=>
  by_cases h1:isLet c = true
  ·rw [partLen,if_pos h1];exact (List.takeWhile_prefix _).length_le
  ·by_cases h2:Pn.isDig c = true
   ·rw [partLen,if_neg h1,if_pos h2];exact (List.takeWhile_prefix _).length_le
   ·rw [partLen,if_neg h1,if_neg h2]
    split
    ·rename_i h
     cases r with
     | nil=>rcases h with ⟨_,h⟩ | ⟨_,h⟩ <;> cases h
     | cons d r=>simp
    ·split <;> simp
theorem split_end (k:Nat):splitGo k [] = some []:=by cases k <;> rfl
theorem split_more:∀ (k:Nat) (l:T) (m:Nat),l.length ≤ k → l.length ≤ m → splitGo k l = splitGo m l:=by
 intro k
 induction k with
 | zero=>
  intro l m h _
  have:l = []:=List.length_eq_zero_iff.1 (by omega)
  subst this
  rw [split_end,split_end]
 | succ k ih=>
  intro l m h1 h2
  cases l with
  | nil=>rw [split_end,split_end]
  | cons c r=>
   cases m with
   | zero=>simp at h2
   | succ m=>
    simp only [splitGo]
    by_cases hz:partLen (c :: r) = 0
    ·simp [hz]
    ·simp only [hz,if_false]
     rw [ih ((c :: r).drop (partLen (c :: r))) m (by simp at h1 ⊢;omega) (by simp at h2 ⊢;omega)]
theorem toks_step (c:UInt8) (r:T):toks (c :: r) = if partLen (c :: r) = 0 then none else match toks ((c :: r).drop (partLen (c :: r))) with
  | none=>none
  | some l=>some (if c = 32 then l else (c :: r).take (partLen (c :: r)) :: l):=by
 unfold toks
 rw [show (c :: r).length = r.length + 1 from rfl,splitGo]
 by_cases hz:partLen (c :: r) = 0
 ·simp [hz]
 ·simp only [hz,if_false]
  rw [split_more r.length ((c :: r).drop (partLen (c :: r))) ((c :: r).drop (partLen (c :: r))).length (by simp;omega) (Nat.le_refl _)]
  cases splitGo ((c :: r).drop (partLen (c :: r))).length ((c :: r).drop (partLen (c :: r))) <;> rfl
theorem toks_blank (r:T):toks (32 :: r) = toks r:=by
 have h:partLen (32 :: r) = 1:=by simp [partLen,isLet,Pn.isDig]
 rw [toks_step,h]
 simp only [List.drop_succ_cons,List.drop_zero]
 cases toks r <;> simp
theorem parts_ne (sep:T) (l:List T):partsAt sep l ≠ []:=by
 cases l with
 | nil=>simp [partsAt]
 | cons t l=>
  simp only [partsAt]
  split
  ·simp
  ·split <;> simp
end Go.Proofs.YtaepcfidpekflaaGreatDoor.Pr
namespace Go.Proofs.YtaepcfidpekflaaGreatDoor
open Go.RowKit
def wGo (out:List Pr.T) (last:Nat):Pr.T → Option (List Pr.T)
 | []=>some out
 | c :: r=>
  if kindN c = 3 then wGo out 3 r
  else if 0 < kindN c ∧ kindN c = last then wGo (out.dropLast ++ [out.getLastD [] ++ [c]]) (kindN c) r
  else if 0 < kindN c ∨ c = 61 ∨ c = 44 ∨ c = 37 then wGo (out ++ [[c]]) (kindN c) r
  else match r with
   | []=>none
   | d :: r'=>if c = 33 ∧ d = 61 ∨ c = 46 ∧ d = 46 then wGo (out ++ [[c,d]]) (kindN c) r' else none
theorem wGo_cons (out:List Pr.T) (last:Nat) (c:UInt8) (r:Pr.T):wGo out last (c :: r) = if kindN c = 3 then wGo out 3 r
  else if 0 < kindN c ∧ kindN c = last then wGo (out.dropLast ++ [out.getLastD [] ++ [c]]) (kindN c) r
  else if 0 < kindN c ∨ c = 61 ∨ c = 44 ∨ c = 37 then wGo (out ++ [[c]]) (kindN c) r
  else match r with
   | []=>none
   | d :: r'=>if c = 33 ∧ d = 61 ∨ c = 46 ∧ d = 46 then wGo (out ++ [[c,d]]) (kindN c) r' else none:=by
 cases r with
 | nil=>simp only [wGo]
 | cons d r=>rw [wGo]
def pK (k:Nat):UInt8 → Bool:=if k = 1 then Pr.isLet else if k = 2 then Pn.isDig else fun _=>false
theorem kind_four (c:UInt8):(kindN c = 1 ∧ Pr.isLet c = true) ∨ (kindN c = 2 ∧ Pr.isLet c = false ∧ Pn.isDig c = true) ∨ (kindN c = 3 ∧ c = 32) ∨ (kindN c = 0 ∧ Pr.isLet c = false ∧ Pn.isDig c = false ∧ c ≠ 32):=by
 unfold kindN
 cases h1:Pr.isLet c with
 | true=>exact .inl ⟨by simp,rfl⟩
 | false=>
  cases h2:Pn.isDig c with
  | true=>exact .inr (.inl ⟨by simp,rfl,rfl⟩)
  | false=>
   by_cases h3:c = 32
   ·exact .inr (.inr (.inl ⟨by simp [h3],h3⟩))
   ·exact .inr (.inr (.inr ⟨by simp [h3],rfl,rfl,h3⟩))
theorem pK_kind (c:UInt8) (last:Nat) (h:kindN c ≠ last ∨ kindN c = 0 ∨ kindN c = 3):pK last c = false:=by
 unfold pK
 have h4:=kind_four c
 by_cases h1:last = 1
 ·rw [if_pos h1]
  rcases h4 with ⟨a,b⟩ | ⟨a,b,_⟩ | ⟨a,b⟩ | ⟨a,b,_⟩
  ·omega
  ·exact b
  ·subst b;decide
  ·exact b
 ·rw [if_neg h1]
  by_cases h2:last = 2
  ·rw [if_pos h2]
   rcases h4 with ⟨a,b⟩ | ⟨a,b,_⟩ | ⟨a,b⟩ | ⟨a,b,b2,_⟩
   ·rcases (isLet_iff c).1 b with ⟨b1,b2⟩
    rw [← Bool.not_eq_true,Pn.isDig_iff];omega
   ·omega
   ·subst b;decide
   ·exact b2
  ·rw [if_neg h2]
theorem pK_self (c:UInt8) (h:0 < kindN c) (h3:kindN c ≠ 3):pK (kindN c) c = true:=by
 rcases kind_four c with ⟨a,b⟩ | ⟨a,b,b2⟩ | ⟨a,b⟩ | ⟨a,b,b2,_⟩
 ·rw [a];exact b
 ·rw [a];exact b2
 ·omega
 ·omega
theorem part_kind (c:UInt8) (r:Pr.T) (h:0 < kindN c) (h3:kindN c ≠ 3):Pr.partLen (c :: r) = (r.takeWhile (pK (kindN c))).length + 1:=by
 rcases kind_four c with ⟨a,b⟩ | ⟨a,b,b2⟩ | ⟨a,b⟩ | ⟨a,b,b2,_⟩
 ·rw [a];simp [Pr.partLen,b,pK]
 ·rw [a];simp [Pr.partLen,b,b2,pK]
 ·omega
 ·omega
theorem take_tw (p:UInt8 → Bool) (r:Pr.T):r.take (r.takeWhile p).length = r.takeWhile p ∧ r.drop (r.takeWhile p).length = r.dropWhile p:=by
 induction r with
 | nil=>exact ⟨rfl,rfl⟩
 | cons c r ih=>
  cases h:p c with
  | true=>
   rw [List.takeWhile_cons_of_pos h,List.dropWhile_cons_of_pos h,List.length_cons,List.take_succ_cons,List.drop_succ_cons,ih.1,ih.2]
   exact ⟨rfl,rfl⟩
  | false=>
   rw [List.takeWhile_cons_of_neg (by simp [h]),List.dropWhile_cons_of_neg (by simp [h])]
   exact ⟨rfl,rfl⟩
theorem toks_kind (c:UInt8) (r:Pr.T) (h:0 < kindN c) (h3:kindN c ≠ 3):Pr.toks (c :: r) = (Pr.toks (r.dropWhile (pK (kindN c)))).map ((c :: r.takeWhile (pK (kindN c))) :: ·):=by
 have hc:c ≠ 32:=fun e=>by subst e;exact h3 (by decide)
 obtain ⟨t1,t2⟩:=take_tw (pK (kindN c)) r
 rw [Pr.toks_step,part_kind c r h h3,if_neg (by omega),List.drop_succ_cons,List.take_succ_cons,t1,t2]
 cases Pr.toks (r.dropWhile (pK (kindN c))) with
 | none=>rfl
 | some l=>simp [hc]
theorem toks_sign (c:UInt8) (r:Pr.T) (h:kindN c = 0) (hs:c = 61 ∨ c = 44 ∨ c = 37):Pr.toks (c :: r) = (Pr.toks r).map ([c] :: ·):=by
 have hp:Pr.partLen (c :: r) = 1:=by rcases hs with rfl | rfl | rfl <;> simp [Pr.partLen,Pr.isLet,Pn.isDig]
 have hc:c ≠ 32:=by rcases hs with rfl | rfl | rfl <;> decide
 rw [Pr.toks_step,hp]
 simp only [List.drop_succ_cons,List.drop_zero,List.take_succ_cons,List.take_zero]
 cases Pr.toks r <;> simp [hc]
theorem toks_two (c d:UInt8) (r:Pr.T) (hs:c = 33 ∧ d = 61 ∨ c = 46 ∧ d = 46):Pr.toks (c :: d :: r) = (Pr.toks r).map ([c,d] :: ·):=by
 have hp:Pr.partLen (c :: d :: r) = 2:=by rcases hs with ⟨rfl,rfl⟩ | ⟨rfl,rfl⟩ <;> simp [Pr.partLen,Pr.isLet,Pn.isDig]
 have hc:c ≠ 32:=by rcases hs with ⟨rfl,_⟩ | ⟨rfl,_⟩ <;> decide
 rw [Pr.toks_step,hp]
 simp only [List.drop_succ_cons,List.drop_zero,List.take_succ_cons,List.take_zero]
 cases Pr.toks r <;> simp [hc]
theorem toks_bad (c:UInt8) (r:Pr.T) (h:kindN c = 0) (hs:¬ (c = 61 ∨ c = 44 ∨ c = 37)) (hr:¬ (c = 33 ∧ r.head? = some 61 ∨ c = 46 ∧ r.head? = some 46)):Pr.toks (c :: r) = none:=by
 rcases kind_four c with ⟨a,b⟩ | ⟨a,b,b2⟩ | ⟨a,b⟩ | ⟨a,b,b2,b3⟩
 ·omega
 ·omega
 ·omega
 ·have hp:Pr.partLen (c :: r) = 0:=by
   rw [Pr.partLen,b,b2,if_neg Bool.false_ne_true,if_neg Bool.false_ne_true,if_neg hr,if_neg]
   rintro (e | e | e | e)
   ·exact b3 e
   ·exact hs (.inl e)
   ·exact hs (.inr (.inr e))
   ·exact hs (.inr (.inl e))
  rw [Pr.toks_step,hp];rfl
theorem tw_stop (p:UInt8 → Bool) (c:UInt8) (r:Pr.T) (h:p c = false):(c :: r).takeWhile p = [] ∧ (c :: r).dropWhile p = c :: r:=by
 constructor
 ·rw [List.takeWhile_cons_of_neg (by simp [h])]
 ·rw [List.dropWhile_cons_of_neg (by simp [h])]
theorem words_go:∀ (n:Nat) (s:Pr.T),s.length ≤ n → (∀ (out:List Pr.T) (last:Nat),last = 0 ∨ last = 3 → wGo out last s = (Pr.toks s).map (out ++ ·)) ∧
  (∀ (out:List Pr.T) (t:Pr.T) (last:Nat),wGo (out ++ [t]) last s = (Pr.toks (s.dropWhile (pK last))).map (fun l=>(out ++ [t ++ s.takeWhile (pK last)]) ++ l)):=by
 intro n
 induction n with
 | zero=>
  intro s h
  have:s = []:=List.length_eq_zero_iff.1 (by omega)
  subst this
  refine ⟨fun out last _=>?_,fun out t last=>?_⟩
  ·simp [wGo,Pr.toks,Pr.splitGo]
  ·simp [wGo,Pr.toks,Pr.splitGo]
 | succ n ih=>
  intro s h
  cases s with
  | nil=>
   refine ⟨fun out last _=>?_,fun out t last=>?_⟩
   ·simp [wGo,Pr.toks,Pr.splitGo]
   ·simp [wGo,Pr.toks,Pr.splitGo]
  | cons c r=>
   have hr:r.length ≤ n:=by simp at h;omega
   have step:∀ (out:List Pr.T) (last:Nat),(kindN c ≠ last ∨ kindN c = 0 ∨ kindN c = 3) → wGo out last (c :: r) = (Pr.toks (c :: r)).map (out ++ ·):=by
    intro out last hl
    by_cases h3:kindN c = 3
    ·have hc:c = 32:=by
      rcases kind_four c with ⟨a,b⟩ | ⟨a,b,b2⟩ | ⟨a,b⟩ | ⟨a,b,b2,b3⟩
      ·omega
      ·omega
      ·exact b
      ·omega
     rw [wGo_cons,if_pos h3,(ih r hr).1 out 3 (.inr rfl),hc,Pr.toks_blank]
    ·by_cases h0:0 < kindN c
     ·have hn:¬ (0 < kindN c ∧ kindN c = last):=by omega
      rw [wGo_cons,if_neg h3,if_neg hn,if_pos (.inl h0),(ih r hr).2 out [c] (kindN c),toks_kind c r h0 h3]
      cases Pr.toks (r.dropWhile (pK (kindN c))) with
      | none=>rfl
      | some l=>simp
     ·have hn:¬ (0 < kindN c ∧ kindN c = last):=by omega
      have hz:kindN c = 0:=by omega
      by_cases hs:c = 61 ∨ c = 44 ∨ c = 37
      ·rw [wGo_cons,if_neg h3,if_neg hn,if_pos (.inr hs),(ih r hr).1 _ (kindN c) (.inl hz),toks_sign c r hz hs]
       cases Pr.toks r <;> simp
      ·have hn2:¬ (0 < kindN c ∨ c = 61 ∨ c = 44 ∨ c = 37):=fun e=>e.elim h0 hs
       cases r with
       | nil=>
        rw [wGo_cons,if_neg h3,if_neg hn,if_neg hn2,toks_bad c [] hz hs (by simp)]
        rfl
       | cons d r'=>
        by_cases h2:c = 33 ∧ d = 61 ∨ c = 46 ∧ d = 46
        ·rw [wGo_cons,if_neg h3,if_neg hn,if_neg hn2]
         simp only [if_pos h2]
         rw [(ih r' (by simp at hr;omega)).1 _ (kindN c) (.inl hz),toks_two c d r' h2]
         cases Pr.toks r' <;> simp
        ·rw [wGo_cons,if_neg h3,if_neg hn,if_neg hn2,toks_bad c (d :: r') hz hs (by simpa using h2)]
         simp only [if_neg h2]
         rfl
   refine ⟨fun out last hl=>step out last (by omega),fun out t last=>?_⟩
   by_cases hl:kindN c ≠ last ∨ kindN c = 0 ∨ kindN c = 3
   ·obtain ⟨t1,t2⟩:=tw_stop (pK last) c r (pK_kind c last hl)
    rw [step _ _ hl,t1,t2,List.append_nil]
   ·have hk:0 < kindN c ∧ kindN c = last:=by omega
    have h3:kindN c ≠ 3:=by omega
    have hp:=pK_self c hk.1 h3
    rw [wGo_cons,if_neg h3,if_pos hk]
    simp only [List.dropLast_concat,List.getLastD_concat]
    rw [(ih r hr).2 out (t ++ [c]) (kindN c),← hk.2,List.dropWhile_cons_of_pos hp,List.takeWhile_cons_of_pos hp]
    simp
theorem words_toks (s:Pr.T):wGo [] 3 s = Pr.toks s:=by
 rw [(words_go s.length s (Nat.le_refl _)).1 [] 3 (.inr rfl)]
 cases Pr.toks s <;> rfl
end Go.Proofs.YtaepcfidpekflaaGreatDoor
namespace Go.Proofs.YtaepcfidpekflaaGreatDoor
open Go.RowKit
theorem cut_at64 (l:List UInt8) (k:Nat) (hk:k < l.length) (h1:∀ j (hj:j < l.length),j < k → l[j] ≠ 64) (h2:l[k] = 64):Lib.cut l [64] = (l.take k,l.drop (k + 1),true):=by
 have hi:Lib.index l [64] = k:=by
  refine Lib.index_first (by omega) ?_ ?_
  ·rw [Lib.occAt,List.drop_eq_getElem_cons hk,h2];simp [List.isPrefixOf]
  ·intro j hj
   rw [Lib.occAt,List.drop_eq_getElem_cons (by omega)]
   have:=h1 j (by omega) hj
   simp only [List.isPrefixOf,Bool.and_true,beq_eq_false_iff_ne]
   exact fun e=>this e.symm
 unfold Lib.cut
 rw [hi,if_pos (by omega)]
 simp
theorem cut_end64 (l:List UInt8) (h1:∀ j (hj:j < l.length),l[j] ≠ 64):Lib.cut l [64] = (l,[],false):=by
 have hi:Lib.index l [64] = -1:=by
  refine Lib.index_none ?_
  intro j hj
  rw [Lib.occAt]
  rcases Nat.lt_or_ge j l.length with h | h
  ·rw [List.drop_eq_getElem_cons h]
   have:=h1 j h
   simp only [List.isPrefixOf,Bool.and_true,beq_eq_false_iff_ne]
   exact fun e=>this e.symm
  ·rw [List.drop_eq_nil_of_le h];rfl
 unfold Lib.cut
 rw [hi,if_neg (by omega)]
theorem ret_cut64 {l a b:List UInt8} {s t:ByteArray} {p q:Bool} (h:Lib.cut l [64] = (a,b,p)) (hs:s = ⟨a.toArray⟩) (ht:t = ⟨b.toArray⟩) (hq:q = p):
  Ending.returned (.tuple #[.string s,.string t,.bool q]) = .returned (.tuple #[.string ⟨(Lib.cut l [64]).1.toArray⟩,.string ⟨(Lib.cut l [64]).2.1.toArray⟩,.bool (Lib.cut l [64]).2.2]):=by
 rw [h,hs,ht,hq]
set_option maxHeartbeats 400000 in
theorem rcut_at (s:ByteArray) (w:World) (hs:s.size ≤ 1000000):
  Calls Tryz.prog 49 #[.string s,.int .u8 64] w fun e w'=>e = .returned (.tuple #[.string ⟨(Lib.cut s.data.toList [64]).1.toArray⟩,.string ⟨(Lib.cut s.data.toList [64]).2.1.toArray⟩,.bool (Lib.cut s.data.toList [64]).2.2]) ∧ Below w.heap.size w w':=by
 go_enter Tryz.func49,Tryz.ntmps49
 go_wp2
 go_loop [7] (fun t=>∃ k:Nat,k ≤ s.size ∧ t = .int .i64 k ∧ Hid (∀ j (hj:j < s.data.toList.length),j < k → s.data.toList[j] ≠ 64)) (fun t=>s.size - (intOf t).toNat)
 case atStart=>exact ⟨0,Nat.zero_le _,rfl,fun j _ h=>by omega⟩
 case round=>
  obtain ⟨k,hk,rfl,HK⟩:=hrel
  by_cases hlt:k < s.size
  ·have hlt':k < s.data.toList.length:=by rw [← Lib.size_eq];exact hlt
   have hgk:s.data.toList[k] = s[k]:=rfl
   by_cases hc:s[k].toNat = 64
   ·have hc':((s[k].toNat:Int) == 64) = true:=by simp;omega
    have HX:Hid (Lib.cut s.data.toList [64] = (s.data.toList.take k,s.data.toList.drop (k + 1),true)):=cut_at64 _ k hlt' HK.out (by rw [hgk];exact UInt8.toNat_inj.1 hc)
    clear hc hgk
    go_wp2
    go_quiet (fail)
    go_wp2
    go_ret3
    exact ⟨ret_cut64 HX.out (by rw [Lib.extract_upto]) (by rw [Lib.extract_from]) rfl,drewB _ _⟩
   ·have hc':((s[k].toNat:Int) == 64) = false:=by simp;omega
    have HK2:Hid (∀ j (hj:j < s.data.toList.length),j < k + 1 → s.data.toList[j] ≠ 64):=by
     intro j hj h
     by_cases e:j = k
     ·subst e;intro h64;rw [hgk] at h64;exact hc (by rw [h64];rfl)
     ·exact HK.out j hj (by omega)
    clear hc hgk
    go_wp2
    go_round
    case rel=>exact ⟨k + 1,hlt,by go_num,HK2⟩
    case measure=>simp [intOf];omega
  ·have HX:Hid (Lib.cut s.data.toList [64] = (s.data.toList,[],false)):=cut_end64 _ (fun j hj=>HK.out j hj (by rw [← Lib.size_eq] at hj;omega))
   go_wp2
   go_ret3
   exact ⟨ret_cut64 HX.out (by rw [Lib.mk_data]) rfl rfl,Below.refl _ _⟩
end Go.Proofs.YtaepcfidpekflaaGreatDoor
