/-
  Several texts in one (Mh, Mi, Mj). By the verifier.
-/
import Derived.Test.YtaepcfidpekflaaGreatDoorZ16
import Derived.Test.YtaepcfidpekflaaGreatDoorZ09
import Derived.Test.YtaepcfidpekflaaGreatDoorZ03
namespace Go.Proofs.YtaepcfidpekflaaGreatDoor.Pg
open Go.Proofs.YtaepcfidpekflaaGreatDoor
theorem val_snoc' (l:T) (c:UInt8):Pr.val (l ++ [c]) = 10 * Pr.val l + (c.toNat - 48):=by simp [Pr.val]
theorem val_lt':∀ (n:Nat) (d:T),d.length = n → (∀ c ∈ d,Pn.isDig c = true) → Pr.val d < 10 ^ n:=by
 intro n
 induction n with
 | zero=>
  intro d hd _
  rw [List.length_eq_zero_iff.1 hd]
  decide
 | succ n ih=>
  intro d hd h
  rcases List.eq_nil_or_concat d with h0 | ⟨l,c,h0⟩
  ·rw [h0] at hd;simp at hd
  ·simp only [List.concat_eq_append] at h0
   rw [h0] at hd h ⊢
   simp only [List.length_append,List.length_singleton] at hd
   have h1:=ih l (by omega) (fun x hx=>h x (by simp [hx]))
   have h2:=(Pn.isDig_iff c).1 (h c (by simp))
   rw [val_snoc',Nat.pow_succ]
   omega
def upTo (rs:List T) (p q:Nat):T:=((rs.drop p).take (q - p)).flatten
theorem upTo_next {rs:List T} {p q:Nat} (hpq:p ≤ q) {c:T} (h:rs[q]? = some c):upTo rs p (q + 1) = upTo rs p q ++ c:=by
 unfold upTo
 rw [show q + 1 - p = (q - p) + 1 by omega,List.take_add_one,List.flatten_append,List.getElem?_drop,show p + (q - p) = q by omega,h]
 simp
theorem upTo_self (rs:List T) (p:Nat):upTo rs p p = []:=by unfold upTo;simp
theorem at1_some {rs:List T} {q:Nat} {f:UInt8 → Bool} (h:at1 rs q f = true):∃ b,rs[q]? = some [b] ∧ f b = true:=by
 unfold at1 at h
 cases e:rs[q]? with
 | none=>rw [e] at h;cases h
 | some c=>
  rw [e] at h
  unfold one1 at h
  simp only at h
  split at h
  ·rename_i b;exact ⟨b,rfl,h⟩
  ·cases h
theorem upTo_digs {rs:List T} {p q:Nat} (hq:q = p + (digs rs p).length):upTo rs p q = (digs rs p).flatten:=by
 unfold upTo digs at *
 rw [hq,show p + ((rs.drop p).takeWhile (one1 Pn.isDig)).length - p = ((rs.drop p).takeWhile (one1 Pn.isDig)).length by omega]
 congr 1
 exact (List.prefix_iff_eq_take.1 (List.takeWhile_prefix _)).symm
structure Vl (rs:List T) (p q:Nat):Prop where
 within:In1 Pn.isDig rs p q
 small:q - p ≤ 9
 digits:(∀ c ∈ upTo rs p q,Pn.isDig c = true) ∧ (upTo rs p q).length = q - p
 first:2 ≤ q - p → rs[p]? ≠ some [48]
end Go.Proofs.YtaepcfidpekflaaGreatDoor.Pg
namespace Go.Proofs.YtaepcfidpekflaaGreatDoor
open Go.RowKit Pg
theorem Pg.Vl.start (rs:List Pg.T) (p:Nat):Vl rs p p:=⟨In1.start _ _ _,by omega,by rw [upTo_self];simp,by omega⟩
theorem Pg.Vl.next {rs:List Pg.T} {p q:Nat} (h:Vl rs p q) (hp:p ≤ rs.length) {b:UInt8} (hb:rs[q]? = some [b]) (hd:Pn.isDig b = true) (h9:q - p ≠ 9) (h1:¬ (q - p = 1 ∧ Pr.val (upTo rs p q) = 0)):Vl rs p (q + 1) ∧ Pr.val (upTo rs p (q + 1)) = 10 * Pr.val (upTo rs p q) + (b.toNat - 48):=by
 have hpq:=h.within.1
 have ht:at1 rs q Pn.isDig = true:=by unfold at1;rw [hb];exact hd
 have hu:=upTo_next hpq hb
 have hs:=h.small
 refine ⟨⟨(h.within.next ht hp).1,by omega,?_,?_⟩,by rw [hu,val_snoc']⟩
 ·rw [hu]
  refine ⟨fun c hc=>?_,by rw [List.length_append,h.digits.2,List.length_singleton];omega⟩
  rcases List.mem_append.1 hc with hc | hc
  ·exact h.digits.1 c hc
  ·rw [List.mem_singleton.1 hc];exact hd
 ·intro h2 h0
  by_cases h3:2 ≤ q - p
  ·exact h.first h3 h0
  ·have e1:q = p + 1:=by omega
   apply h1
   refine ⟨by omega,?_⟩
   rw [e1,upTo_next (Nat.le_refl _) h0,upTo_self]
   decide
theorem valR_first {rs:List Pg.T} {p q:Nat} (h:Vl rs p q) (hp:p ≤ rs.length) {b:UInt8} (hb:rs[q]? = some [b]) (hd:Pn.isDig b = true) (h1:q - p = 1) (h0:Pr.val (upTo rs p q) = 0):valR rs p = .inl q:=by
 have ht:at1 rs q Pn.isDig = true:=by unfold at1;rw [hb];exact hd
 have hn:=(h.within.next ht hp).1.2
 have e1:q = p + 1:=by have:=h.within.1;omega
 have hlen:1 < (digs rs p).length:=by show 1 < ((rs.drop p).takeWhile (one1 Pn.isDig)).length;omega
 obtain ⟨c,hc,hcd⟩:=at1_some (at_tw Pn.isDig p 0 (by show 0 < (digs rs p).length;omega))
 rw [Nat.add_zero] at hc
 have hc48:c = 48:=by
  rw [e1,upTo_next (Nat.le_refl _) hc,upTo_self] at h0
  have:=(Pn.isDig_iff c).1 hcd
  have h2:Pr.val [c] = c.toNat - 48:=by simp [Pr.val]
  rw [List.nil_append,h2] at h0
  exact UInt8.toNat_inj.1 (by show c.toNat = 48;omega)
 unfold valR
 rw [if_neg (by omega),if_pos ⟨hlen,by rw [hc,hc48]⟩,e1]
theorem valR_nine {rs:List Pg.T} {p q:Nat} (h:Vl rs p q) (hp:p ≤ rs.length) (ht:at1 rs q Pn.isDig = true) (h1:q - p = 9):valR rs p = .inl q:=by
 have hn:=(h.within.next ht hp).1.2
 have hpq:=h.within.1
 have hlen:9 < (digs rs p).length:=by show 9 < ((rs.drop p).takeWhile (one1 Pn.isDig)).length;omega
 unfold valR
 rw [if_neg (by omega),if_neg (fun e=>h.first (by omega) e.2),if_pos hlen]
 congr 1
 omega
theorem valR_end {rs:List Pg.T} {p q:Nat} (h:Vl rs p q) (ht:at1 rs q Pn.isDig = false):(q = p → valR rs p = .inl p) ∧ (q ≠ p → valR rs p = .inr (upTo rs p q,q)):=by
 have hq:q = p + (digs rs p).length:=h.within.stop ht
 have hs:=h.small
 refine ⟨fun e=>?_,fun e=>?_⟩
 ·unfold valR
  rw [if_pos (by omega)]
 ·rw [upTo_digs hq]
  unfold valR
  rw [if_neg (by omega),if_neg (fun e2=>h.first (by omega) e2.2),if_neg (by omega),← hq]
def ValSaid (P:Nat) (rs:List Pg.T) (p:Nat) (w:World) (e:Ending) (w':World):Prop:=Ag P w w' ∧ match valR rs p with
 | .inl a=>∃ v,e = .returned (.tuple #[.int .u32 0,v]) ∧ Flt w.heap.size w' v 3 a
 | .inr (t,q)=>e = .returned (.tuple #[.int .u32 (Pr.val t:Nat),.nilIface]) ∧ Scn P w' rs q
theorem ValSaid.bad {P:Nat} {rs:List Pg.T} {p a:Nat} {w w':World} {v:Value} (h:valR rs p = .inl a) (ha:Ag P w w') (hv:Flt w.heap.size w' v 3 a):ValSaid P rs p w (.returned (.tuple #[.int .u32 0,v])) w':=by
 refine ⟨ha,?_⟩
 rw [h]
 exact ⟨v,rfl,hv⟩
theorem ValSaid.ok {P:Nat} {rs:List Pg.T} {p q:Nat} {t:Pg.T} {V:Nat} {w w':World} (h:valR rs p = .inr (t,q)) (hV:V = Pr.val t) (ha:Ag P w w') (hs:Scn P w' rs q):ValSaid P rs p w (.returned (.tuple #[.int .u32 V,.nilIface])) w':=by
 refine ⟨ha,?_⟩
 rw [h]
 exact ⟨by rw [hV],hs⟩
set_option maxHeartbeats 1600000 in
theorem pvalue_any (P:Nat) (w:World) (rs:List Pg.T) (p:Nat) (h:Scn P w rs p):
  Calls Tryz.prog 280 #[.pointer (some ⟨P,0,none⟩)] w fun e w'=>ValSaid P rs p w e w':=by
 obtain ⟨hp1,hp2,hp3⟩:=h.pts
 have HS:Hid (Scn P w rs p):=h
 have HP:Hid (Pts rs):=hp1
 obtain ⟨a0,c0,q0,f0⟩:=h.rows
 clear h hp1
 go_enter Tryz.func280,Tryz.ntmps280
 go_wp2_with fail
 go_loopw [4] (fun v wr=>∃ (q V:Nat),v = .int .u32 V ∧ Hid (V = Pr.val (upTo rs p q)) ∧ Hid (Vl rs p q) ∧ Hid (Scn P wr rs q) ∧ Ag P w wr) (fun _ wr=>rs.length - posOf wr P)
 case atStart=>exact ⟨p,0,rfl,by show _ = _;rw [upTo_self];rfl,Vl.start _ _,HS,Ag.refl _ _⟩
 case round=>
  clear HS q0 f0
  obtain ⟨q,V,rfl,HV,HL,HS,ha⟩:=hrel
  have kp:=peek_any P wr rs q 0 HS.out (by omega)
  rw [Nat.add_zero] at kp
  have dz:=digZ_at HP.out q
  have hl:=HS.out.pts.2.2
  have hpos:=HS.out.pos
  have hpq:=HL.out.within.1
  have hsm:=HL.out.small
  have hV9:V < 10 ^ (q - p):=by rw [HV.out];exact val_lt' _ _ HL.out.digits.2 HL.out.digits.1
  have hw1:IntKind.i64.wrap ((q:Int) - p) = (q:Int) - p:=by rw [IntKind.wrap_i64];omega
  go_wp2_with fail
  refine kp.mono ?_
  rintro e w1 ⟨rfl,hb1⟩
  have kd:=pisDigit_any (pk rs q) w1
  rw [dz] at kd
  have hs1:=HS.out.then hb1
  have HS1:Hid (Scn P w1 rs q):=hs1
  obtain ⟨a,c,q1,f1⟩:=hs1.rows
  have kp2:=peek_any P w1 rs q 0 hs1 (by omega)
  rw [Nat.add_zero] at kp2
  have kw:=pwrong_any P w1 rs q hs1
  have ha1:=ha.then hb1
  clear kp dz hs1
  cases ht:at1 rs q Pn.isDig with
  | true=>
   rw [ht] at kd
   obtain ⟨b,hb,hbd⟩:=at1_some ht
   have hbd':=(Pn.isDig_iff b).1 hbd
   have hK:pk rs q = b.toNat:=(pk_eq HP.out q b (by omega)).2 hb
   rw [hK] at kd kp2 ⊢
   by_cases h9:q - p = 9
   ·have e9:((q:Int) - p == 9) = true:=by rw [beq_iff_eq];omega
    have HR:Hid (valR rs p = .inl q):=valR_nine HL.out hp3 ht h9
    clear ht hb hbd hK h9 hV9
    go_wp2_with (go_at_call 239;refine kd.mono ?_;rintro e w2 ⟨rfl,rfl⟩)
    refine kw.mono ?_
    rintro e w3 ⟨⟨v,rfl,hv⟩,hb3⟩
    go_wp2
    go_ret2
    exact ValSaid.bad HR.out (ha1.then hb3) (hv.mono ha1.size)
   have e9:((q:Int) - p == 9) = false:=by rw [beq_eq_false_iff_ne];omega
   by_cases h1:q - p = 1 ∧ V = 0
   ·have e1:((q:Int) - p == 1) = true:=by rw [beq_iff_eq];omega
    have HR:Hid (valR rs p = .inl q):=valR_first HL.out hp3 hb hbd h1.1 (by rw [← HV.out];exact h1.2)
    have hV0:=h1.2
    subst hV0
    clear ht hb hbd hK h9 hV9 h1
    go_wp2_with (go_at_call 239;refine kd.mono ?_;rintro e w2 ⟨rfl,rfl⟩)
    refine kw.mono ?_
    rintro e w3 ⟨⟨v,rfl,hv⟩,hb3⟩
    go_wp2
    go_ret2
    exact ValSaid.bad HR.out (ha1.then hb3) (hv.mono ha1.size)
   obtain ⟨hL2,hV2⟩:=HL.out.next hp3 hb hbd h9 (by rw [← HV.out];exact h1)
   have HL2:Hid (Vl rs p (q + 1)):=hL2
   have HV2:Hid (10 * V + (b.toNat - 48) = Pr.val (upTo rs p (q + 1))):=by show _ = _;rw [hV2,HV.out]
   have hV8:V < 100000000:=by
    have:10 ^ (q - p) ≤ 10 ^ 8:=Nat.pow_le_pow_right (by omega) (by omega)
    omega
   have hlt:q < rs.length:=lt_of_some hb
   have hw3:IntKind.i64.wrap ((q:Int) + 1) = (q:Int) + 1:=by rw [IntKind.wrap_i64];omega
   clear ht hb hbd hK hV9 hL2 hV2
   have e0:(((q:Int) - p == 1) && ((V:Int) == 0)) = false:=by
    rw [Bool.and_eq_false_iff,beq_eq_false_iff_ne,beq_eq_false_iff_ne]
    omega
   by_cases e1:q - p = 1
   ·have e1':((q:Int) - p == 1) = true:=by rw [beq_iff_eq];omega
    have eV:((V:Int) == 0) = false:=by rw [beq_eq_false_iff_ne];omega
    clear h1 e0 h9
    go_wp2_with (first | (go_at_call 239;refine kd.mono ?_;rintro e w2 ⟨rfl,rfl⟩))
    refine kp2.mono ?_
    rintro e w3 ⟨rfl,hb3⟩
    have hs3:=HS1.out.then hb3
    obtain ⟨a3,c3,q3,f3⟩:=hs3.rows
    obtain ⟨hs4,ha4⟩:=hs3.inc hlt (ha1.then hb3)
    have hpos4:=hs4.pos
    have HS4:Hid (Scn P (w3.setCell ⟨P,1,none⟩ (.int .i64 ((q:Int) + 1))) rs (q + 1)):=hs4
    clear hs3 hs4 kp2 kw kd q1 f1
    go_wp2
    exact ⟨⟨q + 1,10 * V + (b.toNat - 48),by rw [show (V:Int) * 10 + ((b.toNat:Int) - 48) = ((10 * V + (b.toNat - 48):Nat):Int) by omega],HV2,HL2,HS4,ha4⟩,by rw [hpos4,hpos];omega⟩
   ·have e1':((q:Int) - p == 1) = false:=by rw [beq_eq_false_iff_ne];omega
    clear h1 e0 h9
    go_wp2_with (first | (go_at_call 239;refine kd.mono ?_;rintro e w2 ⟨rfl,rfl⟩))
    refine kp2.mono ?_
    rintro e w3 ⟨rfl,hb3⟩
    have hs3:=HS1.out.then hb3
    obtain ⟨a3,c3,q3,f3⟩:=hs3.rows
    obtain ⟨hs4,ha4⟩:=hs3.inc hlt (ha1.then hb3)
    have hpos4:=hs4.pos
    have HS4:Hid (Scn P (w3.setCell ⟨P,1,none⟩ (.int .i64 ((q:Int) + 1))) rs (q + 1)):=hs4
    clear hs3 hs4 kp2 kw kd q1 f1
    go_wp2
    exact ⟨⟨q + 1,10 * V + (b.toNat - 48),by rw [show (V:Int) * 10 + ((b.toNat:Int) - 48) = ((10 * V + (b.toNat - 48):Nat):Int) by omega],HV2,HL2,HS4,ha4⟩,by rw [hpos4,hpos];omega⟩
  | false=>
   rw [ht] at kd
   obtain ⟨hv1,hv2⟩:=valR_end HL.out ht
   by_cases hqp:q = p
   ·have HR:Hid (valR rs p = .inl q):=by show _ = _;rw [hv1 hqp,hqp]
    have eqp:((q:Int) == p) = true:=by rw [beq_iff_eq];omega
    clear ht hv1 hv2 hqp hw1
    go_wp2_with (first | (go_at_call 239;refine kd.mono ?_;rintro e w2 ⟨rfl,rfl⟩) | (go_at_call 161;refine kw.mono ?_;rintro e w3 ⟨⟨v,rfl,hv⟩,hb3⟩))
    go_ret2
    exact ValSaid.bad HR.out (ha1.then hb3) (hv.mono ha1.size)
   ·have HR:Hid (valR rs p = .inr (upTo rs p q,q)):=hv2 hqp
    have eqp:((q:Int) == p) = false:=by rw [beq_eq_false_iff_ne];omega
    clear ht hv1 hv2 hqp hw1
    go_wp2_with (first | (go_at_call 239;refine kd.mono ?_;rintro e w2 ⟨rfl,rfl⟩))
    go_ret2
    exact ValSaid.ok HR.out HV.out ha1 HS1.out
end Go.Proofs.YtaepcfidpekflaaGreatDoor
namespace Go.Proofs.YtaepcfidpekflaaGreatDoor
open Go.RowKit Pg
theorem selV_ne {t:Pg.T} (h:t.head? ≠ some 61):selV t = (t,0):=by
 unfold selV
 split
 ·simp at h
 ·rfl
theorem word_61 (rs:List Pg.T) (p:Nat):(word rs p).flatten.head? ≠ some 61:=by
 intro h
 have h1:=word_head p 61 h
 have h2:0 < (word rs p).length:=by
  rw [← word_len]
  cases e:(word rs p).flatten with
  | nil=>rw [e] at h;cases h
  | cons _ _=>simp
 have h3:=at_tw isN p 0 h2
 rw [Nat.add_zero] at h3
 unfold at1 at h3
 rw [h1] at h3
 exact absurd h3 (by decide)
theorem six_isCat (t:Pg.T):decide (t ∈ sixT) = Dk.isCat t:=by
 rw [Bool.eq_iff_iff,decide_eq_true_eq]
 unfold sixT Dk.isCat Pr.catB
 simp [or_assoc]
def SelSaid (P:Nat) (rs:List Pg.T) (num:Bool) (p:Nat) (w:World) (e:Ending) (w':World):Prop:=Ag P w w' ∧ match selR num rs p with
 | .inl a=>∃ v,e = .returned (.tuple #[.agg #[.string ⟨#[]⟩,.int .u32 0],v]) ∧ Flt w.heap.size w' v 3 a
 | .inr (t,q)=>e = .returned (.tuple #[.agg #[.string ⟨(selV t).1.toArray⟩,.int .u32 ((selV t).2:Nat)],.nilIface]) ∧ Scn P w' rs q
theorem SelSaid.bad {P:Nat} {rs:List Pg.T} {num:Bool} {p a:Nat} {w w':World} {v:Value} (h:selR num rs p = .inl a) (ha:Ag P w w') (hv:Flt w.heap.size w' v 3 a):SelSaid P rs num p w (.returned (.tuple #[.agg #[.string ⟨#[]⟩,.int .u32 0],v])) w':=by
 refine ⟨ha,?_⟩
 rw [h]
 exact ⟨v,rfl,hv⟩
theorem SelSaid.ok {P:Nat} {rs:List Pg.T} {num:Bool} {p q:Nat} {t n:Pg.T} {k:Nat} {w w':World} (h:selR num rs p = .inr (t,q)) (hk:selV t = (n,k)) (ha:Ag P w w') (hs:Scn P w' rs q):SelSaid P rs num p w (.returned (.tuple #[.agg #[.string ⟨n.toArray⟩,.int .u32 k],.nilIface])) w':=by
 refine ⟨ha,?_⟩
 rw [h]
 simp only [hk]
 exact ⟨trivial,hs⟩
set_option maxHeartbeats 1600000 in
theorem pbyName_any (P Bx:Nat) (w:World) (rs:List Pg.T) (p:Nat) (h:Scn P w rs p) (hc:w.cell? ⟨Bx,0,none⟩ = some (.pointer (some ⟨P,0,none⟩))):
  Calls Tryz.prog 260 #[.pointer (some ⟨Bx,0,none⟩)] w fun e w'=>SelSaid P rs false p w e w':=by
 have hb0:=(Below.refl w.heap.size w).alloc (Nat.le_refl _) (.cells #[.string ⟨#[]⟩,.int .u32 0] 330)
 have r0:=row_at w #[.string ⟨#[]⟩,.int .u32 0] 330
 have hc0:=(World.cell?_alloc_lt w (.cells #[.string ⟨#[]⟩,.int .u32 0] 330) ⟨Bx,0,none⟩ (cell_lt hc)).trans hc
 have hz0:(w.alloc (.cells #[.string ⟨#[]⟩,.int .u32 0] 330)).heap.size = w.heap.size + 1:=by simp
 have kn:=pname_any P _ rs p (h.then hb0)
 have hPl:=h.lt
 have HN:Hid (selR false rs p = nameR rs p):=rfl
 clear h hc
 go_enter Tryz.func260,Tryz.ntmps260
 go_wp2_with fail
 refine kn.mono ?_
 rintro e w1 ⟨ha,hn⟩
 have HR0:Hid (Row w1 w.heap.size #[.string ⟨#[]⟩,.int .u32 0]):=r0.ag ha (by omega)
 have ha0:Ag P w w1:=(Ag.of hb0 (Nat.le_refl _)).trans ha
 have hz1:w.heap.size < w1.heap.size:=by have:=ha.size;omega
 rw [hz0] at hn
 clear kn r0 hc0 hb0 hz0 ha
 have q1:=HR0.out.2.1
 have f1:=HR0.out.2.2
 cases hr:nameR rs p with
 | inl a=>
  rw [hr] at hn HN
  obtain ⟨v,rfl,hv⟩:=hn
  have HV:Hid (Flt (w.heap.size + 1) w1 v 3 a):=hv
  clear hv hr
  go_wp2
  refine bodyPost_ret (v:=.tuple #[.agg #[.string ⟨#[]⟩,.int .u32 0],v]) (by simp [results,Tryz.results260,go_sem,q1]) rfl ?_
  exact SelSaid.bad HN.out ((ha0.setNew (Nat.le_refl _) 0 _).setNew (Nat.le_refl _) 1 _) (((HV.out.set (by omega) _).set (by omega) _).mono (by omega))
 | inr x=>
  obtain ⟨n,q⟩:=x
  have hsv:Hid (selV n = (n,0)):=by
   show _ = _
   rw [(nameR_inr hr).1]
   exact selV_ne (word_61 rs p)
  rw [hr] at hn HN
  obtain ⟨rfl,hs⟩:=hn
  have HS:Hid (Scn P w1 rs q):=hs
  clear hr hs
  go_wp2
  refine bodyPost_ret (v:=.tuple #[.agg #[.string ⟨n.toArray⟩,.int .u32 0],.nilIface]) (by simp [results,Tryz.results260,go_sem,q1]) rfl ?_
  exact SelSaid.ok HN.out hsv.out ((ha0.setNew (Nat.le_refl _) 0 _).setNew (Nat.le_refl _) 1 _) ((HS.out.set hPl _).set hPl _)
set_option maxHeartbeats 3200000 in
theorem pnumeral_any (P:Nat) (w:World) (rs:List Pg.T) (p:Nat) (h:Scn P w rs p):
  Calls Tryz.prog 263 #[.pointer (some ⟨P,0,none⟩)] w fun e w'=>SelSaid P rs true p w e w':=by
 have hb0:=(Below.refl w.heap.size w).alloc (Nat.le_refl _) (.cells #[.string ⟨#[]⟩,.int .u32 0] 330)
 have r0:=row_at w #[.string ⟨#[]⟩,.int .u32 0] 330
 have hz0:(w.alloc (.cells #[.string ⟨#[]⟩,.int .u32 0] 330)).heap.size = w.heap.size + 1:=by simp
 have h0:=h.then hb0
 have kt:=ptake_any P _ rs p 61 (by decide) h0
 have hPl:=h.lt
 have HE:Hid (selR true rs p = if rs[p]? = some [61] then (match valR rs (p + 1) with | .inl a=>.inl a | .inr (t,q)=>.inr (61 :: t,q)) else if Dk.isCat (word rs p).flatten = true then .inr ((word rs p).flatten,p + (word rs p).length) else .inl p):=rfl
 generalize hS:selR true rs p = SR at *
 have HSR:Hid (selR true rs p = SR):=hS
 clear hS
 by_cases hc:rs[p]? = some [61]
 ·rw [decide_eq_true hc,if_pos hc] at kt
  have HE2:Hid (SR = match valR rs (p + 1) with | .inl a=>.inl a | .inr (t,q)=>.inr (61 :: t,q)):=by
   have:=HE.out
   rw [if_pos hc] at this
   exact this
  clear h h0 HE hc
  go_enter Tryz.func263,Tryz.ntmps263
  go_wp2_with fail
  refine kt.mono ?_
  rintro e w1 ⟨rfl,hs1,ha⟩
  have HR0:Hid (Row w1 w.heap.size #[.string ⟨#[]⟩,.int .u32 0]):=r0.ag ha (by omega)
  have ha0:Ag P w w1:=(Ag.of hb0 (Nat.le_refl _)).trans ha
  have hz1:w.heap.size < w1.heap.size:=by have:=ha.size;omega
  have kv:=pvalue_any P w1 rs (p + 1) hs1
  clear kt r0 hb0 hz0 ha hs1
  go_wp2_with fail
  refine kv.mono ?_
  rintro e w2 ⟨ha2,hn⟩
  have HR1:Hid (Row w2 w.heap.size #[.string ⟨#[]⟩,.int .u32 0]):=HR0.out.ag ha2 (by omega)
  have ha3:=ha0.trans ha2
  have q1:=HR1.out.2.1
  have f1:=HR1.out.2.2
  clear kv HR0
  cases hr:valR rs (p + 1) with
  | inl a=>
   rw [hr] at hn
   obtain ⟨v,rfl,hv⟩:=hn
   have HV:Hid (Flt (w.heap.size + 1) w2 v 3 a):=hv.mono (by omega)
   have HN:Hid (selR true rs p = .inl a):=by
    show _ = _
    rw [HSR.out,HE2.out,hr]
   clear hv hr HE2
   go_wp2
   refine bodyPost_ret (v:=.tuple #[.agg #[.string ⟨#[]⟩,.int .u32 0],v]) (by simp [results,Tryz.results263,go_sem,q1]) rfl ?_
   exact SelSaid.bad HN.out ((ha3.setNew (Nat.le_refl _) 0 _).setNew (Nat.le_refl _) 1 _) (((HV.out.set (by omega) _).set (by omega) _).mono (by omega))
  | inr x=>
   obtain ⟨t,q⟩:=x
   rw [hr] at hn
   obtain ⟨rfl,hs⟩:=hn
   have HS:Hid (Scn P w2 rs q):=hs
   have HN:Hid (selR true rs p = .inr (61 :: t,q)):=by
    show _ = _
    rw [HSR.out,HE2.out,hr]
   clear hr hs HE2
   obtain ⟨V,hV⟩:∃ V,Hid (Pr.val t = V):=⟨_,rfl⟩
   have hsv:Hid (selV (61 :: t) = ([],V)):=by show _ = _;rw [← hV.out];rfl
   rw [hV.out]
   go_wp2
   refine bodyPost_ret (v:=.tuple #[.agg #[.string ⟨#[]⟩,.int .u32 V],.nilIface]) (by simp [results,Tryz.results263,go_sem,q1]) rfl ?_
   exact SelSaid.ok HN.out hsv.out ((ha3.setNew (Nat.le_refl _) 0 _).setNew (Nat.le_refl _) 1 _) ((HS.out.set hPl _).set hPl _)
 ·rw [decide_eq_false hc,if_neg hc] at kt
  have HE2:Hid (SR = if Dk.isCat (word rs p).flatten = true then .inr ((word rs p).flatten,p + (word rs p).length) else .inl p):=by
   have:=HE.out
   rw [if_neg hc] at this
   exact this
  clear h h0 HE hc
  go_enter Tryz.func263,Tryz.ntmps263
  go_wp2_with fail
  refine kt.mono ?_
  rintro e w1 ⟨rfl,hs1,ha⟩
  have HR0:Hid (Row w1 w.heap.size #[.string ⟨#[]⟩,.int .u32 0]):=r0.ag ha (by omega)
  have ha0:Ag P w w1:=(Ag.of hb0 (Nat.le_refl _)).trans ha
  have hz1:w.heap.size < w1.heap.size:=by have:=ha.size;omega
  have kv:=pword_any P w1 rs p hs1
  obtain ⟨a,c,q0,_⟩:=hs1.rows
  clear kt r0 hb0 hz0 ha hs1
  go_wp2_with fail
  refine kv.mono ?_
  rintro e w2 ⟨rfl,hs2,ha2⟩
  have kc:=isCategory_any (word rs p).flatten w2
  rw [six_isCat] at kc
  have HSV:Hid (selV (word rs p).flatten = ((word rs p).flatten,0)):=selV_ne (word_61 rs p)
  have HS2:Hid (Scn P w2 rs (p + (word rs p).length)):=hs2
  have ha3:=ha0.trans ha2
  have hz2:w.heap.size < w2.heap.size:=by have:=ha2.size;omega
  have HR1:Hid (Row w2 w.heap.size #[.string ⟨#[]⟩,.int .u32 0]):=HR0.out.ag ha2 (by omega)
  clear kv hs2 HR0 q0
  generalize p + (word rs p).length = q at *
  generalize (word rs p).flatten = F at *
  go_wp2_with fail
  refine kc.mono ?_
  rintro e w3 ⟨rfl,hb3⟩
  have HR3:Hid (Row w3 w.heap.size #[.string ⟨#[]⟩,.int .u32 0]):=HR1.out.keep hb3
  have HS3:Hid (Scn P w3 rs q):=HS2.out.then hb3
  have ha4:=ha3.then hb3
  have hz3:w.heap.size < w3.heap.size:=by have:=hb3.size;omega
  have q1:=HR3.out.2.1
  have f1:=HR3.out.2.2
  clear kc HR1 HS2 ha3 hb3
  cases hcat:Dk.isCat F with
  | true=>
   have HN:Hid (selR true rs p = .inr (F,q)):=by
    show _ = _
    rw [HSR.out,HE2.out,if_pos hcat]
   clear HE2 hcat
   go_wp2
   refine bodyPost_ret (v:=.tuple #[.agg #[.string ⟨F.toArray⟩,.int .u32 0],.nilIface]) (by simp [results,Tryz.results263,go_sem,q1]) rfl ?_
   exact SelSaid.ok HN.out HSV.out ((ha4.setNew (Nat.le_refl _) 0 _).setNew (Nat.le_refl _) 1 _) ((HS3.out.set hPl _).set hPl _)
  | false=>
   have HN:Hid (selR true rs p = .inl p):=by
    show _ = _
    rw [HSR.out,HE2.out,if_neg (by rw [hcat];simp)]
   have kf:=pfault_any w3 3 p
   clear HE2 hcat
   go_wp2_with (go_at_call 158;refine kf.mono ?_;rintro e w4 ⟨⟨v,rfl,hv⟩,hb4⟩;have HR4:=HR3.out.keep hb4;have q4:=HR4.2.1;have f4:=HR4.2.2)
   refine bodyPost_ret (v:=.tuple #[.agg #[.string ⟨#[]⟩,.int .u32 0],v]) (by simp [results,Tryz.results263,go_sem,q4]) rfl ?_
   exact SelSaid.bad HN.out (((ha4.then hb4).setNew (Nat.le_refl _) 0 _).setNew (Nat.le_refl _) 1 _) (((hv.set (by omega) _).set (by omega) _).mono (by omega))
def OffSaid (P:Nat) (rs:List Pg.T) (p:Nat) (w:World) (e:Ending) (w':World):Prop:=Ag P w w' ∧ match offR rs p with
 | .inl a=>∃ v,e = .returned (.tuple #[.int .u32 0,v]) ∧ Flt w.heap.size w' v 3 a
 | .inr (t,q)=>e = .returned (.tuple #[.int .u32 (Pr.val t:Nat),.nilIface]) ∧ Scn P w' rs q
theorem OffSaid.none {P:Nat} {rs:List Pg.T} {p:Nat} {w w':World} (h:offR rs p = .inr ([48],p)) (ha:Ag P w w') (hs:Scn P w' rs p):OffSaid P rs p w (.returned (.tuple #[.int .u32 0,.nilIface])) w':=by
 refine ⟨ha,?_⟩
 rw [h]
 exact ⟨rfl,hs⟩
theorem OffSaid.val {P:Nat} {rs:List Pg.T} {p k:Nat} {w w1 w':World} {e:Ending} (h:offR rs p = valR rs k) (ha:Ag P w w1) (hv:ValSaid P rs k w1 e w'):OffSaid P rs p w e w':=by
 obtain ⟨h1,h2⟩:=hv
 refine ⟨ha.trans h1,?_⟩
 rw [h]
 cases e:valR rs k with
 | inl a=>
  rw [e] at h2
  obtain ⟨v,h3,h4⟩:=h2
  exact ⟨v,h3,h4.mono ha.size⟩
 | inr x=>
  rw [e] at h2
  exact h2
set_option maxHeartbeats 3200000 in
theorem poffset_any (P:Nat) (w:World) (rs:List Pg.T) (p:Nat) (h:Scn P w rs p):
  Calls Tryz.prog 262 #[.pointer (some ⟨P,0,none⟩)] w fun e w'=>OffSaid P rs p w e w':=by
 have kw:=pword_any P w rs p h
 obtain ⟨a,c,q0,f0⟩:=h.rows
 have hp:=h.pts.2.2
 by_cases hw:(word rs p).flatten = offW
 ·have hne:((word rs p).flatten == ([111,102,102,115,101,116]:Pg.T)) = true:=by rw [hw];rfl
  by_cases h58:rs[p + (word rs p).length]? = some [58]
  ·have HO:Hid (offR rs p = valR rs (bl rs (p + (word rs p).length + 1))):=by
    show _ = _
    unfold offR
    rw [if_pos ⟨hw,h58⟩]
   have H58:Hid (rs[p + (word rs p).length]? = some [58]):=h58
   clear h hw h58
   generalize p + (word rs p).length = q at *
   generalize (word rs p).flatten = F at *
   go_enter Tryz.func262,Tryz.ntmps262
   go_wp2_with fail
   refine kw.mono ?_
   rintro e w1 ⟨rfl,hs1,ha1⟩
   have kt:=ptake_any P w1 rs q 58 (by decide) hs1
   rw [decide_eq_true H58.out,if_pos H58.out] at kt
   clear kw hs1 q0 f0
   go_wp2_with fail
   refine kt.mono ?_
   rintro e w2 ⟨rfl,hs2,ha2⟩
   have kb:=pblanks_any P w2 rs (q + 1) hs2
   clear kt hs2
   go_wp2_with fail
   refine kb.mono ?_
   rintro e w3 ⟨rfl,hs3,ha3⟩
   have kv:=pvalue_any P w3 rs _ hs3
   have ha4:=(ha1.trans ha2).trans ha3
   clear kb hs3
   go_wp2_with fail
   refine kv.mono ?_
   intro e w4 hv
   have HV:Hid (ValSaid P rs (bl rs (q + 1)) w3 e w4):=hv
   obtain ⟨ha5,hm⟩:=hv
   have:∃ x y,e = .returned (.tuple #[x,y]):=by
    cases er:valR rs (bl rs (q + 1)) with
    | inl a=>rw [er] at hm;obtain ⟨v,h3,_⟩:=hm;exact ⟨_,_,h3⟩
    | inr x=>rw [er] at hm;exact ⟨_,_,hm.1⟩
   obtain ⟨x,y,rfl⟩:=this
   clear hm kv
   go_wp2
   go_ret2
   exact OffSaid.val HO.out ha4 HV.out
  ·have HO:Hid (offR rs p = .inr ([48],p)):=by
    show _ = _
    unfold offR
    rw [if_neg (fun e=>h58 e.2)]
   have H58:Hid (¬ rs[p + (word rs p).length]? = some [58]):=h58
   clear h hw h58
   generalize p + (word rs p).length = q at *
   generalize (word rs p).flatten = F at *
   go_enter Tryz.func262,Tryz.ntmps262
   go_wp2_with fail
   refine kw.mono ?_
   rintro e w1 ⟨rfl,hs1,ha1⟩
   have kt:=ptake_any P w1 rs q 58 (by decide) hs1
   rw [decide_eq_false H58.out,if_neg H58.out] at kt
   clear kw hs1 q0 f0
   go_wp2_with fail
   refine kt.mono ?_
   rintro e w2 ⟨rfl,hs2,ha2⟩
   have hs3:=hs2.go p hp
   have HS3:Hid (Scn P (w2.setCell ⟨P,1,none⟩ (.int .i64 p)) rs p):=hs3
   obtain ⟨a2,c2,q2,f2⟩:=hs2.rows
   have ha3:=(ha1.trans ha2).setCell (P:=P) 1 (.int .i64 p)
   clear kt hs2 hs3
   go_wp2
   go_ret2
   exact OffSaid.none HO.out ha3 HS3.out
 ·have hne:((word rs p).flatten == ([111,102,102,115,101,116]:Pg.T)) = false:=by rw [beq_eq_false_iff_ne];exact hw
  have HO:Hid (offR rs p = .inr ([48],p)):=by
   show _ = _
   unfold offR
   rw [if_neg (fun e=>hw e.1)]
  clear h hw
  generalize p + (word rs p).length = q at *
  generalize (word rs p).flatten = F at *
  go_enter Tryz.func262,Tryz.ntmps262
  go_wp2_with fail
  refine kw.mono ?_
  rintro e w2 ⟨rfl,hs2,ha1⟩
  have hs3:=hs2.go p hp
  have HS3:Hid (Scn P (w2.setCell ⟨P,1,none⟩ (.int .i64 p)) rs p):=hs3
  obtain ⟨a2,c2,q2,f2⟩:=hs2.rows
  have ha3:=ha1.setCell (P:=P) 1 (.int .i64 p)
  clear kw hs2 hs3 q0 f0
  go_wp2
  go_ret2
  exact OffSaid.none HO.out ha3 HS3.out
end Go.Proofs.YtaepcfidpekflaaGreatDoor
namespace Go.Proofs.YtaepcfidpekflaaGreatDoor
open Go.RowKit Pg
theorem bld_ag {T e:TypeId} {B b P:Nat} {bs:List Value} {W W':World} (h:Lib.IsBuilderF T e B b bs W) (ha:Ag P W W') (hP:P < B):Lib.IsBuilderF T e B b bs W':=by
 have one:∀ p,Lib.BuilderAtF T e B b p bs W → Lib.BuilderAtF T e B b p bs W':=by
  intro p h
  have hlt:=h.lt
  obtain ⟨hB,v,hv,hown,hne⟩:=h
  refine ⟨hB,v,(ha.block b hlt (by omega)).trans hv,hown.kept (row:=some P) ⟨ha.os,ha.tape,ha.output,ha.size,fun k hk hkP=>ha.block k hk (fun e=>hkP (by rw [e]))⟩ ?_,hne⟩
  by_cases hn:v.ownBlock = none
  ·exact .inl hn
  ·refine .inr fun e=>?_
   have:=(hown.lt P e).1
   omega
 exact h.elim (fun x=>.inl (one _ x)) (fun x=>.inr (one _ x))
theorem Ag.low {P B:Nat} {w w1 w2:World} (h:Ag P w w1) (hb:Below B w1 w2) (hB:w.heap.size ≤ B):Ag P w w2:=
 ⟨hb.os.trans h.os,hb.tape.trans h.tape,hb.output.trans h.output,Nat.le_trans h.size hb.size,fun k hk hP=>(hb.block k (by omega)).trans (h.block k hk hP)⟩
theorem Scn.low {P B:Nat} {w w':World} {rs:List Pg.T} {p:Nat} (h:Scn P w rs p) (hb:Below B w w') (hP:P < B):Scn P w' rs p:=by
 obtain ⟨a,c,h1,h2,h3⟩:=h
 refine ⟨a,c,h1.below hb hP,?_,h3⟩
 rcases h2 with h2 | ⟨blk,k1,k2,k3,k4⟩
 ·exact .inl h2
 ·refine .inr ⟨blk,k1,k2,Nat.lt_of_lt_of_le k3 hb.size,fun j hj=>?_⟩
  exact (hb.cell (p:=⟨blk,j,none⟩) (by show blk < B;omega)).trans (k4 j hj)
theorem piece_le {c:Pg.T} (h:Pt c):c.length ≤ 4:=by
 rw [← h.enc]
 have:=Lib.runeCells_le (rv c)
 rw [Lib.runeCells_length] at this
 exact this.2
structure Sd (num:Bool) (rs:List Pg.T) (p q:Nat) (quoted:Bool) (acc:Pg.T):Prop where
 said:acc ++ (saidGo num quoted (rs.drop q)).1 = (saidGo num false (rs.drop p)).1
 place:q + (saidGo num quoted (rs.drop q)).2 = p + (saidGo num false (rs.drop p)).2
 small:acc.length ≤ 4 * q
theorem Sd.start (num:Bool) (rs:List Pg.T) (p:Nat):Sd num rs p p false []:=⟨rfl,rfl,by simp⟩
theorem drop_at {rs:List Pg.T} {q:Nat} {c:Pg.T} (h:rs[q]? = some c):rs.drop q = c :: rs.drop (q + 1):=by
 have hl:=lt_of_some h
 rw [List.drop_eq_getElem_cons hl]
 rw [List.getElem?_eq_getElem hl] at h
 injection h with h
 rw [h]
theorem Sd.stop {num:Bool} {rs:List Pg.T} {p q:Nat} {quoted:Bool} {acc:Pg.T} (h:Sd num rs p q quoted acc) (he:rs[q]? = none ∨ quoted = false ∧ ∃ c,rs[q]? = some c ∧ spec num c = true):acc = (saidGo num false (rs.drop p)).1 ∧ q = p + (saidGo num false (rs.drop p)).2:=by
 have:saidGo num quoted (rs.drop q) = ([],0):=by
  rcases he with he | ⟨rfl,c,he,hs⟩
  ·rw [List.drop_eq_nil_of_le (List.getElem?_eq_none_iff.1 he)]
   unfold saidGo
   rfl
  ·rw [drop_at he,saidGo_stop num c _ hs]
 have h1:=h.said
 have h2:=h.place
 rw [this] at h1 h2
 exact ⟨by simpa using h1,h2⟩
theorem Sd.plain {num:Bool} {rs:List Pg.T} (hp:Pts rs) {p q:Nat} {quoted:Bool} {acc:Pg.T} (h:Sd num rs p q quoted acc) {c:Pg.T} (hc:rs[q]? = some c) (hs:¬ (quoted = false ∧ spec num c = true)) (h39:c ≠ [39]):Sd num rs p (q + 1) quoted (acc ++ c):=by
 have e:=saidGo_ne num quoted c (rs.drop (q + 1)) hs h39
 rw [← drop_at hc] at e
 have h1:=h.said
 have h2:=h.place
 rw [e] at h1 h2
 have:=piece_le (hp.pt hc)
 have:=h.small
 exact ⟨by rw [List.append_assoc];exact h1,by simp only at h2;omega,by rw [List.length_append];omega⟩
theorem Sd.two {num:Bool} {rs:List Pg.T} {p q:Nat} {quoted:Bool} {acc:Pg.T} (h:Sd num rs p q quoted acc) (hc:rs[q]? = some [39]) (hd:rs[q + 1]? = some [39]):Sd num rs p (q + 2) quoted (acc ++ [39]):=by
 have e:=saidGo_two num quoted (rs.drop (q + 2))
 rw [← drop_at hd,← drop_at hc] at e
 have h1:=h.said
 have h2:=h.place
 rw [e] at h1 h2
 have:=h.small
 exact ⟨by rw [List.append_assoc];exact h1,by simp only at h2;omega,by rw [List.length_append,List.length_singleton];omega⟩
theorem Sd.quote {num:Bool} {rs:List Pg.T} {p q:Nat} {quoted:Bool} {acc:Pg.T} (h:Sd num rs p q quoted acc) (hc:rs[q]? = some [39]) (hd:rs[q + 1]? ≠ some [39]) (hq:quoted = true ∨ ∃ d,rs[q + 1]? = some d ∧ spec num d = true):Sd num rs p (q + 1) (!quoted) acc:=by
 have e:saidGo num quoted (rs.drop q) = ((saidGo num (!quoted) (rs.drop (q + 1))).1,(saidGo num (!quoted) (rs.drop (q + 1))).2 + 1):=by
  cases hn:rs[q + 1]? with
  | none=>
   rw [hn] at hq
   have hqt:quoted = true:=by rcases hq with h | ⟨d,h,_⟩;exact h;cases h
   rw [drop_at hc,List.drop_eq_nil_of_le (List.getElem?_eq_none_iff.1 hn),hqt]
   unfold saidGo
   simp
  | some d=>
   rw [hn] at hq hd
   rw [drop_at hc,drop_at hn]
   refine saidGo_quote num quoted d _ (fun e=>hd (by rw [e])) ?_
   rcases hq with h | ⟨d',h,hs⟩
   ·exact .inl h
   ·injection h with h;rw [h];exact .inr hs
 have h1:=h.said
 have h2:=h.place
 rw [e] at h1 h2
 have:=h.small
 exact ⟨h1,by simp only at h2;omega,by omega⟩
theorem Sd.one {num:Bool} {rs:List Pg.T} {p q:Nat} {acc:Pg.T} (h:Sd num rs p q false acc) (hc:rs[q]? = some [39]) (hd:rs[q + 1]? ≠ some [39]) (hq:¬ ∃ d,rs[q + 1]? = some d ∧ spec num d = true):Sd num rs p (q + 1) false (acc ++ [39]):=by
 have e:saidGo num false (rs.drop q) = (39 :: (saidGo num false (rs.drop (q + 1))).1,(saidGo num false (rs.drop (q + 1))).2 + 1):=by
  cases hn:rs[q + 1]? with
  | none=>
   rw [drop_at hc,List.drop_eq_nil_of_le (List.getElem?_eq_none_iff.1 hn)]
   unfold saidGo
   simp [spec]
  | some d=>
   rw [hn] at hq hd
   rw [drop_at hc,drop_at hn]
   refine saidGo_one num d _ (fun e=>hd (by rw [e])) ?_
   cases hs:spec num d with
   | false=>rfl
   | true=>exact absurd ⟨d,rfl,hs⟩ hq
 have h1:=h.said
 have h2:=h.place
 rw [e] at h1 h2
 have:=h.small
 exact ⟨by rw [List.append_assoc];exact h1,by simp only at h2;omega,by rw [List.length_append,List.length_singleton];omega⟩
end Go.Proofs.YtaepcfidpekflaaGreatDoor
