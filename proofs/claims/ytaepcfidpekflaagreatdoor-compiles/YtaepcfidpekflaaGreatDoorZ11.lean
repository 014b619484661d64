/-
  Several texts in one (Sc, Sd, Se, Sf, Sr, Ca). By the verifier.
-/
import Derived.Test.YtaepcfidpekflaaGreatDoorZ10
import Derived.Test.YtaepcfidpekflaaGreatDoorZ07
import Derived.Test.YtaepcfidpekflaaGreatDoorZ08
import Derived.Laws.AppendOwnNone
import Derived.Deep.RegionLaw
namespace Go.Proofs.YtaepcfidpekflaaGreatDoor
open Go.RowKit
set_option maxHeartbeats 800000 in
theorem left_any (t:Pr.T) (m:Nat) (hd:Digs t) (hm:1 ≤ m) (hm2:m ≤ 1000000000) (w:World):Calls Tryz.prog 119 #[.string ⟨t.toArray⟩,.int .i64 m] w fun e w'=>e = .returned (.int .i64 (Pr.val t % m:Nat)) ∧ w' = w:=by
 obtain ⟨s,hs⟩:∃ s:ByteArray,s = ⟨t.toArray⟩:=⟨_,rfl⟩
 have hsd:s.data.toList = t:=by rw [hs]
 rw [← hs]
 have HD:Hid (∀ c ∈ s.data.toList,Pn.isDig c = true):=by rw [hsd];exact hd.1
 have HV:Hid (Pr.val s.data.toList = Pr.val t):=by show _ = _;rw [hsd]
 have hsz:s.size ≤ 30:=by rw [Lib.size_eq,hsd];exact hd.2
 generalize Pr.val t = V at *
 clear hsd hs hd
 go_enter Tryz.func119,Tryz.ntmps119
 go_wp2
 go_loop [5,6] (fun v i=>∃ k:Nat,k ≤ s.size ∧ i = .int .i64 k ∧ ∃ x:Nat,v = .int .i64 x ∧ Hid (x = Pr.val (s.data.toList.take k) % m) ∧ x < m) (fun _ i=>s.size - (intOf i).toNat)
 case atStart=>exact ⟨0,Nat.zero_le _,rfl,0,rfl,by show _ = _;simp [Pr.val],by omega⟩
 case round=>
  obtain ⟨k,hk,rfl,x,rfl,HX,hx⟩:=hrel
  by_cases hp:k < s.size
  ·have hg:Pn.isDig s[k] = true:=HD.out _ (by
    have:s[k] = s.data.toList[k]'(by simpa using hp):=rfl
    rw [this];exact List.getElem_mem _)
   have hv:=val_take s k hp
   obtain ⟨h1,h2⟩:=(Pn.isDig_iff _).1 hg
   have hp':(k:Int) < s.size:=by omega
   have HX2:Hid ((10 * x + (s[k].toNat - 48)) % m = Pr.val (s.data.toList.take (k + 1)) % m):=by
    show _ = _
    rw [hv,HX.out,Nat.add_mod,Nat.mul_mod,Nat.mod_mod,← Nat.mul_mod,← Nat.add_mod]
   generalize hq:s[k].toNat = q at *
   have hw1:IntKind.u8.wrap ((q:Int) - 48) = (q:Int) - 48:=by rw [IntKind.wrap_u8];omega
   have hw2:IntKind.i64.wrap ((x:Int) * 10) = (x:Int) * 10:=by rw [IntKind.wrap_i64];omega
   have hw3:IntKind.i64.wrap ((x:Int) * 10 + ((q:Int) - 48)) = (x:Int) * 10 + ((q:Int) - 48):=by rw [IntKind.wrap_i64];omega
   have hN:(x:Int) * 10 + ((q:Int) - 48) = ((10 * x + (q - 48):Nat):Int):=by omega
   have hbig:10 * x + (q - 48) ≤ 20000000000:=by omega
   clear hv hg HX
   generalize hT:Pr.val (s.data.toList.take (k + 1)) % m = TT at *
   go_wp2_with fail
   go_loop [5] (fun v=>∃ y:Nat,v = .int .i64 y ∧ Hid (y % m = TT) ∧ y ≤ 20000000000) (fun v=>(intOf v).toNat)
   case atStart=>exact ⟨10 * x + (q - 48),by congr 1,HX2,hbig⟩
   case round=>
    obtain ⟨y,rfl,HY,hy⟩:=hrel
    by_cases hmy:m ≤ y
    ·have hmy':(m:Int) ≤ y:=by omega
     go_wp2_with fail
     go_loop [7] (fun z=>∃ p:Nat,z = .int .i64 p ∧ p ≤ y ∧ 1 ≤ p ∧ Hid (p % m = 0)) (fun z=>y - (intOf z).toNat)
     case atStart=>exact ⟨m,rfl,hmy,hm,by show _ = _;simp⟩
     case round=>
      obtain ⟨p,rfl,hpy,hp1,HP⟩:=hrel
      have hw4:IntKind.i64.wrap ((p:Int) * 2) = (p:Int) * 2:=by rw [IntKind.wrap_i64];omega
      have hw5:IntKind.i64.wrap ((y:Int) - p) = (y:Int) - p:=by rw [IntKind.wrap_i64];omega
      by_cases h2p:p * 2 ≤ y
      ·have h2p':(p:Int) * 2 ≤ y:=by omega
       have HP2:Hid (p * 2 % m = 0):=by show _ = _;rw [Nat.mul_mod,HP.out];simp
       go_wp2
       go_round
       case rel=>exact ⟨p * 2,by congr 1,h2p,by omega,HP2⟩
       case measure=>simp [intOf];omega
      ·have h2p':¬ (p:Int) * 2 ≤ y:=by omega
       have HY2:Hid ((y - p) % m = TT):=by
        show _ = _
        rw [← HY.out]
        have hd:m ∣ p:=Nat.dvd_of_mod_eq_zero HP.out
        obtain ⟨j,rfl⟩:=hd
        exact Nat.sub_mul_mod hpy
       go_wp2
       go_round
       case rel=>exact ⟨y - p,by congr 1;omega,HY2,by omega⟩
       case measure=>simp [intOf];omega
    ·have hmy':¬ (m:Int) ≤ y:=by omega
     have HE:Hid (y = TT):=by show _ = _;rw [← HY.out,Nat.mod_eq_of_lt (by omega)]
     have hT':Hid (Pr.val (s.data.toList.take (k + 1)) % m = TT):=hT
     clear hT HY
     go_wp2
     go_round
     case rel=>exact ⟨k + 1,hp,by go_num,y,rfl,by show _ = _;rw [hT'.out,HE.out],by omega⟩
     case measure=>simp [intOf];omega
  ·have hp':¬ (k:Int) < s.size:=by omega
   have HE:Hid (x = V % m):=by
    show _ = _
    rw [HX.out,List.take_of_length_le (by rw [← Lib.size_eq];omega),HV.out]
   clear HX
   go_wp2
   go_ret
   exact ⟨by rw [HE.out];rfl,rfl⟩
def Canon (a:Pr.T):Prop:=a ≠ [] ∧ (∀ c ∈ a,Pn.isDig c = true) ∧ (a.length = 1 ∨ a.head? ≠ some 48)
theorem less_gt:∀ (a b:Pr.T) (x y:Nat),a.length = b.length → (∀ c ∈ a,Pn.isDig c = true) → (∀ c ∈ b,Pn.isDig c = true) →
  x < y → a.foldl (fun v c=>10 * v + (c.toNat - 48)) x < b.foldl (fun v c=>10 * v + (c.toNat - 48)) y:=by
 intro a
 induction a with
 | nil=>
  intro b x y hl _ _ h
  have:b = []:=List.length_eq_zero_iff.1 hl.symm
  subst this
  exact h
 | cons c r ih=>
  intro b x y hl ha hb h
  cases b with
  | nil=>simp at hl
  | cons d s=>
   have h1:=(Pn.isDig_iff c).1 (ha c (by simp))
   have h2:=(Pn.isDig_iff d).1 (hb d (by simp))
   simp only [List.foldl_cons]
   exact ih s _ _ (by simpa using hl) (fun z hz=>ha z (by simp [hz])) (fun z hz=>hb z (by simp [hz])) (by omega)
theorem less_len:∀ (a b:Pr.T) (x y:Nat),a.length = b.length → (∀ c ∈ a,Pn.isDig c = true) → (∀ c ∈ b,Pn.isDig c = true) →
  (x < y → a.foldl (fun v c=>10 * v + (c.toNat - 48)) x < b.foldl (fun v c=>10 * v + (c.toNat - 48)) y) ∧ (x = y → (Op.bytesLess a b = true ↔ a.foldl (fun v c=>10 * v + (c.toNat - 48)) x < b.foldl (fun v c=>10 * v + (c.toNat - 48)) y) ∧ (a = b ↔ a.foldl (fun v c=>10 * v + (c.toNat - 48)) x = b.foldl (fun v c=>10 * v + (c.toNat - 48)) y)):=by
 intro a
 induction a with
 | nil=>
  intro b x y hl _ _
  have:b = []:=List.length_eq_zero_iff.1 hl.symm
  subst this
  refine ⟨fun h=>h,fun h=>?_⟩
  subst h
  simp [Op.bytesLess]
 | cons c r ih=>
  intro b x y hl ha hb
  cases b with
  | nil=>simp at hl
  | cons d s=>
   have h1:=(Pn.isDig_iff c).1 (ha c (by simp))
   have h2:=(Pn.isDig_iff d).1 (hb d (by simp))
   have hr:=ih s (10 * x + (c.toNat - 48)) (10 * y + (d.toNat - 48)) (by simpa using hl) (fun z hz=>ha z (by simp [hz])) (fun z hz=>hb z (by simp [hz]))
   simp only [List.foldl_cons]
   refine ⟨fun h=>hr.1 (by omega),fun h=>?_⟩
   subst h
   by_cases hcd:c = d
   ·subst hcd
    have:=hr.2 rfl
    simp only [Op.bytesLess]
    refine ⟨?_,?_⟩
    ·rw [← this.1];simp
    ·rw [← this.2];simp
   ·have hne:c.toNat ≠ d.toNat:=fun e=>hcd (UInt8.toNat_inj.1 e)
    rcases Nat.lt_or_ge c.toNat d.toNat with hlt | hge
    ·have h3:=hr.1 (by omega)
     have hlt':c < d:=UInt8.lt_iff_toNat_lt.2 hlt
     refine ⟨?_,?_⟩
     ·simp [Op.bytesLess,hlt',h3]
     ·simp [hcd];omega
    ·have h4:=(less_gt s r (10 * x + (d.toNat - 48)) (10 * x + (c.toNat - 48)) (by simpa using hl.symm) (fun z hz=>hb z (by simp [hz])) (fun z hz=>ha z (by simp [hz]))) (by omega)
     have hlt':¬ c < d:=fun h=>by have:=UInt8.lt_iff_toNat_lt.1 h;omega
     refine ⟨?_,?_⟩
     ·simp [Op.bytesLess,hlt',hcd];omega
     ·simp [hcd];omega
end Go.Proofs.YtaepcfidpekflaaGreatDoor
namespace Go.Proofs.YtaepcfidpekflaaGreatDoor
open Go.RowKit
theorem canon_len {a b:Pr.T} (ha:Canon a) (hb:Canon b) (h:a.length < b.length):Pr.val a < Pr.val b:=by
 have h1:=val_lt a ha.2.1
 cases b with
 | nil=>simp at h
 | cons c r=>
  have hc:c ≠ 48:=by
   rcases hb.2.2 with h2 | h2
   ·simp only [List.length_cons] at h2 h
    have:a.length ≠ 0:=fun e=>ha.1 (List.length_eq_zero_iff.1 e)
    omega
   ·simpa using h2
  have h2:=val_head c r hb.2.1 hc
  simp only [List.length_cons] at h
  have hp:10 ^ a.length ≤ 10 ^ r.length:=Nat.pow_le_pow_right (by omega) (by omega)
  omega
def cmpV (x y:Nat):Int:=if x < y then -1 else if x = y then 0 else 1
theorem canon_less {a b:Pr.T} (ha:Canon a) (hb:Canon b) (h:a.length = b.length):(Op.bytesLess a b = true ↔ Pr.val a < Pr.val b) ∧ (a = b ↔ Pr.val a = Pr.val b):=(less_len a b 0 0 h ha.2.1 hb.2.1).2 rfl
set_option maxHeartbeats 400000 in
theorem compared_any (a b:Pr.T) (ha:Canon a) (hb:Canon b) (w:World):Calls Tryz.prog 153 #[.string ⟨a.toArray⟩,.string ⟨b.toArray⟩] w fun e w'=>e = .returned (.int .i64 (cmpV (Pr.val a) (Pr.val b))) ∧ w' = w:=by
 obtain ⟨R,hR⟩:∃ R,Hid (cmpV (Pr.val a) (Pr.val b) = R):=⟨_,rfl⟩
 rw [hR.out]
 by_cases h1:a.length < b.length
 ·have hF:Hid (R = -1):=by show _ = _;rw [← hR.out,cmpV,if_pos (canon_len ha hb h1)]
  have h1':(a.length:Int) < b.length:=by omega
  clear h1
  go_enter Tryz.func153,Tryz.ntmps153
  go_wp2
  go_ret
  exact ⟨by rw [hF.out];rfl,rfl⟩
 ·have h1':¬ (a.length:Int) < b.length:=by omega
  by_cases h2:a.length = b.length
  ·have h2':((a.length:Int) == b.length) = true:=by rw [beq_iff_eq];omega
   obtain ⟨k1,k2⟩:=canon_less ha hb h2
   cases h3:Op.bytesLess a b with
   | true=>
    have hF:Hid (R = -1):=by show _ = _;rw [← hR.out,cmpV,if_pos (k1.1 h3)]
    clear h1 h2 k1 k2
    go_enter Tryz.func153,Tryz.ntmps153
    go_wp2
    go_ret
    exact ⟨by rw [hF.out];rfl,rfl⟩
   | false=>
    have n1:¬ Pr.val a < Pr.val b:=fun h=>by rw [k1.2 h] at h3;cases h3
    by_cases h4:a = b
    ·have hF:Hid (R = 0):=by show _ = _;rw [← hR.out,cmpV,if_neg n1,if_pos (k2.1 h4)]
     have h4':(a == b) = true:=by rw [beq_iff_eq];exact h4
     clear h1 h2 k1 k2 h4 n1
     go_enter Tryz.func153,Tryz.ntmps153
     go_wp2
     go_ret
     exact ⟨by rw [hF.out];rfl,rfl⟩
    ·have hF:Hid (R = 1):=by show _ = _;rw [← hR.out,cmpV,if_neg n1,if_neg (fun h=>h4 (k2.2 h))]
     have h4':(a == b) = false:=by rw [beq_eq_false_iff_ne];exact h4
     clear h1 h2 k1 k2 h4 n1
     go_enter Tryz.func153,Tryz.ntmps153
     go_wp2
     go_ret
     exact ⟨by rw [hF.out];rfl,rfl⟩
  ·have h2':((a.length:Int) == b.length) = false:=by rw [beq_eq_false_iff_ne];omega
   have hgt:=canon_len hb ha (by omega)
   have hF:Hid (R = 1):=by show _ = _;rw [← hR.out,cmpV,if_neg (by omega),if_neg (by omega)]
   have h4':(a == b) = false:=by
    rw [beq_eq_false_iff_ne]
    intro e
    exact h2 (by rw [e])
   clear h1 h2 hgt
   go_enter Tryz.func153,Tryz.ntmps153
   go_wp2
   go_ret
   exact ⟨by rw [hF.out];rfl,rfl⟩
theorem canon_dec (u:Nat) (hu:u < 18446744073709551616):Canon (Lib.decDigits u):=by
 refine ⟨?_,(dec_val u).2,?_⟩
 ·rw [Lib.decDigits];split <;> simp
 ·induction u using Nat.strongRecOn with
  | _ u ih=>
   by_cases h:u < 10
   ·left;rw [Lib.decDigits,dif_pos h];rfl
   ·right
    rw [Lib.decDigits,dif_neg h]
    rcases ih (u / 10) (by omega) (by omega) with h1 | h1
    ·cases e:Lib.decDigits (u / 10) with
     | nil=>rw [e] at h1;simp at h1
     | cons c r=>
      rw [e] at h1
      have hr:r = []:=by simpa using h1
      subst hr
      have hv:=(dec_val (u / 10)).1
      rw [e] at hv
      have hc:10 * 0 + (c.toNat - 48) = u / 10:=hv
      simp
      intro e48
      rw [e48] at hc
      have:(48:UInt8).toNat = 48:=rfl
      omega
    ·cases e:Lib.decDigits (u / 10) with
     | nil=>
      exfalso
      have:=e
      rw [Lib.decDigits] at this
      split at this <;> simp at this
     | cons c r=>rw [e] at h1;simpa using h1
theorem canon_plain (t:Pr.T) (h:∀ c ∈ t,Pn.isDig c = true):Canon (plainD t) ∧ Pr.val (plainD t) = Pr.val t:=by
 have hs:=(List.dropWhile_suffix (· == (48:UInt8)) (l:=t))
 have hz:=val_zero t
 unfold Lib.trimLeftB at hz
 unfold plainD
 split
 ·rename_i e
  rw [e] at hz
  exact ⟨⟨by simp,by decide,.inl rfl⟩,by rw [← hz];rfl⟩
 ·rename_i e
  refine ⟨⟨e,fun c hc=>h c (hs.subset hc),.inr fun e48=>?_⟩,hz⟩
  have:=List.head?_dropWhile_not (· == (48:UInt8)) t
  rw [e48] at this
  simp at this
theorem canon_fig {t:Pr.T} {v:Nat} (h:Pr.fig t = some v):Canon t ∧ Pr.val t = v:=by
 unfold Pr.fig at h
 split at h
 ·rename_i c
  injection h with h
  have hd:=(digitsB_iff t).1 c.1
  exact ⟨⟨hd.1,hd.2,c.2.2⟩,h⟩
 ·cases h
end Go.Proofs.YtaepcfidpekflaaGreatDoor
namespace Go.Proofs.YtaepcfidpekflaaGreatDoor
open Go.RowKit
theorem short_snoc (l:Pr.T):Pr.shortR (l ++ [48]) = Pr.shortR l:=by
 unfold Pr.shortR
 rw [List.reverse_append]
 simp
theorem short_stop (l:Pr.T) (c:UInt8) (h:c ≠ 48):Pr.shortR (l ++ [c]) = l ++ [c]:=by
 unfold Pr.shortR
 rw [List.reverse_append]
 simp [h]
theorem last_at (l:Pr.T) (c:UInt8) (h:l.length < (⟨(l ++ [c]).toArray⟩:ByteArray).size):(⟨(l ++ [c]).toArray⟩:ByteArray)[l.length] = c:=by
 show (l ++ [c]).toArray[l.length] = c
 simp
def opA (t:Pr.T) (a b:Pr.T):Pr.T:=
 if t = [110] then a else if t = [105] then a else if t = [118] then Lib.decDigits b.length else if t = [119] then Lib.decDigits (Pr.shortR b).length else if t = [102] then plainD b else if t = [116] then plainD (Pr.shortR b) else []
def opF (t:Pr.T) (b:Pr.T):Pr.T:=if t = [110] then b else []
def opOk (t:Pr.T):Bool:=(Pr.opd t).isSome
set_option maxHeartbeats 1600000 in
theorem operand_any (m:Bool) (a b t:Pr.T) (_ha:Digs a) (hb:Digs b) (w:World):
  Calls Tryz.prog 116 #[.agg #[.bool m,.string ⟨a.toArray⟩,.string ⟨b.toArray⟩],.string ⟨t.toArray⟩] w fun e w'=>e = .returned (.tuple #[.string ⟨(opA t a b).toArray⟩,.string ⟨(opF t b).toArray⟩,.bool (opOk t)]) ∧ Below w.heap.size w w':=by
 have hw:=(Below.refl w.heap.size w).alloc (Nat.le_refl _) (.cells #[.bool m,.string ⟨a.toArray⟩,.string ⟨b.toArray⟩] 62)
 have h30:=hb.2
 obtain ⟨A,hA⟩:∃ A,Hid (opA t a b = A):=⟨_,rfl⟩
 obtain ⟨F,hF⟩:∃ F,Hid (opF t b = F):=⟨_,rfl⟩
 obtain ⟨O,hO⟩:∃ O,Hid (opOk t = O):=⟨_,rfl⟩
 rw [hA.out,hF.out,hO.out]
 have q0:=(row_at w #[.bool m,.string ⟨a.toArray⟩,.string ⟨b.toArray⟩] 62).2.1
 go_enter Tryz.func116,Tryz.ntmps116
 go_upto_block 0 with fail
 go_cut [7] (fun x wc=>x = .string ⟨(Pr.shortR b).toArray⟩ ∧ wc = w.alloc (.cells #[.bool m,.string ⟨a.toArray⟩,.string ⟨b.toArray⟩] 62))
 case first=>
  go_wp2
  go_loop [7] (fun x=>∃ u:Pr.T,x = .string ⟨u.toArray⟩ ∧ u.length ≤ 30 ∧ Hid (Pr.shortR u = Pr.shortR b)) (fun x=>match x with | .string s=>s.size | _=>0)
  case atStart=>exact ⟨b,rfl,h30,rfl⟩
  case round=>
   obtain ⟨u,rfl,hu,HU⟩:=hrel
   rcases List.eq_nil_or_concat u with rfl | ⟨l,c,rfl⟩
   ·have hE:Hid (Pr.shortR b = []):=HU.out.symm
    clear HU
    go_wp2
    go_meet
    case rel=>exact ⟨by rw [hE.out],rfl⟩
   ·simp only [List.concat_eq_append,List.length_append,List.length_singleton] at hu HU ⊢
    have hlast:=last_at l c
    have hex:=ex_take (l ++ [c]) l.length
    rw [List.take_left] at hex
    have hw1:IntKind.i64.wrap ((l.length:Int) + 1 - 1) = l.length:=by rw [IntKind.wrap_i64];omega
    by_cases hc:c = 48
    ·have hc':((c.toNat:Int) == 48) = true:=by rw [hc];rfl
     have HU2:Hid (Pr.shortR l = Pr.shortR b):=by show _ = _;rw [← HU.out,hc,short_snoc]
     clear HU hc
     go_wp2
     go_round
     case rel=>exact ⟨l,rfl,by omega,HU2⟩
     case measure=>
      show l.toArray.size < (l ++ [c]).toArray.size
      simp
    ·have hc':((c.toNat:Int) == 48) = false:=by
      rw [beq_eq_false_iff_ne]
      intro e
      exact hc (UInt8.toNat_inj.1 (by show c.toNat = 48;omega))
     have hE:Hid (Pr.shortR b = l ++ [c]):=by show _ = _;rw [← HU.out,short_stop l c hc]
     clear HU hc
     go_wp2
     go_meet
     case rel=>exact ⟨by rw [hE.out],rfl⟩
 case rest=>
  obtain ⟨rfl,rfl⟩:=hcut
  have h2:=(short_digs b hb).2
  by_cases h110:t = [110]
  ·have eA:Hid (A = a):=by show _ = _;rw [← hA.out];simp [opA,h110]
   have eF:Hid (F = b):=by show _ = _;rw [← hF.out];simp [opF,h110]
   have eO:Hid (O = true):=by show _ = _;rw [← hO.out];simp [opOk,Pr.opd,h110]
   have y:(t == [110]) = true:=by rw [h110];rfl
   clear hA hF hO h110
   go_wp2
   go_quiet (fail)
   go_wp2
   go_ret3
   exact ⟨by rw [eA.out,eF.out,eO.out];rfl,below_of hw (drewB _ _)⟩
  by_cases h105:t = [105]
  ·have eA:Hid (A = a):=by show _ = _;rw [← hA.out];simp [opA,h105]
   have eF:Hid (F = []):=by show _ = _;rw [← hF.out];simp [opF,h105]
   have eO:Hid (O = true):=by show _ = _;rw [← hO.out];simp [opOk,Pr.opd,h105]
   have y:(t == [105]) = true:=by rw [h105];rfl
   have n110:(t == [110]) = false:=by rw [beq_eq_false_iff_ne];exact h110
   clear hA hF hO h110 h105
   go_wp2
   go_ret3
   exact ⟨by rw [eA.out,eF.out,eO.out];rfl,hw⟩
  by_cases h118:t = [118]
  ·have eA:Hid (A = Lib.decDigits b.length):=by show _ = _;rw [← hA.out];simp [opA,h118]
   have eF:Hid (F = []):=by show _ = _;rw [← hF.out];simp [opF,h118]
   have eO:Hid (O = true):=by show _ = _;rw [← hO.out];simp [opOk,Pr.opd,h118]
   have y:(t == [118]) = true:=by rw [h118];rfl
   have n110:(t == [110]) = false:=by rw [beq_eq_false_iff_ne];exact h110
   have n105:(t == [105]) = false:=by rw [beq_eq_false_iff_ne];exact h105
   clear hA hF hO h110 h105 h118
   go_wp2_with (go_at_call 120;refine (decimal_any b.length _ (by omega)).mono ?_;rintro e w1 ⟨rfl,hb1⟩)
   go_ret3
   exact ⟨by rw [eA.out,eF.out,eO.out];rfl,below_of hw hb1⟩
  by_cases h119:t = [119]
  ·have eA:Hid (A = Lib.decDigits (Pr.shortR b).length):=by show _ = _;rw [← hA.out];simp [opA,h119]
   have eF:Hid (F = []):=by show _ = _;rw [← hF.out];simp [opF,h119]
   have eO:Hid (O = true):=by show _ = _;rw [← hO.out];simp [opOk,Pr.opd,h119]
   have y:(t == [119]) = true:=by rw [h119];rfl
   have n110:(t == [110]) = false:=by rw [beq_eq_false_iff_ne];exact h110
   have n105:(t == [105]) = false:=by rw [beq_eq_false_iff_ne];exact h105
   have n118:(t == [118]) = false:=by rw [beq_eq_false_iff_ne];exact h118
   clear hA hF hO h110 h105 h118 h119
   go_wp2_with (go_at_call 120;refine (decimal_any (Pr.shortR b).length _ (by omega)).mono ?_;rintro e w1 ⟨rfl,hb1⟩)
   go_ret3
   exact ⟨by rw [eA.out,eF.out,eO.out];rfl,below_of hw hb1⟩
  by_cases h102:t = [102]
  ·have eA:Hid (A = plainD b):=by show _ = _;rw [← hA.out];simp [opA,h102]
   have eF:Hid (F = []):=by show _ = _;rw [← hF.out];simp [opF,h102]
   have eO:Hid (O = true):=by show _ = _;rw [← hO.out];simp [opOk,Pr.opd,h102]
   have y:(t == [102]) = true:=by rw [h102];rfl
   have n110:(t == [110]) = false:=by rw [beq_eq_false_iff_ne];exact h110
   have n105:(t == [105]) = false:=by rw [beq_eq_false_iff_ne];exact h105
   have n118:(t == [118]) = false:=by rw [beq_eq_false_iff_ne];exact h118
   have n119:(t == [119]) = false:=by rw [beq_eq_false_iff_ne];exact h119
   clear hA hF hO h110 h105 h118 h119 h102
   go_wp2_with (go_at_call 152;refine (plain_any b (by omega) _).mono ?_;rintro e w1 ⟨rfl,rfl⟩)
   go_ret3
   exact ⟨by rw [eA.out,eF.out,eO.out];rfl,hw⟩
  by_cases h116:t = [116]
  ·have eA:Hid (A = plainD (Pr.shortR b)):=by show _ = _;rw [← hA.out];simp [opA,h116]
   have eF:Hid (F = []):=by show _ = _;rw [← hF.out];simp [opF,h116]
   have eO:Hid (O = true):=by show _ = _;rw [← hO.out];simp [opOk,Pr.opd,h116]
   have y:(t == [116]) = true:=by rw [h116];rfl
   have n110:(t == [110]) = false:=by rw [beq_eq_false_iff_ne];exact h110
   have n105:(t == [105]) = false:=by rw [beq_eq_false_iff_ne];exact h105
   have n118:(t == [118]) = false:=by rw [beq_eq_false_iff_ne];exact h118
   have n119:(t == [119]) = false:=by rw [beq_eq_false_iff_ne];exact h119
   have n102:(t == [102]) = false:=by rw [beq_eq_false_iff_ne];exact h102
   clear hA hF hO h110 h105 h118 h119 h102 h116
   go_wp2_with (go_at_call 152;refine (plain_any (Pr.shortR b) (by omega) _).mono ?_;rintro e w1 ⟨rfl,rfl⟩)
   go_ret3
   exact ⟨by rw [eA.out,eF.out,eO.out];rfl,hw⟩
  have eA:Hid (A = []):=by show _ = _;rw [← hA.out];simp only [opA,h110,h105,h118,h119,h102,h116,if_false]
  have eF:Hid (F = []):=by show _ = _;rw [← hF.out];simp only [opF,h110,if_false]
  have eO:Hid (O = false):=by show _ = _;rw [← hO.out];simp only [opOk,Pr.opd,h110,h105,h118,h119,h102,h116,if_false];rfl
  have n110:(t == [110]) = false:=by rw [beq_eq_false_iff_ne];exact h110
  have n105:(t == [105]) = false:=by rw [beq_eq_false_iff_ne];exact h105
  have n118:(t == [118]) = false:=by rw [beq_eq_false_iff_ne];exact h118
  have n119:(t == [119]) = false:=by rw [beq_eq_false_iff_ne];exact h119
  have n102:(t == [102]) = false:=by rw [beq_eq_false_iff_ne];exact h102
  have n116:(t == [116]) = false:=by rw [beq_eq_false_iff_ne];exact h116
  clear hA hF hO h110 h105 h118 h119 h102 h116
  go_wp2
  go_ret3
  exact ⟨by rw [eA.out,eF.out,eO.out];rfl,hw⟩
end Go.Proofs.YtaepcfidpekflaaGreatDoor
namespace Go.Proofs.YtaepcfidpekflaaGreatDoor
open Go.RowKit
def SlV (w:World) (v:Value) (l:List Pr.T):Prop:=(v = .slice none 0 0 ∧ l = []) ∨
 ∃ blk off c,v = .slice (some ⟨blk,off,none⟩) l.length c ∧ l.length ≤ c ∧ blk < w.heap.size ∧ ∀ j,j < l.length → w.cell? ⟨blk,off + j,none⟩ = some (strV (l.getD j []))
theorem SlV.keep {w w':World} {v:Value} {l:List Pr.T} (h:SlV w v l) (hb:Below w.heap.size w w'):SlV w' v l:=by
 rcases h with h | ⟨blk,off,c,h1,h2,h3,h4⟩
 ·exact .inl h
 ·exact .inr ⟨blk,off,c,h1,h2,Nat.lt_of_lt_of_le h3 hb.size,fun j hj=>(hb.cell (p:=⟨blk,off + j,none⟩) h3).trans (h4 j hj)⟩
theorem info_rows:(Tryz.prog.info? 35).map (fun i=>(i.zero,i.size,i.bytes)) = some (some (.slice none 0 0),1,24):=by kernel_rfl
theorem drop_seg (l:List Pr.T) (fr k:Nat) (h:fr ≤ k) (hk:k < l.length):l.drop fr = (l.drop fr).take (k - fr) ++ l.getD k [] :: l.drop (k + 1):=by
 conv=>lhs;rw [← List.take_append_drop (k - fr) (l.drop fr)]
 rw [List.drop_drop,show fr + (k - fr) = k by omega,List.drop_eq_getElem_cons hk]
 simp [List.getD_eq_getElem?_getD,List.getElem?_eq_getElem hk]
theorem seg_mem (l:List Pr.T) (fr n:Nat) (t:Pr.T) (h:∀ j,fr ≤ j → j < fr + n → j < l.length → l.getD j [] ≠ t):∀ u ∈ (l.drop fr).take n,u ≠ t:=by
 intro u hu
 obtain ⟨j,hj,rfl⟩:=List.getElem_of_mem hu
 simp only [List.length_take,List.length_drop] at hj
 have:=h (fr + j) (by omega) (by omega) (by omega)
 rw [List.getD_eq_getElem?_getD,List.getElem?_eq_getElem (by omega)] at this
 simpa using this
theorem parts_hit (l:List Pr.T) (fr k:Nat) (t:Pr.T) (h:fr ≤ k) (hk:k < l.length) (ht:l.getD k [] = t) (hn:∀ j,fr ≤ j → j < k → l.getD j [] ≠ t):Pr.partsAt t (l.drop fr) = (l.drop fr).take (k - fr) :: Pr.partsAt t (l.drop (k + 1)):=by
 conv=>lhs;rw [drop_seg l fr k h hk,ht]
 exact Pr.parts_app t _ _ (seg_mem l fr (k - fr) t (fun j h1 h2 _=>hn j h1 (by omega)))
theorem parts_last (l:List Pr.T) (fr:Nat) (t:Pr.T) (hn:∀ j,fr ≤ j → j < l.length → l.getD j [] ≠ t):Pr.partsAt t (l.drop fr) = [l.drop fr]:=by
 refine Pr.parts_end t _ fun u hu=>?_
 have:=seg_mem l fr l.length t (fun j h1 _ h3=>hn j h1 h3) u
 rw [List.take_of_length_le (by simp)] at this
 exact this hu
theorem seg_slv (w:World) (blk off c:Nat) (l:List Pr.T) (fr k:Nat) (h:fr ≤ k) (hk:k ≤ l.length) (hc:l.length ≤ c) (hb:blk < w.heap.size) (hcell:∀ j,j < l.length → w.cell? ⟨blk,off + j,none⟩ = some (strV (l.getD j []))):
  SlV w (.slice (some ⟨blk,off + fr,none⟩) (k - fr) (c - fr)) ((l.drop fr).take (k - fr)):=by
 have hlen:((l.drop fr).take (k - fr)).length = k - fr:=by simp;omega
 refine .inr ⟨blk,off + fr,c - fr,by rw [hlen],by rw [hlen];omega,hb,fun j hj=>?_⟩
 rw [hlen] at hj
 have:=hcell (fr + j) (by omega)
 rw [show off + fr + j = off + (fr + j) by omega,this]
 congr 2
 simp only [List.getD_eq_getElem?_getD]
 rw [List.getElem?_take_of_lt (by omega),List.getElem?_drop]
theorem seg_empty (w:World) (blk off:Nat) (hb:blk < w.heap.size):SlV w (.slice (some ⟨blk,off,none⟩) 0 0) []:=.inr ⟨blk,off,0,rfl,Nat.le_refl _,hb,fun _ hj=>absurd hj (Nat.not_lt_zero _)⟩
def RowsW (w wr:World) (v:Value) (ps:List (List Pr.T)):Prop:=∃ vs:List Value,vs.length = ps.length ∧ wr.ownsRow w.heap.size 35 1 v ps.length vs ∧ ∀ j,j < ps.length → SlV w (vs.getD j undef) (ps.getD j [])
theorem rows_snoc {w:World} {vs:List Value} {ps:List (List Pr.T)} {x:Value} {p:List Pr.T} (hl:vs.length = ps.length) (h:∀ j,j < ps.length → SlV w (vs.getD j undef) (ps.getD j [])) (hx:SlV w x p):∀ j,j < (ps ++ [p]).length → SlV w ((vs ++ [x]).getD j undef) ((ps ++ [p]).getD j []):=by
 intro j hj
 simp only [List.length_append,List.length_singleton] at hj
 by_cases e:j < ps.length
 ·have:=h j e
  simp only [List.getD_eq_getElem?_getD] at this ⊢
  rw [List.getElem?_append_left (by omega),List.getElem?_append_left e]
  exact this
 ·have:j = ps.length:=by omega
  subst this
  simp only [List.getD_eq_getElem?_getD]
  rw [List.getElem?_append_right (by omega),List.getElem?_append_right (by omega),hl]
  simpa using hx
set_option maxHeartbeats 1600000 in
set_option maxRecDepth 100000 in
theorem parts_some (w:World) (blk off c:Nat) (l:List Pr.T) (t:Pr.T) (hl:l.length ≤ 1000) (hc:l.length ≤ c) (hb:blk < w.heap.size) (hcell:∀ j,j < l.length → w.cell? ⟨blk,off + j,none⟩ = some (strV (l.getD j []))):
  Calls Tryz.prog 89 #[.slice (some ⟨blk,off,none⟩) l.length c,.string ⟨t.toArray⟩] w fun e w'=>(∃ v,e = .returned v ∧ RowsW w w' v (Pr.partsAt t l)) ∧ Below w.heap.size w w':=by
 obtain ⟨i0,hi0,hz0,hz1,hz2⟩:=info_parts info_rows
 have HI:Hid (Tryz.prog.info? 35 = some i0 ∧ i0.zero = some (.slice none 0 0) ∧ i0.size = 1 ∧ i0.bytes = 24):=⟨hi0,hz0,hz1,hz2⟩
 have HC:Hid (∀ j,j < l.length → w.cell? ⟨blk,off + j,none⟩ = some (strV (l.getD j []))):=hcell
 clear hi0 hz0 hz1 hz2 hcell
 go_enter Tryz.func89,Tryz.ntmps89
 go_wp2_with fail
 go_loopw [5,6,7] (fun v f i wr=>∃ (k fr:Nat) (ps:List (List Pr.T)),k ≤ l.length + 1 ∧ fr ≤ k ∧ f = .int .i64 fr ∧ i = .int .i64 k ∧ ps.length ≤ k ∧ RowsW w wr v ps ∧ Below w.heap.size w wr ∧ Hid (k ≤ l.length → (∀ j,fr ≤ j → j < k → l.getD j [] ≠ t) ∧ Pr.partsAt t l = ps ++ Pr.partsAt t (l.drop fr)) ∧ Hid (l.length < k → Pr.partsAt t l = ps)) (fun _ _ i _=>l.length + 1 - (intOf i).toNat)
 case atStart=>exact ⟨0,0,[],Nat.zero_le _,Nat.le_refl _,rfl,rfl,Nat.le_refl _,⟨[],rfl,World.ownsRow_nil _ _ _ _,fun j hj=>absurd hj (Nat.not_lt_zero _)⟩,Below.refl _ _,fun _=>⟨fun j _ h=>absurd h (Nat.not_lt_zero _),by simp⟩,fun h=>absurd h (Nat.not_lt_zero _)⟩
 case round=>
  obtain ⟨k,fr,ps,hk,hfk,rfl,rfl,hpk,⟨vs,hvl,hown,hsl⟩,hbw,HA,HZ⟩:=hrel
  have HSl:Hid (∀ j,j < ps.length → SlV w (vs.getD j undef) (ps.getD j [])):=hsl
  clear hsl
  by_cases hle:k ≤ l.length
  ·have hle':(k:Int) ≤ l.length:=by omega
   obtain ⟨HN,HP⟩:=HA.out hle
   have HNh:Hid (∀ j,fr ≤ j → j < k → l.getD j [] ≠ t):=HN
   have HPh:Hid (Pr.partsAt t l = ps ++ Pr.partsAt t (l.drop fr)):=HP
   clear HN HP HA HZ
   have happ:∀ (x:Value) (p:List Pr.T) (v':Value) (w2:World) (o:Obj),SlV w x p → w2.ownsRow w.heap.size 35 1 v' (ps.length + 1) (vs ++ [x]) → (wr.alloc o).grownBy w2 u5.ownBlock → RowsW w w2 v' (ps ++ [p]) ∧ Below w.heap.size w w2:=fun x p v' w2 o hx ho hg=>
    ⟨⟨vs ++ [x],by simp [hvl],by simpa using ho,rows_snoc hvl HSl.out hx⟩,(hbw.alloc hbw.size o).grown hg (by have:=hbw.size;simp;omega) fun j hj=>(World.ownsRow.lt hown j hj).1⟩
   by_cases hend:k = l.length
   ·subst hend
    have HL:Hid (Pr.partsAt t l = ps ++ [(l.drop fr).take (l.length - fr)]):=by
     show _ = _
     rw [HPh.out,parts_last l fr t (fun j h1 h2=>HNh.out j h1 h2),List.take_of_length_le (by simp)]
    by_cases hcf:c = fr
    ·have hs0:Hid (SlV w (.slice (some ⟨blk,off,none⟩) 0 0) ((l.drop fr).take (l.length - fr))):=by
      have:(l.drop fr).take (l.length - fr) = []:=by rw [show l.length - fr = 0 by omega];simp
      rw [this]
      exact seg_empty w blk off hb
     clear HNh HPh
     have hlf:fr = l.length:=by omega
     subst hlf
     subst hcf
     go_wp2_with (at_builtin;refine wpList_append_own _ rfl _ _ 167 rfl w.heap.size 35 i0 (.slice none 0 0) 1 24 Tryz.underlying167 HI.out.1 HI.out.2.1 HI.out.2.2.1 HI.out.2.2.2 rfl (by decide) _ _ _ rfl (World.ownsRow.alloc hown _) ⟨wr.heap.size,0,none⟩ 1 1 [.slice (some ⟨blk,off,none⟩) 0 0] rfl rfl ?c1 ?c2 ?c3 ?c4 ?c5 ?_)
     case c1=>
      intro j u hj
      match j,hj with
      | 0,hj=>simp at hj;subst hj;simp [Addr.add]
     case c2=>intro u hu;simp at hu;subst hu;rfl
     case c3=>unfold maxLen;omega
     case c4=>omega
     case c5=>have:=hbw.size;simp;omega
     ·intro v' w2 hown' hgrow _
      obtain ⟨g1,g2⟩:=happ _ _ v' w2 _ hs0.out hown' hgrow
      clear hown' hgrow happ hown
      go_wp2
      go_roundw
      case rel=>exact ⟨l.length + 1,l.length + 1,_,Nat.le_refl _,Nat.le_refl _,by go_num,by go_num,by simp;omega,g1,g2,fun h=>absurd h (by omega),fun _=>HL.out⟩
      case measure=>simp [intOf] <;> omega
    ·have hs0:Hid (SlV w (.slice (some ⟨blk,off + fr,none⟩) (l.length - fr) (c - fr)) ((l.drop fr).take (l.length - fr))):=seg_slv w blk off c l fr l.length hfk (Nat.le_refl _) hc hb HC.out
     clear HNh HPh
     go_wp2_with (at_builtin;refine wpList_append_own _ rfl _ _ 167 rfl w.heap.size 35 i0 (.slice none 0 0) 1 24 Tryz.underlying167 HI.out.1 HI.out.2.1 HI.out.2.2.1 HI.out.2.2.2 rfl (by decide) _ _ _ rfl (World.ownsRow.alloc hown _) ⟨wr.heap.size,0,none⟩ 1 1 [.slice (some ⟨blk,off + fr,none⟩) (l.length - fr) (c - fr)] rfl rfl ?c1 ?c2 ?c3 ?c4 ?c5 ?_)
     case c1=>
      intro j u hj
      match j,hj with
      | 0,hj=>simp at hj;subst hj;simp [Addr.add]
     case c2=>intro u hu;simp at hu;subst hu;rfl
     case c3=>unfold maxLen;omega
     case c4=>omega
     case c5=>have:=hbw.size;simp;omega
     ·intro v' w2 hown' hgrow _
      obtain ⟨g1,g2⟩:=happ _ _ v' w2 _ hs0.out hown' hgrow
      clear hown' hgrow happ hown
      go_wp2
      go_roundw
      case rel=>exact ⟨l.length + 1,l.length + 1,ps ++ [(l.drop fr).take (l.length - fr)],Nat.le_refl _,Nat.le_refl _,by go_num,by go_num,by simp;omega,g1,g2,fun h=>absurd h (by omega),fun _=>HL.out⟩
      case measure=>simp [intOf] <;> omega
   ·have hend':((k:Int) == l.length) = false:=by rw [beq_eq_false_iff_ne];omega
    have hkl:k < l.length:=by omega
    have hkl':(k:Int) < l.length:=by omega
    have hce:wr.cell? ⟨blk,off + k,none⟩ = some (.string ⟨(l.getD k []).toArray⟩):=(hbw.cell (p:=⟨blk,off + k,none⟩) hb).trans (HC.out k hkl)
    obtain ⟨u,hu⟩:∃ u,Hid (l.getD k [] = u):=⟨_,rfl⟩
    rw [hu.out] at hce
    by_cases hut:u = t
    ·have hut':(u == t) = true:=by rw [beq_iff_eq];exact hut
     have hcf:¬ c = fr:=by omega
     have HL:Hid (Pr.partsAt t l = ps ++ [(l.drop fr).take (k - fr)] ++ Pr.partsAt t (l.drop (k + 1))):=by
      show _ = _
      rw [HPh.out,parts_hit l fr k t hfk hkl (hu.out.trans hut) HNh.out]
      simp
     have hs0:Hid (SlV w (.slice (some ⟨blk,off + fr,none⟩) (k - fr) (c - fr)) ((l.drop fr).take (k - fr))):=seg_slv w blk off c l fr k hfk hle hc hb HC.out
     clear HNh HPh hend hut
     go_wp2_with (at_builtin;refine wpList_append_own _ rfl _ _ 167 rfl w.heap.size 35 i0 (.slice none 0 0) 1 24 Tryz.underlying167 HI.out.1 HI.out.2.1 HI.out.2.2.1 HI.out.2.2.2 rfl (by decide) _ _ _ rfl (World.ownsRow.alloc hown _) ⟨wr.heap.size,0,none⟩ 1 1 [.slice (some ⟨blk,off + fr,none⟩) (k - fr) (c - fr)] rfl rfl ?c1 ?c2 ?c3 ?c4 ?c5 ?_)
     case c1=>
      intro j u hj
      match j,hj with
      | 0,hj=>simp at hj;subst hj;simp [Addr.add]
     case c2=>intro u hu;simp at hu;subst hu;rfl
     case c3=>unfold maxLen;omega
     case c4=>omega
     case c5=>have:=hbw.size;simp;omega
     ·intro v' w2 hown' hgrow _
      obtain ⟨g1,g2⟩:=happ _ _ v' w2 _ hs0.out hown' hgrow
      clear hown' hgrow happ hown
      go_wp2
      go_roundw
      case rel=>exact ⟨k + 1,k + 1,ps ++ [(l.drop fr).take (k - fr)],by omega,Nat.le_refl _,by go_num,by go_num,by simp;omega,g1,g2,fun _=>⟨fun j h1 h2=>absurd h1 (by omega),HL.out⟩,fun h=>absurd h (by omega)⟩
      case measure=>simp [intOf] <;> omega
    ·have hut':(u == t) = false:=by rw [beq_eq_false_iff_ne];exact hut
     have HN2:Hid (∀ j,fr ≤ j → j < k + 1 → l.getD j [] ≠ t):=fun j h1 h2=>by
      by_cases e:j = k
      ·subst e;rw [hu.out];exact hut
      ·exact HNh.out j h1 (by omega)
     have hrows:RowsW w wr u5 ps:=⟨vs,hvl,hown,HSl.out⟩
     clear hut hend HNh happ
     go_wp2
     go_roundw
     case rel=>exact ⟨k + 1,fr,ps,by omega,by omega,rfl,by go_num,by omega,hrows,hbw,fun _=>⟨HN2.out,HPh.out⟩,fun h=>absurd h (by omega)⟩
     case measure=>simp [intOf];omega
  ·have hle':¬ (k:Int) ≤ l.length:=by omega
   have hE:Hid (Pr.partsAt t l = ps):=HZ.out (by omega)
   have hrows:RowsW w wr u5 ps:=⟨vs,hvl,hown,HSl.out⟩
   clear HA HZ
   go_wp2
   go_ret
   exact ⟨⟨_,rfl,by rw [hE.out];exact hrows⟩,hbw⟩
end Go.Proofs.YtaepcfidpekflaaGreatDoor
namespace Go.Proofs.YtaepcfidpekflaaGreatDoor
open Go.RowKit
theorem mem_at {l:List Pr.T} {k:Nat} (hk:k < l.length):l.getD k [] ∈ l:=by
 rw [List.getD_eq_getElem?_getD,List.getElem?_eq_getElem hk]
 exact List.getElem_mem hk
theorem mem_not {l:List Pr.T} {t:Pr.T} (h:∀ j,j < l.length → l.getD j [] ≠ t):t ∉ l:=by
 intro hm
 obtain ⟨j,hj,rfl⟩:=List.getElem_of_mem hm
 exact h j hj (by rw [List.getD_eq_getElem?_getD,List.getElem?_eq_getElem hj];rfl)
def PlaceSaid (l:List Pr.T) (t:Pr.T) (e:Ending):Prop:=∃ k:Int,e = .returned (.int .i64 k) ∧ (0 ≤ k ↔ t ∈ l)
set_option maxHeartbeats 800000 in
theorem place_any (w:World) (v:Value) (l:List Pr.T) (t:Pr.T) (hl:l.length ≤ 1000000) (hv:SlV w v l):
  Calls Tryz.prog 58 #[v,.string ⟨t.toArray⟩] w fun e w'=>PlaceSaid l t e ∧ w' = w:=by
 rcases hv with ⟨rfl,rfl⟩ | ⟨blk,off,c,rfl,hc,hb,hcell⟩
 ·go_enter Tryz.func58,Tryz.ntmps58
  go_wp2_with fail
  refine wp_loop_rounds 1 ?_
  rw [rounds_succ]
  go_wp2
  go_ret
  exact ⟨⟨-1,rfl,by simp⟩,rfl⟩
 ·have HC:Hid (∀ j,j < l.length → w.cell? ⟨blk,off + j,none⟩ = some (strV (l.getD j []))):=hcell
  clear hcell
  go_enter Tryz.func58,Tryz.ntmps58
  go_wp2_with fail
  go_loop [5] (fun i=>∃ k:Nat,k ≤ l.length ∧ i = .int .i64 k ∧ Hid (∀ j,j < k → l.getD j [] ≠ t)) (fun i=>l.length - (intOf i).toNat)
  case atStart=>exact ⟨0,Nat.zero_le _,rfl,fun j h=>absurd h (Nat.not_lt_zero _)⟩
  case round=>
   obtain ⟨k,hk,rfl,HK⟩:=hrel
   by_cases hlt:k < l.length
   ·have hlt':(k:Int) < l.length:=by omega
    have ck:=HC.out k hlt
    have hm:=mem_at hlt
    unfold strV at ck
    generalize hu:l.getD k [] = u at *
    by_cases hut:u = t
    ·have hut':(u == t) = true:=by rw [beq_iff_eq];exact hut
     have HM:Hid (t ∈ l):=by show _ ∈ _;rw [← hut];exact hm
     clear hut hm hu HK
     go_wp2
     go_ret
     exact ⟨⟨k,rfl,by constructor;(exact fun _=>HM.out);(intro _;omega)⟩,rfl⟩
    ·have hut':(u == t) = false:=by rw [beq_eq_false_iff_ne];exact hut
     have HK2:Hid (∀ j,j < k + 1 → l.getD j [] ≠ t):=by
      intro j hj
      by_cases e:j = k
      ·rw [e,hu];exact hut
      ·exact HK.out j (by omega)
     clear hut hm hu HK
     go_wp2
     go_round
     case rel=>exact ⟨k + 1,hlt,by go_num,HK2⟩
     case measure=>simp [intOf];omega
   ·have hlt':¬ (k:Int) < l.length:=by omega
    have HM:Hid (t ∉ l):=mem_not (fun j hj=>HK.out j (by omega))
    clear HK
    go_wp2
    go_ret
    exact ⟨⟨-1,rfl,by constructor;(intro h;omega);(exact fun h=>absurd h HM.out)⟩,rfl⟩
def cats:List Pr.T:=[[122,101,114,111],[111,110,101],[116,119,111],[102,101,119],[109,97,110,121],[111,116,104,101,114]]
set_option maxHeartbeats 400000 in
theorem categories_any (w:World):Calls Tryz.prog 57 #[] w fun e w'=>e = .returned (.slice (some ⟨w.heap.size,0,none⟩) 6 6) ∧ Below w.heap.size w w' ∧ w.heap.size < w'.heap.size ∧ ∀ j,j < 6 → w'.cell? ⟨w.heap.size,j,none⟩ = some (strV (cats.getD j [])):=by
 have h:=row_at w #[.string ⟨#[122,101,114,111]⟩,.string ⟨#[111,110,101]⟩,.string ⟨#[116,119,111]⟩,.string ⟨#[102,101,119]⟩,.string ⟨#[109,97,110,121]⟩,.string ⟨#[111,116,104,101,114]⟩] 9
 have hb:=(Below.refl w.heap.size w).alloc (Nat.le_refl _) (.cells #[.string ⟨#[122,101,114,111]⟩,.string ⟨#[111,110,101]⟩,.string ⟨#[116,119,111]⟩,.string ⟨#[102,101,119]⟩,.string ⟨#[109,97,110,121]⟩,.string ⟨#[111,116,104,101,114]⟩] 9)
 have H:Hid (∀ j,j < 6 → (w.alloc (.cells #[.string ⟨#[122,101,114,111]⟩,.string ⟨#[111,110,101]⟩,.string ⟨#[116,119,111]⟩,.string ⟨#[102,101,119]⟩,.string ⟨#[109,97,110,121]⟩,.string ⟨#[111,116,104,101,114]⟩] 9)).cell? ⟨w.heap.size,j,none⟩ = some (strV (cats.getD j []))):=by
  intro j hj
  rw [h.2.1 j]
  match j,hj with
  | 0,_=>rfl
  | 1,_=>rfl
  | 2,_=>rfl
  | 3,_=>rfl
  | 4,_=>rfl
  | 5,_=>rfl
 have H2:Hid (w.heap.size < (w.alloc (.cells #[.string ⟨#[122,101,114,111]⟩,.string ⟨#[111,110,101]⟩,.string ⟨#[116,119,111]⟩,.string ⟨#[102,101,119]⟩,.string ⟨#[109,97,110,121]⟩,.string ⟨#[111,116,104,101,114]⟩] 9)).heap.size):=h.1
 clear h
 go_enter Tryz.func57,Tryz.ntmps57
 go_wp2
 go_ret
 exact ⟨rfl,hb,H2.out,H.out⟩
end Go.Proofs.YtaepcfidpekflaaGreatDoor
namespace Go.Proofs.YtaepcfidpekflaaGreatDoor
open Go.RowKit
def pairsOf:List Pr.T → List (Pr.T × Pr.T)
 | n :: s :: r=>(n,s) :: pairsOf r
 | _=>[]
theorem pairs_short (l:List Pr.T) (h:l.length < 2):pairsOf l = []:=by
 match l,h with
 | [],_=>rfl
 | [_],_=>rfl
theorem pairs_mem:∀ (k:Nat) (l:List Pr.T),l.length ≤ k → (pairsOf l).length ≤ l.length ∧ ∀ q ∈ pairsOf l,q.1 ∈ l ∧ q.2 ∈ l:=by
 intro k
 induction k with
 | zero=>
  intro l h
  rw [pairs_short l (by omega)]
  exact ⟨by simp,fun q hq=>by cases hq⟩
 | succ k ih=>
  intro l h
  match l,h with
  | [],_=>exact ⟨by simp [pairsOf],fun q hq=>by cases hq⟩
  | [_],_=>exact ⟨by simp [pairsOf],fun q hq=>by cases hq⟩
  | n :: s :: r,h=>
   simp only [List.length_cons] at h
   obtain ⟨h1,h2⟩:=ih r (by omega)
   refine ⟨by simp [pairsOf];omega,fun q hq=>?_⟩
   rcases List.mem_cons.1 hq with rfl | hq
   ·simp
   ·obtain ⟨a,b⟩:=h2 q hq
    simp [a,b]
def ruleCells:List (Pr.T × Pr.T) → List Value
 | []=>[]
 | q :: r=>strV q.1 :: strV q.2 :: ruleCells r
theorem ruleCells_len (l:List (Pr.T × Pr.T)):(ruleCells l).length = l.length * 2:=by
 induction l with
 | nil=>rfl
 | cons q r ih=>simp [ruleCells,ih];omega
theorem ruleCells_app (l r:List (Pr.T × Pr.T)):ruleCells (l ++ r) = ruleCells l ++ ruleCells r:=by
 induction l with
 | nil=>rfl
 | cons q l ih=>simp [ruleCells,ih]
theorem ruleCells_at:∀ (l:List (Pr.T × Pr.T)) (j:Nat),j < l.length → (ruleCells l)[j * 2]? = some (strV (l.getD j ([],[])).1) ∧ (ruleCells l)[j * 2 + 1]? = some (strV (l.getD j ([],[])).2):=by
 intro l
 induction l with
 | nil=>intro j h;simp at h
 | cons q r ih=>
  intro j h
  cases j with
  | zero=>exact ⟨rfl,rfl⟩
  | succ j=>
   have:=ih j (by simpa using h)
   rw [show (j + 1) * 2 = j * 2 + 2 by omega]
   exact this
theorem ruleCells_mem:∀ (l:List (Pr.T × Pr.T)) (u:Value),u ∈ ruleCells l → ∃ t:Pr.T,u = strV t:=by
 intro l
 induction l with
 | nil=>intro u h;cases h
 | cons q r ih=>
  intro u h
  rcases List.mem_cons.1 h with rfl | h
  ·exact ⟨_,rfl⟩
  ·rcases List.mem_cons.1 h with rfl | h
   ·exact ⟨_,rfl⟩
   ·exact ih u h
def ApiV (w:World) (B:Nat) (v:Value) (ps:List (Pr.T × Pr.T)):Prop:=w.ownsRow B 44 2 v ps.length (ruleCells ps)
theorem ApiV.form {w:World} {B:Nat} {v:Value} {ps:List (Pr.T × Pr.T)} (h:ApiV w B v ps):∃ a c,v = .slice a ps.length c ∧ RIn w a ps:=by
 have h0:w.ownsRow B 44 2 v ps.length (ruleCells ps):=h
 rcases h0.2 with ⟨rfl,hz⟩ | ⟨g,cap,cur,rfl,hgc⟩
 ·exact ⟨none,0,by rw [hz],.inl (List.length_eq_zero_iff.1 hz)⟩
 ·have hlt:=World.ownsRow.lt h0 g rfl
  refine ⟨_,cap,rfl,.inr ⟨g,0,rfl,hlt.2,fun j hj=>?_⟩⟩
  rw [Nat.zero_add,h0.cellAt (j * 2) (by omega),h0.cellAt (j * 2 + 1) (by omega)]
  exact ruleCells_at ps j hj
theorem ApiV.keep {w w1:World} {B:Nat} {v:Value} {ps:List (Pr.T × Pr.T)} (h:ApiV w B v ps) (hb:Below w.heap.size w w1):ApiV w1 B v ps:=by
 refine World.ownsRow.kept (row:=none) h ⟨hb.os,hb.tape,hb.output,hb.size,fun k hk _=>hb.block k hk⟩ ?_
 cases e:v.ownBlock with
 | none=>exact .inl rfl
 | some _=>exact .inr (by simp)
theorem info_api:(Tryz.prog.info? 44).map (fun i=>(i.zero,i.size,i.bytes)) = some (some (.agg #[.string ⟨#[]⟩,.string ⟨#[]⟩]),2,32):=by kernel_rfl
theorem pairs_drop (l:List Pr.T) (k:Nat) (h:k + 1 < l.length):pairsOf (l.drop k) = (l.getD k [],l.getD (k + 1) []) :: pairsOf (l.drop (k + 2)):=by
 rw [List.drop_eq_getElem_cons (by omega),List.drop_eq_getElem_cons h]
 simp [pairsOf,List.getD_eq_getElem?_getD,List.getElem?_eq_getElem h,List.getElem?_eq_getElem (show k < l.length by omega)]
theorem step_append_own {P:Program} {ops:Array Oper} {o:Oper} {a:Act} {w:World} {K:Act → World → Prop} {Q:Exit → Act → World → Prop} {E:Prop} (hg:o.guard = none) (s x:Operand) (t:TypeId)
  (ho:o.op = .call { callee:=.builtin .append,args:=#[s,x],argTypes:=#[t,t] })
  (base:Nat) (e:TypeId) (i:TypeInfo) (z:Value) (size bytes:Nat) (ht:P.underlying t = some (.slice e)) (hi:P.info? e = some i) (hz:i.zero = some z)
  (hsize:i.size = size) (hby:i.bytes = bytes) (hzs:z.cells.size = size) (hsz:0 < size)
  (v:Value) (n:Nat) (xs:List Value) (hs:a.eval s = v) (hown:w.ownsRow base e size v n xs)
  (ad:Addr) (m c:Nat) (news:List Value) (hx:a.eval x = .slice (some ad) m c) (hl:news.length = m * size) (hnews:∀ j u,news[j]? = some u → w.cell? (ad.add j) = some u) (h1:∀ u ∈ news,u.oneCell' = true)
  (h63:n + m ≤ maxLen) (hbytes:(n + m) * bytes ≤ 140737488355328) (hbase:base ≤ w.heap.size)
  (h:∀ v' w',w'.ownsRow base e size v' (n + m) (xs ++ news) → w.grownBy w' v.ownBlock → K (a.put o.dst v') w'):
  if Region.wanted o (yielded ops a.tmps) = true then Oper.wp P o a w K Q else E:=by
 have hw:Region.wanted o (yielded ops a.tmps) = true:=by simp [Region.wanted,hg]
 rw [if_pos hw]
 exact wp_append_own w s x t ho base e i z size bytes ht hi hz hsize hby hzs hsz v n xs hs hown ad m c news hx hl hnews h1 h63 hbytes hbase fun v' w' h2 h3 _=>h v' w' h2 h3
set_option maxHeartbeats 1600000 in
set_option maxRecDepth 100000 in
theorem rules_some (w:World) (blk off c:Nat) (l:List Pr.T) (hl:l.length ≤ 100000) (hb:blk < w.heap.size) (hcell:∀ j,j < l.length → w.cell? ⟨blk,off + j,none⟩ = some (strV (l.getD j []))):
  Calls Tryz.prog 17 #[.slice (some ⟨blk,off,none⟩) l.length c] w fun e w'=>(∃ v,e = .returned v ∧ ApiV w' w.heap.size v (pairsOf l)) ∧ Below w.heap.size w w':=by
 obtain ⟨i0,hi0,hz0,hz1,hz2⟩:=info_parts info_api
 have HI:Hid (Tryz.prog.info? 44 = some i0 ∧ i0.zero = some (.agg #[.string ⟨#[]⟩,.string ⟨#[]⟩]) ∧ i0.size = 2 ∧ i0.bytes = 32):=⟨hi0,hz0,hz1,hz2⟩
 have HC:Hid (∀ j,j < l.length → w.cell? ⟨blk,off + j,none⟩ = some (strV (l.getD j []))):=hcell
 obtain ⟨S,hS⟩:∃ S,Hid (pairsOf l = S):=⟨_,rfl⟩
 rw [hS.out]
 clear hi0 hz0 hz1 hz2 hcell
 go_enter Tryz.func17,Tryz.ntmps17
 go_wp2_with fail
 go_loopw [3,4] (fun v i wr=>∃ (k:Nat) (ps:List (Pr.T × Pr.T)),k ≤ l.length + 1 ∧ i = .int .i64 k ∧ ps.length ≤ k ∧ ApiV wr w.heap.size v ps ∧ Below w.heap.size w wr ∧ Hid (ps ++ pairsOf (l.drop k) = S)) (fun _ i _=>l.length + 2 - (intOf i).toNat)
 case atStart=>exact ⟨0,[],Nat.zero_le _,rfl,Nat.le_refl _,World.ownsRow_nil _ _ _ _,Below.refl _ _,hS⟩
 case round=>
  obtain ⟨k,ps,hk,rfl,hpk,hown,hbw,HP⟩:=hrel
  clear hS
  have hw1:IntKind.i64.wrap ((k:Int) + 1) = k + 1:=by rw [IntKind.wrap_i64];omega
  have hw2:IntKind.i64.wrap ((k:Int) + 2) = k + 2:=by rw [IntKind.wrap_i64];omega
  by_cases hlt:k + 1 < l.length
  ·have hlt':(k:Int) + 1 < l.length:=by omega
   have hlt2:(k:Int) < l.length:=by omega
   have hk0:(0:Int) ≤ (k:Int) + 1:=by omega
   have c0:=(hbw.cell (p:=⟨blk,off + k,none⟩) hb).trans (HC.out k (by omega))
   have c1:=(hbw.cell (p:=⟨blk,off + (k + 1),none⟩) hb).trans (HC.out (k + 1) hlt)
   have HP2:Hid (ps ++ [(l.getD k [],l.getD (k + 1) [])] ++ pairsOf (l.drop (k + 2)) = S):=by
    show _ = _
    rw [← HP.out,pairs_drop l k hlt]
    simp
   unfold strV at c0 c1
   generalize l.getD k [] = n at *
   generalize l.getD (k + 1) [] = s at *
   clear HP
   have hown0:wr.ownsRow w.heap.size 44 2 u3 ps.length (ruleCells ps):=hown
   have side:∀ W:World,wr.heap.size ≤ W.heap.size → w.heap.size ≤ (W.alloc (.cells #[.string ⟨n.toArray⟩,.string ⟨s.toArray⟩] 44)).heap.size:=fun W h=>by have:=hbw.size;simp;omega
   have c1':wr.cell? ⟨blk,off + k + 1,none⟩ = some (.string ⟨s.toArray⟩):=by rw [show off + k + 1 = off + (k + 1) by omega];exact c1
   go_wp2
   go_region_law (refine step_append_own rfl (.tmp 12) (.tmp 23) 23 rfl w.heap.size 44 i0 (.agg #[.string ⟨#[]⟩,.string ⟨#[]⟩]) 2 32 Tryz.underlying23 HI.out.1 HI.out.2.1 HI.out.2.2.1 HI.out.2.2.2 rfl (by decide) u3 ps.length (ruleCells ps) (by simp [Act.eval]) (by first | exact World.ownsRow.alloc hown0 _ | exact World.ownsRow.alloc (World.ownsRow.drew hown0) _) ⟨wr.heap.size,0,none⟩ 1 1 [strV n,strV s] (by simp [Act.eval]) rfl (by
     intro j u hj
     match j,hj with
     | 0,hj=>simp at hj;subst hj;simp [Addr.add,strV]
     | 1,hj=>simp at hj;subst hj;simp [Addr.add,strV]) (by intro u hu;simp at hu;rcases hu with rfl | rfl <;> rfl) (by unfold maxLen;omega) (by omega) (by have:=hbw.size;simp;omega) ?_;intro v' w2 hown' hgrow)
   all_goals
    have g1:ApiV w2 w.heap.size v' (ps ++ [(n,s)]):=by
     unfold ApiV
     rw [ruleCells_app]
     simpa [ruleCells] using hown'
    have g2:Below w.heap.size w w2:=(hbw.drew.alloc (by have:=hbw.size;simpa using this) _).grown hgrow (by have:=hbw.size;simp;omega) fun j hj=>(World.ownsRow.lt hown0 j hj).1
    clear hown' hgrow hown hown0 c0 c1 c1' side
    go_wp2
    go_roundw
    case rel=>exact ⟨k + 2,ps ++ [(n,s)],by omega,by go_num,by simp;omega,g1,g2,HP2⟩
    case measure=>simp [intOf] <;> omega
  ·have hlt':¬ (k:Int) + 1 < l.length:=by omega
   have hF:Hid (S = ps):=by
    show _ = _
    rw [← HP.out,pairs_short _ (by simp;omega)]
    simp
   clear HP
   go_wp2
   go_ret
   exact ⟨⟨_,rfl,by rw [hF.out];exact hown⟩,hbw⟩
set_option maxHeartbeats 400000 in
theorem rulesC_nil (w:World) (ad:Option Addr) (c:Nat):Calls Tryz.prog 17 #[.slice ad 0 c] w fun e w'=>(∃ v,e = .returned v ∧ ApiV w' w.heap.size v []) ∧ Below w.heap.size w w':=by
 go_enter Tryz.func17,Tryz.ntmps17
 go_wp2_with fail
 refine wp_loop_rounds 1 ?_
 rw [rounds_succ]
 go_wp2
 go_ret
 exact ⟨⟨_,rfl,World.ownsRow_nil _ _ _ _⟩,Below.refl _ _⟩
theorem rules_any (w:World) (v:Value) (l:List Pr.T) (hl:l.length ≤ 100000) (hv:SlE w v l):Calls Tryz.prog 17 #[v] w fun e w'=>(∃ v,e = .returned v ∧ ApiV w' w.heap.size v (pairsOf l)) ∧ Below w.heap.size w w':=by
 rcases hv with ⟨ad,c,rfl,rfl⟩ | ⟨blk,off,c,rfl,_,hb,hcell⟩
 ·exact rulesC_nil w ad c
 ·exact rules_some w blk off c l hl hb hcell
def SizeSaid (l:List Pr.T) (e:Ending):Prop:=∃ n:Nat,e = .returned (.int .i64 n) ∧ (n ≤ 65536 → l.length ≤ 65536 ∧ ∀ t ∈ l,t.length ≤ 65536)
set_option maxHeartbeats 800000 in
theorem size_some (w:World) (blk off c:Nat) (l:List Pr.T) (hl:l.length < 2 ^ 47) (hs:∀ t ∈ l,t.length < 2 ^ 47) (hcell:∀ j,j < l.length → w.cell? ⟨blk,off + j,none⟩ = some (strV (l.getD j []))):
  Calls Tryz.prog 16 #[.slice (some ⟨blk,off,none⟩) l.length c] w fun e w'=>SizeSaid l e ∧ w' = w:=by
 have HC:Hid (∀ j,j < l.length → w.cell? ⟨blk,off + j,none⟩ = some (strV (l.getD j []))):=hcell
 have HL:Hid (∀ t ∈ l,t.length < 2 ^ 47):=hs
 clear hcell hs
 go_enter Tryz.func16,Tryz.ntmps16
 go_wp2_with fail
 go_loop [3,4] (fun x i=>∃ (k n:Nat),k ≤ l.length ∧ i = .int .i64 k ∧ x = .int .i64 n ∧ (n ≤ 65536 ∨ k = 0) ∧ l.length ≤ n ∧ n < 2 ^ 47 ∧ Hid (∀ j,j < k → (l.getD j []).length ≤ n)) (fun _ i=>l.length - (intOf i).toNat)
 case atStart=>exact ⟨0,l.length,Nat.zero_le _,rfl,rfl,.inr rfl,Nat.le_refl _,hl,fun j hj=>absurd hj (Nat.not_lt_zero _)⟩
 case round=>
  obtain ⟨k,n,hk,rfl,rfl,hn,hln,hn47,HN⟩:=hrel
  by_cases hlt:k < l.length
  ·have hlt':(k:Int) < l.length:=by omega
   have ck:=HC.out k hlt
   have h47:=HL.out _ (mem_at hlt)
   unfold strV at ck
   have HN2:Hid (∀ j,j < k + 1 → (l.getD j []).length ≤ n + (l.getD k []).length):=by
    intro j hj
    by_cases e:j = k
    ·rw [e];omega
    ·have:=HN.out j (by omega);omega
   generalize l.getD k [] = u at *
   have hw1:IntKind.i64.wrap ((n:Int) + u.length) = n + u.length:=by rw [IntKind.wrap_i64];omega
   have hw2:IntKind.i64.wrap ((k:Int) + 1) = k + 1:=by rw [IntKind.wrap_i64];omega
   clear HN
   by_cases hb:n + u.length ≤ 65536
   ·have hb':¬ (65536:Int) < (n:Int) + u.length:=by omega
    go_wp2
    go_round
    case rel=>exact ⟨k + 1,n + u.length,hlt,by go_num,by go_num,.inl hb,by omega,by omega,HN2⟩
    case measure=>simp [intOf];omega
   ·have hb':(65536:Int) < (n:Int) + u.length:=by omega
    go_wp2
    go_ret
    exact ⟨⟨n + u.length,by go_num,fun h=>absurd h hb⟩,rfl⟩
  ·have hlt':¬ (k:Int) < l.length:=by omega
   go_wp2
   go_ret
   refine ⟨⟨n,rfl,fun h=>⟨by omega,fun t ht=>?_⟩⟩,rfl⟩
   obtain ⟨j,hj,rfl⟩:=List.getElem_of_mem ht
   have:=HN.out j (by omega)
   rw [List.getD_eq_getElem?_getD,List.getElem?_eq_getElem hj] at this
   exact Nat.le_trans this h
set_option maxHeartbeats 400000 in
theorem size_nil (w:World) (ad:Option Addr) (c:Nat):Calls Tryz.prog 16 #[.slice ad 0 c] w fun e w'=>SizeSaid [] e ∧ w' = w:=by
 go_enter Tryz.func16,Tryz.ntmps16
 go_wp2_with fail
 refine wp_loop_rounds 1 ?_
 rw [rounds_succ]
 go_wp2
 go_ret
 exact ⟨⟨0,rfl,fun _=>⟨by simp,fun t ht=>by cases ht⟩⟩,rfl⟩
theorem sizeL_any (w:World) (v:Value) (l:List Pr.T) (hl:l.length < 2 ^ 47) (hs:∀ t ∈ l,t.length < 2 ^ 47) (hv:SlE w v l):Calls Tryz.prog 16 #[v] w fun e w'=>SizeSaid l e ∧ w' = w:=by
 rcases hv with ⟨ad,c,rfl,rfl⟩ | ⟨blk,off,c,rfl,_,hb,hcell⟩
 ·exact size_nil w ad c
 ·exact size_some w blk off c l hl hs hcell
end Go.Proofs.YtaepcfidpekflaaGreatDoor
