/-
  Several texts in one (Sp). By the verifier.
-/
import Derived.Test.YtaepcfidpekflaaGreatDoorZ19
import Derived.Test.YtaepcfidpekflaaGreatDoorZ09
import Derived.Laws.OwnMore
namespace Go.Proofs.YtaepcfidpekflaaGreatDoor
open Go.RowKit
def WordsSaid (w:World) (x:Option (List Pr.T)) (e:Ending) (w':World):Prop:=Below w.heap.size w w' ∧ match x with
 | none=>e = .returned (.tuple #[.slice none 0 0,.bool false])
 | some ts=>∃ v,e = .returned (.tuple #[v,.bool true]) ∧ Parts w' w.heap.size v ts
theorem cut64_len (l:Pr.T):(Lib.cut l [64]).1.length ≤ l.length:=by
 unfold Lib.cut
 split
 ·simp only [List.length_take];omega
 ·exact Nat.le_refl _
theorem at_drop {p:Pr.T} {k:Nat} {c:UInt8} {r:Pr.T} (h:p.drop k = c :: r):k < p.length ∧ p.drop (k + 1) = r ∧ (∀ hh,((⟨p.toArray⟩:ByteArray)[k]'hh) = c):=by
 have hk:k < p.length:=by
  rcases Nat.lt_or_ge k p.length with h1 | h1
  ·exact h1
  ·rw [List.drop_eq_nil_of_le h1] at h;cases h
 rw [List.drop_eq_getElem_cons hk] at h
 injection h with h1 h2
 exact ⟨hk,h2,fun _=>h1⟩
theorem ex_one {p:Pr.T} {k:Nat} {c:UInt8} {r:Pr.T} (h:p.drop k = c :: r):(⟨p.toArray⟩:ByteArray).extract k (k + 1) = ⟨[c].toArray⟩:=by
 have h1:(⟨p.toArray⟩:ByteArray).extract k (k + 1) = ⟨((p.drop k).take (k + 1 - k)).toArray⟩:=by
  apply ByteArray.ext
  simp [ByteArray.data_extract,List.extract_toArray]
 rw [h1,h,show k + 1 - k = 1 by omega];rfl
theorem ex_two {p:Pr.T} {k:Nat} {c d:UInt8} {r:Pr.T} (h:p.drop k = c :: d :: r):(⟨p.toArray⟩:ByteArray).extract k (k + 2) = ⟨[c,d].toArray⟩:=by
 have h1:(⟨p.toArray⟩:ByteArray).extract k (k + 2) = ⟨((p.drop k).take (k + 2 - k)).toArray⟩:=by
  apply ByteArray.ext
  simp [ByteArray.data_extract,List.extract_toArray]
 rw [h1,h,show k + 2 - k = 2 by omega];rfl
theorem byte_ne {c:UInt8} {n:Nat} (hn:n < 256) (h:¬ c = UInt8.ofNat n):((c.toNat:Int) == (n:Int)) = false:=by
 rw [beq_eq_false_iff_ne]
 intro e
 apply h
 apply UInt8.toNat_inj.1
 rw [UInt8.toNat_ofNat',Nat.mod_eq_of_lt hn]
 omega
theorem wGo_end (ps:List Pr.T) (n:Nat) (c:UInt8) (hK:kindN c = 0) (h1:¬ c = 61) (h2:¬ c = 44) (h3:¬ c = 37):wGo ps n [c] = none:=by
 rw [wGo_cons,if_neg (by omega),if_neg (by omega),if_neg (by rintro (h | h | h | h) <;> first | omega | contradiction)]
theorem wGo_two (ps:List Pr.T) (n:Nat) (c d:UInt8) (r:Pr.T) (hK:kindN c = 0) (h1:¬ c = 61) (h2:¬ c = 44) (h3:¬ c = 37):wGo ps n (c :: d :: r) = if c = 33 ∧ d = 61 ∨ c = 46 ∧ d = 46 then wGo (ps ++ [[c,d]]) 0 r else none:=by
 rw [wGo_cons,if_neg (by omega),if_neg (by omega),if_neg (by rintro (h | h | h | h) <;> first | omega | contradiction),hK]
set_option maxHeartbeats 3200000 in
set_option maxRecDepth 100000 in
theorem words_any (l:Pr.T) (hl:l.length ≤ 1000000) (w:World):
  Calls Tryz.prog 88 #[.string ⟨l.toArray⟩] w fun e w'=>WordsSaid w (wGo [] 3 (Lib.cut l [64]).1) e w':=by
 obtain ⟨i0,hi0,hz0,hz1,hz2⟩:=info_parts info_strQ
 have HI:Hid (Tryz.prog.info? 9 = some i0 ∧ i0.zero = some (.string ⟨#[]⟩) ∧ i0.size = 1 ∧ i0.bytes = 16):=⟨hi0,hz0,hz1,hz2⟩
 clear hi0 hz0 hz1 hz2
 have cc:=rcut_at ⟨l.toArray⟩ w (by show l.toArray.size ≤ _;simpa using hl)
 have hcl:=cut64_len l
 simp only [] at cc
 generalize (Lib.cut l [64]).1 = p at *
 obtain ⟨S,hS⟩:∃ S,Hid (wGo [] 3 p = S):=⟨_,rfl⟩
 rw [hS.out]
 have hpl:p.length ≤ 1000000:=by omega
 clear hcl
 go_enter Tryz.func88,Tryz.ntmps88
 go_wp2_with fail
 refine cc.mono ?_
 rintro e w1 ⟨rfl,hb1⟩
 clear cc
 go_wp2_with fail
 go_loopw [4,5,6] (fun v la i wr=>∃ (ps:List Pr.T) (k n:Nat),la = .int .i64 n ∧ i = .int .i64 k ∧ k ≤ p.length ∧ ps.length ≤ k ∧ Parts wr w.heap.size v ps ∧ Below w.heap.size w wr ∧ Hid ((n = 1 ∨ n = 2) → ps ≠ []) ∧ Hid (∀ t ∈ ps,t.length ≤ k) ∧ Hid (wGo ps n (p.drop k) = S)) (fun _ _ i _=>p.length - (intOf i).toNat)
 case atStart=>exact ⟨[],0,3,rfl,rfl,Nat.zero_le _,Nat.le_refl _,World.ownsRow_nil _ _ _ _,hb1,fun h=>by omega,fun t ht=>(by cases ht),hS⟩
 case round=>
  obtain ⟨ps,k,n,rfl,rfl,hk,hpk,hown,hb,HN,HT,HS⟩:=hrel
  clear hS hb1
  cases hd:p.drop k with
  | nil=>
   have hk':¬ (k:Int) < p.length:=by
    have:p.length ≤ k:=List.drop_eq_nil_iff.1 hd
    omega
   have hF:Hid (S = some ps):=by show _ = _;rw [← HS.out,hd];rfl
   clear HS hd
   go_wp2
   go_ret2
   exact ⟨hb,by rw [hF.out];exact ⟨_,rfl,hown⟩⟩
  | cons c r=>
   obtain ⟨hkl,hr,hgc⟩:=at_drop hd
   have hx1:=ex_one hd
   have hkl':(k:Int) < p.length:=by omega
   have hw1:IntKind.i64.wrap ((k:Int) + 1) = k + 1:=by rw [IntKind.wrap_i64];omega
   have HT1:Hid (∀ t ∈ ps,t.length ≤ k + 1):=fun t ht=>Nat.le_succ_of_le (HT.out t ht)
   have HG:Hid (wGo ps n (c :: r) = S):=by show _ = _;rw [← HS.out,hd]
   have HD:Hid (p.drop k = c :: r):=hd
   have HR:Hid (p.drop (k + 1) = r):=hr
   clear HS hd hr
   rcases kind_four c with ⟨hK,hx⟩ | ⟨hK,hx⟩ | ⟨hK,hx⟩ | ⟨hK,_,_,hx⟩ <;> clear hx
   ·have kc:Calls Tryz.prog 115 #[.int .u8 c.toNat] wr fun e w'=>e = .returned (.int .i64 1) ∧ w' = wr:=by have:=kind_any c wr;rw [hK] at this;exact this
    by_cases hn:n = 1
    ·have hn':((1:Int) == (n:Int)) = true:=by rw [hn];rfl
     rcases List.eq_nil_or_concat ps with rfl | ⟨qs,t,rfl⟩
     ·exact absurd rfl (HN.out (by omega))
     ·simp only [List.concat_eq_append] at *
      have HS2:Hid (wGo (qs ++ [t ++ [c]]) 1 (p.drop (k + 1)) = S):=by
       show _ = _
       rw [← HG.out,wGo_cons,if_neg (by omega),if_pos ⟨by omega,by omega⟩,HR.out,hK]
       simp
      have HT2:Hid (∀ u ∈ qs ++ [t ++ [c]],u.length ≤ k + 1):=by
       intro u hu
       rcases List.mem_append.1 hu with hu | hu
       ·have:=HT.out u (List.mem_append_left _ hu);omega
       ·rw [List.mem_singleton] at hu
        have:=HT.out t (by simp)
        rw [hu];simp;omega
      have htl:t.length ≤ k:=HT.out t (by simp)
      rcases hown.2 with ⟨_,h0⟩ | ⟨g,cap,cur,rfl,_⟩
      ·simp at h0
      have hlt:=World.ownsRow.lt hown g rfl
      have hce:=hown.cellAt qs.length (by simp)
      have hfz:=hown.frozenAt qs.length
      obtain ⟨hst,_⟩:=hown.stored qs.length (.string ⟨(t ++ [c]).toArray⟩)
      have HO:Hid (Parts (wr.setCell ⟨g,qs.length,none⟩ (.string ⟨(t ++ [c]).toArray⟩)) w.heap.size (.slice (some ⟨g,0,none⟩) (qs.length + 1) cap) (qs ++ [t ++ [c]])):=by
       show Parts _ _ _ _
       unfold Parts
       have he:(List.map strV (qs ++ [t])).set qs.length (.string ⟨(t ++ [c]).toArray⟩) = List.map strV (qs ++ [t ++ [c]]):=by simp [strV]
       rw [he] at hst
       simpa using hst
      have hce2:wr.cell? ⟨g,qs.length,none⟩ = some (.string ⟨t.toArray⟩):=by rw [hce];simp [strV]
      have hb2:Below w.heap.size w (wr.setCell ⟨g,qs.length,none⟩ (.string ⟨(t ++ [c]).toArray⟩)):=hb.setCell (p:=⟨g,qs.length,none⟩) hlt.1 _
      have hcat:(⟨t.toArray⟩:ByteArray) ++ ⟨[c].toArray⟩ = ⟨(t ++ [c]).toArray⟩:=by apply ByteArray.ext;simp
      have hw2:IntKind.i64.wrap ((qs.length:Int) + 1 - 1) = qs.length:=by rw [IntKind.wrap_i64];simp only [List.length_append,List.length_singleton] at hpk;omega
      have hw3:IntKind.i64.wrap (qs.length:Int) = qs.length:=by rw [IntKind.wrap_i64];simp only [List.length_append,List.length_singleton] at hpk;omega
      have hlt3:(qs.length:Int) < qs.length + 1:=by omega
      simp only [List.length_append,List.length_singleton] at hpk ⊢
      clear HG HT HT1 HN hst hce hown HD HR
      go_wp2_with (go_at_call 115;refine kc.mono ?_;rintro e wk ⟨rfl,rfl⟩)
      go_region_with (fail)
      all_goals go_wp2
      all_goals go_roundw
      all_goals first
       | exact ⟨qs ++ [t ++ [c]],k + 1,1,by go_num,by go_num,by omega,by simp;omega,World.ownsRow.drew HO.out,hb2.drew,fun _=>by simp,HT2,HS2⟩
       | exact ⟨qs ++ [t ++ [c]],k + 1,1,by go_num,by go_num,by omega,by simp;omega,HO,hb2,fun _=>by simp,HT2,HS2⟩
       | (simp [intOf] <;> omega)
    ·have hn':((1:Int) == (n:Int)) = false:=by rw [beq_eq_false_iff_ne];omega
     have HS2:Hid (wGo (ps ++ [[c]]) 1 (p.drop (k + 1)) = S):=by
      show _ = _
      rw [← HG.out,wGo_cons,if_neg (by omega),if_neg (by omega),if_pos (.inl (by omega)),HR.out,hK]
     have HT2:Hid (∀ t ∈ ps ++ [[c]],t.length ≤ k + 1):=by
      intro t ht
      rcases List.mem_append.1 ht with ht | ht
      ·have:=HT.out t ht;omega
      ·rw [List.mem_singleton] at ht
       rw [ht];simp <;> omega
     clear HG HT HT1 HN HD HR hn
     go_wp2_with (first | (go_at_call 115;refine kc.mono ?_;rintro e wk ⟨rfl,rfl⟩) | (at_builtin;refine wpList_append_own _ rfl _ _ 35 rfl w.heap.size 9 i0 (.string ⟨#[]⟩) 1 16 Tryz.underlying35 HI.out.1 HI.out.2.1 HI.out.2.2.1 HI.out.2.2.2 rfl (by decide) _ _ _ rfl (World.ownsRow.alloc hown _) ⟨wk.heap.size,0,none⟩ 1 1 [strV [c]] rfl rfl ?c1 ?c2 ?c3 ?c4 ?c5 ?_))
     case c1=>
      intro j u hj
      match j,hj with
      | 0,hj=>simp at hj;subst hj;simp [Addr.add,strV]
     case c2=>intro u hu;simp at hu;subst hu;rfl
     case c3=>unfold maxLen;omega
     case c4=>omega
     case c5=>have:=hb.size;simp;omega
     ·intro v' w2 hown' hgrow _
      obtain ⟨g1,g2⟩:=parts_grow hown hb (by have:=hb.size;omega) hown' hgrow
      clear hown' hgrow hown
      go_wp2
      go_roundw
      case rel=>exact ⟨ps ++ [[c]],k + 1,1,by go_num,by go_num,by omega,by simp;omega,g1,g2,fun _=>by simp,HT2,HS2⟩
      case measure=>simp [intOf] <;> omega
   ·have kc:Calls Tryz.prog 115 #[.int .u8 c.toNat] wr fun e w'=>e = .returned (.int .i64 2) ∧ w' = wr:=by have:=kind_any c wr;rw [hK] at this;exact this
    by_cases hn:n = 2
    ·have hn':((2:Int) == (n:Int)) = true:=by rw [hn];rfl
     rcases List.eq_nil_or_concat ps with rfl | ⟨qs,t,rfl⟩
     ·exact absurd rfl (HN.out (by omega))
     ·simp only [List.concat_eq_append] at *
      have HS2:Hid (wGo (qs ++ [t ++ [c]]) 2 (p.drop (k + 1)) = S):=by
       show _ = _
       rw [← HG.out,wGo_cons,if_neg (by omega),if_pos ⟨by omega,by omega⟩,HR.out,hK]
       simp
      have HT2:Hid (∀ u ∈ qs ++ [t ++ [c]],u.length ≤ k + 1):=by
       intro u hu
       rcases List.mem_append.1 hu with hu | hu
       ·have:=HT.out u (List.mem_append_left _ hu);omega
       ·rw [List.mem_singleton] at hu
        have:=HT.out t (by simp)
        rw [hu];simp;omega
      have htl:t.length ≤ k:=HT.out t (by simp)
      rcases hown.2 with ⟨_,h0⟩ | ⟨g,cap,cur,rfl,_⟩
      ·simp at h0
      have hlt:=World.ownsRow.lt hown g rfl
      have hce:=hown.cellAt qs.length (by simp)
      have hfz:=hown.frozenAt qs.length
      obtain ⟨hst,_⟩:=hown.stored qs.length (.string ⟨(t ++ [c]).toArray⟩)
      have HO:Hid (Parts (wr.setCell ⟨g,qs.length,none⟩ (.string ⟨(t ++ [c]).toArray⟩)) w.heap.size (.slice (some ⟨g,0,none⟩) (qs.length + 1) cap) (qs ++ [t ++ [c]])):=by
       show Parts _ _ _ _
       unfold Parts
       have he:(List.map strV (qs ++ [t])).set qs.length (.string ⟨(t ++ [c]).toArray⟩) = List.map strV (qs ++ [t ++ [c]]):=by simp [strV]
       rw [he] at hst
       simpa using hst
      have hce2:wr.cell? ⟨g,qs.length,none⟩ = some (.string ⟨t.toArray⟩):=by rw [hce];simp [strV]
      have hb2:Below w.heap.size w (wr.setCell ⟨g,qs.length,none⟩ (.string ⟨(t ++ [c]).toArray⟩)):=hb.setCell (p:=⟨g,qs.length,none⟩) hlt.1 _
      have hcat:(⟨t.toArray⟩:ByteArray) ++ ⟨[c].toArray⟩ = ⟨(t ++ [c]).toArray⟩:=by apply ByteArray.ext;simp
      have hw2:IntKind.i64.wrap ((qs.length:Int) + 1 - 1) = qs.length:=by rw [IntKind.wrap_i64];simp only [List.length_append,List.length_singleton] at hpk;omega
      have hw3:IntKind.i64.wrap (qs.length:Int) = qs.length:=by rw [IntKind.wrap_i64];simp only [List.length_append,List.length_singleton] at hpk;omega
      have hlt3:(qs.length:Int) < qs.length + 1:=by omega
      simp only [List.length_append,List.length_singleton] at hpk ⊢
      clear HG HT HT1 HN hst hce hown HD HR
      go_wp2_with (go_at_call 115;refine kc.mono ?_;rintro e wk ⟨rfl,rfl⟩)
      go_region_with (fail)
      all_goals go_wp2
      all_goals go_roundw
      all_goals first
       | exact ⟨qs ++ [t ++ [c]],k + 1,2,by go_num,by go_num,by omega,by simp;omega,World.ownsRow.drew HO.out,hb2.drew,fun _=>by simp,HT2,HS2⟩
       | exact ⟨qs ++ [t ++ [c]],k + 1,2,by go_num,by go_num,by omega,by simp;omega,HO,hb2,fun _=>by simp,HT2,HS2⟩
       | (simp [intOf] <;> omega)
    ·have hn':((2:Int) == (n:Int)) = false:=by rw [beq_eq_false_iff_ne];omega
     have HS2:Hid (wGo (ps ++ [[c]]) 2 (p.drop (k + 1)) = S):=by
      show _ = _
      rw [← HG.out,wGo_cons,if_neg (by omega),if_neg (by omega),if_pos (.inl (by omega)),HR.out,hK]
     have HT2:Hid (∀ t ∈ ps ++ [[c]],t.length ≤ k + 1):=by
      intro t ht
      rcases List.mem_append.1 ht with ht | ht
      ·have:=HT.out t ht;omega
      ·rw [List.mem_singleton] at ht
       rw [ht];simp <;> omega
     clear HG HT HT1 HN HD HR hn
     go_wp2_with (first | (go_at_call 115;refine kc.mono ?_;rintro e wk ⟨rfl,rfl⟩) | (at_builtin;refine wpList_append_own _ rfl _ _ 35 rfl w.heap.size 9 i0 (.string ⟨#[]⟩) 1 16 Tryz.underlying35 HI.out.1 HI.out.2.1 HI.out.2.2.1 HI.out.2.2.2 rfl (by decide) _ _ _ rfl (World.ownsRow.alloc hown _) ⟨wk.heap.size,0,none⟩ 1 1 [strV [c]] rfl rfl ?c1 ?c2 ?c3 ?c4 ?c5 ?_))
     case c1=>
      intro j u hj
      match j,hj with
      | 0,hj=>simp at hj;subst hj;simp [Addr.add,strV]
     case c2=>intro u hu;simp at hu;subst hu;rfl
     case c3=>unfold maxLen;omega
     case c4=>omega
     case c5=>have:=hb.size;simp;omega
     ·intro v' w2 hown' hgrow _
      obtain ⟨g1,g2⟩:=parts_grow hown hb (by have:=hb.size;omega) hown' hgrow
      clear hown' hgrow hown
      go_wp2
      go_roundw
      case rel=>exact ⟨ps ++ [[c]],k + 1,2,by go_num,by go_num,by omega,by simp;omega,g1,g2,fun _=>by simp,HT2,HS2⟩
      case measure=>simp [intOf] <;> omega
   ·have kc:Calls Tryz.prog 115 #[.int .u8 c.toNat] wr fun e w'=>e = .returned (.int .i64 3) ∧ w' = wr:=by have:=kind_any c wr;rw [hK] at this;exact this
    have HS2:Hid (wGo ps 3 (p.drop (k + 1)) = S):=by show _ = _;rw [← HG.out,wGo_cons,if_pos hK,HR.out]
    clear HG HT HN HD HR
    go_wp2_with (go_at_call 115;refine kc.mono ?_;rintro e wk ⟨rfl,rfl⟩)
    go_roundw
    case rel=>exact ⟨ps,k + 1,3,rfl,by go_num,by omega,by omega,hown,hb,fun h=>by omega,HT1,HS2⟩
    case measure=>simp [intOf] <;> omega
   ·have kc:Calls Tryz.prog 115 #[.int .u8 c.toNat] wr fun e w'=>e = .returned (.int .i64 0) ∧ w' = wr:=by have:=kind_any c wr;rw [hK] at this;exact this
    by_cases e61:c = 61
    ·have HS2:Hid (wGo (ps ++ [[c]]) 0 (p.drop (k + 1)) = S):=by
      show _ = _
      rw [← HG.out,wGo_cons,if_neg (by omega),if_neg (by omega),if_pos (.inr (by simp [e61])),HR.out,hK]
     have b61:((c.toNat:Int) == 61) = true:=by rw [e61];rfl
     have HT2:Hid (∀ t ∈ ps ++ [[c]],t.length ≤ k + 1):=by
      intro t ht
      rcases List.mem_append.1 ht with ht | ht
      ·have:=HT.out t ht;omega
      ·rw [List.mem_singleton] at ht
       rw [ht];simp <;> omega
     clear HG HT HT1 HN HD HR e61
     go_wp2_with (first | (go_at_call 115;refine kc.mono ?_;rintro e wk ⟨rfl,rfl⟩) | (at_builtin;refine wpList_append_own _ rfl _ _ 35 rfl w.heap.size 9 i0 (.string ⟨#[]⟩) 1 16 Tryz.underlying35 HI.out.1 HI.out.2.1 HI.out.2.2.1 HI.out.2.2.2 rfl (by decide) _ _ _ rfl (World.ownsRow.alloc hown _) ⟨wk.heap.size,0,none⟩ 1 1 [strV [c]] rfl rfl ?c1 ?c2 ?c3 ?c4 ?c5 ?_))
     case c1=>
      intro j u hj
      match j,hj with
      | 0,hj=>simp at hj;subst hj;simp [Addr.add,strV]
     case c2=>intro u hu;simp at hu;subst hu;rfl
     case c3=>unfold maxLen;omega
     case c4=>omega
     case c5=>have:=hb.size;simp;omega
     ·intro v' w2 hown' hgrow _
      obtain ⟨g1,g2⟩:=parts_grow hown hb (by have:=hb.size;omega) hown' hgrow
      clear hown' hgrow hown
      go_wp2
      go_roundw
      case rel=>exact ⟨ps ++ [[c]],k + 1,0,by go_num,by go_num,by omega,by simp;omega,g1,g2,fun _=>by simp,HT2,HS2⟩
      case measure=>simp [intOf] <;> omega
    have b61:((c.toNat:Int) == 61) = false:=byte_ne (n:=61) (by decide) e61
    by_cases e44:c = 44
    ·have HS2:Hid (wGo (ps ++ [[c]]) 0 (p.drop (k + 1)) = S):=by
      show _ = _
      rw [← HG.out,wGo_cons,if_neg (by omega),if_neg (by omega),if_pos (.inr (by simp [e44])),HR.out,hK]
     have b44:((c.toNat:Int) == 44) = true:=by rw [e44];rfl
     have HT2:Hid (∀ t ∈ ps ++ [[c]],t.length ≤ k + 1):=by
      intro t ht
      rcases List.mem_append.1 ht with ht | ht
      ·have:=HT.out t ht;omega
      ·rw [List.mem_singleton] at ht
       rw [ht];simp <;> omega
     clear HG HT HT1 HN HD HR e44
     go_wp2_with (first | (go_at_call 115;refine kc.mono ?_;rintro e wk ⟨rfl,rfl⟩) | (at_builtin;refine wpList_append_own _ rfl _ _ 35 rfl w.heap.size 9 i0 (.string ⟨#[]⟩) 1 16 Tryz.underlying35 HI.out.1 HI.out.2.1 HI.out.2.2.1 HI.out.2.2.2 rfl (by decide) _ _ _ rfl (World.ownsRow.alloc hown _) ⟨wk.heap.size,0,none⟩ 1 1 [strV [c]] rfl rfl ?c1 ?c2 ?c3 ?c4 ?c5 ?_))
     case c1=>
      intro j u hj
      match j,hj with
      | 0,hj=>simp at hj;subst hj;simp [Addr.add,strV]
     case c2=>intro u hu;simp at hu;subst hu;rfl
     case c3=>unfold maxLen;omega
     case c4=>omega
     case c5=>have:=hb.size;simp;omega
     ·intro v' w2 hown' hgrow _
      obtain ⟨g1,g2⟩:=parts_grow hown hb (by have:=hb.size;omega) hown' hgrow
      clear hown' hgrow hown
      go_wp2
      go_roundw
      case rel=>exact ⟨ps ++ [[c]],k + 1,0,by go_num,by go_num,by omega,by simp;omega,g1,g2,fun _=>by simp,HT2,HS2⟩
      case measure=>simp [intOf] <;> omega
    have b44:((c.toNat:Int) == 44) = false:=byte_ne (n:=44) (by decide) e44
    by_cases e37:c = 37
    ·have HS2:Hid (wGo (ps ++ [[c]]) 0 (p.drop (k + 1)) = S):=by
      show _ = _
      rw [← HG.out,wGo_cons,if_neg (by omega),if_neg (by omega),if_pos (.inr (by simp [e37])),HR.out,hK]
     have b37:((c.toNat:Int) == 37) = true:=by rw [e37];rfl
     have HT2:Hid (∀ t ∈ ps ++ [[c]],t.length ≤ k + 1):=by
      intro t ht
      rcases List.mem_append.1 ht with ht | ht
      ·have:=HT.out t ht;omega
      ·rw [List.mem_singleton] at ht
       rw [ht];simp <;> omega
     clear HG HT HT1 HN HD HR e37
     go_wp2_with (first | (go_at_call 115;refine kc.mono ?_;rintro e wk ⟨rfl,rfl⟩) | (at_builtin;refine wpList_append_own _ rfl _ _ 35 rfl w.heap.size 9 i0 (.string ⟨#[]⟩) 1 16 Tryz.underlying35 HI.out.1 HI.out.2.1 HI.out.2.2.1 HI.out.2.2.2 rfl (by decide) _ _ _ rfl (World.ownsRow.alloc hown _) ⟨wk.heap.size,0,none⟩ 1 1 [strV [c]] rfl rfl ?c1 ?c2 ?c3 ?c4 ?c5 ?_))
     case c1=>
      intro j u hj
      match j,hj with
      | 0,hj=>simp at hj;subst hj;simp [Addr.add,strV]
     case c2=>intro u hu;simp at hu;subst hu;rfl
     case c3=>unfold maxLen;omega
     case c4=>omega
     case c5=>have:=hb.size;simp;omega
     ·intro v' w2 hown' hgrow _
      obtain ⟨g1,g2⟩:=parts_grow hown hb (by have:=hb.size;omega) hown' hgrow
      clear hown' hgrow hown
      go_wp2
      go_roundw
      case rel=>exact ⟨ps ++ [[c]],k + 1,0,by go_num,by go_num,by omega,by simp;omega,g1,g2,fun _=>by simp,HT2,HS2⟩
      case measure=>simp [intOf] <;> omega
    have b37:((c.toNat:Int) == 37) = false:=byte_ne (n:=37) (by decide) e37
    cases r with
    | nil=>
     have hF:Hid (S = none):=by show _ = _;rw [← HG.out,wGo_end ps n c hK e61 e44 e37]
     have hk2:¬ (k:Int) + 1 < p.length:=by
      have:p.length ≤ k + 1:=List.drop_eq_nil_iff.1 HR.out
      omega
     clear HG HT HT1 HN HD HR hx1 e61 e44 e37
     go_wp2_with (go_at_call 115;refine kc.mono ?_;rintro e wk ⟨rfl,rfl⟩)
     go_ret2
     exact ⟨hb,by rw [hF.out];rfl⟩
    | cons d r'=>
     have HG2:Hid ((if c = 33 ∧ d = 61 ∨ c = 46 ∧ d = 46 then wGo (ps ++ [[c,d]]) 0 r' else none) = S):=by show _ = _;rw [← HG.out,wGo_two ps n c d r' hK e61 e44 e37]
     clear HG e61 e44 e37
     have hx2:=ex_two HD.out
     have hk2:(k:Int) + 1 < p.length:=by
      have:=(at_drop HR.out).1
      omega
     have hk3:=(at_drop HR.out).1
     have hw2:IntKind.i64.wrap ((k:Int) + 2) = k + 2:=by rw [IntKind.wrap_i64];omega
     have hr2:=(at_drop HR.out).2.1
     have HR2:Hid (p.drop (k + 2) = r'):=hr2
     clear hr2
     by_cases h1:c = 33 ∧ d = 61
     ·have y1:([c,d] == [33,61]) = true:=by rw [h1.1,h1.2];rfl
      have HS2:Hid (wGo (ps ++ [[c,d]]) 0 (p.drop (k + 2)) = S):=by show _ = _;rw [← HG2.out,HR2.out];simp [h1]
      have HT2:Hid (∀ t ∈ ps ++ [[c,d]],t.length ≤ k + 2):=by
       intro t ht
       rcases List.mem_append.1 ht with ht | ht
       ·have:=HT.out t ht;omega
       ·rw [List.mem_singleton] at ht
        rw [ht];simp <;> omega
      clear HG2 HT HT1 HN HD HR HR2 h1 hx1
      go_wp2_with (first | (go_at_call 115;refine kc.mono ?_;rintro e wk ⟨rfl,rfl⟩) | (at_builtin;refine wpList_append_own _ rfl _ _ 35 rfl w.heap.size 9 i0 (.string ⟨#[]⟩) 1 16 Tryz.underlying35 HI.out.1 HI.out.2.1 HI.out.2.2.1 HI.out.2.2.2 rfl (by decide) _ _ _ rfl (World.ownsRow.alloc hown _) ⟨wk.heap.size,0,none⟩ 1 1 [strV [c,d]] rfl rfl ?c1 ?c2 ?c3 ?c4 ?c5 ?_))
      case c1=>
       intro j u hj
       match j,hj with
       | 0,hj=>simp at hj;subst hj;simp [Addr.add,strV]
      case c2=>intro u hu;simp at hu;subst hu;rfl
      case c3=>unfold maxLen;omega
      case c4=>omega
      case c5=>have:=hb.size;simp;omega
      ·intro v' w2 hown' hgrow _
       obtain ⟨g1,g2⟩:=parts_grow hown hb (by have:=hb.size;omega) hown' hgrow
       clear hown' hgrow hown
       go_wp2
       go_roundw
       case rel=>exact ⟨ps ++ [[c,d]],k + 2,0,by go_num,by go_num,by omega,by simp;omega,g1,g2,fun _=>by simp,HT2,HS2⟩
       case measure=>simp [intOf] <;> omega
     have n1:([c,d] == [33,61]) = false:=by
      rw [beq_eq_false_iff_ne]
      intro e
      injection e with e1 e2
      injection e2 with e2 _
      exact h1 ⟨e1,e2⟩
     by_cases h2:c = 46 ∧ d = 46
     ·have y2:([c,d] == [46,46]) = true:=by rw [h2.1,h2.2];rfl
      have HS2:Hid (wGo (ps ++ [[c,d]]) 0 (p.drop (k + 2)) = S):=by show _ = _;rw [← HG2.out,HR2.out];simp [h2]
      have HT2:Hid (∀ t ∈ ps ++ [[c,d]],t.length ≤ k + 2):=by
       intro t ht
       rcases List.mem_append.1 ht with ht | ht
       ·have:=HT.out t ht;omega
       ·rw [List.mem_singleton] at ht
        rw [ht];simp <;> omega
      clear HG2 HT HT1 HN HD HR HR2 h1 h2 hx1
      go_wp2_with (first | (go_at_call 115;refine kc.mono ?_;rintro e wk ⟨rfl,rfl⟩) | (at_builtin;refine wpList_append_own _ rfl _ _ 35 rfl w.heap.size 9 i0 (.string ⟨#[]⟩) 1 16 Tryz.underlying35 HI.out.1 HI.out.2.1 HI.out.2.2.1 HI.out.2.2.2 rfl (by decide) _ _ _ rfl (World.ownsRow.alloc hown _) ⟨wk.heap.size,0,none⟩ 1 1 [strV [c,d]] rfl rfl ?c1 ?c2 ?c3 ?c4 ?c5 ?_))
      case c1=>
       intro j u hj
       match j,hj with
       | 0,hj=>simp at hj;subst hj;simp [Addr.add,strV]
      case c2=>intro u hu;simp at hu;subst hu;rfl
      case c3=>unfold maxLen;omega
      case c4=>omega
      case c5=>have:=hb.size;simp;omega
      ·intro v' w2 hown' hgrow _
       obtain ⟨g1,g2⟩:=parts_grow hown hb (by have:=hb.size;omega) hown' hgrow
       clear hown' hgrow hown
       go_wp2
       go_roundw
       case rel=>exact ⟨ps ++ [[c,d]],k + 2,0,by go_num,by go_num,by omega,by simp;omega,g1,g2,fun _=>by simp,HT2,HS2⟩
       case measure=>simp [intOf] <;> omega
     have n2:([c,d] == [46,46]) = false:=by
      rw [beq_eq_false_iff_ne]
      intro e
      injection e with e1 e2
      injection e2 with e2 _
      exact h2 ⟨e1,e2⟩
     have hF:Hid (S = none):=by show _ = _;rw [← HG2.out];simp [h1,h2]
     clear HG2 HT HT1 HN HD HR HR2 h1 h2 hx1
     go_wp2_with (go_at_call 115;refine kc.mono ?_;rintro e wk ⟨rfl,rfl⟩)
     go_ret2
     exact ⟨hb,by rw [hF.out];rfl⟩
end Go.Proofs.YtaepcfidpekflaaGreatDoor
