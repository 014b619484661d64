/-
  Several texts in one (Qq, Qr, Qx, Ra, Sa, Sb). By the verifier.
-/
import Derived.Test.YtaepcfidpekflaaGreatDoorZ09
import Derived.Maps.OwnSet
import Derived.Maps.AppendAt
import Derived.StringKeys
import Derived.Laws.EntriesVeiled
import Derived.Test.YtaepcfidpekflaaGreatDoorProg
import Derived.Test.YtaepcfidpekflaaGreatDoorZ03
import Derived.Test.YtaepcfidpekflaaGreatDoorZ01
import Derived.WalkKit
import Derived.WalkSpells
import Derived.WalkLawsBesides
import Derived.BigQuiet
import Derived.Test.YtaepcfidpekflaaGreatDoorZ04
import Derived.Deep.DeepCutAuto
import Derived.Deep.CutBlock
import Derived.Deep.RegionWith
import Derived.Outline
namespace Go.Proofs.YtaepcfidpekflaaGreatDoor
open Go.RowKit Go.Maps
def RIn (w:World) (a:Option Addr) (l:List (Pr.T × Pr.T)):Prop:=
 l = [] ∨ ∃ blk off,a = some ⟨blk,off,none⟩ ∧ blk < w.heap.size ∧ ∀ j,j < l.length → w.cell? ⟨blk,off + j * 2,none⟩ = some (strV (l.getD j ([],[])).1) ∧ w.cell? ⟨blk,off + j * 2 + 1,none⟩ = some (strV (l.getD j ([],[])).2)
theorem RIn.keep {w w':World} {a:Option Addr} {l:List (Pr.T × Pr.T)} (h:RIn w a l) (hb:Below w.heap.size w w'):RIn w' a l:=by
 rcases h with h | ⟨blk,off,h1,h2,h3⟩
 ·exact .inl h
 ·exact .inr ⟨blk,off,h1,Nat.lt_of_lt_of_le h2 hb.size,fun j hj=>⟨(hb.cell (p:=⟨blk,off + j * 2,none⟩) h2).trans (h3 j hj).1,(hb.cell (p:=⟨blk,off + j * 2 + 1,none⟩) h2).trans (h3 j hj).2⟩⟩
structure RuleQ where
 n:Pr.T
 v:Value
 f:Pr.Sem
 P:Nat
 E:Nat
def cellsQ (qs:List RuleQ):List Value:=qs.flatMap fun q=>[strV q.n,q.v]
def semsQ (qs:List RuleQ):List (Pr.T × Pr.Sem):=qs.map fun q=>(q.n,q.f)
def namesQ (qs:List RuleQ):List Pr.T:=qs.map (·.n)
def OkQ (w:World) (M:Nat) (g:Option Nat) (qs:List RuleQ):Prop:=∀ q ∈ qs,CondIn w q.v q.f q.P q.E ∧ M ≤ q.P ∧ ∀ b,g = some b → b ≤ q.P ∨ q.E ≤ b
def setQ (qs:List RuleQ):DataW Unit:=setOf (.agg []) ((namesQ qs).map Lit.string)
theorem any_str (x:Pr.T):∀ l:List Pr.T,l.any ((fun y:Lit=>y.sameKey (.string x)) ∘ Lit.string) = decide (x ∈ l)
 | []=>rfl
 | a :: r=>by
  rw [List.any_cons,any_str x r]
  have:((fun y:Lit=>y.sameKey (.string x)) ∘ Lit.string) a = decide (x = a):=by
   show (Lit.string a).sameKey (.string x) = _
   by_cases e:x = a
   ·subst e;simp [Lit.sameKey]
   ·have e':¬ a = x:=fun h=>e h.symm
    simp [Lit.sameKey,e,e']
  rw [this]
  simp
theorem has_setQ (qs:List RuleQ) (x:Pr.T):Maps.has (setQ qs) (.string x) = decide (x ∈ namesQ qs):=by
 unfold setQ
 rw [has_setOf _ _ _ (fun y hy=>by obtain ⟨_,_,rfl⟩:=List.mem_map.1 hy;trivial),List.any_map]
 exact any_str x _
theorem setQ_snoc (qs:List RuleQ) (q:RuleQ):setQ (qs ++ [q]) = (setQ qs).put (.string q.n) (.agg []):=by
 unfold setQ namesQ
 rw [List.map_append,List.map_append,List.map_singleton,List.map_singleton,setOf_snoc]
theorem cellsQ_snoc (qs:List RuleQ) (q:RuleQ):cellsQ (qs ++ [q]) = cellsQ qs ++ [strV q.n,q.v]:=by simp [cellsQ]
theorem grown_of {w w1:World} (hb:Below w.heap.size w w1):w.grownBy w1 none:=⟨hb.os,hb.tape,hb.output,hb.size,fun k hk _=>hb.block k hk⟩
theorem own_keep {w w1:World} {B:Nat} {e:TypeId} {s:Nat} {v:Value} {n:Nat} {xs:List Value} (h:w.ownsRow B e s v n xs) (hb:Below w.heap.size w w1):w1.ownsRow B e s v n xs:=by
 refine World.ownsRow.kept (row:=none) h (grown_of hb) ?_
 cases e:v.ownBlock with
 | none=>exact .inl rfl
 | some _=>exact .inr (by simp)
theorem OkQ.later {w w1:World} {M:Nat} {g:Option Nat} {qs:List RuleQ} (h:OkQ w M g qs) (hb:Below w.heap.size w w1):OkQ w1 M g qs:=fun q hq=>⟨(h q hq).1.later hb,(h q hq).2⟩
theorem OkQ.map {w w1:World} {M:Nat} {g:Option Nat} {qs:List RuleQ} (h:OkQ w M g qs) (hb:w.grownBy w1 (some M)):OkQ w1 M g qs:=fun q hq=>
 ⟨(h q hq).1.move hb.size fun k a b=>hb.block k (Nat.lt_of_lt_of_le b (h q hq).1.1) (by have:=(h q hq).2.1;intro e;injection e with e;omega),(h q hq).2⟩
theorem OkQ.row {w w1:World} {M:Nat} {g g':Option Nat} {qs:List RuleQ} (h:OkQ w M g qs) (hb:w.grownBy w1 g) (hg:g' = g ∨ g' = some w.heap.size):OkQ w1 M g' qs:=fun q hq=>by
 obtain ⟨h1,h2,h3⟩:=h q hq
 refine ⟨h1.move hb.size fun k a b=>hb.block k (Nat.lt_of_lt_of_le b h1.1) ?_,h2,?_⟩
 ·intro e
  rcases h3 k e.symm with h | h <;> omega
 ·intro b e
  rcases hg with hg | hg
  ·exact h3 b (by rw [← hg];exact e)
  ·rw [hg] at e
   injection e with e
   have:=h1.1
   right;omega
theorem rulesP_bad (seen:List Pr.T) (n s:Pr.T) (r:List (Pr.T × Pr.T)) (h:n ∈ seen ∨ Pr.catB n = false):Pr.rulesP seen ((n,s) :: r) = none:=by rw [Pr.rulesP,if_pos h]
theorem rulesP_when (seen:List Pr.T) (n s:Pr.T) (r:List (Pr.T × Pr.T)) (h:Pr.whenP s = none):Pr.rulesP seen ((n,s) :: r) = none:=by
 rw [Pr.rulesP]
 split
 ·rfl
 ·rw [h]
theorem rulesP_step (seen:List Pr.T) (n s:Pr.T) (r:List (Pr.T × Pr.T)) (f:Pr.Sem) (h:¬ (n ∈ seen ∨ Pr.catB n = false)) (hf:Pr.whenP s = some f) (rs:List (Pr.T × Pr.Sem)):
  (Pr.rulesP seen ((n,s) :: r)).map (rs ++ ·) = (Pr.rulesP (seen ++ [n]) r).map (rs ++ [(n,f)] ++ ·):=by
 rw [Pr.rulesP,if_neg h,hf]
 cases Pr.rulesP (seen ++ [n]) r <;> simp
def RulesV (w:World) (v:Value) (rs:List (Pr.T × Pr.Sem)):Prop:=∃ B M g qs,rs = semsQ qs ∧ w.ownsRow B 179 2 v qs.length (cellsQ qs) ∧ OkQ w M g qs
theorem RulesV.later {w w1:World} {v:Value} {rs:List (Pr.T × Pr.Sem)} (h:RulesV w v rs) (hb:Below w.heap.size w w1):RulesV w1 v rs:=by
 obtain ⟨B,M,g,qs,h1,h2,h3⟩:=h
 exact ⟨B,M,g,qs,h1,own_keep h2 hb,h3.later hb⟩
def NewSaid (w:World) (x:Option (List (Pr.T × Pr.Sem))) (e:Ending) (w':World):Prop:=Below w.heap.size w w' ∧ match x with
 | none=>e = .returned (.tuple #[.slice none 0 0,errRule])
 | some rs=>∃ v,e = .returned (.tuple #[v,.nilIface]) ∧ RulesV w' v rs
theorem info_rule:(Tryz.prog.info? 179).map (fun i=>(i.zero,i.size,i.bytes)) = some (some (.agg #[.string ⟨#[]⟩,.nilFunc]),2,24):=by kernel_rfl
theorem zero_unit (w:World):(zeroValue 172).run Tryz.prog w = .ok (.agg #[]) w:=by kernel_rfl
set_option maxHeartbeats 3200000 in
set_option maxRecDepth 100000 in
theorem new_some (w:World) (blk off:Nat) (l:List (Pr.T × Pr.T)) (c:Nat) (hl:l.length ≤ 100000) (hsz:∀ q ∈ l,q.1.length < 1000000 ∧ q.2.length < 1000000) (hB:Base w) (hblk:blk < w.heap.size)
  (hcell:∀ j,j < l.length → w.cell? ⟨blk,off + j * 2,none⟩ = some (strV (l.getD j ([],[])).1) ∧ w.cell? ⟨blk,off + j * 2 + 1,none⟩ = some (strV (l.getD j ([],[])).2)):
  Calls Tryz.prog 62 #[.slice (some ⟨blk,off,none⟩) l.length c] w fun e w'=>NewSaid w (Pr.rulesP [] l) e w':=by
 have hmm:=@run_makeMap Tryz.prog
 obtain ⟨i0,hi0,hz0,hz1,hz2⟩:=info_parts info_rule
 have HI:Hid (Tryz.prog.info? 179 = some i0 ∧ i0.zero = some (.agg #[.string ⟨#[]⟩,.nilFunc]) ∧ i0.size = 2 ∧ i0.bytes = 24):=⟨hi0,hz0,hz1,hz2⟩
 have HS:Hid (∀ q ∈ l,q.1.length < 1000000 ∧ q.2.length < 1000000):=hsz
 have HC:Hid (∀ j,j < l.length → w.cell? ⟨blk,off + j * 2,none⟩ = some (strV (l.getD j ([],[])).1) ∧ w.cell? ⟨blk,off + j * 2 + 1,none⟩ = some (strV (l.getD j ([],[])).2)):=hcell
 clear hi0 hz0 hz1 hz2 hsz hcell
 obtain ⟨S,hS⟩:∃ S,Hid (Pr.rulesP [] l = S):=⟨_,rfl⟩
 rw [hS.out]
 have law:=string_keyed Tryz.underlying9
 go_enter Tryz.func62,Tryz.ntmps62
 go_wp2_with fail
 go_loopw [4,15] (fun v i wr=>∃ (k:Nat) (qs:List RuleQ),k ≤ l.length ∧ i = .int .i64 k ∧ qs.length = k ∧ wr.ownsMap Tryz.prog 9 unitElem w.heap.size k (setQ qs) ∧ wr.ownsRow (w.heap.size + 1) 179 2 v k (cellsQ qs) ∧ Below w.heap.size w wr ∧ w.heap.size + 1 ≤ wr.heap.size ∧ OkQ wr w.heap.size v.ownBlock qs ∧ Hid (S = (Pr.rulesP (namesQ qs) (l.drop k)).map (semsQ qs ++ ·)))
  (fun _ i _=>l.length - (intOf i).toNat)
 case atStart=>exact ⟨0,[],Nat.zero_le _,rfl,rfl,World.ownsMap_made _ _ _ _,World.ownsRow_nil _ _ _ _,(Below.refl _ _).alloc (Nat.le_refl _) _,by simp,fun q hq=>(by cases hq),by show _ = _;rw [← hS.out];simp [semsQ,namesQ]⟩
 case round=>
  obtain ⟨k,qs,hk,rfl,hqk,hmap,hrow,hb,hws,hok,hR⟩:=hrel
  by_cases hlt:k < l.length
  ·obtain ⟨n,hn⟩:∃ n,(l.getD k ([],[])).1 = n:=⟨_,rfl⟩
   obtain ⟨s,hs⟩:∃ s,(l.getD k ([],[])).2 = s:=⟨_,rfl⟩
   have hlk:l.getD k ([],[]) = (n,s):=by rw [← hn,← hs]
   have hmem:(n,s) ∈ l:=by rw [← hlk,List.getD_eq_getElem?_getD,List.getElem?_eq_getElem hlt];exact List.getElem_mem _
   have hdr:l.drop k = (n,s) :: l.drop (k + 1):=by
    rw [List.drop_eq_getElem_cons hlt]
    congr 1
    rw [← hlk,List.getD_eq_getElem?_getD,List.getElem?_eq_getElem hlt]
    rfl
   obtain ⟨hn1,hs1⟩:=HS.out _ hmem
   simp only at hn1 hs1
   obtain ⟨c1,c2⟩:=HC.out k hlt
   rw [hn] at c1
   rw [hs] at c2
   have d1:wr.cell? ⟨blk,off + k * 2,none⟩ = some (.string ⟨n.toArray⟩):=(hb.cell (p:=⟨blk,off + k * 2,none⟩) hblk).trans c1
   have d2:wr.cell? ⟨blk,off + k * 2 + 1,none⟩ = some (.string ⟨s.toArray⟩):=(hb.cell (p:=⟨blk,off + k * 2 + 1,none⟩) hblk).trans c2
   have hkey:keyOf Tryz.prog 9 (.string ⟨n.toArray⟩) = some (.string n):=WideMaps.keyOf_string_mk Tryz.underlying9 (by show n.toArray.size ≤ maxLen;unfold maxLen;simp;omega)
   have hlt':(k:Int) < l.length:=by omega
   have HD:Hid (l.drop k = (n,s) :: l.drop (k + 1)):=hdr
   clear c1 c2 hn hs hlk hmem HC HS hdr hmm
   have hb2:Below w.heap.size w ((wr.alloc (.cells #[.string ⟨n.toArray⟩,.string ⟨s.toArray⟩] 44)).alloc (.cells #[] 172)):=(hb.alloc hb.size _).alloc (by simp;omega) _
   by_cases hin:n ∈ namesQ qs
   ·have hhas:Maps.has (setQ qs) (.string n) = true:=by rw [has_setQ];exact decide_eq_true hin
    have hR2:Hid (S = none):=by
     show _ = _
     rw [hR.out,HD.out,rulesP_bad _ _ _ _ (.inl hin)]
     rfl
    clear hin
    go_wp2_with (at_lookup;refine wpList_lookup_own_unit _ rfl _ _ 171 rfl 9 172 law Tryz.underlying171 (zero_unit _) w.heap.size k _ rfl (hmap.alloc _) _ _ rfl hkey ?_)
    go_ret2
    refine ⟨hb2,?_⟩
    rw [hR2.out]
    rfl
   ·have hhas:Maps.has (setQ qs) (.string n) = false:=by rw [has_setQ];exact decide_eq_false hin
    have cm:=fun W=>mayHaveRule_any n W
    cases hcat:Pr.catB n with
    | false=>
     have hR2:Hid (S = none):=by
      show _ = _
      rw [hR.out,HD.out,rulesP_bad _ _ _ _ (.inr hcat)]
      rfl
     simp only [hcat] at cm
     clear hin hcat
     go_wp2_with (at_lookup;refine wpList_lookup_own_unit _ rfl _ _ 171 rfl 9 172 law Tryz.underlying171 (zero_unit _) w.heap.size k _ rfl (hmap.alloc _) _ _ rfl hkey ?_)
     refine (cm _).mono ?_
     rintro e w1 ⟨rfl,hb1⟩
     have hb9:=below_of hb2 hb1
     clear hb1 hb2
     go_wp2
     go_ret2
     refine ⟨hb9,?_⟩
     rw [hR2.out]
     rfl
    | true=>
     simp only [hcat] at cm
     have hnot:Hid (¬ (n ∈ namesQ qs ∨ Pr.catB n = false)):=by
      rintro (h | h)
      ·exact hin h
      ·rw [hcat] at h;cases h
     clear hin hcat
     go_wp2_with (at_lookup;refine wpList_lookup_own_unit _ rfl _ _ 171 rfl 9 172 law Tryz.underlying171 (zero_unit _) w.heap.size k _ rfl (hmap.alloc _) _ _ rfl hkey ?_)
     refine (cm _).mono ?_
     rintro e w1 ⟨rfl,hb1⟩
     have s1:=hb1.size
     simp only [World.size_alloc] at s1
     have hbA:Below wr.heap.size wr w1:=(((Below.refl wr.heap.size wr).alloc (Nat.le_refl _) (.cells #[.string ⟨n.toArray⟩,.string ⟨s.toArray⟩] 44)).alloc (by simp) (.cells #[] 172)).trans (hb1.mono (by simp;omega))
     have hmap1:=hmap.kept (grown_of hbA) (by simp)
     have hrow1:=own_keep hrow hbA
     have hok1:=hok.later hbA
     have q1:=(((row_at wr #[.string ⟨n.toArray⟩,.string ⟨s.toArray⟩] 44).alloc (.cells #[] 172)).keep hb1).2.1
     have hb2':Below w.heap.size w w1:=below_of hb hbA
     have hrl:=hrow.lt
     have hsz1:wr.heap.size + 1 + 1 ≤ w1.heap.size:=by omega
     clear hb1 hbA cm hrow hok hmap hb2
     go_wp2_with (at_mapUpdate;refine wpList_mapUpdate_own _ rfl _ _ _ 171 rfl 9 172 law Tryz.underlying171 (unitElem (H:=Unit)) w.heap.size k _ rfl hmap1 (by unfold maxLen;omega) _ _ _ rfl rfl hkey _ [] unitElem_mk ?_;intro w3 hmap3 hgrow3;have q3:∀ j,w3.cell? ⟨wr.heap.size,j,none⟩ = #[Value.string ⟨n.toArray⟩,.string ⟨s.toArray⟩][j]?:=fun j=>(World.cell?_of_block (hgrow3.block wr.heap.size (by omega) (by intro e;injection e with e;omega))).trans (q1 j))
     have s3:=hgrow3.size
     have hb3:Below w.heap.size w w3:=hb2'.grown hgrow3 (by omega) (fun j hj=>by cases hj;exact Nat.le_refl _)
     have hrow3:=hrow1.kept hgrow3 (.inr fun e1=>by have:=(hrl _ e1).1;omega)
     have hok3:=hok1.map hgrow3
     have cc:=conditionOf_any w3 s (by omega) (hB.below hb3)
     clear hrow1 hok1 hb2' hmap1 hgrow3 q1
     refine cc.mono ?_
     rintro e w4 ⟨hb4,hs⟩
     clear cc
     have q4:∀ j,w4.cell? ⟨wr.heap.size,j,none⟩ = #[Value.string ⟨n.toArray⟩,.string ⟨s.toArray⟩][j]?:=fun j=>(hb4.cell (p:=⟨wr.heap.size,j,none⟩) (by show wr.heap.size < w3.heap.size;omega)).trans (q3 j)
     have hrow4:=own_keep hrow3 hb4
     have hok4:=hok3.later hb4
     have hmap4:=hmap3.kept (grown_of hb4) (by simp)
     have s4:=hb4.size
     replace hb4:=below_of hb3 hb4
     clear q3 hb3 hrow3 hok3 hmap3
     cases hv:Pr.whenP s with
     | none=>
      rw [hv] at hs
      obtain rfl:=hs
      have hR2:Hid (S = none):=by
       show _ = _
       rw [hR.out,HD.out,rulesP_when _ _ _ _ hv]
       rfl
      clear hv
      unfold errRule
      go_wp2
      go_ret2
      refine ⟨hb4,?_⟩
      rw [hR2.out]
      rfl
     | some f=>
      rw [hv] at hs
      obtain ⟨v4,P,rfl,hP,hcn⟩:=hs
      have hR2:Hid (S = (Pr.rulesP (namesQ qs ++ [n]) (l.drop (k + 1))).map (semsQ qs ++ [(n,f)] ++ ·)):=by
       show _ = _
       rw [hR.out,HD.out,rulesP_step _ _ _ _ f hnot.out hv]
      clear hv hR
      obtain ⟨g,lb,rfl⟩:∃ g lb,v4 = .func (.func g) #[] lb:=by obtain ⟨_,g,lb,h,_⟩:=hcn;exact ⟨g,lb,h⟩
      go_wp2_with (at_builtin;refine wpList_append_own_at _ rfl _ _ 103 rfl (w.heap.size + 1) 179 i0 (.agg #[.string ⟨#[]⟩,.nilFunc]) 2 24 Tryz.underlying103 HI.out.1 HI.out.2.1 HI.out.2.2.1 HI.out.2.2.2 rfl (by decide) _ _ _ rfl (hrow4.alloc _) ⟨w4.heap.size,0,none⟩ 1 1 [strV n,.func (.func g) #[] lb] rfl rfl ?c1 ?c2 ?c3 ?c4 ?c5 ?_)
      case c1=>
       intro j u hj
       match j,hj with
       | 0,hj=>simp at hj;subst hj;simp [Addr.add,strV]
       | 1,hj=>simp at hj;subst hj;simp [Addr.add]
      case c2=>
       intro u hu
       simp at hu
       rcases hu with rfl | rfl <;> rfl
      case c3=>unfold maxLen;omega
      case c4=>omega
      case c5=>simp;omega
      ·intro v' w6 hown' hgrow6 _ hob
       have s6:=hgrow6.size
       simp only [World.size_alloc] at s6
       have hA:=(Below.refl w4.heap.size w4).alloc (Nat.le_refl _) (.cells #[.string ⟨n.toArray⟩,.func (.func g) #[] lb] 179)
       have g1:=(hmap4.alloc (.cells #[.string ⟨n.toArray⟩,.func (.func g) #[] lb] 179)).kept hgrow6 (fun e1=>by have:=(hrl _ e1.symm).1;omega)
       have g2:Below w.heap.size w w6:=(hb4.alloc hb4.size _).grown hgrow6 (by simp;omega) (fun j hj=>by have:=(hrl j hj).1;omega)
       have g3:OkQ w6 w.heap.size v'.ownBlock (qs ++ [⟨n,.func (.func g) #[] lb,f,P,w4.heap.size⟩]):=by
        intro q hq
        rcases List.mem_append.1 hq with hq | hq
        ·exact (hok4.later hA).row hgrow6 (by simpa using hob) q hq
        ·rw [List.mem_singleton] at hq
         subst hq
         refine ⟨(hcn.later hA).move hgrow6.size fun k a b=>hgrow6.block k (by simp;omega) (fun e1=>by have:=(hrl _ e1.symm).2;omega),by show w.heap.size ≤ P;omega,fun b e1=>?_⟩
         rcases hob with hob | hob
         ·left
          have:=(hrl b (hob.symm.trans e1)).2
          show b ≤ P
          omega
         ·right
          rw [hob] at e1
          injection e1 with e1
          show w4.heap.size ≤ b
          omega
       have g4:w6.ownsRow (w.heap.size + 1) 179 2 v' (k + 1) (cellsQ (qs ++ [⟨n,.func (.func g) #[] lb,f,P,w4.heap.size⟩])):=by
        rw [cellsQ_snoc]
        exact hown'
       have g5:w6.ownsMap Tryz.prog 9 unitElem w.heap.size (k + 1) (setQ (qs ++ [⟨n,.func (.func g) #[] lb,f,P,w4.heap.size⟩])):=by
        rw [setQ_snoc]
        exact g1
       have g6:Hid (S = (Pr.rulesP (namesQ (qs ++ [⟨n,.func (.func g) #[] lb,f,P,w4.heap.size⟩])) (l.drop (k + 1))).map (semsQ (qs ++ [⟨n,.func (.func g) #[] lb,f,P,w4.heap.size⟩]) ++ ·)):=by
        show _ = _
        rw [hR2.out]
        simp [namesQ,semsQ]
       clear hown' hgrow6 hok4 hcn hmap4 hrow4 g1 hR2 q4
       go_wp2
       go_roundw
       case rel=>exact ⟨k + 1,_,by omega,by go_num,by simp [hqk],g5,g4,g2,by omega,g3,g6⟩
       case measure=>simp [intOf];omega
  ·have hkl:k = l.length:=by omega
   have hlt':¬ (k:Int) < l.length:=by omega
   have hR2:Hid (S = some (semsQ qs)):=by
    show _ = _
    rw [hR.out,hkl,List.drop_length]
    simp [Pr.rulesP]
   clear hR hmm
   go_wp2
   go_ret2
   refine ⟨hb,?_⟩
   rw [hR2.out]
   subst hqk
   exact ⟨_,rfl,_,_,_,qs,rfl,hrow,hok⟩
end Go.Proofs.YtaepcfidpekflaaGreatDoor
namespace Go.Proofs.YtaepcfidpekflaaGreatDoor
open Go.RowKit Go.Maps
set_option maxHeartbeats 800000 in
set_option maxRecDepth 100000 in
theorem new_nil (w:World) (a:Option Addr) (c:Nat):Calls Tryz.prog 62 #[.slice a 0 c] w fun e w'=>NewSaid w (Pr.rulesP [] []) e w':=by
 have hmm:=@run_makeMap Tryz.prog
 go_enter Tryz.func62,Tryz.ntmps62
 go_wp2_with fail
 refine wp_loop_rounds 1 ?_
 rw [rounds_succ]
 go_wp2
 go_ret2
 exact ⟨(Below.refl _ _).alloc (Nat.le_refl _) _,_,rfl,0,0,none,[],rfl,World.ownsRow_nil _ _ _ _,fun q hq=>(by cases hq)⟩
theorem new_any (w:World) (a:Option Addr) (l:List (Pr.T × Pr.T)) (c:Nat) (hl:l.length ≤ 100000) (hsz:∀ q ∈ l,q.1.length < 1000000 ∧ q.2.length < 1000000) (hB:Base w) (hR:RIn w a l):
  Calls Tryz.prog 62 #[.slice a l.length c] w fun e w'=>NewSaid w (Pr.rulesP [] l) e w':=by
 rcases hR with rfl | ⟨blk,off,rfl,h2,h3⟩
 ·exact new_nil w a c
 ·exact new_some w blk off l c hl hsz hB h2 h3
end Go.Proofs.YtaepcfidpekflaaGreatDoor
namespace Go.Proofs.YtaepcfidpekflaaGreatDoor
open Go.RowKit
structure RulesIn (w:World) (a:Option Addr) (l:List (Pr.T × Pr.T)):Prop where
 len:l.length ≤ 100000
 small:∀ q ∈ l,q.1.length < 1000000 ∧ q.2.length < 1000000
 at_:RIn w a l
theorem RulesIn.keep {w w':World} {a:Option Addr} {l:List (Pr.T × Pr.T)} (h:RulesIn w a l) (hb:Below w.heap.size w w'):RulesIn w' a l:=⟨h.len,h.small,h.at_.keep hb⟩
def SlE (w:World) (v:Value) (l:List Pr.T):Prop:=(∃ a c,v = .slice a 0 c ∧ l = []) ∨
 ∃ blk off c,v = .slice (some ⟨blk,off,none⟩) l.length c ∧ l.length ≤ c ∧ blk < w.heap.size ∧ ∀ j,j < l.length → w.cell? ⟨blk,off + j,none⟩ = some (strV (l.getD j []))
theorem SlE.keep {w w':World} {v:Value} {l:List Pr.T} (h:SlE w v l) (hb:Below w.heap.size w w'):SlE w' v l:=by
 rcases h with h | ⟨blk,off,c,h1,h2,h3,h4⟩
 ·exact .inl h
 ·exact .inr ⟨blk,off,c,h1,h2,Nat.lt_of_lt_of_le h3 hb.size,fun j hj=>(hb.cell (p:=⟨blk,off + j,none⟩) h3).trans (h4 j hj)⟩
end Go.Proofs.YtaepcfidpekflaaGreatDoor
namespace Go.Proofs.YtaepcfidpekflaaGreatDoor
open Go.RowKit
theorem all_take_any (p:UInt8 → Bool) (s:ByteArray) (k:Nat) (h:k < s.size):(s.data.toList.take (k + 1)).all p = ((s.data.toList.take k).all p && p s[k]):=by
 rw [List.take_succ_eq_append_getElem (by simpa using h),List.all_append]
 simp
 rfl
theorem all_false (p:UInt8 → Bool) (s:ByteArray) (k:Nat) (h:k < s.size) (hp:p s[k] = false):s.data.toList.all p = false:=by
 rw [List.all_eq_false]
 refine ⟨s[k],?_,by simp [hp]⟩
 have:s[k] = s.data.toList[k]'(by simpa using h):=rfl
 rw [this]
 exact List.getElem_mem _
theorem rb {a b:Bool} (h:a = b):Ending.returned (.bool a) = .returned (.bool b):=by rw [h]
set_option maxHeartbeats 400000 in
theorem numerals_any (s:ByteArray) (w:World) (hs:s.size ≤ 1000000):
  Calls Tryz.prog 50 #[.string s] w fun e w'=>e = .returned (.bool (Pn.digitsB s.data.toList)) ∧ w' = w:=by
 go_enter Tryz.func50,Tryz.ntmps50
 go_wp2
 go_loop [3] (fun t=>∃ k:Nat,k ≤ s.size ∧ t = .int .i64 k ∧ Hid ((s.data.toList.take k).all Pn.isDig = true)) (fun t=>s.size - (intOf t).toNat)
 case atStart=>exact ⟨0,Nat.zero_le _,rfl,by show _ = _;simp⟩
 case round=>
  obtain ⟨k,hk,rfl,HK⟩:=hrel
  by_cases hlt:k < s.size
  ·by_cases hd:48 ≤ s[k].toNat ∧ s[k].toNat ≤ 57
   ·have HK2:Hid ((s.data.toList.take (k + 1)).all Pn.isDig = true):=by
     show _ = _
     rw [all_take_any _ s k hlt,HK.out,(Pn.isDig_iff _).2 hd];rfl
    obtain ⟨h1,h2⟩:=hd
    have h1':¬ (s[k].toNat:Int) < 48:=by omega
    have h2':¬ (57:Int) < s[k].toNat:=by omega
    go_wp2
    go_round
    case rel=>exact ⟨k + 1,hlt,by go_num,HK2⟩
    case measure=>simp [intOf];omega
   ·have HF:Hid (Pn.digitsB s.data.toList = false):=by
     show _ = _
     have:Pn.isDig s[k] = false:=by
      cases e:Pn.isDig s[k] with
      | false=>rfl
      | true=>exact absurd ((Pn.isDig_iff _).1 e) hd
     rw [Pn.digitsB,all_false _ s k hlt this,Bool.and_false]
    by_cases h1:(s[k].toNat:Int) < 48
    ·clear hd
     go_wp2
     go_ret
     exact ⟨rb HF.out.symm,rfl⟩
    ·have h2:(57:Int) < s[k].toNat:=by omega
     clear hd
     go_wp2
     go_ret
     exact ⟨rb HF.out.symm,rfl⟩
  ·have HF:Hid (Pn.digitsB s.data.toList = decide ((0:Int) < s.size)):=by
    show _ = _
    have h:=HK.out
    rw [List.take_of_length_le (by simp;omega)] at h
    rw [Pn.digitsB,h,Bool.and_true,Lib.size_eq]
    cases s.data.toList with
    | nil=>rfl
    | cons c r=>simp
   go_wp2
   all_goals go_ret
   all_goals exact ⟨rb (by rw [HF.out];simp),rfl⟩
set_option maxHeartbeats 400000 in
theorem nought_any (s:ByteArray) (w:World) (hs:s.size ≤ 1000000):
  Calls Tryz.prog 51 #[.string s] w fun e w'=>e = .returned (.bool (Pn.zeroB s.data.toList)) ∧ w' = w:=by
 go_enter Tryz.func51,Tryz.ntmps51
 go_wp2
 go_loop [3] (fun t=>∃ k:Nat,k ≤ s.size ∧ t = .int .i64 k ∧ Hid ((s.data.toList.take k).all (· == 48) = true)) (fun t=>s.size - (intOf t).toNat)
 case atStart=>exact ⟨0,Nat.zero_le _,rfl,by show _ = _;simp⟩
 case round=>
  obtain ⟨k,hk,rfl,HK⟩:=hrel
  by_cases hlt:k < s.size
  ·by_cases hd:s[k].toNat = 48
   ·have h48:s[k] = 48:=UInt8.toNat_inj.1 hd
    have HK2:Hid ((s.data.toList.take (k + 1)).all (· == 48) = true):=by
     show _ = _
     rw [all_take_any _ s k hlt,HK.out,h48];rfl
    have h':((s[k].toNat:Int) != 48) = false:=by simp;omega
    clear hd h48
    go_wp2
    go_round
    case rel=>exact ⟨k + 1,hlt,by go_num,HK2⟩
    case measure=>simp [intOf];omega
   ·have HF:Hid (Pn.zeroB s.data.toList = false):=by
     show _ = _
     refine all_false _ s k hlt ?_
     rw [beq_eq_false_iff_ne]
     intro e
     exact hd (by rw [e];rfl)
    have h':((s[k].toNat:Int) != 48) = true:=by simp;omega
    clear hd
    go_wp2
    go_ret
    exact ⟨rb HF.out.symm,rfl⟩
  ·have HF:Hid (Pn.zeroB s.data.toList = true):=by
    show _ = _
    have h:=HK.out
    rw [List.take_of_length_le (by simp;omega)] at h
    exact h
   go_wp2
   all_goals go_ret
   all_goals exact ⟨rb HF.out.symm,rfl⟩
set_option maxHeartbeats 400000 in
theorem point_any (r:Int) (w:World):
  Calls Tryz.prog 47 #[.int .i32 r] w fun e w'=>e = .returned (.bool (Lib.validRune r)) ∧ w' = w:=by
 by_cases h0:0 ≤ r
 ·by_cases h1:r ≤ 1114111
  ·by_cases h2:r < 55296
   ·have HV:Hid (true = Lib.validRune r):=by show _ = _;symm;simp [Lib.validRune];omega
    go_enter Tryz.func47,Tryz.ntmps47
    go_wp2
    go_ret
    exact ⟨rb HV.out,rfl⟩
   ·by_cases h3:57343 < r
    ·have HV:Hid (true = Lib.validRune r):=by show _ = _;symm;simp [Lib.validRune];omega
     go_enter Tryz.func47,Tryz.ntmps47
     go_wp2
     go_ret
     exact ⟨rb HV.out,rfl⟩
    ·have HV:Hid (false = Lib.validRune r):=by show _ = _;symm;simp [Lib.validRune];omega
     go_enter Tryz.func47,Tryz.ntmps47
     go_wp2
     go_ret
     exact ⟨rb HV.out,rfl⟩
  ·have HV:Hid (false = Lib.validRune r):=by show _ = _;symm;simp [Lib.validRune];omega
   go_enter Tryz.func47,Tryz.ntmps47
   go_wp2
   go_ret
   exact ⟨rb HV.out,rfl⟩
 ·have HV:Hid (false = Lib.validRune r):=by show _ = _;symm;simp [Lib.validRune];omega
  go_enter Tryz.func47,Tryz.ntmps47
  go_wp2
  go_ret
  exact ⟨rb HV.out,rfl⟩
end Go.Proofs.YtaepcfidpekflaaGreatDoor
namespace Go.Proofs.YtaepcfidpekflaaGreatDoor
open Go.RowKit
def kindN (c:UInt8):Nat:=if Pr.isLet c then 1 else if Pn.isDig c then 2 else if c = 32 then 3 else 0
theorem isLet_iff (c:UInt8):Pr.isLet c = true ↔ 97 ≤ c.toNat ∧ c.toNat ≤ 122:=by simp [Pr.isLet]
set_option maxHeartbeats 400000 in
theorem kind_any (c:UInt8) (w:World):Calls Tryz.prog 115 #[.int .u8 c.toNat] w fun e w'=>e = .returned (.int .i64 (kindN c)) ∧ w' = w:=by
 obtain ⟨R,hR⟩:∃ R,Hid (kindN c = R):=⟨_,rfl⟩
 rw [hR.out]
 have h256:=UInt8.toNat_lt c
 by_cases h1:Pr.isLet c = true
 ·have e:Hid (R = 1):=by show _ = _;rw [← hR.out,kindN,if_pos h1]
  obtain ⟨a,b⟩:=(isLet_iff c).1 h1
  have a':(97:Int) ≤ c.toNat:=by omega
  have b':(c.toNat:Int) ≤ 122:=by omega
  go_enter Tryz.func115,Tryz.ntmps115
  go_wp2
  go_ret
  exact ⟨by rw [e.out];rfl,rfl⟩
 ·by_cases h2:Pn.isDig c = true
  ·have e:Hid (R = 2):=by show _ = _;rw [← hR.out,kindN,if_neg h1,if_pos h2]
   obtain ⟨a,b⟩:=(Pn.isDig_iff c).1 h2
   have a0:¬ (97:Int) ≤ c.toNat:=by omega
   have a':(48:Int) ≤ c.toNat:=by omega
   have b':(c.toNat:Int) ≤ 57:=by omega
   clear h1
   go_enter Tryz.func115,Tryz.ntmps115
   go_wp2
   go_ret
   exact ⟨by rw [e.out];rfl,rfl⟩
  ·have n1:¬ (97 ≤ c.toNat ∧ c.toNat ≤ 122):=fun h=>h1 ((isLet_iff c).2 h)
   have n2:¬ (48 ≤ c.toNat ∧ c.toNat ≤ 57):=fun h=>h2 ((Pn.isDig_iff c).2 h)
   by_cases h3:c.toNat = 32
   ·have e:Hid (R = 3):=by
     show _ = _
     rw [← hR.out,kindN,if_neg h1,if_neg h2,if_pos (UInt8.toNat_inj.1 h3)]
    have a0:¬ (97:Int) ≤ c.toNat:=by omega
    have a1:¬ (48:Int) ≤ c.toNat:=by omega
    have a2:((c.toNat:Int) == 32) = true:=by rw [beq_iff_eq];omega
    clear h1 h2 h3 n1 n2
    go_enter Tryz.func115,Tryz.ntmps115
    go_wp2
    go_ret
    exact ⟨by rw [e.out];rfl,rfl⟩
   ·have e:Hid (R = 0):=by
     show _ = _
     rw [← hR.out,kindN,if_neg h1,if_neg h2,if_neg (fun h=>h3 (by rw [h];rfl))]
    have a2:((c.toNat:Int) == 32) = false:=by rw [beq_eq_false_iff_ne];omega
    clear h1 h2 h3
    by_cases x1:(97:Int) ≤ c.toNat
    ·have x2:¬ (c.toNat:Int) ≤ 122:=by omega
     have x3:(48:Int) ≤ c.toNat:=by omega
     have x4:¬ (c.toNat:Int) ≤ 57:=by omega
     clear n1 n2
     go_enter Tryz.func115,Tryz.ntmps115
     go_wp2
     go_ret
     exact ⟨by rw [e.out];rfl,rfl⟩
    ·by_cases x3:(48:Int) ≤ c.toNat
     ·have x4:¬ (c.toNat:Int) ≤ 57:=by omega
      clear n1 n2
      go_enter Tryz.func115,Tryz.ntmps115
      go_wp2
      go_ret
      exact ⟨by rw [e.out];rfl,rfl⟩
     ·clear n1 n2
      go_enter Tryz.func115,Tryz.ntmps115
      go_wp2
      go_ret
      exact ⟨by rw [e.out];rfl,rfl⟩
theorem fig_some (t:Pr.T):(Pr.fig t).isSome = (Pn.digitsB t && (decide (t.length ≤ 9) && (decide (t.length = 1) || t.head? != some 48))):=by
 unfold Pr.fig
 split
 ·rename_i h
  obtain ⟨h1,h2,h3⟩:=h
  rw [h1,decide_eq_true h2]
  rcases h3 with h3 | h3
  ·simp [h3]
  ·simp [h3]
 ·rename_i h
  cases h1:Pn.digitsB t with
  | false=>rfl
  | true=>
   by_cases h2:t.length ≤ 9
   ·by_cases h3:t.length = 1
    ·exact absurd ⟨h1,h2,.inl h3⟩ h
    ·have h4:t.head? = some 48:=by
      cases e:decide (t.head? = some 48) with
      | true=>exact of_decide_eq_true e
      | false=>exact absurd ⟨h1,h2,.inr (of_decide_eq_false e)⟩ h
     simp [h2,h3,h4]
   ·simp [h2]
set_option maxHeartbeats 400000 in
theorem figure_any (t:Pr.T) (ht:t.length ≤ 1000) (w:World):Calls Tryz.prog 117 #[.string ⟨t.toArray⟩] w fun e w'=>e = .returned (.tuple #[.string ⟨t.toArray⟩,.bool (Pr.fig t).isSome]) ∧ Below w.heap.size w w':=by
 have cn:=fun W=>numerals_any ⟨t.toArray⟩ W (by show t.toArray.size ≤ _;simp;omega)
 simp only [] at cn
 rw [fig_some]
 cases hd:Pn.digitsB t with
 | false=>
  rw [hd] at cn
  go_enter Tryz.func117,Tryz.ntmps117
  go_wp2_with (go_at_call 50;refine (cn _).mono ?_;rintro e w1 ⟨rfl,rfl⟩)
  go_quiet (fail)
  go_wp2
  go_ret2
  exact ⟨rfl,drewB _ _⟩
 | true=>
  rw [hd] at cn
  cases t with
  | nil=>cases hd
  | cons c r=>
   obtain ⟨R,hR⟩:∃ R,Hid ((true && (decide ((c :: r).length ≤ 9) && (decide ((c :: r).length = 1) || (c :: r).head? != some 48))) = R):=⟨_,rfl⟩
   rw [hR.out]
   simp only [List.length_cons] at ht hR
   by_cases h9:(r.length:Int) + 1 ≤ 9
   ·by_cases h1:r.length = 0
    ·have hF:Hid (R = true):=by show _ = _;rw [← hR.out];simp [h1]
     have h1':((r.length:Int) + 1 == 1) = true:=by rw [beq_iff_eq];omega
     clear h1
     go_enter Tryz.func117,Tryz.ntmps117
     go_wp2_with (go_at_call 50;refine (cn _).mono ?_;rintro e w1 ⟨rfl,rfl⟩)
     go_quiet (fail)
     go_wp2
     go_ret2
     exact ⟨by rw [hF.out];rfl,drewB _ _⟩
    ·have hF:Hid (R = !((c.toNat:Int) == 48)):=by
      show _ = _
      rw [← hR.out]
      have e9:r.length + 1 ≤ 9:=by omega
      by_cases hc:c = 48
      ·simp [h1,e9,hc]
      ·have:((c.toNat:Int) == 48) = false:=by
        rw [beq_eq_false_iff_ne]
        intro e
        exact hc (UInt8.toNat_inj.1 (by show c.toNat = 48;omega))
       simp [e9,hc,this]
     have h1':((r.length:Int) + 1 == 1) = false:=by rw [beq_eq_false_iff_ne];omega
     have h0:∀ h,((⟨(c :: r).toArray⟩:ByteArray)[0]'h).toNat = c.toNat:=fun h=>rfl
     clear h1
     go_enter Tryz.func117,Tryz.ntmps117
     go_wp2_with (go_at_call 50;refine (cn _).mono ?_;rintro e w1 ⟨rfl,rfl⟩)
     go_quiet (fail)
     go_wp2
     go_ret2
     exact ⟨by rw [hF.out];rfl,drewB _ _⟩
   ·have hF:Hid (R = false):=by
     show _ = _
     rw [← hR.out]
     have:¬ r.length + 1 ≤ 9:=by omega
     simp [this]
    have h9':decide ((r.length:Int) + 1 ≤ 9) = false:=decide_eq_false h9
    have h8:¬ (r.length:Int) ≤ 8:=by omega
    have h8':decide ((r.length:Int) ≤ 8) = false:=decide_eq_false h8
    go_enter Tryz.func117,Tryz.ntmps117
    go_wp2_with (go_at_call 50;refine (cn _).mono ?_;rintro e w1 ⟨rfl,rfl⟩)
    go_quiet (fail)
    go_wp2
    go_ret2
    exact ⟨by rw [hF.out];rfl,drewB _ _⟩
end Go.Proofs.YtaepcfidpekflaaGreatDoor
namespace Go.Proofs.YtaepcfidpekflaaGreatDoor
open Go.RowKit
set_option maxHeartbeats 400000 in
theorem small_any (t:Pr.T) (hd:∀ c ∈ t,Pn.isDig c = true) (hl:t.length ≤ 9) (w:World):Calls Tryz.prog 118 #[.string ⟨t.toArray⟩] w fun e w'=>e = .returned (.int .i64 (Pr.val t)) ∧ w' = w:=by
 obtain ⟨s,hs⟩:∃ s:ByteArray,s = ⟨t.toArray⟩:=⟨_,rfl⟩
 have hsd:s.data.toList = t:=by rw [hs]
 rw [← hs]
 have HD:Hid (∀ c ∈ s.data.toList,Pn.isDig c = true):=by rw [hsd];exact hd
 have HV:Hid (Pr.val s.data.toList = Pr.val t):=by show _ = _;rw [hsd]
 have hsz:s.size ≤ 9:=by rw [Lib.size_eq,hsd];exact hl
 generalize Pr.val t = V at *
 clear hsd hs hd hl
 go_enter Tryz.func118,Tryz.ntmps118
 go_wp2
 go_loop [3,4] (fun v i=>∃ k:Nat,k ≤ s.size ∧ i = .int .i64 k ∧ ∃ x:Nat,v = .int .i64 x ∧ Hid (x = Pr.val (s.data.toList.take k)) ∧ x < 1000000000) (fun _ i=>s.size - (intOf i).toNat)
 case atStart=>exact ⟨0,Nat.zero_le _,rfl,0,rfl,by show _ = _;simp [Pr.val],by omega⟩
 case round=>
  obtain ⟨k,hk,rfl,x,rfl,HX,hx⟩:=hrel
  by_cases hp:k < s.size
  ·have hg:Pn.isDig s[k] = true:=HD.out _ (by
    have:s[k] = s.data.toList[k]'(by simpa using hp):=rfl
    rw [this];exact List.getElem_mem _)
   have hv:=val_take s k hp
   have hlt:=val_lt (s.data.toList.take (k + 1)) (fun c hc=>HD.out c (List.mem_of_mem_take hc))
   have hl9:(s.data.toList.take (k + 1)).length ≤ 9:=by rw [List.length_take,← Lib.size_eq];omega
   have hp9:10 ^ (s.data.toList.take (k + 1)).length ≤ 10 ^ 9:=Nat.pow_le_pow_right (by omega) hl9
   have h9:(10:Nat) ^ 9 = 1000000000:=by decide
   obtain ⟨h1,h2⟩:=(Pn.isDig_iff _).1 hg
   have hp':(k:Int) < s.size:=by omega
   have HX2:Hid (10 * x + (s[k].toNat - 48) = Pr.val (s.data.toList.take (k + 1))):=by show _ = _;rw [hv,HX.out]
   have hx2:10 * x + (s[k].toNat - 48) < 1000000000:=by rw [HX2.out];omega
   generalize hq:s[k].toNat = q at *
   have hw1:IntKind.u8.wrap ((q:Int) - 48) = (q:Int) - 48:=by rw [IntKind.wrap_u8];omega
   have hw2:IntKind.i64.wrap (10 * (x:Int)) = 10 * (x:Int):=by rw [IntKind.wrap_i64];omega
   have hw3:IntKind.i64.wrap (10 * (x:Int) + ((q:Int) - 48)) = 10 * (x:Int) + ((q:Int) - 48):=by rw [IntKind.wrap_i64];omega
   clear hv hlt hl9 hp9 h9 hg HX
   go_wp2
   go_round
   case rel=>exact ⟨k + 1,hp,by go_num,10 * x + (q - 48),by congr 1;omega,HX2,hx2⟩
   case measure=>simp [intOf];omega
  ·have hp':¬ (k:Int) < s.size:=by omega
   have HE:Hid (x = V):=by
    show _ = _
    rw [HX.out,List.take_of_length_le (by rw [← Lib.size_eq];omega),HV.out]
   clear HX
   go_wp2
   go_ret
   exact ⟨by rw [HE.out];rfl,rfl⟩
theorem digit_at (k:Nat) (h:k < 10):(⟨#[48,49,50,51,52,53,54,55,56,57]⟩:ByteArray).extract k (k + 1) = ⟨#[UInt8.ofNat (48 + k)]⟩:=by
 match k,h with
 | 0,_=>decide
 | 1,_=>decide
 | 2,_=>decide
 | 3,_=>decide
 | 4,_=>decide
 | 5,_=>decide
 | 6,_=>decide
 | 7,_=>decide
 | 8,_=>decide
 | 9,_=>decide
set_option maxHeartbeats 400000 in
theorem decimal_any:∀ (v:Nat) (w:World),v ≤ 1000000000 → Calls Tryz.prog 120 #[.int .i64 v] w fun e w'=>e = .returned (.string ⟨(Lib.decDigits v).toArray⟩) ∧ Below w.heap.size w w':=by
 intro v
 induction v using Nat.strongRecOn with
 | _ v ih=>
  intro w hv
  have hm:((v:Int).tmod 10) = ((v % 10:Nat):Int):=rfl
  have hx:=digit_at (v % 10) (by omega)
  by_cases h:v < 10
  ·have h':(v:Int) < 10:=by omega
   have hR:Hid (Lib.decDigits v = [UInt8.ofNat (48 + v)]):=by show _ = _;rw [Lib.decDigits,dif_pos h]
   rw [Nat.mod_eq_of_lt h] at hm hx
   clear ih
   go_enter Tryz.func120,Tryz.ntmps120
   go_wp2
   go_ret
   exact ⟨by rw [hR.out];simp [UInt8.ofNat_add],Below.refl _ _⟩
  ·have h':¬ (v:Int) < 10:=by omega
   have hR:Hid (Lib.decDigits v = Lib.decDigits (v / 10) ++ [UInt8.ofNat (48 + v % 10)]):=by show _ = _;rw [Lib.decDigits,dif_neg h]
   have hdv:(v:Int).tdiv 10 = ((v / 10:Nat):Int):=rfl
   have c1:∀ W,Calls Tryz.prog 120 #[.int .i64 ((v:Int) / 10)] W fun e w'=>e = .returned (.string ⟨(Lib.decDigits (v / 10)).toArray⟩) ∧ Below W.heap.size W w':=fun W=>by
    have:=ih (v / 10) (by omega) W (by omega)
    rw [show ((v / 10:Nat):Int) = (v:Int) / 10 from rfl] at this
    exact this
   clear ih
   go_enter Tryz.func120,Tryz.ntmps120
   go_wp2_with fail
   refine (c1 _).mono ?_
   rintro e w1 ⟨rfl,hb1⟩
   have hcat:(⟨(Lib.decDigits (v / 10)).toArray⟩:ByteArray) ++ ⟨#[48 + UInt8.ofNat (v % 10)]⟩ = ⟨(Lib.decDigits v).toArray⟩:=by
    rw [hR.out]
    apply ByteArray.ext
    simp [ByteArray.data_append,UInt8.ofNat_add]
   have hn:=(dec_digs (v / 10) (by omega)).2
   clear c1 hR
   go_wp2
   go_ret
   exact ⟨rfl,hb1⟩
def plainD (t:Pr.T):Pr.T:=if t.dropWhile (· == 48) = [] then [48] else t.dropWhile (· == 48)
theorem plainD_step (r:Pr.T):plainD (48 :: r) = plainD r:=by
 unfold plainD
 rw [List.dropWhile_cons_of_pos (by rfl)]
theorem plainD_one (c:UInt8):plainD [c] = [c]:=by
 unfold plainD
 by_cases h:c = 48
 ·subst h;rfl
 ·rw [List.dropWhile_cons_of_neg (by simpa using h)]
  simp
theorem plainD_stop (c:UInt8) (r:Pr.T) (h:c ≠ 48):plainD (c :: r) = c :: r:=by
 unfold plainD
 rw [List.dropWhile_cons_of_neg (by simpa using h)]
 simp
set_option maxHeartbeats 400000 in
theorem plain_any (t:Pr.T) (ht:t.length ≤ 1000) (w:World):Calls Tryz.prog 152 #[.string ⟨t.toArray⟩] w fun e w'=>e = .returned (.string ⟨(plainD t).toArray⟩) ∧ w' = w:=by
 obtain ⟨R,hR⟩:∃ R,Hid (plainD t = R):=⟨_,rfl⟩
 rw [hR.out]
 go_enter Tryz.func152,Tryz.ntmps152
 go_wp2
 go_loop [0] (fun x=>∃ u:Pr.T,x = .string ⟨u.toArray⟩ ∧ u.length ≤ 1000 ∧ Hid (plainD u = R)) (fun x=>match x with | .string s=>s.size | _=>0)
 case atStart=>exact ⟨t,rfl,ht,hR⟩
 case round=>
  obtain ⟨u,rfl,hu,HU⟩:=hrel
  cases u with
  | nil=>
   have hF:Hid (R = [48]):=HU.out.symm
   go_wp2
   go_ret
   exact ⟨by rw [hF.out];rfl,rfl⟩
  | cons c r=>
   simp only [List.length_cons] at hu
   have h0:∀ h,((⟨(c :: r).toArray⟩:ByteArray)[0]'h).toNat = c.toNat:=fun h=>rfl
   have hd:=ex_drop (c :: r) 1
   simp only [List.length_cons,List.drop_succ_cons,List.drop_zero] at hd
   by_cases h1:r.length = 0
   ·have h1':¬ (1:Int) < r.length + 1:=by omega
    have hr:r = []:=List.length_eq_zero_iff.1 h1
    subst hr
    have hF:Hid (R = [c]):=HU.out.symm.trans (plainD_one c)
    clear h1 HU
    go_wp2
    go_ret
    exact ⟨by rw [hF.out];rfl,rfl⟩
   ·have h1':(1:Int) < r.length + 1:=by omega
    by_cases hc:c = 48
    ·have hc':((c.toNat:Int) == 48) = true:=by rw [hc];rfl
     have hF:Hid (plainD r = R):=by
      show _ = _
      rw [← HU.out,hc,plainD_step r]
     clear h1 HU hc
     go_wp2
     go_round
     case rel=>exact ⟨r,rfl,by omega,hF⟩
     case measure=>
      show r.toArray.size < (c :: r).toArray.size
      simp
    ·have hc':((c.toNat:Int) == 48) = false:=by
      rw [beq_eq_false_iff_ne]
      intro e
      exact hc (UInt8.toNat_inj.1 (by show c.toNat = 48;omega))
     have hF:Hid (R = c :: r):=HU.out.symm.trans (plainD_stop c r hc)
     clear h1 HU hc
     go_wp2
     go_ret
     exact ⟨by rw [hF.out];rfl,rfl⟩
end Go.Proofs.YtaepcfidpekflaaGreatDoor
