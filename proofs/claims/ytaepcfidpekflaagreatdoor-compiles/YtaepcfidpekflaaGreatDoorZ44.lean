/-
  Several texts in one (Sq, St). By the verifier.
-/
import Derived.Test.YtaepcfidpekflaaGreatDoorZ42
import Derived.Test.YtaepcfidpekflaaGreatDoorZ19
import Derived.Test.YtaepcfidpekflaaGreatDoorZ43
import Derived.Test.YtaepcfidpekflaaGreatDoorZ20
namespace Go.Proofs.YtaepcfidpekflaaGreatDoor
open Go.RowKit
def andGo (a b:Pr.T) (acc:Bool):List (List Pr.T) → Option Bool
 | []=>some acc
 | p :: ps=>match optB (relS a b p) with
  | none=>none
  | some h=>andGo a b (acc && h) ps
def orGo (a b:Pr.T) (acc:Bool):List (List Pr.T) → Option Bool
 | []=>some acc
 | p :: ps=>match andGo a b true (Pr.partsAt [97,110,100] p) with
  | none=>none
  | some h=>orGo a b (acc || h) ps
theorem and_from (a b:Pr.T) (ha:Canon a) (hb:Digs b):∀ (ps:List (List Pr.T)) (f:Pr.Sem),(Pr.foldFrom (Pr.whole Pr.relP) Pr.andS f ps).map (fun g=>g a b) = andGo a b (f a b) ps:=by
 intro ps
 induction ps with
 | nil=>intro f;rfl
 | cons p ps ih=>
  intro f
  have h:=rel_s p a b ha hb
  rw [andGo,← h,Pr.foldFrom]
  cases Pr.whole Pr.relP p with
  | none=>rfl
  | some g=>exact ih (Pr.andS f g)
theorem and_fold (a b:Pr.T) (ha:Canon a) (hb:Digs b) (ps:List (List Pr.T)) (hn:ps ≠ []):(Pr.foldB (Pr.whole Pr.relP) Pr.andS ps).map (fun g=>g a b) = andGo a b true ps:=by
 cases ps with
 | nil=>exact absurd rfl hn
 | cons p ps=>
  have h:=rel_s p a b ha hb
  rw [andGo,← h,Pr.foldB]
  cases Pr.whole Pr.relP p with
  | none=>rfl
  | some g=>exact and_from a b ha hb ps g
theorem or_from (a b:Pr.T) (ha:Canon a) (hb:Digs b):∀ (ps:List (List Pr.T)) (f:Pr.Sem),(Pr.foldFrom (fun p=>Pr.foldB (Pr.whole Pr.relP) Pr.andS (Pr.partsAt [97,110,100] p)) Pr.orS f ps).map (fun g=>g a b) = orGo a b (f a b) ps:=by
 intro ps
 induction ps with
 | nil=>intro f;rfl
 | cons p ps ih=>
  intro f
  have h:=and_fold a b ha hb (Pr.partsAt [97,110,100] p) (Pr.parts_ne _ _)
  rw [orGo,← h,Pr.foldFrom]
  cases Pr.foldB (Pr.whole Pr.relP) Pr.andS (Pr.partsAt [97,110,100] p) with
  | none=>rfl
  | some g=>exact ih (Pr.orS f g)
theorem cond_s (a b:Pr.T) (ha:Canon a) (hb:Digs b) (l:List Pr.T):(Pr.condP l).map (fun g=>g a b) = orGo a b false (Pr.partsAt [111,114] l):=by
 rw [Pr.cond_parts]
 have hn:=Pr.parts_ne [111,114] l
 cases hp:Pr.partsAt [111,114] l with
 | nil=>exact absurd hp hn
 | cons p ps=>
  have h:=and_fold a b ha hb (Pr.partsAt [97,110,100] p) (Pr.parts_ne _ _)
  rw [orGo,← h,Pr.foldB]
  cases Pr.foldB (Pr.whole Pr.relP) Pr.andS (Pr.partsAt [97,110,100] p) with
  | none=>rfl
  | some g=>exact or_from a b ha hb ps g
def pairB:Option Bool → Bool × Bool
 | none=>(false,false)
 | some h=>(h,true)
def holdsS (a b s:Pr.T):Bool × Bool:=pairB ((Pr.whenP s).map (fun g=>g a b))
theorem holds_ok (a b s:Pr.T):(holdsS a b s).2 = (Pr.whenP s).isSome:=by
 unfold holdsS
 cases Pr.whenP s <;> rfl
theorem holds_long (a b s:Pr.T) (h:200 < s.length):holdsS a b s = (false,false):=by
 simp [holdsS,Pr.whenP,h,pairB]
theorem holds_bad (a b s:Pr.T) (h:wGo [] 3 (Lib.cut s [64]).1 = none):holdsS a b s = (false,false):=by
 rw [words_toks] at h
 simp [holdsS,Pr.whenP,h,pairB]
theorem holds_go (a b s:Pr.T) (ha:Canon a) (hb:Digs b) (h2:¬ 200 < s.length) (ts:List Pr.T) (h:wGo [] 3 (Lib.cut s [64]).1 = some ts):holdsS a b s = pairB (orGo a b false (Pr.partsAt [111,114] ts)):=by
 rw [words_toks] at h
 rw [holdsS,← cond_s a b ha hb ts]
 simp [Pr.whenP,h,h2]
end Go.Proofs.YtaepcfidpekflaaGreatDoor
namespace Go.Proofs.YtaepcfidpekflaaGreatDoor
open Go.RowKit
set_option maxHeartbeats 800000 in
theorem relation_short (w:World) (ad:Option Addr) (n c:Nat) (m:Bool) (a b:Pr.T) (hn:n < 3):
  Calls Tryz.prog 90 #[.slice ad n c,.agg #[.bool m,.string ⟨a.toArray⟩,.string ⟨b.toArray⟩]] w fun e w'=>e = .returned (.tuple #[.bool false,.bool false]) ∧ Below w.heap.size w w':=by
 have hw:=(Below.refl w.heap.size w).alloc (Nat.le_refl _) (.cells #[.bool m,.string ⟨a.toArray⟩,.string ⟨b.toArray⟩] 62)
 have hn':(n:Int) < 3:=by omega
 go_enter Tryz.func90,Tryz.ntmps90
 go_wp2
 go_ret2
 exact ⟨rfl,hw⟩
theorem rrelation_any (w:World) (v:Value) (l:List Pr.T) (m:Bool) (a b:Pr.T) (hl:l.length ≤ 900) (hs:∀ x ∈ l,x.length ≤ 1000) (hv:SlV w v l) (ha:Canon a) (hda:Digs a) (hb:Digs b):
  Calls Tryz.prog 90 #[v,.agg #[.bool m,.string ⟨a.toArray⟩,.string ⟨b.toArray⟩]] w fun e w'=>e = .returned (.tuple #[.bool (relS a b l).1,.bool (relS a b l).2]) ∧ Below w.heap.size w w':=by
 match l,hl,hs,hv with
 | [],_,_,hv=>
  obtain ⟨ad,c,rfl⟩:=hv.form
  exact relation_short w ad 0 c m a b (by omega)
 | [_],_,_,hv=>
  obtain ⟨ad,c,rfl⟩:=hv.form
  exact relation_short w ad 1 c m a b (by omega)
 | [_,_],_,_,hv=>
  obtain ⟨ad,c,rfl⟩:=hv.form
  exact relation_short w ad 2 c m a b (by omega)
 | t :: u :: x :: r,hl,hs,hv=>
  rcases hv with ⟨_,h⟩ | ⟨blk,off,c,rfl,hc,hbl,hcell⟩
  ·cases h
  ·simp only [List.length_cons] at hl
   exact relation_some w blk off c t u x r m a b (by omega) hs hc hbl hcell ha hda hb
theorem parts_slv {w:World} {B:Nat} {v:Value} {ts:List Pr.T} (h:Parts w B v ts):SlV w v ts:=by
 have h0:=h
 unfold Parts at h
 rcases h.2 with ⟨rfl,hz⟩ | ⟨g,cap,cur,rfl,hgc⟩
 ·exact .inl ⟨rfl,List.length_eq_zero_iff.1 (by simpa using hz)⟩
 ·have hlt:=World.ownsRow.lt h g rfl
  have hlen:ts.length ≤ cap:=hgc.2.2.1
  refine .inr ⟨g,0,cap,rfl,hlen,hlt.2,fun j hj=>?_⟩
  rw [Nat.zero_add,h.cellAt j (by omega)]
  simp [List.getD_eq_getElem?_getD,List.getElem?_eq_getElem hj]
theorem toks_small:∀ (n:Nat) (l:Pr.T),l.length ≤ n → ∀ ts,Pr.toks l = some ts → ts.length ≤ l.length ∧ ∀ t ∈ ts,t.length ≤ l.length:=by
 intro n
 induction n with
 | zero=>
  intro l h ts ht
  have:l = []:=List.length_eq_zero_iff.1 (by omega)
  subst this
  have:ts = []:=by simpa [Pr.toks,Pr.splitGo] using ht.symm
  subst this
  exact ⟨Nat.le_refl _,fun t ht=>by cases ht⟩
 | succ n ih=>
  intro l h ts ht
  cases l with
  | nil=>
   have:ts = []:=by simpa [Pr.toks,Pr.splitGo] using ht.symm
   subst this
   exact ⟨Nat.le_refl _,fun t ht=>by cases ht⟩
  | cons c r=>
   have hle:=Pr.part_len (c :: r)
   rw [Pr.toks_step] at ht
   split at ht
   ·cases ht
   ·rename_i hz
    have hd:((c :: r).drop (Pr.partLen (c :: r))).length = r.length + 1 - Pr.partLen (c :: r):=by simp
    cases hk:Pr.toks ((c :: r).drop (Pr.partLen (c :: r))) with
    | none=>rw [hk] at ht;cases ht
    | some l'=>
     rw [hk] at ht
     simp only [List.length_cons] at h hle ⊢
     obtain ⟨i1,i2⟩:=ih _ (by rw [hd];omega) l' hk
     rw [hd] at i1 i2
     injection ht with ht
     subst ht
     split
     ·exact ⟨by omega,fun t ht=>by have:=i2 t ht;omega⟩
     ·refine ⟨by simp;omega,fun t ht=>?_⟩
      rcases List.mem_cons.1 ht with rfl | ht
      ·simp only [List.length_take,List.length_cons];omega
      ·have:=i2 t ht;omega
theorem parts_len (sep:Pr.T):∀ l:List Pr.T,(Pr.partsAt sep l).length ≤ l.length + 1 ∧ ∀ p ∈ Pr.partsAt sep l,p.length ≤ l.length:=by
 intro l
 induction l with
 | nil=>exact ⟨by simp [Pr.partsAt],fun p hp=>by simp [Pr.partsAt] at hp;subst hp;simp⟩
 | cons t l ih=>
  simp only [Pr.partsAt]
  split
  ·refine ⟨by simp;exact ih.1,fun p hp=>?_⟩
   rcases List.mem_cons.1 hp with rfl | hp
   ·simp
   ·exact Nat.le_succ_of_le (ih.2 p hp)
  ·split
   ·rename_i p0 ps0 heq
    rw [heq] at ih
    refine ⟨by simp at ih ⊢;omega,fun p hp=>?_⟩
    rcases List.mem_cons.1 hp with rfl | hp
    ·have:=ih.2 p0 (by simp)
     simp;omega
    ·exact Nat.le_succ_of_le (ih.2 p (List.mem_cons_of_mem _ hp))
   ·exact ⟨by simp,fun p hp=>by simp at hp;subst hp;simp⟩
def andNext (a b:Pr.T) (acc:Bool) (ps:List (List Pr.T)):Option Bool → Option Bool
 | none=>none
 | some h=>andGo a b (acc && h) ps
def orNext (a b:Pr.T) (acc:Bool) (ps:List (List Pr.T)):Option Bool → Option Bool
 | none=>none
 | some h=>orGo a b (acc || h) ps
theorem andGo_cons (a b:Pr.T) (acc:Bool) (p:List Pr.T) (ps:List (List Pr.T)):andGo a b acc (p :: ps) = andNext a b acc ps (optB (relS a b p)):=by
 rw [andGo]
 cases optB (relS a b p) <;> rfl
theorem orGo_cons (a b:Pr.T) (acc:Bool) (p:List Pr.T) (ps:List (List Pr.T)):orGo a b acc (p :: ps) = orNext a b acc ps (andGo a b true (Pr.partsAt [97,110,100] p)):=by
 rw [orGo]
 cases andGo a b true (Pr.partsAt [97,110,100] p) <;> rfl
end Go.Proofs.YtaepcfidpekflaaGreatDoor
