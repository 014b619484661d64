/-
  Several texts in one (Pt, Qk, Ql, Qm). By the verifier.
-/
import Derived.Test.YtaepcfidpekflaaGreatDoorZ07
namespace Go.Proofs.YtaepcfidpekflaaGreatDoor.Pr
def StopO (t:T):Prop:=t = [111,114]
def StopA (t:T):Prop:=t = [97,110,100] ∨ t = [111,114]
def StopI (t:T):Prop:=t = [44] ∨ StopA t
theorem good_none (S:T → Prop):Good (fun _=>none) S:=⟨fun _ _ _ h=>(by cases h),fun _ _ _ h=>(by cases h)⟩
theorem good_ret (S:T → Prop) (F:Sem):Good (fun l=>some (F,l)) S:=by
 constructor
 ·intro l f r h
  simp only [Option.some.injEq,Prod.mk.injEq] at h
  obtain ⟨rfl,rfl⟩:=h
  exact ⟨[],rfl,rfl,by simp⟩
 ·intro p f r h _
  simp only [Option.some.injEq,Prod.mk.injEq] at h
  obtain ⟨rfl,rfl⟩:=h
  rfl
theorem fig_dig {t:T} {v:Nat} (h:fig t = some v):Pn.digitsB t = true:=by
 unfold fig at h
 split at h
 ·rename_i c;exact c.1
 ·cases h
theorem good_value (S:T → Prop) (k:Nat → Rd) (hk:∀ v,Good (k v) S) (hS:∀ t,S t → Pn.digitsB t = false):Good (valueP k) S:=by
 constructor
 ·intro l f r h
  cases l with
  | nil=>simp [valueP,value] at h
  | cons t l=>
   cases hv:fig t with
   | none=>simp [valueP,value,hv] at h
   | some v=>
    simp only [valueP,value,hv] at h
    obtain ⟨p,e1,e2,e3⟩:=(hk v).sound l f r h
    refine ⟨t :: p,by rw [e1];rfl,by simp only [valueP,value,hv];exact e2,?_⟩
    intro u hu hs
    rcases List.mem_cons.1 hu with rfl | hu
    ·have:=hS u hs;rw [fig_dig hv] at this;cases this
    ·exact e3 u hu hs
 ·intro p f r h hr
  cases p with
  | nil=>simp [valueP,value] at h
  | cons t l=>
   cases hv:fig t with
   | none=>simp [valueP,value,hv] at h
   | some v=>
    simp only [valueP,value,hv] at h
    simp only [List.cons_append,valueP,value,hv]
    exact (hk v).complete l f r h hr
theorem sound_cons {S:T → Prop} {q m:Rd} {t:T} (hq:Good q S) (ht:¬ S t) (hm:∀ l,m (t :: l) = q l) {l:List T} {f:Sem} {r:List T} (h:m (t :: l) = some (f,r)):
  ∃ p,t :: l = p ++ r ∧ m p = some (f,[]) ∧ ∀ u ∈ p,¬ S u:=by
 rw [hm] at h
 obtain ⟨p,e1,e2,e3⟩:=hq.sound l f r h
 refine ⟨t :: p,by rw [e1];rfl,by rw [hm];exact e2,?_⟩
 intro u hu
 rcases List.mem_cons.1 hu with rfl | hu
 ·exact ht
 ·exact e3 u hu
theorem complete_cons {S:T → Prop} {q m:Rd} {t:T} (hq:Good q S) (hm:∀ l,m (t :: l) = q l) {p:List T} {f:Sem} {r:List T} (h:m (t :: p) = some (f,[])) (hr:r = [] ∨ ∃ t r',r = t :: r' ∧ S t):
  m (t :: p ++ r) = some (f,r):=by
 rw [hm] at h
 rw [List.cons_append,hm]
 exact hq.complete p f r h hr
theorem stopI_dig (t:T) (h:StopI t):Pn.digitsB t = false:=by
 rcases h with rfl | rfl | rfl <;> decide
theorem stopA_dig (t:T) (h:StopA t):Pn.digitsB t = false:=stopI_dig t (.inr h)
theorem good_itemK (o:Opd) (wi:Bool) (lo:Nat):Good (itemK o wi lo) StopI:=by
 have hv:Good (valueP (fun hi l=>if hi < lo then none else some (inS o wi lo hi,l))) StopI:=by
  refine good_value _ _ (fun hi=>?_) stopI_dig
  by_cases c:hi < lo
  ·simp only [c,if_true];exact good_none _
  ·simp only [c,if_false];exact good_ret _ _
 have hd:∀ l,itemK o wi lo ([46,46] :: l) = valueP (fun hi l=>if hi < lo then none else some (inS o wi lo hi,l)) l:=fun l=>by simp [itemK]
 constructor
 ·intro l f r h
  cases l with
  | nil=>
   simp only [itemK,Option.some.injEq,Prod.mk.injEq] at h
   obtain ⟨rfl,rfl⟩:=h
   exact ⟨[],rfl,rfl,by simp⟩
  | cons t l=>
   by_cases c:t = [46,46]
   ·subst c
    exact sound_cons hv (by intro h;rcases h with h | h | h <;> cases h) hd h
   ·simp only [itemK,c,if_false,Option.some.injEq,Prod.mk.injEq] at h
    obtain ⟨rfl,rfl⟩:=h
    exact ⟨[],rfl,rfl,by simp⟩
 ·intro p f r h hr
  cases p with
  | nil=>
   simp only [itemK,Option.some.injEq,Prod.mk.injEq] at h
   obtain ⟨rfl,_⟩:=h
   rcases hr with rfl | ⟨t,r',rfl,hS⟩
   ·rfl
   ·have:t ≠ [46,46]:=by rintro rfl;rcases hS with h | h | h <;> cases h
    simp [itemK,this]
  | cons t l=>
   by_cases c:t = [46,46]
   ·subst c
    exact complete_cons hv hd h hr
   ·simp [itemK,c] at h
theorem good_item (o:Opd) (wi:Bool):Good (itemP o wi) StopI:=good_value _ _ (good_itemK o wi) stopI_dig
theorem good_list (o:Opd) (n wi:Bool):Good (listP o n wi) StopA:=by
 have hg:Good (rowP (itemP o wi) [44] orS) StopA:=row_good (good_item o wi) (.inl rfl) StopA (fun t h=>⟨.inr h,by rcases h with rfl | rfl <;> decide⟩)
 constructor
 ·intro l f r h
  unfold listP at h
  cases hm:rowP (itemP o wi) [44] orS l with
  | none=>simp [hm] at h
  | some x=>
   obtain ⟨g,r1⟩:=x
   simp only [hm,Option.some.injEq,Prod.mk.injEq] at h
   obtain ⟨rfl,rfl⟩:=h
   obtain ⟨p,e1,e2,e3⟩:=hg.sound l g r1 hm
   exact ⟨p,e1,by simp only [listP,e2],e3⟩
 ·intro p f r h hr
  unfold listP at h ⊢
  cases hm:rowP (itemP o wi) [44] orS p with
  | none=>simp [hm] at h
  | some x=>
   obtain ⟨g,r1⟩:=x
   simp only [hm,Option.some.injEq,Prod.mk.injEq] at h
   obtain ⟨rfl,rfl⟩:=h
   rw [hg.complete p g r hm hr]
theorem good_is (o:Opd) (n:Bool):Good (isP o n) StopA:=good_value _ _ (fun _=>good_ret _ _) stopA_dig
theorem good_isN (o:Opd):Good (isN o) StopA:=by
 have hd:∀ l,isN o ([110,111,116] :: l) = isP o true l:=fun l=>by simp [isN]
 constructor
 ·intro l f r h
  cases l with
  | nil=>cases h
  | cons t l=>
   by_cases c:t = [110,111,116]
   ·subst c
    exact sound_cons (good_is o true) (by intro h;rcases h with h | h <;> cases h) hd h
   ·simp only [isN,c,if_false] at h
    obtain ⟨p,e1,e2,e3⟩:=(good_is o false).sound _ f r h
    refine ⟨p,e1,?_,e3⟩
    cases p with
    | nil=>simp [isP,valueP,value] at e2
    | cons u p=>
     have:u = t:=by simp at e1;exact e1.1.symm
     subst this
     simp only [isN,c,if_false];exact e2
 ·intro p f r h hr
  cases p with
  | nil=>cases h
  | cons t l=>
   by_cases c:t = [110,111,116]
   ·subst c
    exact complete_cons (good_is o true) hd h hr
   ·simp only [isN,c,if_false] at h
    simp only [List.cons_append,isN,c,if_false]
    exact (good_is o false).complete _ f r h hr
theorem good_inN (o:Opd) (n:Bool):Good (inN o n) StopA:=by
 have h1:∀ l,inN o n ([105,110] :: l) = listP o n false l:=fun l=>by simp [inN]
 have h2:∀ l,inN o n ([119,105,116,104,105,110] :: l) = listP o n true l:=fun l=>by simp [inN]
 constructor
 ·intro l f r h
  cases l with
  | nil=>cases h
  | cons t l=>
   by_cases c:t = [105,110]
   ·subst c
    exact sound_cons (good_list o n false) (by intro h;rcases h with h | h <;> cases h) h1 h
   ·by_cases c2:t = [119,105,116,104,105,110]
    ·subst c2
     exact sound_cons (good_list o n true) (by intro h;rcases h with h | h <;> cases h) h2 h
    ·simp [inN,c,c2] at h
 ·intro p f r h hr
  cases p with
  | nil=>cases h
  | cons t l=>
   by_cases c:t = [105,110]
   ·subst c
    exact complete_cons (good_list o n false) h1 h hr
   ·by_cases c2:t = [119,105,116,104,105,110]
    ·subst c2
     exact complete_cons (good_list o n true) h2 h hr
    ·simp [inN,c,c2] at h
theorem good_how (o:Opd):Good (howP o) StopA:=by
 have h1:∀ l,howP o ([61] :: l) = listP o false false l:=fun l=>by simp [howP]
 have h2:∀ l,howP o ([33,61] :: l) = listP o true false l:=fun l=>by simp [howP]
 have h3:∀ l,howP o ([105,115] :: l) = isN o l:=fun l=>by simp [howP]
 have h4:∀ l,howP o ([110,111,116] :: l) = inN o true l:=fun l=>by simp [howP]
 constructor
 ·intro l f r h
  cases l with
  | nil=>cases h
  | cons t l=>
   by_cases c1:t = [61]
   ·subst c1;exact sound_cons (good_list o _ _) (by intro h;rcases h with h | h <;> cases h) h1 h
   by_cases c2:t = [33,61]
   ·subst c2;exact sound_cons (good_list o _ _) (by intro h;rcases h with h | h <;> cases h) h2 h
   by_cases c3:t = [105,115]
   ·subst c3;exact sound_cons (good_isN o) (by intro h;rcases h with h | h <;> cases h) h3 h
   by_cases c4:t = [110,111,116]
   ·subst c4;exact sound_cons (good_inN o true) (by intro h;rcases h with h | h <;> cases h) h4 h
   simp only [howP,c1,c2,c3,c4,if_false] at h
   obtain ⟨p,e1,e2,e3⟩:=(good_inN o false).sound _ f r h
   refine ⟨p,e1,?_,e3⟩
   cases p with
   | nil=>cases e2
   | cons u p=>
    have:u = t:=by simp at e1;exact e1.1.symm
    subst this
    simp only [howP,c1,c2,c3,c4,if_false];exact e2
 ·intro p f r h hr
  cases p with
  | nil=>cases h
  | cons t l=>
   by_cases c1:t = [61]
   ·subst c1;exact complete_cons (good_list o _ _) h1 h hr
   by_cases c2:t = [33,61]
   ·subst c2;exact complete_cons (good_list o _ _) h2 h hr
   by_cases c3:t = [105,115]
   ·subst c3;exact complete_cons (good_isN o) h3 h hr
   by_cases c4:t = [110,111,116]
   ·subst c4;exact complete_cons (good_inN o true) h4 h hr
   simp only [howP,c1,c2,c3,c4,if_false] at h
   simp only [List.cons_append,howP,c1,c2,c3,c4,if_false]
   exact (good_inN o false).complete _ f r h hr
theorem good_mod (o:Opd):Good (modP o) StopA:=by
 have hv:Good (valueP (fun m r=>if m = 0 then none else howP (modS o m) r)) StopA:=by
  refine good_value _ _ (fun m=>?_) stopA_dig
  by_cases c:m = 0
  ·simp only [c,if_true];exact good_none _
  ·simp only [c,if_false];exact good_how _
 constructor
 ·intro l f r h
  cases l with
  | nil=>cases h
  | cons t l=>
   by_cases c:t = [109,111,100] ∨ t = [37]
   ·exact sound_cons hv (by rintro (rfl | rfl) <;> rcases c with h | h <;> cases h) (fun l=>by simp only [modP,c,if_true]) h
   ·simp only [modP,c,if_false] at h
    obtain ⟨p,e1,e2,e3⟩:=(good_how o).sound _ f r h
    refine ⟨p,e1,?_,e3⟩
    cases p with
    | nil=>cases e2
    | cons u p=>
     have:u = t:=by simp at e1;exact e1.1.symm
     subst this
     simp only [modP,c,if_false];exact e2
 ·intro p f r h hr
  cases p with
  | nil=>cases h
  | cons t l=>
   by_cases c:t = [109,111,100] ∨ t = [37]
   ·exact complete_cons hv (fun l=>by simp only [modP,c,if_true]) h hr
   ·simp only [modP,c,if_false] at h
    simp only [List.cons_append,modP,c,if_false]
    exact (good_how o).complete _ f r h hr
theorem good_rel:Good relP StopA:=by
 constructor
 ·intro l f r h
  cases l with
  | nil=>cases h
  | cons t l=>
   cases ho:opd t with
   | none=>simp [relP,ho] at h
   | some o=>exact sound_cons (good_mod o) (by rintro (rfl | rfl) <;> revert ho <;> simp [opd]) (fun l=>by simp only [relP,ho]) h
 ·intro p f r h hr
  cases p with
  | nil=>cases h
  | cons t l=>
   cases ho:opd t with
   | none=>simp [relP,ho] at h
   | some o=>exact complete_cons (good_mod o) (fun l=>by simp only [relP,ho]) h hr
theorem good_and:Good andP StopO:=row_good good_rel (.inl rfl) StopO (fun t h=>⟨.inr h,by rw [show t = _ from h];decide⟩)
theorem cond_parts (l:List T):condP l = foldB (fun p=>foldB (whole relP) andS (partsAt [97,110,100] p)) orS (partsAt [111,114] l):=by
 have h1:condP l = whole orP l:=rfl
 rw [h1,orP,row_whole good_and (sep:=[111,114]) (jn:=orS) rfl]
 have:whole andP = fun p=>foldB (whole relP) andS (partsAt [97,110,100] p):=by
  funext p
  rw [andP,row_whole good_rel (sep:=[97,110,100]) (jn:=andS) (.inl rfl)]
 rw [this]
theorem list_parts (o:Opd) (n wi:Bool) (l:List T):whole (listP o n wi) l = (foldB (whole (itemP o wi)) orS (partsAt [44] l)).map fun f=>turnS f n:=by
 rw [← row_whole (good_item o wi) (sep:=[44]) (jn:=orS) (.inl rfl)]
 unfold whole listP
 cases rowP (itemP o wi) [44] orS l with
 | none=>rfl
 | some x=>
  obtain ⟨f,r⟩:=x
  cases r <;> rfl
end Go.Proofs.YtaepcfidpekflaaGreatDoor.Pr
namespace Go.Proofs.YtaepcfidpekflaaGreatDoor
open Go.RowKit
theorem isN_head (o:Pr.Opd) (l:List Pr.T):Pr.isN o l = Pr.isP o (isHead [110,111,116] l) (took (isHead [110,111,116] l) l):=by
 cases l with
 | nil=>rfl
 | cons t l=>
  by_cases h:t = [110,111,116]
  ·simp [Pr.isN,isHead,took,h]
  ·simp [Pr.isN,isHead,took,h]
set_option maxHeartbeats 800000 in
theorem is_any (P:Nat) (w:World) (l:List Pr.T) (x:Value) (o:Pr.Opd) (hX:BaseX P w) (hL:Left P w l) (hx:Opv P w x o):
  Calls Tryz.prog 258 #[.pointer (some ⟨P,0,none⟩),x] w fun e w'=>Said P w (Pr.isN o l) e w':=by
 rw [isN_head]
 have hxv:∃ g lb,x = .func (.func g) #[] lb:=by obtain ⟨g,lb,h,_⟩:=hx;exact ⟨g,lb,h⟩
 obtain ⟨g,lb,rfl⟩:=hxv
 have hb0:=(Below.refl w.heap.size w).alloc (Nat.le_refl _) (.cells #[.string ⟨#[110,111,116]⟩] 9)
 have ct:=take_one P w.heap.size _ l [110,111,116] (hL.then hb0) (row_at w #[.string ⟨#[110,111,116]⟩] 9)
 obtain ⟨S,hS⟩:∃ S,Hid (Pr.isP o (isHead [110,111,116] l) (took (isHead [110,111,116] l) l) = S):=⟨_,rfl⟩
 rw [hS.out]
 go_enter Tryz.func258,Tryz.ntmps258
 go_wp2_with fail
 refine ct.mono ?_
 rintro e w1 ⟨rfl,hl1,ha1⟩
 replace ha1:=(Ag.of (P:=P) hb0 (Nat.le_refl _)).trans ha1
 clear ct hb0
 generalize isHead [110,111,116] l = n at *
 generalize took n l = l1 at *
 have cv:=value_said P w1 l1 (hX.later ha1) hl1
 go_wp2_with fail
 refine cv.mono ?_
 rintro e w2 ⟨ha2,hs⟩
 clear cv
 replace ha2:=ha1.trans ha2
 cases hv:Pr.value l1 with
 | none=>
  rw [hv] at hs
  obtain rfl:=hs
  have hR:Hid (S = none):=by show _ = _;rw [← hS.out];simp [Pr.isP,Pr.valueP,hv]
  unfold errRule
  go_wp2
  go_ret2
  refine ⟨ha2,?_⟩
  rw [hR.out]
  rfl
 | some y=>
  obtain ⟨v,r⟩:=y
  rw [hv] at hs
  obtain ⟨rfl,hl2,hlo⟩:=hs
  have hR:Hid (S = some (Pr.turnS (Pr.spanS o v v) n,r)):=by show _ = _;rw [← hS.out];simp [Pr.isP,Pr.valueP,hv]
  have cs:=span_any P w2 _ o v v hlo hlo hl2.lt (hx.later ha2)
  go_wp2_with fail
  refine cs.mono ?_
  rintro e w3 ⟨⟨v3,rfl,hc3⟩,hb3⟩
  clear cs
  have ct:=turned_any P w3 v3 n _ (hl2.then hb3).lt hc3
  go_wp2_with fail
  refine ct.mono ?_
  rintro e w4 ⟨⟨v4,rfl,hc4⟩,hb4⟩
  clear ct
  go_wp2
  go_ret2
  refine ⟨(ha2.then hb3).then hb4,?_⟩
  rw [hR.out]
  exact ⟨_,rfl,hc4,(hl2.then hb3).then hb4⟩
theorem enters_item1:Enters 275:=enters_of Tryz.func275 (by kernel_rfl) rfl
set_option maxHeartbeats 800000 in
theorem item1_any (P A B C:Nat) (w:World) (l:List Pr.T) (x:Value) (o:Pr.Opd) (wi:Bool) (hA:Row w A #[.pointer (some ⟨P,0,none⟩)]) (hB:Row w B #[x]) (hC:Row w C #[.bool wi]) (hX:BaseX P w) (hL:Left P w l) (hx:Opv P w x o):
  Calls Tryz.prog 275 #[.pointer (some ⟨A,0,none⟩),.pointer (some ⟨B,0,none⟩),.pointer (some ⟨C,0,none⟩)] w fun e w'=>Said P w (Pr.itemP o wi l) e w':=by
 have hxv:∃ g lb,x = .func (.func g) #[] lb:=by obtain ⟨g,lb,h,_⟩:=hx;exact ⟨g,lb,h⟩
 obtain ⟨g,lb,rfl⟩:=hxv
 have q1:=hA.2.1
 have q2:=hB.2.1
 have q3:=hC.2.1
 have ci:=item_any P w l _ o wi hX hL hx
 go_enter Tryz.func275,Tryz.ntmps275
 go_wp2_with fail
 refine ci.mono ?_
 rintro e w1 ⟨ha1,hs⟩
 clear ci q1 q2 q3
 cases hv:Pr.itemP o wi l with
 | none=>
  rw [hv] at hs
  obtain rfl:=hs
  have hR:Hid (Pr.itemP o wi l = none):=hv
  clear hv
  unfold errRule
  go_wp2
  go_ret2
  refine ⟨ha1,?_⟩
  rw [hR.out]
  rfl
 | some y=>
  obtain ⟨f,r⟩:=y
  rw [hv] at hs
  obtain ⟨v,rfl,hc,hl⟩:=hs
  have hR:Hid (Pr.itemP o wi l = some (f,r)):=hv
  clear hv
  go_wp2
  go_ret2
  refine ⟨ha1,?_⟩
  rw [hR.out]
  exact ⟨_,rfl,hc,hl⟩
theorem item_len (o:Pr.Opd) (wi:Bool) (l:List Pr.T) (f:Pr.Sem) (r:List Pr.T) (h:Pr.itemP o wi l = some (f,r)):r.length ≤ l.length:=by
 obtain ⟨p,e,_⟩:=(Pr.good_item o wi).sound l f r h
 rw [e];simp
set_option maxHeartbeats 800000 in
theorem list_any (P:Nat) (w:World) (l:List Pr.T) (x:Value) (o:Pr.Opd) (n wi:Bool) (hX:BaseX P w) (hL:Left P w l) (hx:Opv P w x o):
  Calls Tryz.prog 257 #[.pointer (some ⟨P,0,none⟩),x,.bool n,.bool wi] w fun e w'=>Said P w (Pr.listP o n wi l) e w':=by
 obtain ⟨S,hS⟩:∃ S,Hid (Pr.listP o n wi l = S):=⟨_,rfl⟩
 rw [hS.out]
 have hxv:∃ g lb,x = .func (.func g) #[] lb:=by obtain ⟨g,lb,h,_⟩:=hx;exact ⟨g,lb,h⟩
 obtain ⟨g,lb,rfl⟩:=hxv
 obtain ⟨r1,r2,r3⟩:=three_rows w (.pointer (some ⟨P,0,none⟩)) (.func (.func g) #[] lb) (.bool wi) 267 372 4
 have hb0:=three_below w (.cells #[.pointer (some ⟨P,0,none⟩)] 267) (.cells #[.func (.func g) #[] lb] 372) (.cells #[.bool wi] 4)
 have hP:=hL.lt
 have cr:=row_any P _ l (.func (.func 275) #[] #[.pointer (some ⟨w.heap.size,0,none⟩),.pointer (some ⟨w.heap.size + 1,0,none⟩),.pointer (some ⟨w.heap.size + 2,0,none⟩)]) (Pr.itemP o wi) [44] 190 Pr.orS enters_either (joins_either P) (item_len o wi) (hX.later (.of hb0 (Nat.le_refl _))) (hL.then hb0)
  ⟨_,_,_,rfl,enters_item1,fun W l' hX' ha' hl'=>item1_any P _ _ _ W l' _ o wi (r1.ag ha' (by omega)) (r2.ag ha' (by omega)) (r3.ag ha' (by omega)) hX' hl' (hx.later ((Ag.of hb0 (Nat.le_refl _)).trans ha'))⟩
 go_enter Tryz.func257,Tryz.ntmps257
 go_wp2_with fail
 refine cr.mono ?_
 rintro e w1 ⟨ha1,hs⟩
 replace ha1:=(Ag.of (P:=P) hb0 (Nat.le_refl _)).trans ha1
 clear cr hb0 r1 r2 r3
 cases hv:Pr.rowP (Pr.itemP o wi) [44] Pr.orS l with
 | none=>
  rw [hv] at hs
  obtain rfl:=hs
  have hR:Hid (S = none):=by show _ = _;rw [← hS.out];simp [Pr.listP,hv]
  unfold errRule
  go_wp2
  go_ret2
  refine ⟨ha1,?_⟩
  rw [hR.out]
  rfl
 | some y=>
  obtain ⟨f,r⟩:=y
  rw [hv] at hs
  obtain ⟨v,rfl,hc,hl⟩:=hs
  have hR:Hid (S = some (Pr.turnS f n,r)):=by show _ = _;rw [← hS.out];simp [Pr.listP,hv]
  have ct:=turned_any P w1 v n _ hl.lt hc
  go_wp2_with fail
  refine ct.mono ?_
  rintro e w4 ⟨⟨v4,rfl,hc4⟩,hb4⟩
  clear ct
  go_wp2
  go_ret2
  refine ⟨ha1.then hb4,?_⟩
  rw [hR.out]
  exact ⟨_,rfl,hc4,hl.then hb4⟩
end Go.Proofs.YtaepcfidpekflaaGreatDoor
namespace Go.Proofs.YtaepcfidpekflaaGreatDoor
open Go.RowKit
theorem Opv.form {P:Nat} {w:World} {x:Value} {o:Pr.Opd} (h:Opv P w x o):∃ g lb,x = .func (.func g) #[] lb:=by
 obtain ⟨g,lb,h,_⟩:=h
 exact ⟨g,lb,h⟩
set_option maxHeartbeats 1600000 in
theorem how_eq (P:Nat) (w:World) (l:List Pr.T) (x:Value) (o:Pr.Opd) (hX:BaseX P w) (hL:Left P w l) (hx:Opv P w x o) (h_eq:isHead [61] l = true):
  Calls Tryz.prog 236 #[.pointer (some ⟨P,0,none⟩),x] w fun e w'=>Said P w (Pr.listP o false false l.tail) e w':=by
 obtain ⟨S,hS⟩:∃ S,Hid ((Pr.listP o false false l.tail) = S):=⟨_,rfl⟩
 rw [hS.out]
 obtain ⟨g,lb,rfl⟩:=hx.form
 have hl0:=hL
 have ha0:=Ag.refl P w
 go_enter Tryz.func236,Tryz.ntmps236
 have hb1:=(Below.refl w.heap.size w).alloc (Nat.le_refl _) (.cells #[.string ⟨#[61]⟩] 9)
 have ct1:=take_one P w.heap.size _ l [61] (hl0.then hb1) (row_at w #[.string ⟨#[61]⟩] 9)
 rw [h_eq] at ct1
 go_wp2_with fail
 refine ct1.mono ?_
 rintro e w1 ⟨rfl,hl1,ha1⟩
 replace ha1:=ha0.trans ((Ag.of (P:=P) hb1 (Nat.le_refl _)).trans ha1)
 clear ct1 hb1
 have cf:=list_any P w1 l.tail _ o false false (hX.later ha1) hl1 (hx.later ha1)
 rw [hS.out] at cf
 go_wp2_with fail
 refine cf.mono ?_
 rintro e w9 ⟨ha9,hs⟩
 clear cf
 replace ha9:=ha1.trans ha9
 cases hv:S with
 | none=>
  rw [hv] at hs
  obtain rfl:=hs
  have hR:Hid (S = none):=hv
  clear hv
  unfold errRule
  go_wp2
  go_ret2
  refine ⟨ha9,?_⟩
  rw [hR.out]
  rfl
 | some y=>
  obtain ⟨f,r⟩:=y
  rw [hv] at hs
  obtain ⟨v,rfl,hc,hl⟩:=hs
  have hR:Hid (S = some (f,r)):=hv
  clear hv
  go_wp2
  go_ret2
  refine ⟨ha9,?_⟩
  rw [hR.out]
  exact ⟨_,rfl,hc,hl⟩
set_option maxHeartbeats 1600000 in
theorem how_ne (P:Nat) (w:World) (l:List Pr.T) (x:Value) (o:Pr.Opd) (hX:BaseX P w) (hL:Left P w l) (hx:Opv P w x o) (h_eq:isHead [61] l = false) (h_ne:isHead [33,61] l = true):
  Calls Tryz.prog 236 #[.pointer (some ⟨P,0,none⟩),x] w fun e w'=>Said P w (Pr.listP o true false l.tail) e w':=by
 obtain ⟨S,hS⟩:∃ S,Hid ((Pr.listP o true false l.tail) = S):=⟨_,rfl⟩
 rw [hS.out]
 obtain ⟨g,lb,rfl⟩:=hx.form
 have hl0:=hL
 have ha0:=Ag.refl P w
 go_enter Tryz.func236,Tryz.ntmps236
 have hb1:=(Below.refl w.heap.size w).alloc (Nat.le_refl _) (.cells #[.string ⟨#[61]⟩] 9)
 have ct1:=take_one P w.heap.size _ l [61] (hl0.then hb1) (row_at w #[.string ⟨#[61]⟩] 9)
 rw [h_eq] at ct1
 go_wp2_with fail
 refine ct1.mono ?_
 rintro e w1 ⟨rfl,hl1,ha1⟩
 replace ha1:=ha0.trans ((Ag.of (P:=P) hb1 (Nat.le_refl _)).trans ha1)
 clear ct1 hb1
 have hb2:=(Below.refl w1.heap.size w1).alloc (Nat.le_refl _) (.cells #[.string ⟨#[33,61]⟩] 9)
 have ct2:=take_one P w1.heap.size _ l [33,61] (hl1.then hb2) (row_at w1 #[.string ⟨#[33,61]⟩] 9)
 rw [h_ne] at ct2
 go_wp2_with fail
 refine ct2.mono ?_
 rintro e w2 ⟨rfl,hl2,ha2⟩
 replace ha2:=ha1.trans ((Ag.of (P:=P) hb2 (Nat.le_refl _)).trans ha2)
 clear ct2 hb2
 have cf:=list_any P w2 l.tail _ o true false (hX.later ha2) hl2 (hx.later ha2)
 rw [hS.out] at cf
 go_wp2_with fail
 refine cf.mono ?_
 rintro e w9 ⟨ha9,hs⟩
 clear cf
 replace ha9:=ha2.trans ha9
 cases hv:S with
 | none=>
  rw [hv] at hs
  obtain rfl:=hs
  have hR:Hid (S = none):=hv
  clear hv
  unfold errRule
  go_wp2
  go_ret2
  refine ⟨ha9,?_⟩
  rw [hR.out]
  rfl
 | some y=>
  obtain ⟨f,r⟩:=y
  rw [hv] at hs
  obtain ⟨v,rfl,hc,hl⟩:=hs
  have hR:Hid (S = some (f,r)):=hv
  clear hv
  go_wp2
  go_ret2
  refine ⟨ha9,?_⟩
  rw [hR.out]
  exact ⟨_,rfl,hc,hl⟩
set_option maxHeartbeats 1600000 in
theorem how_is (P:Nat) (w:World) (l:List Pr.T) (x:Value) (o:Pr.Opd) (hX:BaseX P w) (hL:Left P w l) (hx:Opv P w x o) (h_eq:isHead [61] l = false) (h_ne:isHead [33,61] l = false) (h_is:isHead [105,115] l = true):
  Calls Tryz.prog 236 #[.pointer (some ⟨P,0,none⟩),x] w fun e w'=>Said P w (Pr.isN o l.tail) e w':=by
 obtain ⟨S,hS⟩:∃ S,Hid ((Pr.isN o l.tail) = S):=⟨_,rfl⟩
 rw [hS.out]
 obtain ⟨g,lb,rfl⟩:=hx.form
 have hl0:=hL
 have ha0:=Ag.refl P w
 go_enter Tryz.func236,Tryz.ntmps236
 have hb1:=(Below.refl w.heap.size w).alloc (Nat.le_refl _) (.cells #[.string ⟨#[61]⟩] 9)
 have ct1:=take_one P w.heap.size _ l [61] (hl0.then hb1) (row_at w #[.string ⟨#[61]⟩] 9)
 rw [h_eq] at ct1
 go_wp2_with fail
 refine ct1.mono ?_
 rintro e w1 ⟨rfl,hl1,ha1⟩
 replace ha1:=ha0.trans ((Ag.of (P:=P) hb1 (Nat.le_refl _)).trans ha1)
 clear ct1 hb1
 have hb2:=(Below.refl w1.heap.size w1).alloc (Nat.le_refl _) (.cells #[.string ⟨#[33,61]⟩] 9)
 have ct2:=take_one P w1.heap.size _ l [33,61] (hl1.then hb2) (row_at w1 #[.string ⟨#[33,61]⟩] 9)
 rw [h_ne] at ct2
 go_wp2_with fail
 refine ct2.mono ?_
 rintro e w2 ⟨rfl,hl2,ha2⟩
 replace ha2:=ha1.trans ((Ag.of (P:=P) hb2 (Nat.le_refl _)).trans ha2)
 clear ct2 hb2
 have hb3:=(Below.refl w2.heap.size w2).alloc (Nat.le_refl _) (.cells #[.string ⟨#[105,115]⟩] 9)
 have ct3:=take_one P w2.heap.size _ l [105,115] (hl2.then hb3) (row_at w2 #[.string ⟨#[105,115]⟩] 9)
 rw [h_is] at ct3
 go_wp2_with fail
 refine ct3.mono ?_
 rintro e w3 ⟨rfl,hl3,ha3⟩
 replace ha3:=ha2.trans ((Ag.of (P:=P) hb3 (Nat.le_refl _)).trans ha3)
 clear ct3 hb3
 have cf:=is_any P w3 l.tail _ o (hX.later ha3) hl3 (hx.later ha3)
 rw [hS.out] at cf
 go_wp2_with fail
 refine cf.mono ?_
 rintro e w9 ⟨ha9,hs⟩
 clear cf
 replace ha9:=ha3.trans ha9
 cases hv:S with
 | none=>
  rw [hv] at hs
  obtain rfl:=hs
  have hR:Hid (S = none):=hv
  clear hv
  unfold errRule
  go_wp2
  go_ret2
  refine ⟨ha9,?_⟩
  rw [hR.out]
  rfl
 | some y=>
  obtain ⟨f,r⟩:=y
  rw [hv] at hs
  obtain ⟨v,rfl,hc,hl⟩:=hs
  have hR:Hid (S = some (f,r)):=hv
  clear hv
  go_wp2
  go_ret2
  refine ⟨ha9,?_⟩
  rw [hR.out]
  exact ⟨_,rfl,hc,hl⟩
set_option maxHeartbeats 1600000 in
theorem how_in (P:Nat) (w:World) (l:List Pr.T) (x:Value) (o:Pr.Opd) (hX:BaseX P w) (hL:Left P w l) (hx:Opv P w x o) (h_eq:isHead [61] l = false) (h_ne:isHead [33,61] l = false) (h_is:isHead [105,115] l = false) (h_in:isHead [105,110] (took (isHead [110,111,116] l) l) = true):
  Calls Tryz.prog 236 #[.pointer (some ⟨P,0,none⟩),x] w fun e w'=>Said P w (Pr.listP o (isHead [110,111,116] l) false (took (isHead [110,111,116] l) l).tail) e w':=by
 obtain ⟨S,hS⟩:∃ S,Hid ((Pr.listP o (isHead [110,111,116] l) false (took (isHead [110,111,116] l) l).tail) = S):=⟨_,rfl⟩
 rw [hS.out]
 obtain ⟨g,lb,rfl⟩:=hx.form
 have hl0:=hL
 have ha0:=Ag.refl P w
 go_enter Tryz.func236,Tryz.ntmps236
 have hb1:=(Below.refl w.heap.size w).alloc (Nat.le_refl _) (.cells #[.string ⟨#[61]⟩] 9)
 have ct1:=take_one P w.heap.size _ l [61] (hl0.then hb1) (row_at w #[.string ⟨#[61]⟩] 9)
 rw [h_eq] at ct1
 go_wp2_with fail
 refine ct1.mono ?_
 rintro e w1 ⟨rfl,hl1,ha1⟩
 replace ha1:=ha0.trans ((Ag.of (P:=P) hb1 (Nat.le_refl _)).trans ha1)
 clear ct1 hb1
 have hb2:=(Below.refl w1.heap.size w1).alloc (Nat.le_refl _) (.cells #[.string ⟨#[33,61]⟩] 9)
 have ct2:=take_one P w1.heap.size _ l [33,61] (hl1.then hb2) (row_at w1 #[.string ⟨#[33,61]⟩] 9)
 rw [h_ne] at ct2
 go_wp2_with fail
 refine ct2.mono ?_
 rintro e w2 ⟨rfl,hl2,ha2⟩
 replace ha2:=ha1.trans ((Ag.of (P:=P) hb2 (Nat.le_refl _)).trans ha2)
 clear ct2 hb2
 have hb3:=(Below.refl w2.heap.size w2).alloc (Nat.le_refl _) (.cells #[.string ⟨#[105,115]⟩] 9)
 have ct3:=take_one P w2.heap.size _ l [105,115] (hl2.then hb3) (row_at w2 #[.string ⟨#[105,115]⟩] 9)
 rw [h_is] at ct3
 go_wp2_with fail
 refine ct3.mono ?_
 rintro e w3 ⟨rfl,hl3,ha3⟩
 replace ha3:=ha2.trans ((Ag.of (P:=P) hb3 (Nat.le_refl _)).trans ha3)
 clear ct3 hb3
 have hb4:=(Below.refl w3.heap.size w3).alloc (Nat.le_refl _) (.cells #[.string ⟨#[110,111,116]⟩] 9)
 have ct4:=take_one P w3.heap.size _ l [110,111,116] (hl3.then hb4) (row_at w3 #[.string ⟨#[110,111,116]⟩] 9)
 go_wp2_with fail
 refine ct4.mono ?_
 rintro e w4 ⟨rfl,hl4,ha4⟩
 replace ha4:=ha3.trans ((Ag.of (P:=P) hb4 (Nat.le_refl _)).trans ha4)
 clear ct4 hb4
 have hb5:=(Below.refl w4.heap.size w4).alloc (Nat.le_refl _) (.cells #[.string ⟨#[105,110]⟩] 9)
 have ct5:=take_one P w4.heap.size _ (took (isHead [110,111,116] l) l) [105,110] (hl4.then hb5) (row_at w4 #[.string ⟨#[105,110]⟩] 9)
 rw [h_in] at ct5
 go_wp2_with fail
 refine ct5.mono ?_
 rintro e w5 ⟨rfl,hl5,ha5⟩
 replace ha5:=ha4.trans ((Ag.of (P:=P) hb5 (Nat.le_refl _)).trans ha5)
 clear ct5 hb5
 have cf:=list_any P w5 (took (isHead [110,111,116] l) l).tail _ o (isHead [110,111,116] l) false (hX.later ha5) hl5 (hx.later ha5)
 rw [hS.out] at cf
 go_wp2_with fail
 refine cf.mono ?_
 rintro e w9 ⟨ha9,hs⟩
 clear cf
 replace ha9:=ha5.trans ha9
 cases hv:S with
 | none=>
  rw [hv] at hs
  obtain rfl:=hs
  have hR:Hid (S = none):=hv
  clear hv
  unfold errRule
  go_wp2
  go_ret2
  refine ⟨ha9,?_⟩
  rw [hR.out]
  rfl
 | some y=>
  obtain ⟨f,r⟩:=y
  rw [hv] at hs
  obtain ⟨v,rfl,hc,hl⟩:=hs
  have hR:Hid (S = some (f,r)):=hv
  clear hv
  go_wp2
  go_ret2
  refine ⟨ha9,?_⟩
  rw [hR.out]
  exact ⟨_,rfl,hc,hl⟩
set_option maxHeartbeats 1600000 in
theorem how_within (P:Nat) (w:World) (l:List Pr.T) (x:Value) (o:Pr.Opd) (hX:BaseX P w) (hL:Left P w l) (hx:Opv P w x o) (h_eq:isHead [61] l = false) (h_ne:isHead [33,61] l = false) (h_is:isHead [105,115] l = false) (h_in:isHead [105,110] (took (isHead [110,111,116] l) l) = false) (h_within:isHead [119,105,116,104,105,110] (took (isHead [110,111,116] l) l) = true):
  Calls Tryz.prog 236 #[.pointer (some ⟨P,0,none⟩),x] w fun e w'=>Said P w (Pr.listP o (isHead [110,111,116] l) true (took (isHead [110,111,116] l) l).tail) e w':=by
 obtain ⟨S,hS⟩:∃ S,Hid ((Pr.listP o (isHead [110,111,116] l) true (took (isHead [110,111,116] l) l).tail) = S):=⟨_,rfl⟩
 rw [hS.out]
 obtain ⟨g,lb,rfl⟩:=hx.form
 have hl0:=hL
 have ha0:=Ag.refl P w
 go_enter Tryz.func236,Tryz.ntmps236
 have hb1:=(Below.refl w.heap.size w).alloc (Nat.le_refl _) (.cells #[.string ⟨#[61]⟩] 9)
 have ct1:=take_one P w.heap.size _ l [61] (hl0.then hb1) (row_at w #[.string ⟨#[61]⟩] 9)
 rw [h_eq] at ct1
 go_wp2_with fail
 refine ct1.mono ?_
 rintro e w1 ⟨rfl,hl1,ha1⟩
 replace ha1:=ha0.trans ((Ag.of (P:=P) hb1 (Nat.le_refl _)).trans ha1)
 clear ct1 hb1
 have hb2:=(Below.refl w1.heap.size w1).alloc (Nat.le_refl _) (.cells #[.string ⟨#[33,61]⟩] 9)
 have ct2:=take_one P w1.heap.size _ l [33,61] (hl1.then hb2) (row_at w1 #[.string ⟨#[33,61]⟩] 9)
 rw [h_ne] at ct2
 go_wp2_with fail
 refine ct2.mono ?_
 rintro e w2 ⟨rfl,hl2,ha2⟩
 replace ha2:=ha1.trans ((Ag.of (P:=P) hb2 (Nat.le_refl _)).trans ha2)
 clear ct2 hb2
 have hb3:=(Below.refl w2.heap.size w2).alloc (Nat.le_refl _) (.cells #[.string ⟨#[105,115]⟩] 9)
 have ct3:=take_one P w2.heap.size _ l [105,115] (hl2.then hb3) (row_at w2 #[.string ⟨#[105,115]⟩] 9)
 rw [h_is] at ct3
 go_wp2_with fail
 refine ct3.mono ?_
 rintro e w3 ⟨rfl,hl3,ha3⟩
 replace ha3:=ha2.trans ((Ag.of (P:=P) hb3 (Nat.le_refl _)).trans ha3)
 clear ct3 hb3
 have hb4:=(Below.refl w3.heap.size w3).alloc (Nat.le_refl _) (.cells #[.string ⟨#[110,111,116]⟩] 9)
 have ct4:=take_one P w3.heap.size _ l [110,111,116] (hl3.then hb4) (row_at w3 #[.string ⟨#[110,111,116]⟩] 9)
 go_wp2_with fail
 refine ct4.mono ?_
 rintro e w4 ⟨rfl,hl4,ha4⟩
 replace ha4:=ha3.trans ((Ag.of (P:=P) hb4 (Nat.le_refl _)).trans ha4)
 clear ct4 hb4
 have hb5:=(Below.refl w4.heap.size w4).alloc (Nat.le_refl _) (.cells #[.string ⟨#[105,110]⟩] 9)
 have ct5:=take_one P w4.heap.size _ (took (isHead [110,111,116] l) l) [105,110] (hl4.then hb5) (row_at w4 #[.string ⟨#[105,110]⟩] 9)
 rw [h_in] at ct5
 go_wp2_with fail
 refine ct5.mono ?_
 rintro e w5 ⟨rfl,hl5,ha5⟩
 replace ha5:=ha4.trans ((Ag.of (P:=P) hb5 (Nat.le_refl _)).trans ha5)
 clear ct5 hb5
 have hb6:=(Below.refl w5.heap.size w5).alloc (Nat.le_refl _) (.cells #[.string ⟨#[119,105,116,104,105,110]⟩] 9)
 have ct6:=take_one P w5.heap.size _ (took (isHead [110,111,116] l) l) [119,105,116,104,105,110] (hl5.then hb6) (row_at w5 #[.string ⟨#[119,105,116,104,105,110]⟩] 9)
 rw [h_within] at ct6
 go_wp2_with fail
 refine ct6.mono ?_
 rintro e w6 ⟨rfl,hl6,ha6⟩
 replace ha6:=ha5.trans ((Ag.of (P:=P) hb6 (Nat.le_refl _)).trans ha6)
 clear ct6 hb6
 have cf:=list_any P w6 (took (isHead [110,111,116] l) l).tail _ o (isHead [110,111,116] l) true (hX.later ha6) hl6 (hx.later ha6)
 rw [hS.out] at cf
 go_wp2_with fail
 refine cf.mono ?_
 rintro e w9 ⟨ha9,hs⟩
 clear cf
 replace ha9:=ha6.trans ha9
 cases hv:S with
 | none=>
  rw [hv] at hs
  obtain rfl:=hs
  have hR:Hid (S = none):=hv
  clear hv
  unfold errRule
  go_wp2
  go_ret2
  refine ⟨ha9,?_⟩
  rw [hR.out]
  rfl
 | some y=>
  obtain ⟨f,r⟩:=y
  rw [hv] at hs
  obtain ⟨v,rfl,hc,hl⟩:=hs
  have hR:Hid (S = some (f,r)):=hv
  clear hv
  go_wp2
  go_ret2
  refine ⟨ha9,?_⟩
  rw [hR.out]
  exact ⟨_,rfl,hc,hl⟩
set_option maxHeartbeats 1600000 in
theorem how_none (P:Nat) (w:World) (l:List Pr.T) (x:Value) (o:Pr.Opd) (_hX:BaseX P w) (hL:Left P w l) (hx:Opv P w x o) (h_eq:isHead [61] l = false) (h_ne:isHead [33,61] l = false) (h_is:isHead [105,115] l = false) (h_in:isHead [105,110] (took (isHead [110,111,116] l) l) = false) (h_within:isHead [119,105,116,104,105,110] (took (isHead [110,111,116] l) l) = false):
  Calls Tryz.prog 236 #[.pointer (some ⟨P,0,none⟩),x] w fun e w'=>Said P w (none) e w':=by
 obtain ⟨g,lb,rfl⟩:=hx.form
 have hl0:=hL
 have ha0:=Ag.refl P w
 go_enter Tryz.func236,Tryz.ntmps236
 have hb1:=(Below.refl w.heap.size w).alloc (Nat.le_refl _) (.cells #[.string ⟨#[61]⟩] 9)
 have ct1:=take_one P w.heap.size _ l [61] (hl0.then hb1) (row_at w #[.string ⟨#[61]⟩] 9)
 rw [h_eq] at ct1
 go_wp2_with fail
 refine ct1.mono ?_
 rintro e w1 ⟨rfl,hl1,ha1⟩
 replace ha1:=ha0.trans ((Ag.of (P:=P) hb1 (Nat.le_refl _)).trans ha1)
 clear ct1 hb1
 have hb2:=(Below.refl w1.heap.size w1).alloc (Nat.le_refl _) (.cells #[.string ⟨#[33,61]⟩] 9)
 have ct2:=take_one P w1.heap.size _ l [33,61] (hl1.then hb2) (row_at w1 #[.string ⟨#[33,61]⟩] 9)
 rw [h_ne] at ct2
 go_wp2_with fail
 refine ct2.mono ?_
 rintro e w2 ⟨rfl,hl2,ha2⟩
 replace ha2:=ha1.trans ((Ag.of (P:=P) hb2 (Nat.le_refl _)).trans ha2)
 clear ct2 hb2
 have hb3:=(Below.refl w2.heap.size w2).alloc (Nat.le_refl _) (.cells #[.string ⟨#[105,115]⟩] 9)
 have ct3:=take_one P w2.heap.size _ l [105,115] (hl2.then hb3) (row_at w2 #[.string ⟨#[105,115]⟩] 9)
 rw [h_is] at ct3
 go_wp2_with fail
 refine ct3.mono ?_
 rintro e w3 ⟨rfl,hl3,ha3⟩
 replace ha3:=ha2.trans ((Ag.of (P:=P) hb3 (Nat.le_refl _)).trans ha3)
 clear ct3 hb3
 have hb4:=(Below.refl w3.heap.size w3).alloc (Nat.le_refl _) (.cells #[.string ⟨#[110,111,116]⟩] 9)
 have ct4:=take_one P w3.heap.size _ l [110,111,116] (hl3.then hb4) (row_at w3 #[.string ⟨#[110,111,116]⟩] 9)
 go_wp2_with fail
 refine ct4.mono ?_
 rintro e w4 ⟨rfl,hl4,ha4⟩
 replace ha4:=ha3.trans ((Ag.of (P:=P) hb4 (Nat.le_refl _)).trans ha4)
 clear ct4 hb4
 have hb5:=(Below.refl w4.heap.size w4).alloc (Nat.le_refl _) (.cells #[.string ⟨#[105,110]⟩] 9)
 have ct5:=take_one P w4.heap.size _ (took (isHead [110,111,116] l) l) [105,110] (hl4.then hb5) (row_at w4 #[.string ⟨#[105,110]⟩] 9)
 rw [h_in] at ct5
 go_wp2_with fail
 refine ct5.mono ?_
 rintro e w5 ⟨rfl,hl5,ha5⟩
 replace ha5:=ha4.trans ((Ag.of (P:=P) hb5 (Nat.le_refl _)).trans ha5)
 clear ct5 hb5
 have hb6:=(Below.refl w5.heap.size w5).alloc (Nat.le_refl _) (.cells #[.string ⟨#[119,105,116,104,105,110]⟩] 9)
 have ct6:=take_one P w5.heap.size _ (took (isHead [110,111,116] l) l) [119,105,116,104,105,110] (hl5.then hb6) (row_at w5 #[.string ⟨#[119,105,116,104,105,110]⟩] 9)
 rw [h_within] at ct6
 go_wp2_with fail
 refine ct6.mono ?_
 rintro e w6 ⟨rfl,hl6,ha6⟩
 replace ha6:=ha5.trans ((Ag.of (P:=P) hb6 (Nat.le_refl _)).trans ha6)
 clear ct6 hb6
 go_wp2
 go_ret2
 exact ⟨ha6,rfl⟩
theorem how_spec (o:Pr.Opd) (l:List Pr.T):Pr.howP o l = if isHead [61] l then Pr.listP o false false l.tail else if isHead [33,61] l then Pr.listP o true false l.tail else if isHead [105,115] l then Pr.isN o l.tail
  else if isHead [105,110] (took (isHead [110,111,116] l) l) then Pr.listP o (isHead [110,111,116] l) false (took (isHead [110,111,116] l) l).tail
  else if isHead [119,105,116,104,105,110] (took (isHead [110,111,116] l) l) then Pr.listP o (isHead [110,111,116] l) true (took (isHead [110,111,116] l) l).tail else none:=by
 cases l with
 | nil=>rfl
 | cons t l=>
  by_cases h1:t = [61]
  ·simp [Pr.howP,isHead,h1]
  by_cases h2:t = [33,61]
  ·simp [Pr.howP,isHead,h2]
  by_cases h3:t = [105,115]
  ·simp [Pr.howP,isHead,h3]
  by_cases h4:t = [110,111,116]
  ·cases l with
   | nil=>simp [Pr.howP,isHead,h4,took,Pr.inN]
   | cons u l=>simp [Pr.howP,isHead,h4,took,Pr.inN]
  ·simp [Pr.howP,isHead,h1,h2,h3,h4,took,Pr.inN]
theorem how_any (P:Nat) (w:World) (l:List Pr.T) (x:Value) (o:Pr.Opd) (hX:BaseX P w) (hL:Left P w l) (hx:Opv P w x o):
  Calls Tryz.prog 236 #[.pointer (some ⟨P,0,none⟩),x] w fun e w'=>Said P w (Pr.howP o l) e w':=by
 rw [how_spec]
 cases h1:isHead [61] l with
 | true=>exact how_eq P w l x o hX hL hx h1
 | false=>
 cases h2:isHead [33,61] l with
 | true=>exact how_ne P w l x o hX hL hx h1 h2
 | false=>
 cases h3:isHead [105,115] l with
 | true=>exact how_is P w l x o hX hL hx h1 h2 h3
 | false=>
 cases h4:isHead [105,110] (took (isHead [110,111,116] l) l) with
 | true=>exact how_in P w l x o hX hL hx h1 h2 h3 h4
 | false=>
 cases h5:isHead [119,105,116,104,105,110] (took (isHead [110,111,116] l) l) with
 | true=>exact how_within P w l x o hX hL hx h1 h2 h3 h4 h5
 | false=>exact how_none P w l x o hX hL hx h1 h2 h3 h4 h5
end Go.Proofs.YtaepcfidpekflaaGreatDoor
namespace Go.Proofs.YtaepcfidpekflaaGreatDoor
open Go.RowKit
theorem equalIn_nilFunc (P:Program) (w:World) (d:Nat) (t:TypeId) {ps rs:Array TypeId} {vd:Bool} (h:P.underlying t = some (.func ps rs vd)):(Op.equalIn (d + 1) t .nilFunc .nilFunc).run P w = .ok true w:=by
 simp [Op.equalIn,run_underlying h]
theorem equalIn_func (P:Program) (w:World) (d:Nat) (t:TypeId) {ps rs:Array TypeId} {vd:Bool} (h:P.underlying t = some (.func ps rs vd)) (f:Fn) (a b:Array Value):(Op.equalIn (d + 1) t (.func f a b) .nilFunc).run P w = .ok false w:=by
 simp [Op.equalIn,run_underlying h]
theorem eql_nilFunc (w:World):(binOp .eql 372 .nilFunc .nilFunc).run Tryz.prog w = .ok (.bool true) w:=by
 have:(Op.equal 372 .nilFunc .nilFunc).run Tryz.prog w = .ok true w:=equalIn_nilFunc Tryz.prog w 9999 _ Tryz.underlying372
 simp only [binOp]
 simp [this]
theorem eql_func (w:World) (f:Fn) (a b:Array Value):(binOp .eql 372 (.func f a b) .nilFunc).run Tryz.prog w = .ok (.bool false) w:=by
 have:(Op.equal 372 (.func f a b) .nilFunc).run Tryz.prog w = .ok false w:=equalIn_func Tryz.prog w 9999 _ Tryz.underlying372 f a b
 simp only [binOp]
 simp [this]
theorem rel_bad (l:List Pr.T) (h:Pr.opd (l.headD []) = none):Pr.relP l = none:=by
 cases l with
 | nil=>rfl
 | cons t l=>simp only [List.headD_cons] at h;simp [Pr.relP,h]
theorem rel_how (l:List Pr.T) (o:Pr.Opd) (h:Pr.opd (l.headD []) = some o) (hm:(isHead [109,111,100] l.tail || isHead [37] l.tail) = false):Pr.relP l = Pr.howP o l.tail:=by
 cases l with
 | nil=>cases h
 | cons t l=>
  simp only [List.headD_cons] at h
  simp only [List.tail_cons] at hm ⊢
  cases l with
  | nil=>simp [Pr.relP,h,Pr.modP,Pr.howP]
  | cons u l=>
   simp only [isHead,Bool.or_eq_false_iff,decide_eq_false_iff_not] at hm
   simp [Pr.relP,h,Pr.modP,hm.1,hm.2]
theorem rel_mod (l:List Pr.T) (o:Pr.Opd) (h:Pr.opd (l.headD []) = some o) (hm:(isHead [109,111,100] l.tail || isHead [37] l.tail) = true):Pr.relP l = Pr.valueP (fun m r=>if m = 0 then none else Pr.howP (Pr.modS o m) r) l.tail.tail:=by
 cases l with
 | nil=>cases h
 | cons t l=>
  simp only [List.headD_cons] at h
  simp only [List.tail_cons] at hm ⊢
  cases l with
  | nil=>cases hm
  | cons u l=>
   have:u = [109,111,100] ∨ u = [37]:=by simpa [isHead] using hm
   simp only [Pr.relP,h,Pr.modP,this,if_true,List.tail_cons]
set_option maxHeartbeats 1600000 in
theorem relation_any (P:Nat) (w:World) (l:List Pr.T) (hX:BaseX P w) (hL:Left P w l):
  Calls Tryz.prog 215 #[.pointer (some ⟨P,0,none⟩)] w fun e w'=>Said P w (Pr.relP l) e w':=by
 obtain ⟨S,hS⟩:∃ S,Hid (Pr.relP l = S):=⟨_,rfl⟩
 rw [hS.out]
 have cn:=next_any P w l hL
 obtain ⟨t,ht⟩:∃ t,Hid (l.headD [] = t):=⟨_,rfl⟩
 rw [ht.out] at cn
 go_enter Tryz.func215,Tryz.ntmps215
 go_wp2_with fail
 refine cn.mono ?_
 rintro e w1 ⟨rfl,hl1,ha1⟩
 clear cn
 go_wp2_with fail
 refine (operandOf_any t _).mono ?_
 rintro e w2 ⟨rfl,rfl⟩
 cases ho:Pr.opd t with
 | none=>
  rw [opf_none t ho]
  have hR:Hid (S = none):=hS.out.symm.trans (rel_bad l (by rw [ht.out];exact ho))
  clear ho ht
  have hnil:=eql_nilFunc
  go_wp2
  go_ret2
  refine ⟨ha1,?_⟩
  rw [hR.out]
  rfl
 | some o=>
  have hx:=opf_some t o ho P w2
  generalize opf t = x at *
  obtain ⟨g,lb,rfl⟩:=hx.form
  have ho':Hid (Pr.opd (l.headD []) = some o):=by show _ = _;rw [ht.out];exact ho
  clear ho ht
  obtain ⟨l1,hlt⟩:∃ l1,Hid (l.tail = l1):=⟨_,rfl⟩
  rw [hlt.out] at hl1
  have hb0:=(Below.refl w2.heap.size w2).alloc (Nat.le_refl _) (.cells #[.string ⟨#[109,111,100]⟩,.string ⟨#[37]⟩] 9)
  have hnil:=eql_func
  have ct:=take_two P w2.heap.size _ l1 [109,111,100] [37] (hl1.then hb0) (row_at w2 #[.string ⟨#[109,111,100]⟩,.string ⟨#[37]⟩] 9)
  go_wp2_with fail
  refine ct.mono ?_
  rintro e w3 ⟨rfl,hl3,ha3⟩
  clear hnil
  replace ha3:=(Ag.of (P:=P) hb0 (Nat.le_refl _)).trans ha3
  clear ct hb0
  have hx3:=hx.later ha3
  have hA3:=ha1.trans ha3
  cases hm:(isHead [109,111,100] l1 || isHead [37] l1) with
  | false=>
   rw [hm] at hl3
   have hR0:Hid (S = Pr.howP o l1):=by
    show _ = _
    rw [← hS.out,← hlt.out]
    exact rel_how l o ho'.out (by rw [hlt.out];exact hm)
   have cf:=how_any P w3 l1 _ o (hX.later hA3) hl3 hx3
   rw [← hR0.out] at cf
   clear hR0 hm
   go_wp2_with fail
   refine cf.mono ?_
   rintro e w9 ⟨ha9,hs⟩
   clear cf
   replace ha9:=hA3.trans ha9
   cases hv:S with
   | none=>
    rw [hv] at hs
    obtain rfl:=hs
    have hR:Hid (S = none):=hv
    clear hv
    unfold errRule
    go_wp2
    go_ret2
    refine ⟨ha9,?_⟩
    rw [hR.out]
    rfl
   | some y=>
    obtain ⟨f,r⟩:=y
    rw [hv] at hs
    obtain ⟨v,rfl,hc,hl⟩:=hs
    have hR:Hid (S = some (f,r)):=hv
    clear hv
    go_wp2
    go_ret2
    refine ⟨ha9,?_⟩
    rw [hR.out]
    exact ⟨_,rfl,hc,hl⟩
  | true=>
   rw [hm] at hl3
   have hl3':Left P w3 l1.tail:=hl3
   have hR0:Hid (S = Pr.valueP (fun m r=>if m = 0 then none else Pr.howP (Pr.modS o m) r) l1.tail):=by
    show _ = _
    rw [← hS.out,← hlt.out]
    exact rel_mod l o ho'.out (by rw [hlt.out];exact hm)
   clear hm
   have cv:=value_said P w3 l1.tail (hX.later hA3) hl3'
   go_wp2_with fail
   refine cv.mono ?_
   rintro e w4 ⟨ha4,hs⟩
   clear cv
   have hA4:=hA3.trans ha4
   cases hv:Pr.value l1.tail with
   | none=>
    rw [hv] at hs
    obtain rfl:=hs
    have hR:Hid (S = none):=by show _ = _;rw [hR0.out];simp [Pr.valueP,hv]
    unfold errRule
    go_wp2
    go_ret2
    refine ⟨hA4,?_⟩
    rw [hR.out]
    rfl
   | some y=>
    obtain ⟨m,r⟩:=y
    rw [hv] at hs
    obtain ⟨rfl,hl4,hm9⟩:=hs
    by_cases hm0:m = 0
    ·have hm0':((m:Int) == 0) = true:=by rw [beq_iff_eq];omega
     have hR:Hid (S = none):=by show _ = _;rw [hR0.out];simp [Pr.valueP,hv,hm0]
     clear hm0
     go_wp2
     go_ret2
     refine ⟨hA4,?_⟩
     rw [hR.out]
     rfl
    ·have hm0':((m:Int) == 0) = false:=by rw [beq_eq_false_iff_ne];omega
     have hR1:Hid (S = Pr.howP (Pr.modS o m) r):=by show _ = _;rw [hR0.out];simp [Pr.valueP,hv,hm0]
     have cm:=modulo_any P w4 _ o m (by omega) hm9 hl4.lt (hx3.later ha4)
     clear hm0 hR0
     go_wp2_with fail
     refine cm.mono ?_
     rintro e w5 ⟨⟨v5,rfl,hx5⟩,hb5⟩
     clear cm
     have hA5:=hA4.then hb5
     obtain ⟨g5,lb5,rfl⟩:=hx5.form
     have cf:=how_any P w5 r _ _ (hX.later hA5) (hl4.then hb5) hx5
     rw [← hR1.out] at cf
     clear hR1
     go_wp2_with fail
     refine cf.mono ?_
     rintro e w9 ⟨ha9,hs⟩
     clear cf
     replace ha9:=hA5.trans ha9
     cases hv:S with
     | none=>
      rw [hv] at hs
      obtain rfl:=hs
      have hR:Hid (S = none):=hv
      clear hv
      unfold errRule
      go_wp2
      go_ret2
      refine ⟨ha9,?_⟩
      rw [hR.out]
      rfl
     | some y=>
      obtain ⟨f,r⟩:=y
      rw [hv] at hs
      obtain ⟨v,rfl,hc,hl⟩:=hs
      have hR:Hid (S = some (f,r)):=hv
      clear hv
      go_wp2
      go_ret2
      refine ⟨ha9,?_⟩
      rw [hR.out]
      exact ⟨_,rfl,hc,hl⟩
theorem rel_len (l:List Pr.T) (f:Pr.Sem) (r:List Pr.T) (h:Pr.relP l = some (f,r)):r.length ≤ l.length:=by
 obtain ⟨p,e,_⟩:=Pr.good_rel.sound l f r h
 rw [e];simp
theorem and_len (l:List Pr.T) (f:Pr.Sem) (r:List Pr.T) (h:Pr.andP l = some (f,r)):r.length ≤ l.length:=by
 obtain ⟨p,e,_⟩:=Pr.good_and.sound l f r h
 rw [e];simp
theorem enters_rel:Enters 215:=enters_of Tryz.func215 (by kernel_rfl) rfl
theorem enters_and:Enters 189:=enters_of Tryz.func189 (by kernel_rfl) rfl
theorem append_none (a:Array Value):a ++ (#[]:Array Value) = a:=by simp
set_option maxHeartbeats 800000 in
theorem and_any (P:Nat) (w:World) (l:List Pr.T) (hX:BaseX P w) (hL:Left P w l):
  Calls Tryz.prog 189 #[.pointer (some ⟨P,0,none⟩)] w fun e w'=>Said P w (Pr.andP l) e w':=by
 have cf:=row_any P w l (.func (.func 215) #[.pointer (some ⟨P,0,none⟩)] #[]) Pr.relP [97,110,100] 216 Pr.andS enters_both (joins_both P) rel_len hX hL
  ⟨_,_,_,rfl,enters_rel,fun W l' hX' _ hl'=>by rw [append_none];exact relation_any P W l' hX' hl'⟩
 change Calls _ _ _ _ fun e w'=>Said P w (Pr.andP l) e w' at cf
 generalize Pr.andP l = S at *
 go_enter Tryz.func189,Tryz.ntmps189
 go_wp2_with fail
 refine cf.mono ?_
 rintro e w9 ⟨ha9,hs⟩
 clear cf
 cases hv:S with
 | none=>
  rw [hv] at hs
  obtain rfl:=hs
  have hR:Hid (S = none):=hv
  clear hv
  unfold errRule
  go_wp2
  go_ret2
  refine ⟨ha9,?_⟩
  rw [hR.out]
  rfl
 | some y=>
  obtain ⟨f,r⟩:=y
  rw [hv] at hs
  obtain ⟨v,rfl,hc,hl⟩:=hs
  have hR:Hid (S = some (f,r)):=hv
  clear hv
  go_wp2
  go_ret2
  refine ⟨ha9,?_⟩
  rw [hR.out]
  exact ⟨_,rfl,hc,hl⟩
set_option maxHeartbeats 800000 in
theorem or_any (P:Nat) (w:World) (l:List Pr.T) (hX:BaseX P w) (hL:Left P w l):
  Calls Tryz.prog 157 #[.pointer (some ⟨P,0,none⟩)] w fun e w'=>Said P w (Pr.orP l) e w':=by
 have cf:=row_any P w l (.func (.func 189) #[.pointer (some ⟨P,0,none⟩)] #[]) Pr.andP [111,114] 190 Pr.orS enters_either (joins_either P) and_len hX hL
  ⟨_,_,_,rfl,enters_and,fun W l' hX' _ hl'=>by rw [append_none];exact and_any P W l' hX' hl'⟩
 change Calls _ _ _ _ fun e w'=>Said P w (Pr.orP l) e w' at cf
 generalize Pr.orP l = S at *
 go_enter Tryz.func157,Tryz.ntmps157
 go_wp2_with fail
 refine cf.mono ?_
 rintro e w9 ⟨ha9,hs⟩
 clear cf
 cases hv:S with
 | none=>
  rw [hv] at hs
  obtain rfl:=hs
  have hR:Hid (S = none):=hv
  clear hv
  unfold errRule
  go_wp2
  go_ret2
  refine ⟨ha9,?_⟩
  rw [hR.out]
  rfl
 | some y=>
  obtain ⟨f,r⟩:=y
  rw [hv] at hs
  obtain ⟨v,rfl,hc,hl⟩:=hs
  have hR:Hid (S = some (f,r)):=hv
  clear hv
  go_wp2
  go_ret2
  refine ⟨ha9,?_⟩
  rw [hR.out]
  exact ⟨_,rfl,hc,hl⟩
end Go.Proofs.YtaepcfidpekflaaGreatDoor
