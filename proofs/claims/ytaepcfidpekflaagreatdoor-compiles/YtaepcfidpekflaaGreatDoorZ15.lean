/-
  Several texts in one (Kz, Ja, Rn, Jb). By the verifier.
-/
import Derived.Test.YtaepcfidpekflaaGreatDoorZ14
import Derived.Test.YtaepcfidpekflaaGreatDoorZ03
import Derived.Lib.MapLaws
import Derived.Lib.ValidLaws
import Derived.Lib.RuneCount
namespace Go.Proofs.YtaepcfidpekflaaGreatDoor.Pg
open Go.Proofs.YtaepcfidpekflaaGreatDoor
theorem endF_flat {o:Nat → Nat}:∀ (t:Tr) (d:Int) (r:List Dk.Mark),1 ≤ d → Dk.endF d (flat o t ++ r) = (flat o t).length + Dk.endF d r:=by
 intro t
 induction t with
 | nil=>intro d r _;simp [flat]
 | text t r ih=>
  intro d q h
  rw [flat,List.cons_append,Dk.endF,show d + Dk.delta { kind:=116,text:=t } = d by simp [Dk.delta],if_neg (by omega),ih d q h]
  simp only [List.length_cons]
  omega
 | sign r ih=>
  intro d q h
  rw [flat,List.cons_append,Dk.endF,show d + Dk.delta { kind:=35 } = d by simp [Dk.delta],if_neg (by omega),ih d q h]
  simp only [List.length_cons]
  omega
 | simple n a r ih=>
  intro d q h
  rw [flat,List.cons_append,Dk.endF,show d + Dk.delta { kind:=112,name:=n,at_:=o a } = d by simp [Dk.delta],if_neg (by omega),ih d q h]
  simp only [List.length_cons]
  omega
 | num n a r ih=>
  intro d q h
  rw [flat,List.cons_append,Dk.endF,show d + Dk.delta { kind:=110,name:=n,how:=numberW,at_:=o a } = d by simp [Dk.delta],if_neg (by omega),ih d q h]
  simp only [List.length_cons]
  omega
 | sel n a bs e r ih1 ih2=>
  intro d q h
  rw [flat,List.cons_append,List.append_assoc,List.cons_append,Dk.endF,show d + Dk.delta { kind:=40,name:=n,how:=selectW,offset:=[48],at_:=o a } = d + 1 by simp [Dk.delta],if_neg (by omega),ih1 (d + 1) _ (by omega),Dk.endF,show d + 1 + Dk.delta { kind:=41,at_:=o e } = d by simp [Dk.delta];omega,if_neg (by omega),ih2 d q h]
  simp only [List.length_cons,List.length_append]
  omega
 | plu n a ord off bs e r ih1 ih2=>
  intro d q h
  rw [flat,List.cons_append,List.append_assoc,List.cons_append,Dk.endF,show d + Dk.delta { kind:=40,name:=n,how:=if ord then ordinalW else pluralW,offset:=off,at_:=o a } = d + 1 by simp [Dk.delta],if_neg (by omega),ih1 (d + 1) _ (by omega),Dk.endF,show d + 1 + Dk.delta { kind:=41,at_:=o e } = d by simp [Dk.delta];omega,if_neg (by omega),ih2 d q h]
  simp only [List.length_cons,List.length_append]
  omega
 | br w a m r ih1 ih2=>
  intro d q h
  rw [flat,List.cons_append,List.append_assoc,List.cons_append,Dk.endF,show d + Dk.delta { kind:=91,text:=w,at_:=o a } = d + 1 by simp [Dk.delta],if_neg (by omega),ih1 (d + 1) _ (by omega),Dk.endF,show d + 1 + Dk.delta { kind:=93 } = d by simp [Dk.delta];omega,if_neg (by omega),ih2 d q h]
  simp only [List.length_cons,List.length_append]
  omega
theorem endAt_open {o:Nat → Nat} {P:List Dk.Mark} {m c:Dk.Mark} {t:Tr} {Q:List Dk.Mark} (hm:Dk.delta m = 1) (hc:Dk.delta c = -1):Dk.endAt (P ++ m :: (flat o t ++ c :: Q)) P.length = P.length + 1 + (flat o t).length:=by
 unfold Dk.endAt
 rw [List.drop_left,Dk.endF,hm,if_neg (by omega),endF_flat t _ _ (by omega),Dk.endF,hc,if_pos (by omega)]
 omega
def posns (o:Nat → Nat):Nat → Tr → List Nat
 | k,.br w a m r=>k :: posns o (k + (flat o (.br w a m .nil)).length) r
 | _,_=>[]
theorem brGo_flat {o:Nat → Nat}:∀ (bs:Tr) (P:List Dk.Mark) (c:Dk.Mark) (Q:List Dk.Mark) (n:Nat),Wf true bs → (flat o bs).length ≤ n → Dk.brGo (P ++ (flat o bs ++ c :: Q)) (P.length + (flat o bs).length) n P.length = posns o P.length bs:=by
 intro bs
 induction bs with
 | nil=>intro P c Q n _ _;cases n with
  | zero=>rfl
  | succ n=>rw [Dk.brGo,if_neg (by simp [flat])];rfl
 | br w a m r _ ih=>
  intro P c Q n hw hn
  simp only [flat,List.length_cons,List.length_append] at hn
  obtain ⟨n,rfl⟩:∃ n',n = n' + 1:=⟨n - 1,by omega⟩
  have e1:P ++ (flat o (.br w a m r) ++ c :: Q) = P ++ { kind:=91,text:=w,at_:=o a } :: (flat o m ++ { kind:=93 } :: (flat o r ++ c :: Q)):=by simp [flat]
  have e2:P ++ (flat o (.br w a m r) ++ c :: Q) = (P ++ flat o (.br w a m .nil)) ++ (flat o r ++ c :: Q):=by simp [flat]
  have h1:=endAt_open (o:=o) (P:=P) (m:={ kind:=91,text:=w,at_:=o a }) (c:={ kind:=93 }) (t:=m) (Q:=flat o r ++ c :: Q) (by simp [Dk.delta]) (by simp [Dk.delta])
  rw [Dk.brGo,if_pos (by simp [flat]),posns]
  congr 1
  rw [show Dk.endAt (P ++ (flat o (.br w a m r) ++ c :: Q)) P.length = P.length + 1 + (flat o m).length by rw [e1];exact h1,e2]
  have:=ih (P ++ flat o (.br w a m .nil)) c Q n hw.2.2 (by omega)
  simp only [List.length_append] at this
  rw [← this]
  congr 1
  ·simp only [flat,List.length_cons,List.length_append,List.length_nil];omega
  ·simp only [flat,List.length_cons,List.length_append,List.length_nil];omega
 | _=>intro P c Q n hw;exact absurd hw.1 (by simp)
theorem brsAt_open {o:Nat → Nat} {P:List Dk.Mark} {m c:Dk.Mark} {bs:Tr} {Q:List Dk.Mark} (hw:Wf true bs) (hm:Dk.delta m = 1) (hc:Dk.delta c = -1):Dk.brsAt (P ++ m :: (flat o bs ++ c :: Q)) P.length = posns o (P.length + 1) bs:=by
 unfold Dk.brsAt
 rw [endAt_open hm hc]
 have h:=brGo_flat (o:=o) bs (P ++ [m]) c Q (P ++ m :: (flat o bs ++ c :: Q)).length hw (by simp;omega)
 simp only [List.length_append,List.length_singleton,List.append_assoc,List.cons_append,List.nil_append] at h ⊢
 exact h
theorem at_app {P:List Dk.Mark} {m:Dk.Mark} {Q:List Dk.Mark}:(P ++ m :: Q)[P.length]? = some m:=by simp
theorem twGo_flat {o:Nat → Nat}:∀ (bs:Tr) (P Q:List Dk.Mark) (seen:List Nat) (x:Nat × Nat),Wf true bs → (x ∈ Dk.twGo (P ++ (flat o bs ++ Q)) seen (posns o P.length bs) ↔ Tw o (seen.map (Dk.textAt (P ++ (flat o bs ++ Q)))) bs x):=by
 intro bs
 induction bs with
 | nil=>intro P Q seen x _;simp [posns,Dk.twGo,Tw]
 | br w a m r _ ih=>
  intro P Q seen x hw
  have e1:P ++ (flat o (.br w a m r) ++ Q) = P ++ { kind:=91,text:=w,at_:=o a } :: (flat o m ++ { kind:=93 } :: (flat o r ++ Q)):=by simp [flat]
  have e2:P ++ (flat o (.br w a m r) ++ Q) = (P ++ flat o (.br w a m .nil)) ++ (flat o r ++ Q):=by simp [flat]
  have t1:Dk.textAt (P ++ (flat o (.br w a m r) ++ Q)) P.length = w:=by rw [e1,Dk.textAt,at_app];rfl
  have p1:Dk.placeAt (P ++ (flat o (.br w a m r) ++ Q)) P.length = o a:=by rw [e1,Dk.placeAt,at_app];rfl
  have i1:=ih (P ++ flat o (.br w a m .nil)) Q (seen ++ [P.length]) x hw.2.2
  rw [← e2,List.map_append,List.map_singleton,t1,List.length_append] at i1
  rw [posns,Dk.twGo,Tw,List.mem_append,i1,t1,p1]
  refine or_congr ?_ Iff.rfl
  simp only [List.mem_map,List.mem_filter,decide_eq_true_eq]
  constructor
  ·rintro ⟨b,⟨h1,h2⟩,rfl⟩
   exact ⟨⟨b,h1,h2.symm⟩,rfl⟩
  ·rintro ⟨⟨b,h1,h2⟩,rfl⟩
   exact ⟨b,⟨h1,h2.symm⟩,rfl⟩
 | _=>intro P Q seen x hw;exact absurd hw.1 (by simp)
theorem keys_flat {o:Nat → Nat}:∀ (bs:Tr) (P Q:List Dk.Mark),Wf true bs → (posns o P.length bs).map (Dk.textAt (P ++ (flat o bs ++ Q))) = keys bs:=by
 intro bs
 induction bs with
 | nil=>intro P Q _;rfl
 | br w a m r _ ih=>
  intro P Q hw
  have e1:P ++ (flat o (.br w a m r) ++ Q) = P ++ { kind:=91,text:=w,at_:=o a } :: (flat o m ++ { kind:=93 } :: (flat o r ++ Q)):=by simp [flat]
  have e2:P ++ (flat o (.br w a m r) ++ Q) = (P ++ flat o (.br w a m .nil)) ++ (flat o r ++ Q):=by simp [flat]
  have t1:Dk.textAt (P ++ (flat o (.br w a m r) ++ Q)) P.length = w:=by rw [e1,Dk.textAt,at_app];rfl
  have i1:=ih (P ++ flat o (.br w a m .nil)) Q hw.2.2
  rw [← e2,List.length_append] at i1
  rw [posns,List.map_cons,t1,keys,i1]
 | _=>intro P Q hw;exact absurd hw.1 (by simp)
def CI (L:List Dk.Mark) (a n:Nat) (x:Nat × Nat):Prop:=∃ i,a ≤ i ∧ i < a + n ∧ x ∈ Dk.candsAt L i
theorem CI_add (L:List Dk.Mark) (a n k:Nat) (x:Nat × Nat):CI L a (n + k) x ↔ CI L a n x ∨ CI L (a + n) k x:=by
 constructor
 ·rintro ⟨i,h1,h2,h3⟩
  rcases Nat.lt_or_ge i (a + n) with h | h
  ·exact .inl ⟨i,h1,h,h3⟩
  ·exact .inr ⟨i,h,by omega,h3⟩
 ·rintro (⟨i,h1,h2,h3⟩ | ⟨i,h1,h2,h3⟩)
  ·exact ⟨i,h1,by omega,h3⟩
  ·exact ⟨i,by omega,by omega,h3⟩
theorem CI_one (L:List Dk.Mark) (a:Nat) (x:Nat × Nat):CI L a 1 x ↔ x ∈ Dk.candsAt L a:=by
 constructor
 ·rintro ⟨i,h1,h2,h3⟩
  have:i = a:=by omega
  rw [← this]
  exact h3
 ·intro h
  exact ⟨a,Nat.le_refl _,by omega,h⟩
theorem cands_none {P:List Dk.Mark} {m:Dk.Mark} {Q:List Dk.Mark} (h1:Dk.sortM m = 0) (h2:m.kind ≠ 40):Dk.candsAt (P ++ m :: Q) P.length = []:=by
 unfold Dk.candsAt
 rw [at_app]
 simp only
 rw [if_neg h2,Dk.kindC,if_neg (by simp [h1])]
 rfl
theorem kindC_iff (P:List Dk.Mark) (m:Dk.Mark) (h:Dk.sortM m ≠ 0) (x:Nat × Nat):x ∈ Dk.kindC P m ↔ kindBad P m ∧ x = (5,m.at_):=by
 rw [kindBad_iff]
 unfold Dk.kindC
 by_cases hk:Dk.firstK m.name P ≠ 0 ∧ Dk.firstK m.name P ≠ Dk.sortM m
 ·rw [if_pos ⟨h,hk⟩]
  simp [hk]
 ·rw [if_neg (fun h=>hk h.2)]
  simp [hk]
theorem cands_open {o:Nat → Nat} {P:List Dk.Mark} {m c:Dk.Mark} {bs:Tr} {Q:List Dk.Mark} (hw:Wf true bs) (hm:m.kind = 40) (hc:c.kind = 41) (x:Nat × Nat):
  x ∈ Dk.candsAt (P ++ m :: (flat o bs ++ c :: Q)) P.length ↔ (kindBad P m ∧ x = (5,m.at_)) ∨ Tw o [] bs x ∨ (Dk.otherW ∉ keys bs ∧ x = (6,c.at_)):=by
 have d1:Dk.delta m = 1:=by simp [Dk.delta,hm]
 have d2:Dk.delta c = -1:=by simp [Dk.delta,hc]
 have hs:Dk.sortM m ≠ 0:=by
  unfold Dk.sortM
  split
  ·decide
  ·decide
 have e1:P ++ m :: (flat o bs ++ c :: Q) = (P ++ [m]) ++ (flat o bs ++ c :: Q):=by simp
 have hk:=keys_flat (o:=o) bs (P ++ [m]) (c :: Q) hw
 have ht:=twGo_flat (o:=o) bs (P ++ [m]) (c :: Q) [] x hw
 rw [← e1,List.length_append,List.length_singleton] at hk ht
 unfold Dk.candsAt
 rw [at_app]
 simp only
 rw [if_pos hm,brsAt_open hw d1 d2,List.take_left,List.mem_append,List.mem_append,kindC_iff P m hs,ht]
 refine or_congr Iff.rfl (or_congr Iff.rfl ?_)
 unfold Dk.othC
 have hp:Dk.placeAt (P ++ m :: (flat o bs ++ c :: Q)) (Dk.endAt (P ++ m :: (flat o bs ++ c :: Q)) P.length) = c.at_:=by
  rw [endAt_open d1 d2]
  have e2:P ++ m :: (flat o bs ++ c :: Q) = (P ++ m :: flat o bs) ++ c :: Q:=by simp
  have hl:P.length + 1 + (flat o bs).length = (P ++ m :: flat o bs).length:=by simp;omega
  rw [e2,hl,Dk.placeAt,at_app]
  rfl
 rw [hp]
 have ha:((posns o (P.length + 1) bs).any (fun b=>Dk.textAt (P ++ m :: (flat o bs ++ c :: Q)) b == Dk.otherW)) = true ↔ Dk.otherW ∈ keys bs:=by
  rw [← hk,List.any_eq_true]
  simp only [beq_iff_eq,List.mem_map]
 by_cases ho:Dk.otherW ∈ keys bs
 ·rw [if_pos (ha.2 ho)]
  simp [ho]
 ·rw [if_neg (fun h=>ho (ha.1 h))]
  simp [ho]
theorem CI_flat {o:Nat → Nat}:∀ (t:Tr) (k:Bool) (P Q:List Dk.Mark) (x:Nat × Nat),Wf k t → (CI (P ++ (flat o t ++ Q)) P.length (flat o t).length x ↔ Cd o P t x):=by
 have leaf:∀ (m:Dk.Mark) (r:Tr) (P Q:List Dk.Mark) (x:Nat × Nat),(CI (P ++ [m] ++ (flat o r ++ Q)) (P ++ [m]).length (flat o r).length x ↔ Cd o (P ++ [m]) r x) → (CI (P ++ (m :: flat o r ++ Q)) P.length (m :: flat o r).length x ↔ x ∈ Dk.candsAt (P ++ m :: (flat o r ++ Q)) P.length ∨ Cd o (P ++ [m]) r x):=by
  intro m r P Q x h
  rw [List.length_cons,Nat.add_comm,CI_add,CI_one]
  simp only [List.append_assoc,List.cons_append,List.nil_append,List.length_append,List.length_singleton] at h ⊢
  rw [h]
 have node:∀ (m c:Dk.Mark) (bs r:Tr) (P Q:List Dk.Mark) (x:Nat × Nat),c.kind = 41 ∨ c.kind = 93 → (CI (P ++ [m] ++ (flat o bs ++ (c :: (flat o r ++ Q)))) (P ++ [m]).length (flat o bs).length x ↔ Cd o (P ++ [m]) bs x) → (CI ((P ++ m :: (flat o bs ++ [c])) ++ (flat o r ++ Q)) (P ++ m :: (flat o bs ++ [c])).length (flat o r).length x ↔ Cd o (P ++ m :: (flat o bs ++ [c])) r x) →
   (CI (P ++ (m :: (flat o bs ++ c :: flat o r) ++ Q)) P.length (m :: (flat o bs ++ c :: flat o r)).length x ↔ x ∈ Dk.candsAt (P ++ m :: (flat o bs ++ c :: (flat o r ++ Q))) P.length ∨ Cd o (P ++ [m]) bs x ∨ Cd o (P ++ m :: (flat o bs ++ [c])) r x):=by
  intro m c bs r P Q x hc h1 h2
  have hlen:(m :: (flat o bs ++ c :: flat o r)).length = 1 + ((flat o bs).length + (1 + (flat o r).length)):=by simp;omega
  have hcs:Dk.sortM c = 0 ∧ c.kind ≠ 40:=by
   rcases hc with hc | hc <;> simp [Dk.sortM,hc]
  have hcc:Dk.candsAt (P ++ m :: (flat o bs ++ c :: (flat o r ++ Q))) (P.length + 1 + (flat o bs).length) = []:=by
   have e2:P ++ m :: (flat o bs ++ c :: (flat o r ++ Q)) = (P ++ m :: flat o bs) ++ c :: (flat o r ++ Q):=by simp
   have hl:P.length + 1 + (flat o bs).length = (P ++ m :: flat o bs).length:=by simp;omega
   rw [e2,hl]
   exact cands_none hcs.1 hcs.2
  have hl2:(P ++ m :: (flat o bs ++ [c])).length = P.length + 1 + (flat o bs).length + 1:=by simp;omega
  rw [hlen,CI_add,CI_one,CI_add,CI_add,CI_one]
  rw [hl2] at h2
  simp only [List.append_assoc,List.cons_append,List.nil_append,List.length_append,List.length_singleton] at h1 h2 ⊢
  rw [h1,h2,hcc]
  simp
 intro t
 induction t with
 | nil=>
  intro k P Q x _
  constructor
  ·rintro ⟨i,h1,h2,_⟩
   simp [flat] at h2
   omega
  ·exact fun h=>h.elim
 | text t r ih=>
  intro k P Q x hw
  rw [flat,Cd,leaf _ _ _ _ _ (ih false _ _ _ hw.2),cands_none (by simp [Dk.sortM]) (by simp)]
  simp
 | sign r ih=>
  intro k P Q x hw
  rw [flat,Cd,leaf _ _ _ _ _ (ih false _ _ _ hw.2),cands_none (by simp [Dk.sortM]) (by simp)]
  simp
 | simple n a r ih=>
  intro k P Q x hw
  rw [flat,Cd,leaf _ _ _ _ _ (ih false _ _ _ hw.2),cands_none (by simp [Dk.sortM]) (by simp)]
  simp
 | num n a r ih=>
  intro k P Q x hw
  rw [flat,Cd,leaf _ _ _ _ _ (ih false _ _ _ hw.2)]
  refine or_congr ?_ Iff.rfl
  unfold Dk.candsAt
  rw [at_app]
  simp only
  rw [if_neg (by decide),List.take_left,List.append_nil,kindC_iff _ _ (by simp [Dk.sortM])]
  rfl
 | sel n a bs e r ih1 ih2=>
  intro k P Q x hw
  rw [flat,Cd,node _ _ _ _ _ _ _ (.inl rfl) (ih1 true _ _ _ hw.2.1) (ih2 false _ _ _ hw.2.2),cands_open hw.2.1 rfl rfl]
  simp only [nodeM,flat]
  constructor
  ·rintro ((h | h | h) | h | h)
   ·exact .inl h
   ·exact .inr (.inl h)
   ·exact .inr (.inr (.inr (.inl h)))
   ·exact .inr (.inr (.inl h))
   ·exact .inr (.inr (.inr (.inr h)))
  ·rintro (h | h | h | h | h)
   ·exact .inl (.inl h)
   ·exact .inl (.inr (.inl h))
   ·exact .inr (.inl h)
   ·exact .inl (.inr (.inr h))
   ·exact .inr (.inr h)
 | plu n a ord off bs e r ih1 ih2=>
  intro k P Q x hw
  rw [flat,Cd,node _ _ _ _ _ _ _ (.inl rfl) (ih1 true _ _ _ hw.2.1) (ih2 false _ _ _ hw.2.2),cands_open hw.2.1 rfl rfl]
  simp only [nodeM,flat]
  constructor
  ·rintro ((h | h | h) | h | h)
   ·exact .inl h
   ·exact .inr (.inl h)
   ·exact .inr (.inr (.inr (.inl h)))
   ·exact .inr (.inr (.inl h))
   ·exact .inr (.inr (.inr (.inr h)))
  ·rintro (h | h | h | h | h)
   ·exact .inl (.inl h)
   ·exact .inl (.inr (.inl h))
   ·exact .inr (.inl h)
   ·exact .inl (.inr (.inr h))
   ·exact .inr (.inr h)
 | br w a m r ih1 ih2=>
  intro k P Q x hw
  rw [flat,Cd,node _ _ _ _ _ _ _ (.inr rfl) (ih1 false _ _ _ hw.2.1) (ih2 true _ _ _ hw.2.2),cands_none (by simp [Dk.sortM]) (by simp)]
  simp [flat]
theorem faults_flat {o:Nat → Nat} {N:Nat} (mono:∀ a b,a < b → b < N → o a < o b) (t:Tr) (hw:Wf false t) (h:In 0 N t):Dk.faults (flat o t) = match ck o [] [] t with | none=>(0,0) | some f=>(f.1,o f.2):=by
 have hl:=ck_least mono t false [] [] 0 N (Nat.le_refl _) hw h
 have hm:∀ x,x ∈ (List.range (flat o t).length).flatMap (Dk.candsAt (flat o t)) ↔ Cd o [] t x:=by
  intro x
  have:=CI_flat (o:=o) t false [] [] x hw
  simp only [List.nil_append,List.append_nil,List.length_nil] at this
  rw [← this,List.mem_flatMap]
  constructor
  ·rintro ⟨i,h1,h2⟩
   exact ⟨i,by omega,by simpa using h1,h2⟩
  ·rintro ⟨i,_,h1,h2⟩
   exact ⟨i,by simpa using h1,h2⟩
 unfold Dk.faults
 cases hc:ck o [] [] t with
 | none=>
  rw [hc] at hl
  refine upd_none _ ?_
  cases e:(List.range (flat o t).length).flatMap (Dk.candsAt (flat o t)) with
  | nil=>rfl
  | cons x r=>
   exact absurd (.inr ((hm x).1 (by rw [e];simp))) (hl x)
 | some f=>
  rw [hc] at hl
  obtain ⟨h1,_,_,h4,h5⟩:=hl
  have h1':Cd o [] t (f.1,o f.2):=by
   rcases h1 with h1 | h1
   ·exact absurd h1 (no_Tw hw _ _)
   ·exact h1
  exact upd_least _ (0,0) (f.1,o f.2) (.inr ⟨(hm _).2 h1',.inl rfl⟩) h4 fun d hd=>h5 d (.inr ((hm d).1 hd))
end Go.Proofs.YtaepcfidpekflaaGreatDoor.Pg
namespace Go.Proofs.YtaepcfidpekflaaGreatDoor.Pg
open Go.Proofs.YtaepcfidpekflaaGreatDoor
theorem In.mono {lo lo' hi:Nat} {t:Tr} (h:In lo hi t) (hl:lo' ≤ lo):In lo' hi t:=by
 induction t generalizing lo lo' hi with
 | nil=>exact Nat.le_trans hl h
 | text _ r ih=>exact ih h hl
 | sign r ih=>exact ih h hl
 | simple _ a r ih=>exact ⟨by have:=h.1;omega,h.2⟩
 | num _ a r ih=>exact ⟨by have:=h.1;omega,h.2⟩
 | sel _ a bs e r ih1 ih2=>exact ⟨by have:=h.1;omega,h.2⟩
 | plu _ a _ _ bs e r ih1 ih2=>exact ⟨by have:=h.1;omega,h.2⟩
 | br _ a m r ih1 ih2=>exact ⟨by have:=h.1;omega,h.2⟩
theorem In.hi {lo hi hi':Nat} {t:Tr} (h:In lo hi t) (hl:hi ≤ hi'):In lo hi' t:=by
 induction t generalizing lo hi with
 | nil=>exact Nat.le_trans h hl
 | text _ r ih=>exact ih h hl
 | sign r ih=>exact ih h hl
 | simple _ a r ih=>exact ⟨h.1,ih h.2 hl⟩
 | num _ a r ih=>exact ⟨h.1,ih h.2 hl⟩
 | sel _ a bs e r ih1 ih2=>exact ⟨h.1,h.2.1,ih2 h.2.2 hl⟩
 | plu _ a _ _ bs e r ih1 ih2=>exact ⟨h.1,h.2.1,ih2 h.2.2 hl⟩
 | br _ a m r ih1 ih2=>
  obtain ⟨h1,c,h2,h3⟩:=h
  exact ⟨h1,c,h2,ih2 h3 hl⟩
theorem In.app {lo mid hi:Nat} {t u:Tr} (h:In lo mid t) (h2:In mid hi u):In lo hi (t.app u):=by
 induction t generalizing lo with
 | nil=>exact h2.mono h
 | text _ r ih=>exact ih h
 | sign r ih=>exact ih h
 | simple _ a r ih=>exact ⟨h.1,ih h.2⟩
 | num _ a r ih=>exact ⟨h.1,ih h.2⟩
 | sel _ a bs e r ih1 ih2=>exact ⟨h.1,h.2.1,ih2 h.2.2⟩
 | plu _ a _ _ bs e r ih1 ih2=>exact ⟨h.1,h.2.1,ih2 h.2.2⟩
 | br _ a m r ih1 ih2=>
  obtain ⟨h1,c,h3,h4⟩:=h
  exact ⟨h1,c,h3,ih2 h4⟩
theorem Wf.app {k:Bool} {t u:Tr} (h:Wf k t) (h2:Wf k u):Wf k (t.app u):=by
 induction t with
 | nil=>exact h2
 | text _ r ih=>have:=h.1;subst this;exact ⟨rfl,ih h.2⟩
 | sign r ih=>have:=h.1;subst this;exact ⟨rfl,ih h.2⟩
 | simple _ a r ih=>have:=h.1;subst this;exact ⟨rfl,ih h.2⟩
 | num _ a r ih=>have:=h.1;subst this;exact ⟨rfl,ih h.2⟩
 | sel _ a bs e r ih1 ih2=>have:=h.1;subst this;exact ⟨rfl,h.2.1,ih2 h.2.2⟩
 | plu _ a _ _ bs e r ih1 ih2=>have:=h.1;subst this;exact ⟨rfl,h.2.1,ih2 h.2.2⟩
 | br _ a m r ih1 ih2=>have:=h.1;subst this;exact ⟨rfl,h.2.1,ih2 h.2.2⟩
theorem tw_le {α:Type} (f:α → Bool) (rs:List α) (p:Nat) (h:p ≤ rs.length):p + ((rs.drop p).takeWhile f).length ≤ rs.length:=by
 have:((rs.drop p).takeWhile f).length ≤ (rs.drop p).length:=(List.takeWhile_prefix f).length_le
 rw [List.length_drop] at this
 omega
theorem bl_ge (rs:List T) (p:Nat):p ≤ bl rs p:=Nat.le_add_right _ _
theorem bl_le (rs:List T) (p:Nat) (h:p ≤ rs.length):bl rs p ≤ rs.length:=tw_le _ rs p h
theorem word_le (rs:List T) (p:Nat) (h:p ≤ rs.length):p + (word rs p).length ≤ rs.length:=tw_le _ rs p h
theorem digs_le (rs:List T) (p:Nat) (h:p ≤ rs.length):p + (digs rs p).length ≤ rs.length:=tw_le _ rs p h
theorem nameR_le {rs:List T} {p:Nat} (hp:p ≤ rs.length):(∀ n q,nameR rs p = .inr (n,q) → p ≤ q ∧ q ≤ rs.length) ∧ ∀ a,nameR rs p = .inl a → p ≤ a ∧ a ≤ rs.length:=by
 have hw:=word_le rs p hp
 unfold nameR
 constructor
 ·intro n q h
  split at h
  ·cases h
  split at h
  ·cases h
  split at h
  ·cases h
  injection h with h
  injection h with h1 h2
  omega
 ·intro a h
  split at h
  ·injection h with h;omega
  split at h
  ·injection h with h;omega
  split at h
  ·injection h with h;omega
  cases h
theorem valR_le {rs:List T} {p:Nat} (hp:p ≤ rs.length):(∀ n q,valR rs p = .inr (n,q) → p ≤ q ∧ q ≤ rs.length) ∧ ∀ a,valR rs p = .inl a → p ≤ a ∧ a ≤ rs.length:=by
 have hw:=digs_le rs p hp
 unfold valR
 constructor
 ·intro n q h
  split at h
  ·cases h
  split at h
  ·cases h
  split at h
  ·cases h
  injection h with h
  injection h with h1 h2
  omega
 ·intro a h
  split at h
  ·injection h with h;omega
  split at h
  ·injection h with h;omega
  split at h
  ·injection h with h;omega
  cases h
theorem selR_le {num:Bool} {rs:List T} {p:Nat} (hp:p ≤ rs.length):(∀ n q,selR num rs p = .inr (n,q) → p ≤ q ∧ q ≤ rs.length) ∧ ∀ a,selR num rs p = .inl a → p ≤ a ∧ a ≤ rs.length:=by
 have hw:=word_le rs p hp
 unfold selR
 by_cases hn:num = false
 ·rw [if_pos hn]
  exact nameR_le hp
 ·rw [if_neg hn]
  by_cases h61:rs[p]? = some [61]
  ·rw [if_pos h61]
   have hv:=valR_le (rs:=rs) (p:=p + 1) (by have:=lt_of_some h61;omega)
   constructor
   ·intro n q h
    split at h
    ·cases h
    ·rename_i t q' e
     injection h with h
     injection h with h1 h2
     have:=hv.1 t q' e
     omega
   ·intro a h
    split at h
    ·rename_i a' e
     injection h with h
     have:=hv.2 a' e
     omega
    ·cases h
  ·rw [if_neg h61]
   constructor
   ·intro n q h
    split at h
    ·injection h with h
     injection h with h1 h2
     omega
    ·cases h
   ·intro a h
    split at h
    ·cases h
    ·injection h with h;omega
theorem offR_le {rs:List T} {p:Nat} (hp:p ≤ rs.length):(∀ n q,offR rs p = .inr (n,q) → p ≤ q ∧ q ≤ rs.length) ∧ ∀ a,offR rs p = .inl a → p ≤ a ∧ a ≤ rs.length:=by
 unfold offR
 by_cases ho:(word rs p).flatten = offW ∧ rs[p + (word rs p).length]? = some [58]
 ·rw [if_pos ho]
  have hlt:=lt_of_some ho.2
  have hg:=bl_ge rs (p + (word rs p).length + 1)
  have hv:=valR_le (rs:=rs) (p:=bl rs (p + (word rs p).length + 1)) (bl_le rs _ (by omega))
  exact ⟨fun n q h=>by have:=hv.1 n q h;omega,fun a h=>by have:=hv.2 a h;omega⟩
 ·rw [if_neg ho]
  constructor
  ·intro n q h
   injection h with h
   injection h with h1 h2
   omega
  ·intro a h;cases h
theorem said_le (num:Bool):∀ (n:Nat) (L:List T) (q:Bool),L.length < n → (saidGo num q L).2 ≤ L.length:=by
 intro n
 induction n with
 | zero=>intro L q h;omega
 | succ n ih=>
  intro L q hn
  cases L with
  | nil=>simp [saidGo]
  | cons d r=>
   simp only [List.length_cons] at hn ⊢
   by_cases h0:q = false ∧ spec num d = true
   ·rw [h0.1,saidGo_stop num d r h0.2]
    omega
   by_cases h39:d = [39]
   ·subst h39
    cases r with
    | nil=>
     rw [saidGo.eq_def]
     simp only
     rw [if_neg h0,if_neg (by simp)]
     split <;> simp
    | cons e r=>
     simp only [List.length_cons] at hn ⊢
     by_cases he:e = [39]
     ·subst he
      rw [saidGo_two]
      have:=ih r q (by omega)
      simp only
      omega
     ·by_cases hs:q = true ∨ spec num e = true
      ·rw [saidGo_quote num q e r he hs]
       have:=ih (e :: r) (!q) (by simp;omega)
       simp only [List.length_cons] at this ⊢
       omega
      ·have hq:q = false:=by cases q with | false=>rfl | true=>exact absurd (.inl rfl) hs
       have hs':spec num e = false:=by
        cases h:spec num e with
        | false=>rfl
        | true=>exact absurd (.inr h) hs
       subst hq
       rw [saidGo_one num e r he hs']
       have:=ih (e :: r) false (by simp;omega)
       simp only [List.length_cons] at this ⊢
       omega
   ·rw [saidGo_ne num q d r h0 h39]
    have:=ih r q (by omega)
    simp only
    omega
def Fine (rs:List T):Mode → Nat → Res → Prop
 | .msg _ _,p,.ok t q=>Wf false t ∧ In p q t ∧ q ≤ rs.length
 | .arg _,p,.ok t q=>Wf false t ∧ In p q t ∧ q ≤ rs.length
 | .brs _ _ _,p,.okB t e q=>Wf true t ∧ In p e t ∧ e < q ∧ q ≤ rs.length
 | _,_,.bad e a=>(e = 3 ∨ e = 4) ∧ a ≤ rs.length
 | _,_,_=>False
def Pre (rs:List T):Mode → Nat → Prop
 | .arg _,p=>p < rs.length
 | _,p=>p ≤ rs.length
theorem fine_of {rs:List T} {mode:Mode} {p:Nat} {res:Res} (h:Rd rs mode p res):Pre rs mode p → Fine rs mode p res:=by
 induction h with
 | @stop d num p h=>intro hp;exact ⟨trivial,Nat.le_refl _,hp⟩
 | @argB d num p e a h h1 ih=>intro hp;exact ih (lt_of_some h)
 | @argK d num p n q res h h1 h2 ih1 ih2=>
  intro hp
  obtain ⟨a1,a2,a3⟩:=ih1 (lt_of_some h)
  have:=ih2 a3
  cases res with
  | ok t q'=>exact ⟨a1.app this.1,a2.app this.2.1,this.2.2⟩
  | okB t e q'=>exact this
  | bad e a=>exact this
 | @sign d p res h h1 ih=>
  intro hp
  have:=ih (lt_of_some h)
  cases res with
  | ok t q'=>exact ⟨⟨rfl,this.1⟩,this.2.1.mono (Nat.le_succ _),this.2.2⟩
  | okB t e q'=>exact this
  | bad e a=>exact this
 | @said d num p c res h hs h1 ih=>
  intro hp
  have hp':p ≤ rs.length:=hp
  have hle:=said_le num _ (rs.drop p) false (Nat.lt_succ_self _)
  rw [List.length_drop] at hle
  have:=ih (show _ ≤ _ by omega)
  cases res with
  | ok t q'=>exact ⟨⟨rfl,this.1⟩,this.2.1.mono (Nat.le_add_right _ _),this.2.2⟩
  | okB t e q'=>exact this
  | bad e a=>exact this
 | @nameB d p a h=>
  intro hp
  have h1:=bl_le rs (p + 1) hp
  exact ⟨.inl rfl,((nameR_le h1).2 a h).2⟩
 | @simple d p n q h h1=>
  intro hp
  have h2:=bl_le rs (p + 1) hp
  have h3:=(nameR_le h2).1 n q h
  have h4:=bl_ge rs (p + 1)
  have h5:=bl_ge rs q
  have h6:=lt_of_some h1
  exact ⟨⟨rfl,trivial⟩,⟨Nat.le_refl _,show p + 1 ≤ bl rs q + 1 by omega⟩,h6⟩
 | @commaB d p n q h h1 h2=>
  intro hp
  have h2:=bl_le rs (p + 1) hp
  have h3:=(nameR_le h2).1 n q h
  exact ⟨.inl rfl,bl_le rs q h3.2⟩
 | @kindB d p n q k h h2 hk h3=>
  intro hp
  exact ⟨.inl rfl,by rw [hk];exact bl_le rs _ (lt_of_some h2)⟩
 | @numB d p n q k j h h2 hk h3 hj h4=>
  intro hp
  exact ⟨.inl rfl,by rw [hj];exact bl_le rs _ (word_le rs k (by rw [hk];exact bl_le rs _ (lt_of_some h2)))⟩
 | @num d p n q k j h h2 hk h3 hj h4=>
  intro hp
  have a2:=bl_le rs (p + 1) hp
  have a3:=(nameR_le a2).1 n q h
  have a4:=bl_ge rs (p + 1)
  have a5:=bl_ge rs q
  have a6:=bl_ge rs (bl rs q + 1)
  have a7:=bl_ge rs (k + (word rs k).length)
  exact ⟨⟨rfl,trivial⟩,⟨Nat.le_refl _,show p + 1 ≤ j + 1 by omega⟩,lt_of_some h4⟩
 | @argC d p n q k j h h2 hk h3 hj h4=>
  intro hp
  exact ⟨.inl rfl,by rw [hj];exact bl_le rs _ (word_le rs k (by rw [hk];exact bl_le rs _ (lt_of_some h2)))⟩
 | @sel d p n q k j res h h2 hk h3 hj h4 h5 ih=>
  intro hp
  have a2:=bl_le rs (p + 1) hp
  have a3:=(nameR_le a2).1 n q h
  have a4:=bl_ge rs (p + 1)
  have a5:=bl_ge rs q
  have a6:=bl_ge rs (bl rs q + 1)
  have a7:=bl_ge rs (k + (word rs k).length)
  have a8:=bl_ge rs (j + 1)
  have:=ih (bl_le rs _ (lt_of_some h4))
  cases res with
  | ok t q'=>exact this.elim
  | okB t e q'=>
   obtain ⟨b1,b2,b3,b4⟩:=this
   exact ⟨⟨rfl,b1,trivial⟩,⟨Nat.le_refl _,b2.mono (by omega),show e + 1 ≤ q' from b3⟩,b4⟩
  | bad e a=>exact this
 | @offB d p n q k j a h h2 hk h3 hj h4 h5=>
  intro hp
  exact ⟨.inl rfl,((offR_le (bl_le rs _ (lt_of_some h4))).2 a h5).2⟩
 | @plu d p n q k j ord off i res h h2 hk h3 hj h4 h5 h6 ih=>
  intro hp
  have a2:=bl_le rs (p + 1) hp
  have a3:=(nameR_le a2).1 n q h
  have a4:=bl_ge rs (p + 1)
  have a5:=bl_ge rs q
  have a6:=bl_ge rs (bl rs q + 1)
  have a7:=bl_ge rs (k + (word rs k).length)
  have a8:=bl_ge rs (j + 1)
  have a9:=(offR_le (rs:=rs) (p:=bl rs (j + 1)) (bl_le rs (j + 1) (lt_of_some h4))).1 off i h5
  have:=ih a9.2
  cases res with
  | ok t q'=>exact this.elim
  | okB t e q'=>
   obtain ⟨b1,b2,b3,b4⟩:=this
   exact ⟨⟨rfl,b1,trivial⟩,⟨Nat.le_refl _,b2.mono (by omega),show e + 1 ≤ q' from b3⟩,b4⟩
  | bad e a=>exact this
 | @brsEnd d num p h=>
  intro hp
  exact ⟨trivial,bl_ge rs p,Nat.lt_succ_self _,lt_of_some h⟩
 | @brsSel d num first p a h h1=>
  intro hp
  exact ⟨.inl rfl,((selR_le (bl_le rs p hp)).2 a h1).2⟩
 | @brsOpen d num first p w q h h1 h2=>
  intro hp
  exact ⟨.inl rfl,bl_le rs q ((selR_le (bl_le rs p hp)).1 w q h1).2⟩
 | @brsDeep num first p w q h h1 h2=>
  intro hp
  exact ⟨.inr rfl,bl_le rs q ((selR_le (bl_le rs p hp)).1 w q h1).2⟩
 | @brsMsg d num first p w q e a h h1 h2 hd6 h3 ih=>
  intro hp
  exact ih (lt_of_some h2)
 | @brsClose d num first p w q m j h h1 h2 hd6 h3 h4 ih=>
  intro hp
  obtain ⟨b1,b2,b3⟩:=ih (lt_of_some h2)
  exact ⟨.inl rfl,b3⟩
 | @brs d num first p w q m j res h h1 h2 hd6 h3 h4 h5 ih1 ih2=>
  intro hp
  obtain ⟨b1,b2,b3⟩:=ih1 (lt_of_some h2)
  have a1:=bl_ge rs p
  have a2:=(selR_le (bl_le rs p hp)).1 w q h1
  have a3:=bl_ge rs q
  have:=ih2 (lt_of_some h4)
  cases res with
  | ok t q'=>exact this.elim
  | okB t e q'=>
   obtain ⟨c1,c2,c3,c4⟩:=this
   exact ⟨⟨rfl,b1,c1⟩,⟨a1,j + 1,(b2.mono (by omega)).hi (Nat.le_succ _),c2⟩,c3,c4⟩
  | bad e a=>exact this
theorem o_mono {rs:List T} (hc:Cps rs):∀ a b,a < b → b < rs.length + 1 → o rs a < o rs b:=by
 intro a b h hb
 induction b with
 | zero=>omega
 | succ b ih=>
  have hlt:b < rs.length:=by omega
  have h1:=o_succ (List.getElem?_eq_getElem hlt)
  have h2:0 < (rs[b]).length:=List.length_pos_iff.2 (hc _ (List.getElem_mem hlt)).ne
  rcases Nat.lt_or_ge a b with h3 | h3
  ·have:=ih h3 (by omega)
   omega
  ·have:a = b:=by omega
   rw [this]
   omega
end Go.Proofs.YtaepcfidpekflaaGreatDoor.Pg
namespace Go.Proofs.YtaepcfidpekflaaGreatDoor.Pn
def v2 (b0 b1:Nat):Int:=64 * ((b0:Int) - 192) + b1 - 128
def v3 (b0 b1 b2:Nat):Int:=64 * (64 * ((b0:Int) - 224) + b1 - 128) + b2 - 128
def v4 (b0 b1 b2 b3:Nat):Int:=64 * (64 * (64 * ((b0:Int) - 240) + b1 - 128) + b2 - 128) + b3 - 128
abbrev okP (v least:Int):Prop:=least ≤ v ∧ v ≤ 1114111 ∧ (v < 55296 ∨ 57343 < v)
abbrev contP (b:Nat):Prop:=128 ≤ b ∧ b ≤ 191
def szN (n b0 b1 b2 b3:Nat):Nat:=
 if b0 < 128 then 1
 else if b0 < 192 then 0
 else if b0 < 224 then (if 2 ≤ n ∧ contP b1 ∧ okP (v2 b0 b1) 128 then 2 else 0)
 else if b0 < 240 then (if 3 ≤ n ∧ contP b1 ∧ contP b2 ∧ okP (v3 b0 b1 b2) 2048 then 3 else 0)
 else if b0 < 248 then (if 4 ≤ n ∧ contP b1 ∧ contP b2 ∧ contP b3 ∧ okP (v4 b0 b1 b2 b3) 65536 then 4 else 0)
 else 0
theorem sz_fin {n b0 b1 b2 b3 k r t:Nat} (hS:szN n b0 b1 b2 b3 = k) (hD:Lib.decodeN n b0 b1 b2 b3 = (r,t)) (h:k = if r = 65533 ∧ t = 1 then 0 else t):
  szN n b0 b1 b2 b3 = if (Lib.decodeN n b0 b1 b2 b3).1 = 65533 ∧ (Lib.decodeN n b0 b1 b2 b3).2 = 1 then 0 else (Lib.decodeN n b0 b1 b2 b3).2:=by
 rw [hS,hD];exact h
set_option maxHeartbeats 4000000 in
theorem szN_dec (n b0 b1 b2 b3:Nat) (h1:b1 < 256) (h2:b2 < 256) (h3:b3 < 256):
  szN n b0 b1 b2 b3 = if (Lib.decodeN n b0 b1 b2 b3).1 = 65533 ∧ (Lib.decodeN n b0 b1 b2 b3).2 = 1 then 0 else (Lib.decodeN n b0 b1 b2 b3).2:=by
 by_cases c0:b0 < 128
 ·exact sz_fin (k:=1) (r:=b0) (t:=1) (by unfold szN;rw [if_pos c0]) (by unfold Lib.decodeN;rw [if_pos c0]) (by rw [if_neg (by omega)])
 by_cases c1:b0 < 192
 ·exact sz_fin (k:=0) (r:=65533) (t:=1) (by unfold szN;rw [if_neg c0,if_pos c1]) (by unfold Lib.decodeN;rw [if_neg c0,if_neg (by omega),if_neg (by omega),if_neg (by omega)]) rfl
 by_cases c2:b0 < 224
 ·by_cases d:1 < n ∧ b1 / 64 = 2
  ·by_cases e:b0 % 32 * 64 + b1 % 64 ≥ 128
   ·exact sz_fin (k:=2) (t:=2) (by unfold szN contP okP v2;rw [if_neg c0,if_neg c1,if_pos c2,if_pos (by omega)]) (by unfold Lib.decodeN;rw [if_neg c0,if_pos (by omega),if_pos e]) (by rw [if_neg (by omega)])
   ·exact sz_fin (k:=0) (r:=65533) (t:=1) (by unfold szN contP okP v2;rw [if_neg c0,if_neg c1,if_pos c2,if_neg (by omega)]) (by unfold Lib.decodeN;rw [if_neg c0,if_pos (by omega),if_neg e]) rfl
  ·exact sz_fin (k:=0) (r:=65533) (t:=1) (by unfold szN contP okP v2;rw [if_neg c0,if_neg c1,if_pos c2,if_neg (by omega)]) (by unfold Lib.decodeN;rw [if_neg c0,if_neg (by omega),if_neg (by omega),if_neg (by omega)]) rfl
 by_cases c3:b0 < 240
 ·by_cases d:(1 < n ∧ b1 / 64 = 2) ∧ (2 < n ∧ b2 / 64 = 2)
  ·by_cases e:b0 % 16 * 4096 + b1 % 64 * 64 + b2 % 64 ≥ 2048 ∧ (b0 % 16 * 4096 + b1 % 64 * 64 + b2 % 64 < 55296 ∨ (57344 ≤ b0 % 16 * 4096 + b1 % 64 * 64 + b2 % 64 ∧ b0 % 16 * 4096 + b1 % 64 * 64 + b2 % 64 ≤ 1114111))
   ·exact sz_fin (k:=3) (t:=3) (by unfold szN contP okP v3;rw [if_neg c0,if_neg c1,if_neg c2,if_pos c3,if_pos (by omega)]) (by unfold Lib.decodeN;rw [if_neg c0,if_neg (by omega),if_pos (by omega),if_pos e]) (by rw [if_neg (by omega)])
   ·exact sz_fin (k:=0) (r:=65533) (t:=1) (by unfold szN contP okP v3;rw [if_neg c0,if_neg c1,if_neg c2,if_pos c3,if_neg (by omega)]) (by unfold Lib.decodeN;rw [if_neg c0,if_neg (by omega),if_pos (by omega),if_neg e]) rfl
  ·exact sz_fin (k:=0) (r:=65533) (t:=1) (by unfold szN contP okP v3;rw [if_neg c0,if_neg c1,if_neg c2,if_pos c3,if_neg (by omega)]) (by unfold Lib.decodeN;rw [if_neg c0,if_neg (by omega),if_neg (by omega),if_neg (by omega)]) rfl
 by_cases c4:b0 < 248
 ·by_cases d:(1 < n ∧ b1 / 64 = 2) ∧ (2 < n ∧ b2 / 64 = 2) ∧ (3 < n ∧ b3 / 64 = 2)
  ·by_cases e:b0 % 8 * 262144 + b1 % 64 * 4096 + b2 % 64 * 64 + b3 % 64 ≥ 65536 ∧ (b0 % 8 * 262144 + b1 % 64 * 4096 + b2 % 64 * 64 + b3 % 64 < 55296 ∨ (57344 ≤ b0 % 8 * 262144 + b1 % 64 * 4096 + b2 % 64 * 64 + b3 % 64 ∧ b0 % 8 * 262144 + b1 % 64 * 4096 + b2 % 64 * 64 + b3 % 64 ≤ 1114111))
   ·exact sz_fin (k:=4) (t:=4) (by unfold szN contP okP v4;rw [if_neg c0,if_neg c1,if_neg c2,if_neg c3,if_pos c4,if_pos (by omega)]) (by unfold Lib.decodeN;rw [if_neg c0,if_neg (by omega),if_neg (by omega),if_pos (by omega),if_pos e]) (by rw [if_neg (by omega)])
   ·exact sz_fin (k:=0) (r:=65533) (t:=1) (by unfold szN contP okP v4;rw [if_neg c0,if_neg c1,if_neg c2,if_neg c3,if_pos c4,if_neg (by omega)]) (by unfold Lib.decodeN;rw [if_neg c0,if_neg (by omega),if_neg (by omega),if_pos (by omega),if_neg e]) rfl
  ·exact sz_fin (k:=0) (r:=65533) (t:=1) (by unfold szN contP okP v4;rw [if_neg c0,if_neg c1,if_neg c2,if_neg c3,if_pos c4,if_neg (by omega)]) (by unfold Lib.decodeN;rw [if_neg c0,if_neg (by omega),if_neg (by omega),if_neg (by omega)]) rfl
 ·exact sz_fin (k:=0) (r:=65533) (t:=1) (by unfold szN;rw [if_neg c0,if_neg c1,if_neg c2,if_neg c3,if_neg c4]) (by unfold Lib.decodeN;rw [if_neg c0,if_neg (by omega),if_neg (by omega),if_neg (by omega)]) rfl
theorem sz2_yes (n b0 b1 b2 b3:Nat) (h:192 ≤ b0 ∧ b0 < 224) (hy:2 ≤ n ∧ contP b1 ∧ okP (v2 b0 b1) 128):szN n b0 b1 b2 b3 = 2:=by
 unfold szN;rw [if_neg (by omega),if_neg (by omega),if_pos h.2,if_pos hy]
theorem sz2_no (n b0 b1 b2 b3:Nat) (h:192 ≤ b0 ∧ b0 < 224) (hy:¬ (2 ≤ n ∧ contP b1 ∧ okP (v2 b0 b1) 128)):szN n b0 b1 b2 b3 = 0:=by
 unfold szN;rw [if_neg (by omega),if_neg (by omega),if_pos h.2,if_neg hy]
theorem sz3_yes (n b0 b1 b2 b3:Nat) (h:224 ≤ b0 ∧ b0 < 240) (hy:3 ≤ n ∧ contP b1 ∧ contP b2 ∧ okP (v3 b0 b1 b2) 2048):szN n b0 b1 b2 b3 = 3:=by
 unfold szN;rw [if_neg (by omega),if_neg (by omega),if_neg (by omega),if_pos h.2,if_pos hy]
theorem sz3_no (n b0 b1 b2 b3:Nat) (h:224 ≤ b0 ∧ b0 < 240) (hy:¬ (3 ≤ n ∧ contP b1 ∧ contP b2 ∧ okP (v3 b0 b1 b2) 2048)):szN n b0 b1 b2 b3 = 0:=by
 unfold szN;rw [if_neg (by omega),if_neg (by omega),if_neg (by omega),if_pos h.2,if_neg hy]
theorem sz4_yes (n b0 b1 b2 b3:Nat) (h:240 ≤ b0 ∧ b0 < 248) (hy:4 ≤ n ∧ contP b1 ∧ contP b2 ∧ contP b3 ∧ okP (v4 b0 b1 b2 b3) 65536):szN n b0 b1 b2 b3 = 4:=by
 unfold szN;rw [if_neg (by omega),if_neg (by omega),if_neg (by omega),if_neg (by omega),if_pos h.2,if_pos hy]
theorem sz4_no (n b0 b1 b2 b3:Nat) (h:240 ≤ b0 ∧ b0 < 248) (hy:¬ (4 ≤ n ∧ contP b1 ∧ contP b2 ∧ contP b3 ∧ okP (v4 b0 b1 b2 b3) 65536)):szN n b0 b1 b2 b3 = 0:=by
 unfold szN;rw [if_neg (by omega),if_neg (by omega),if_neg (by omega),if_neg (by omega),if_pos h.2,if_neg hy]
theorem sz_bad (n b0 b1 b2 b3:Nat) (h:(128 ≤ b0 ∧ b0 < 192) ∨ 248 ≤ b0):szN n b0 b1 b2 b3 = 0:=by
 unfold szN
 rw [if_neg (by omega)]
 rcases h with h | h
 ·rw [if_pos h.2]
 ·rw [if_neg (by omega),if_neg (by omega),if_neg (by omega),if_neg (by omega)]
def szL (l:List UInt8):Nat:=szN l.length (l.getD 0 0).toNat (l.getD 1 0).toNat (l.getD 2 0).toNat (l.getD 3 0).toNat
theorem szL_dec (l:List UInt8):szL l = if (Lib.decodeL l).1 = 65533 ∧ (Lib.decodeL l).2 = 1 then 0 else (Lib.decodeL l).2:=by
 rw [szL,szN_dec _ _ _ _ _ (UInt8.toNat_lt _) (UInt8.toNat_lt _) (UInt8.toNat_lt _),← Lib.decodeL_N]
theorem szL_le (l:List UInt8) (h:l ≠ []):szL l ≤ l.length:=by
 rw [szL_dec]
 split
 ·omega
 ·exact Lib.decodeL_le l h
def ptsN:Nat → List UInt8 → List (List UInt8)
 | 0,_=>[]
 | n + 1,l=>if l = [] then [] else if szL l = 0 then [] else l.take (szL l) :: ptsN n (l.drop (szL l))
def lenN:Nat → List UInt8 → Nat
 | 0,_=>0
 | n + 1,l=>if l = [] then 0 else if szL l = 0 then 0 else szL l + lenN n (l.drop (szL l))
def pts (l:List UInt8):List (List UInt8):=ptsN l.length l
def ptsLen (l:List UInt8):Nat:=lenN l.length l
def runesN:Nat → List UInt8 → List Int
 | 0,_=>[]
 | n + 1,l=>if l = [] then [] else ((Lib.decodeL l).1:Int) :: runesN n (l.drop (Lib.decodeL l).2)
def runes (l:List UInt8):List Int:=runesN l.length l
theorem lenN_le:∀ (n:Nat) (l:List UInt8),lenN n l ≤ l.length
 | 0,_=>by simp [lenN]
 | n + 1,l=>by
  rw [lenN]
  split
  ·omega
  ·split
   ·omega
   ·rename_i h1 h2
    have:=lenN_le n (l.drop (szL l))
    have:=szL_le l h1
    simp at *
    omega
theorem valid_pts:∀ (n:Nat) (l:List UInt8),l.length ≤ n → (Lib.validD l = true ↔ lenN n l = l.length) ∧ (Lib.validD l = true → ptsN n l = (runesN n l).map Lib.encodeRune)
 | 0,l,h=>by
  have:l = []:=List.eq_nil_of_length_eq_zero (by omega)
  subst this
  simp [lenN,ptsN,runesN,Lib.validD,Lib.validGoD]
 | n + 1,l,h=>by
  by_cases hl:l = []
  ·subst hl;simp [lenN,ptsN,runesN,Lib.validD,Lib.validGoD]
  ·have hpos:0 < l.length:=List.length_pos_iff.2 hl
   rw [lenN,ptsN,runesN,if_neg hl,if_neg hl,if_neg hl,Lib.validD_step l hl]
   by_cases hv:(Lib.decodeL l).1 = 65533 ∧ (Lib.decodeL l).2 = 1
   ·have hz:szL l = 0:=by rw [szL_dec,if_pos hv]
    rw [if_pos hv,if_pos hz,if_pos hz]
    simp
    omega
   ·have hz:szL l = (Lib.decodeL l).2:=by rw [szL_dec,if_neg hv]
    have hw:=Lib.decodeL_width l
    have hle:=Lib.decodeL_le l hl
    rw [if_neg hv,if_neg (by omega),if_neg (by omega),hz]
    have ih:=valid_pts n (l.drop (Lib.decodeL l).2) (by simp;omega)
    refine ⟨?_,fun h2=>?_⟩
    ·rw [ih.1]
     simp
     omega
    ·rw [ih.2 h2,List.map_cons,Lib.encode_decode l hl hv]
theorem valid_len (l:List UInt8):Lib.validD l = true ↔ ptsLen l = l.length:=(valid_pts l.length l (Nat.le_refl _)).1
theorem valid_runes (l:List UInt8) (h:Lib.validD l = true):pts l = (runes l).map Lib.encodeRune:=(valid_pts l.length l (Nat.le_refl _)).2 h
theorem count_runes (s:ByteArray):∀ (n pos:Nat),s.data.toList.length ≤ pos + n → Lib.runeCountFrom s n pos = (runesN n (s.data.toList.drop pos)).length
 | 0,_,_=>rfl
 | n + 1,pos,h=>by
  rw [Lib.runeCountFrom,runesN]
  by_cases hp:pos < s.size
  ·have hne:s.data.toList.drop pos ≠ []:=by
    intro e
    have:=congrArg List.length e
    rw [List.length_drop,← Lib.size_eq] at this
    simp at this
    omega
   rw [if_pos hp,if_neg hne,List.length_cons,Lib.decodeL_drop,List.drop_drop,count_runes s n (pos + (Utf8.decode s pos).2) ?_]
   ·omega
   ·have:=Lib.decodeL_width (s.data.toList.drop pos)
    rw [Lib.decodeL_drop] at this
    omega
  ·rw [if_neg hp,List.drop_eq_nil_of_le (by rw [← Lib.size_eq];omega)]
   simp
theorem count_eq (s:ByteArray):Lib.runeCount s = (runes s.data.toList).length:=by
 rw [Lib.runeCount,Lib.size_eq,count_runes s _ 0 (by omega)]
 rfl
end Go.Proofs.YtaepcfidpekflaaGreatDoor.Pn
namespace Go.Proofs.YtaepcfidpekflaaGreatDoor.Pg
open Go.Proofs.YtaepcfidpekflaaGreatDoor
theorem szN_cases (n b0 b1 b2 b3:Nat):Pn.szN n b0 b1 b2 b3 = 0 ∨
  (Pn.szN n b0 b1 b2 b3 = 1 ∧ b0 < 128) ∨
  (Pn.szN n b0 b1 b2 b3 = 2 ∧ (192 ≤ b0 ∧ b0 < 224) ∧ 2 ≤ n ∧ Pn.contP b1 ∧ Pn.okP (Pn.v2 b0 b1) 128) ∨
  (Pn.szN n b0 b1 b2 b3 = 3 ∧ (224 ≤ b0 ∧ b0 < 240) ∧ 3 ≤ n ∧ Pn.contP b1 ∧ Pn.contP b2 ∧ Pn.okP (Pn.v3 b0 b1 b2) 2048) ∨
  (Pn.szN n b0 b1 b2 b3 = 4 ∧ (240 ≤ b0 ∧ b0 < 248) ∧ 4 ≤ n ∧ Pn.contP b1 ∧ Pn.contP b2 ∧ Pn.contP b3 ∧ Pn.okP (Pn.v4 b0 b1 b2 b3) 65536):=by
 by_cases c0:b0 < 128
 ·exact .inr (.inl ⟨by unfold Pn.szN;rw [if_pos c0],c0⟩)
 by_cases c1:b0 < 192 ∨ 248 ≤ b0
 ·exact .inl (Pn.sz_bad n b0 b1 b2 b3 (by omega))
 by_cases c2:b0 < 224
 ·by_cases d:2 ≤ n ∧ Pn.contP b1 ∧ Pn.okP (Pn.v2 b0 b1) 128
  ·exact .inr (.inr (.inl ⟨Pn.sz2_yes n b0 b1 b2 b3 (by omega) d,by omega,d⟩))
  ·exact .inl (Pn.sz2_no n b0 b1 b2 b3 (by omega) d)
 by_cases c3:b0 < 240
 ·by_cases d:3 ≤ n ∧ Pn.contP b1 ∧ Pn.contP b2 ∧ Pn.okP (Pn.v3 b0 b1 b2) 2048
  ·exact .inr (.inr (.inr (.inl ⟨Pn.sz3_yes n b0 b1 b2 b3 (by omega) d,by omega,d⟩)))
  ·exact .inl (Pn.sz3_no n b0 b1 b2 b3 (by omega) d)
 ·by_cases d:4 ≤ n ∧ Pn.contP b1 ∧ Pn.contP b2 ∧ Pn.contP b3 ∧ Pn.okP (Pn.v4 b0 b1 b2 b3) 65536
  ·exact .inr (.inr (.inr (.inr ⟨Pn.sz4_yes n b0 b1 b2 b3 (by omega) d,by omega,d⟩)))
  ·exact .inl (Pn.sz4_no n b0 b1 b2 b3 (by omega) d)
theorem szL_any (l:T) (h:Pn.szL l ≠ 0) (hne:l ≠ []) (r:T):Pn.szL (l.take (Pn.szL l) ++ r) = Pn.szL l ∧ Cp (l.take (Pn.szL l)):=by
 have hle:=Pn.szL_le l hne
 unfold Pn.szL at h hle ⊢
 rcases szN_cases l.length (l.getD 0 0).toNat (l.getD 1 0).toNat (l.getD 2 0).toNat (l.getD 3 0).toNat with h0 | ⟨h0,h1⟩ | ⟨h0,h1,h2,h3,h4⟩ | ⟨h0,h1,h2,h3,h4,h5⟩ | ⟨h0,h1,h2,h3,h4,h5,h6⟩
 ·exact absurd h0 h
 all_goals rw [h0] at hle ⊢
 ·obtain ⟨a,l',rfl⟩:∃ a l',l = a :: l':=by
   cases l with
   | nil=>exact absurd rfl hne
   | cons a l'=>exact ⟨a,l',rfl⟩
  refine ⟨?_,.inl ⟨a,rfl,h1⟩⟩
  unfold Pn.szN
  rw [if_pos (by simpa using h1)]
 ·obtain ⟨a,b,l',rfl⟩:∃ a b l',l = a :: b :: l':=by
   match l,hle with
   | a :: b :: l',_=>exact ⟨a,b,l',rfl⟩
  simp at h1 h3 h4
  refine ⟨?_,.inr ⟨by simp,?_⟩⟩
  ·refine Pn.sz2_yes _ _ _ _ _ (by simpa using h1) ⟨by simp,by simpa using h3,by simpa using h4⟩
  ·intro c hc
   unfold Pn.contP at h3
   simp at hc
   rcases hc with rfl | rfl <;> omega
 ·obtain ⟨a,b,c,l',rfl⟩:∃ a b c l',l = a :: b :: c :: l':=by
   match l,hle with
   | a :: b :: c :: l',_=>exact ⟨a,b,c,l',rfl⟩
  simp at h1 h3 h4 h5
  refine ⟨?_,.inr ⟨by simp,?_⟩⟩
  ·refine Pn.sz3_yes _ _ _ _ _ (by simpa using h1) ⟨by simp,by simpa using h3,by simpa using h4,by simpa using h5⟩
  ·intro c hc
   unfold Pn.contP at h3 h4
   simp at hc
   rcases hc with rfl | rfl | rfl <;> omega
 ·obtain ⟨a,b,c,d,l',rfl⟩:∃ a b c d l',l = a :: b :: c :: d :: l':=by
   match l,hle with
   | a :: b :: c :: d :: l',_=>exact ⟨a,b,c,d,l',rfl⟩
  simp at h1 h3 h4 h5 h6
  refine ⟨?_,.inr ⟨by simp,?_⟩⟩
  ·refine Pn.sz4_yes _ _ _ _ _ (by simpa using h1) ⟨by simp,by simpa using h3,by simpa using h4,by simpa using h5,by simpa using h6⟩
  ·intro c hc
   unfold Pn.contP at h3 h4 h5
   simp at hc
   rcases hc with rfl | rfl | rfl | rfl <;> omega
def Pts (rs:List T):Prop:=∀ c ∈ rs,Cp c ∧ ∀ r,Pn.szL (c ++ r) = c.length
theorem ptsN_pts:∀ (n:Nat) (l:T),Pts (Pn.ptsN n l) ∧ (Pn.ptsN n l).flatten = l.take (Pn.lenN n l):=by
 intro n
 induction n with
 | zero=>intro l;exact ⟨fun c h=>by simp [Pn.ptsN] at h,by simp [Pn.ptsN,Pn.lenN]⟩
 | succ n ih=>
  intro l
  rw [Pn.ptsN,Pn.lenN]
  by_cases hne:l = []
  ·rw [if_pos hne,if_pos hne]
   exact ⟨fun c h=>by simp at h,by simp⟩
  rw [if_neg hne,if_neg hne]
  by_cases h0:Pn.szL l = 0
  ·rw [if_pos h0,if_pos h0]
   exact ⟨fun c h=>by simp at h,by simp⟩
  rw [if_neg h0,if_neg h0]
  have hle:=Pn.szL_le l hne
  obtain ⟨i1,i2⟩:=ih (l.drop (Pn.szL l))
  constructor
  ·intro c hc
   rcases List.mem_cons.1 hc with rfl | hc
   ·refine ⟨(szL_any l h0 hne []).2,fun r=>?_⟩
    rw [(szL_any l h0 hne r).1,List.length_take,Nat.min_eq_left hle]
   ·exact i1 c hc
  ·rw [List.flatten_cons,i2,List.take_add]
theorem pts_of (l:T) (h:Pn.ptsLen l = l.length):Pts (Pn.pts l) ∧ (Pn.pts l).flatten = l:=by
 obtain ⟨h1,h2⟩:=ptsN_pts l.length l
 refine ⟨h1,?_⟩
 show (Pn.ptsN l.length l).flatten = l
 rw [h2]
 unfold Pn.ptsLen at h
 rw [h,List.take_length]
theorem Pts.cps {rs:List T} (h:Pts rs):Cps rs:=fun c hc=>(h c hc).1
theorem pts_flat:∀ (rs:List T) (n:Nat),Pts rs → rs.flatten.length ≤ n → Pn.ptsN n rs.flatten = rs ∧ Pn.lenN n rs.flatten = rs.flatten.length:=by
 intro rs
 induction rs with
 | nil=>intro n _ _;cases n <;> simp [Pn.ptsN,Pn.lenN]
 | cons c rs ih=>
  intro n h hn
  obtain ⟨h1,h2⟩:=h c (by simp)
  have hcl:0 < c.length:=List.length_pos_iff.2 h1.ne
  rw [List.flatten_cons] at hn ⊢
  simp only [List.length_append] at hn
  obtain ⟨n,rfl⟩:∃ n',n = n' + 1:=⟨n - 1,by omega⟩
  have hs:=h2 rs.flatten
  have hne:c ++ rs.flatten ≠ []:=by simp [h1.ne]
  obtain ⟨i1,i2⟩:=ih n (fun d hd=>h d (by simp [hd])) (by omega)
  rw [Pn.ptsN,Pn.lenN,if_neg hne,if_neg hne,hs,if_neg (by omega),if_neg (by omega),List.take_left,List.drop_left,i1,i2]
  simp
theorem pts_ahead {rs:List T} (h:Pts rs) (a:Nat) (ha:a ≤ rs.length):(Pn.pts (rs.flatten.take (o rs a))).length = a:=by
 have e:rs.flatten.take (o rs a) = (rs.take a).flatten:=by
  unfold o
  conv=>lhs;rw [← List.take_append_drop a rs,List.flatten_append]
  rw [List.take_append_drop,List.take_left]
 rw [e]
 unfold Pn.pts
 rw [(pts_flat (rs.take a) _ (fun c hc=>h c (List.mem_of_mem_take hc)) (Nat.le_refl _)).1]
 simp
 omega
end Go.Proofs.YtaepcfidpekflaaGreatDoor.Pg
