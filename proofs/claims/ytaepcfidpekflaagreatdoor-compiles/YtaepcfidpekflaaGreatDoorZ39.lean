/-
  Several texts in one (Jm, Jp, Jr). By the verifier.
-/
import Derived.Test.YtaepcfidpekflaaGreatDoorZ14
import Derived.Test.YtaepcfidpekflaaGreatDoorZ15
import Derived.Test.YtaepcfidpekflaaGreatDoorZ25
namespace Go.Proofs.YtaepcfidpekflaaGreatDoor.Dk
def faultsFrom (l:List Mark):Nat → Nat → Nat × Nat → Nat × Nat
 | 0,_,st=>st
 | g + 1,n,st=>faultsFrom l g (n + 1) ((candsAt l n).foldl upd st)
theorem faults_from (l:List Mark):faults l = faultsFrom l l.length 0 (0,0):=by
 have h:∀ (g n:Nat) (st:Nat × Nat),((List.range' n g).flatMap (candsAt l)).foldl upd st = faultsFrom l g n st:=by
  intro g
  induction g with
  | zero=>intro n st;rfl
  | succ g ih=>
   intro n st
   rw [List.range'_succ,List.flatMap_cons,List.foldl_append,ih]
   rfl
 rw [← h,faults,List.range_eq_range']
theorem cands_some {l:List Mark} {n:Nat} {m:Mark} (h:l[n]? = some m) (st:Nat × Nat):
  (candsAt l n).foldl upd st = if m.kind = 40 then (othC l n (brsAt l n)).foldl upd ((twGo l [] (brsAt l n)).foldl upd ((kindC (l.take n) m).foldl upd st)) else (kindC (l.take n) m).foldl upd st:=by
 unfold candsAt
 rw [h]
 simp only
 split
 ·rw [List.foldl_append,List.foldl_append]
 ·rw [List.append_nil]
theorem kind_none {P:List Mark} {m:Mark} (h:sortM m = 0 ∨ firstK m.name P = 0) (st:Nat × Nat):(kindC P m).foldl upd st = st:=by
 unfold kindC
 rw [if_neg (fun e=>h.elim e.1 e.2.1)]
 rfl
theorem kind_same {P:List Mark} {m:Mark} (h:firstK m.name P = sortM m) (st:Nat × Nat):(kindC P m).foldl upd st = st:=by
 unfold kindC
 rw [if_neg (fun e=>e.2.2 h)]
 rfl
theorem kind_other {P:List Mark} {m:Mark} (h0:sortM m ≠ 0) (h1:firstK m.name P ≠ 0) (h2:firstK m.name P ≠ sortM m) (st:Nat × Nat):(kindC P m).foldl upd st = if st.1 = 0 ∨ m.at_ < st.2 then (5,m.at_) else st:=by
 unfold kindC
 rw [if_pos ⟨h0,h1,h2⟩]
 rfl
theorem first_skip {n:T} {m:Mark} {r:List Mark} (h:sortM m = 0 ∨ m.name ≠ n):firstK n (m :: r) = firstK n r:=by
 rw [firstK,if_neg (fun e=>h.elim e.1 (fun h=>h e.2))]
theorem first_hit {n:T} {m:Mark} {r:List Mark} (h:sortM m ≠ 0) (h2:m.name = n):firstK n (m :: r) = sortM m:=by
 rw [firstK,if_pos ⟨h,h2⟩]
theorem brGo_lt (l:List Mark) (E:Nat):∀ (g n x:Nat),x ∈ brGo l E g n → x < E:=by
 intro g
 induction g with
 | zero=>intro n x h;cases h
 | succ g ih=>
  intro n x h
  rw [brGo] at h
  split at h
  ·rcases List.mem_cons.1 h with rfl | h'
   ·assumption
   ·exact ih _ _ h'
  ·cases h
theorem brGo_len (l:List Mark) (E:Nat):∀ (g n:Nat),(brGo l E g n).length ≤ g:=by
 intro g
 induction g with
 | zero=>intro n;exact Nat.le_refl _
 | succ g ih=>
  intro n
  rw [brGo]
  split
  ·have:=ih (endAt l n + 1)
   rw [List.length_cons]
   omega
  ·simp
def same (l:List Mark) (a:Nat) (seen:List Nat):List (Nat × Nat):=(seen.filter (fun b=>textAt l a = textAt l b)).map (fun _=>(7,placeAt l a))
theorem same_step (l:List Mark) (a b:Nat) (r:List Nat) (st:Nat × Nat):(same l a (b :: r)).foldl upd st = (same l a r).foldl upd (if textAt l a = textAt l b then (if st.1 = 0 ∨ placeAt l a < st.2 then (7,placeAt l a) else st) else st):=by
 unfold same
 by_cases h:textAt l a = textAt l b
 ·rw [List.filter_cons_of_pos (by simpa using h),List.map_cons,List.foldl_cons,if_pos h]
  rfl
 ·rw [List.filter_cons_of_neg (by simpa using h),if_neg h]
theorem tw_step (l:List Mark) (seen:List Nat) (a:Nat) (r:List Nat) (st:Nat × Nat):(twGo l seen (a :: r)).foldl upd st = (twGo l (seen ++ [a]) r).foldl upd ((same l a seen).foldl upd st):=by
 rw [twGo,List.foldl_append]
 rfl
end Go.Proofs.YtaepcfidpekflaaGreatDoor.Dk
namespace Go.Proofs.YtaepcfidpekflaaGreatDoor.Pg
open Go.Proofs.YtaepcfidpekflaaGreatDoor
theorem ends_in {o:Nat → Nat}:∀ (t:Tr) (P Q:List Dk.Mark) (i:Nat) (m:Dk.Mark),P.length ≤ i → i < P.length + (flat o t).length → (P ++ (flat o t ++ Q))[i]? = some m → m.kind = 40 → Dk.endAt (P ++ (flat o t ++ Q)) i < P.length + (flat o t).length:=by
 intro t
 have step:∀ (r:Tr) (ih:∀ (P Q:List Dk.Mark) (i:Nat) (m:Dk.Mark),P.length ≤ i → i < P.length + (flat o r).length → (P ++ (flat o r ++ Q))[i]? = some m → m.kind = 40 → Dk.endAt (P ++ (flat o r ++ Q)) i < P.length + (flat o r).length) (x:Dk.Mark) (hx:x.kind ≠ 40) (P Q:List Dk.Mark) (i:Nat) (m:Dk.Mark),P.length ≤ i → i < P.length + (x :: flat o r).length → (P ++ ((x :: flat o r) ++ Q))[i]? = some m → m.kind = 40 → Dk.endAt (P ++ ((x :: flat o r) ++ Q)) i < P.length + (x :: flat o r).length:=by
  intro r ih x hx P Q i m h1 h2 h3 h4
  have e:P ++ ((x :: flat o r) ++ Q) = (P ++ [x]) ++ (flat o r ++ Q):=by simp
  by_cases hi:i = P.length
  ·subst hi
   rw [List.cons_append,at_app] at h3
   injection h3 with h3
   rw [h3] at hx
   exact absurd h4 hx
  ·rw [e] at h3 ⊢
   have:=ih (P ++ [x]) Q i m (by simp;omega) (by simp at h2 ⊢;omega) h3 h4
   simp at this ⊢
   omega
 have open_:∀ (bs r:Tr) (ih1:∀ (P Q:List Dk.Mark) (i:Nat) (m:Dk.Mark),P.length ≤ i → i < P.length + (flat o bs).length → (P ++ (flat o bs ++ Q))[i]? = some m → m.kind = 40 → Dk.endAt (P ++ (flat o bs ++ Q)) i < P.length + (flat o bs).length) (ih2:∀ (P Q:List Dk.Mark) (i:Nat) (m:Dk.Mark),P.length ≤ i → i < P.length + (flat o r).length → (P ++ (flat o r ++ Q))[i]? = some m → m.kind = 40 → Dk.endAt (P ++ (flat o r ++ Q)) i < P.length + (flat o r).length) (x c:Dk.Mark) (hx:Dk.delta x = 1) (hc:Dk.delta c = -1) (hk:c.kind ≠ 40) (P Q:List Dk.Mark) (i:Nat) (m:Dk.Mark),P.length ≤ i → i < P.length + (x :: (flat o bs ++ c :: flat o r)).length → (P ++ ((x :: (flat o bs ++ c :: flat o r)) ++ Q))[i]? = some m → m.kind = 40 → Dk.endAt (P ++ ((x :: (flat o bs ++ c :: flat o r)) ++ Q)) i < P.length + (x :: (flat o bs ++ c :: flat o r)).length:=by
  intro bs r ih1 ih2 x c hx hc hk P Q i m h1 h2 h3 h4
  have e0:P ++ ((x :: (flat o bs ++ c :: flat o r)) ++ Q) = P ++ x :: (flat o bs ++ c :: (flat o r ++ Q)):=by simp
  have e1:P ++ ((x :: (flat o bs ++ c :: flat o r)) ++ Q) = (P ++ [x]) ++ (flat o bs ++ (c :: (flat o r ++ Q))):=by simp
  have e2:P ++ ((x :: (flat o bs ++ c :: flat o r)) ++ Q) = (P ++ x :: flat o bs) ++ ((c :: flat o r) ++ Q):=by simp
  have L:(x :: (flat o bs ++ c :: flat o r)).length = (flat o bs).length + (flat o r).length + 2:=by simp;omega
  rw [L] at h2 ⊢
  by_cases hi:i = P.length
  ·subst hi
   rw [e0,endAt_open hx hc]
   omega
  ·by_cases hj:i < P.length + 1 + (flat o bs).length
   ·rw [e1] at h3 ⊢
    have:=ih1 (P ++ [x]) _ i m (by simp;omega) (by simp;omega) h3 h4
    simp at this ⊢
    omega
   ·rw [e2] at h3 ⊢
    have:=step r ih2 c hk (P ++ x :: flat o bs) Q i m (by simp;omega) (by simp;omega) h3 h4
    simp at this ⊢
    omega
 induction t with
 | nil=>intro P Q i m h1 h2;simp [flat] at h2;omega
 | text t r ih=>exact step r ih _ (by simp)
 | sign r ih=>exact step r ih _ (by simp)
 | simple n a r ih=>exact step r ih _ (by simp)
 | num n a r ih=>exact step r ih _ (by simp)
 | sel n a bs e r ih1 ih2=>exact open_ bs r ih1 ih2 _ _ rfl rfl (by simp)
 | plu n a ord off bs e r ih1 ih2=>exact open_ bs r ih1 ih2 _ _ rfl rfl (by simp)
 | br w a m r ih1 ih2=>exact open_ m r ih1 ih2 _ _ rfl rfl (by simp)
theorem ends_flat {o:Nat → Nat} (t:Tr) (i:Nat) (m:Dk.Mark) (h:(flat o t)[i]? = some m) (hk:m.kind = 40):Dk.endAt (flat o t) i < (flat o t).length:=by
 have hi:i < (flat o t).length:=by
  rcases Nat.lt_or_ge i (flat o t).length with h' | h'
  ·exact h'
  ·rw [List.getElem?_eq_none h'] at h;cases h
 have:=ends_in (o:=o) t [] [] i m (Nat.zero_le _) (by simpa using hi) (by simpa using h) hk
 simpa using this
end Go.Proofs.YtaepcfidpekflaaGreatDoor.Pg
namespace Go.Proofs.YtaepcfidpekflaaGreatDoor.Dk
def readS (s:T):List Mark × Nat × Nat:=
 if 1000 < s.length then ([],1,0)
 else if Pn.ptsLen s < s.length then ([],2,(Pn.pts s).length)
 else if (marks s).err ≠ 0 then ([],(marks s).err,(Pn.pts (s.take (marks s).place)).length)
 else if (faults (marks s).out).1 ≠ 0 then ([],(faults (marks s).out).1,(Pn.pts (s.take (faults (marks s).out).2)).length)
 else ((marks s).out,0,0)
def ReadOk (s:T):Prop:=s.length ≤ 1000 → Pn.ptsLen s = s.length → (marks s).place ≤ s.length ∧ ((marks s).err = 0 → (marks s).out.length ≤ 3016 ∧ (∀ i m,(marks s).out[i]? = some m → m.kind = 40 → endAt (marks s).out i < (marks s).out.length) ∧ (faults (marks s).out).2 ≤ s.length)
end Go.Proofs.YtaepcfidpekflaaGreatDoor.Dk
namespace Go.Proofs.YtaepcfidpekflaaGreatDoor.Pg
open Go.Proofs.YtaepcfidpekflaaGreatDoor
def Fk (P P':List Dk.Mark):Prop:=∀ n,Dk.firstK n P = Dk.firstK n P'
theorem firstK_app (n:T) (P Q:List Dk.Mark):Dk.firstK n (P ++ Q) = if Dk.firstK n P = 0 then Dk.firstK n Q else Dk.firstK n P:=by
 induction P with
 | nil=>simp [Dk.firstK]
 | cons m P ih=>
  rw [List.cons_append,Dk.firstK,Dk.firstK]
  by_cases h:Dk.sortM m ≠ 0 ∧ m.name = n
  ·rw [if_pos h,if_pos h,if_neg h.1]
  ·rw [if_neg h,if_neg h,ih]
theorem Fk.app {P P' Q Q':List Dk.Mark} (h:Fk P P') (h2:Fk Q Q'):Fk (P ++ Q) (P' ++ Q'):=fun n=>by rw [firstK_app,firstK_app,h n,h2 n]
theorem Fk.one {m m':Dk.Mark} (h:Dk.sortM m = Dk.sortM m') (h2:m.name = m'.name):Fk [m] [m']:=fun n=>by simp only [Dk.firstK,h,h2]
theorem Fk.flat (o o':Nat → Nat):∀ t:Tr,Fk (flat o t) (flat o' t):=by
 intro t
 induction t with
 | nil=>exact fun n=>rfl
 | text t r ih=>exact Fk.app (Fk.one rfl rfl) ih
 | sign r ih=>exact Fk.app (Fk.one rfl rfl) ih
 | simple n a r ih=>exact Fk.app (Fk.one rfl rfl) ih
 | num n a r ih=>exact Fk.app (Fk.one rfl rfl) ih
 | sel n a bs e r ih1 ih2=>exact Fk.app (Fk.one rfl rfl) (Fk.app ih1 (Fk.app (Fk.one rfl rfl) ih2))
 | plu n a ord off bs e r ih1 ih2=>exact Fk.app (Fk.one rfl rfl) (Fk.app ih1 (Fk.app (Fk.one rfl rfl) ih2))
 | br w a m r ih1 ih2=>exact Fk.app (P:=[{ kind:=91,text:=w,at_:=o a }]) (P':=[{ kind:=91,text:=w,at_:=o' a }]) (Fk.one rfl rfl) (Fk.app ih1 (Fk.app (P:=[{ kind:=93 }]) (P':=[{ kind:=93 }]) (Fk.one rfl rfl) ih2))
theorem kindBad_o {P P':List Dk.Mark} {m m':Dk.Mark} (h:Fk P P') (h1:Dk.sortM m = Dk.sortM m') (h2:m.name = m'.name):kindBad P m ↔ kindBad P' m':=by
 rw [kindBad_iff, kindBad_iff]
 rw [h,h1,h2]
theorem ck_o (o o':Nat → Nat):∀ (t:Tr) (P P':List Dk.Mark) (seen:List T),Fk P P' → ck o P seen t = ck o' P' seen t:=by
 intro t
 induction t with
 | nil=>intro P P' seen h;rfl
 | text t r ih=>intro P P' seen h;exact ih _ _ _ (h.app (Fk.one rfl rfl))
 | sign r ih=>intro P P' seen h;exact ih _ _ _ (h.app (Fk.one rfl rfl))
 | simple n a r ih=>intro P P' seen h;exact ih _ _ _ (h.app (Fk.one rfl rfl))
 | num n a r ih=>
  intro P P' seen h
  have hk:=kindBad_o (m:=nodeM o (.num n a r)) (m':=nodeM o' (.num n a r)) h rfl rfl
  have hr:=ih _ _ seen (h.app (Fk.one (m:=nodeM o (.num n a r)) (m':=nodeM o' (.num n a r)) rfl rfl))
  rw [ck,ck,hr]
  by_cases hb:kindBad P (nodeM o (.num n a r))
  ·rw [if_pos hb,if_pos (hk.1 hb)]
  ·rw [if_neg hb,if_neg (fun h=>hb (hk.2 h))]
 | sel n a bs e r ih1 ih2=>
  intro P P' seen h
  have hk:=kindBad_o (m:=nodeM o (.sel n a bs e r)) (m':=nodeM o' (.sel n a bs e r)) h rfl rfl
  have h1:=ih1 _ _ [] (h.app (Fk.one (m:=nodeM o (.sel n a bs e r)) (m':=nodeM o' (.sel n a bs e r)) rfl rfl))
  have h2:=ih2 _ _ seen (h.app (Fk.flat o o' (.sel n a bs e .nil)))
  rw [ck,ck,h1,h2]
  by_cases hb:kindBad P (nodeM o (.sel n a bs e r))
  ·rw [if_pos hb,if_pos (hk.1 hb)]
  ·rw [if_neg hb,if_neg (fun h=>hb (hk.2 h))]
 | plu n a ord off bs e r ih1 ih2=>
  intro P P' seen h
  have hk:=kindBad_o (m:=nodeM o (.plu n a ord off bs e r)) (m':=nodeM o' (.plu n a ord off bs e r)) h rfl rfl
  have h1:=ih1 _ _ [] (h.app (Fk.one (m:=nodeM o (.plu n a ord off bs e r)) (m':=nodeM o' (.plu n a ord off bs e r)) rfl rfl))
  have h2:=ih2 _ _ seen (h.app (Fk.flat o o' (.plu n a ord off bs e .nil)))
  rw [ck,ck,h1,h2]
  by_cases hb:kindBad P (nodeM o (.plu n a ord off bs e r))
  ·rw [if_pos hb,if_pos (hk.1 hb)]
  ·rw [if_neg hb,if_neg (fun h=>hb (hk.2 h))]
 | br w a m r ih1 ih2=>
  intro P P' seen h
  have h1:=ih1 (P ++ [{ kind:=91,text:=w,at_:=o a }]) (P' ++ [{ kind:=91,text:=w,at_:=o' a }]) [] (h.app (Fk.one rfl rfl))
  have h2:=ih2 _ _ (seen ++ [w]) (h.app (Fk.flat o o' (.br w a m .nil)))
  rw [ck,ck,h1,h2]
theorem ck_in {o:Nat → Nat} {N:Nat} (mono:∀ a b,a < b → b < N → o a < o b) {t:Tr} (hw:Wf false t) (h:In 0 N t) {e a:Nat} (hk:ck o [] [] t = some (e,a)):a < N ∧ e ≠ 0:=by
 have hl:=ck_least mono t false [] [] 0 N (Nat.le_refl _) hw h
 rw [hk] at hl
 exact ⟨hl.2.2.1,hl.2.2.2.1⟩
theorem tree_marks {s:T} (h1:Pn.ptsLen s = s.length) {t:Tr} (h2:Whole (Pn.pts s) (.inr t)):
  (Dk.marks s).err = 0 ∧ (Dk.marks s).place = 0 ∧ (Dk.marks s).out = flat (o (Pn.pts s)) t ∧ (flat (o (Pn.pts s)) t).length ≤ 3 * s.length + 16 ∧
  Dk.faults (flat (o (Pn.pts s)) t) = (match ck id [] [] t with | none=>(0,0) | some f=>(f.1,o (Pn.pts s) f.2)) ∧ (∀ e a,ck id [] [] t = some (e,a) → a ≤ (Pn.pts s).length ∧ e ≠ 0):=by
 obtain ⟨hp,hf⟩:=pts_of s h1
 obtain ⟨w1,w2,w3,w4,w5,w6⟩:=whole_marks hp.cps h2
 have hm:=marks_ok hp.cps w1 (List.getElem?_eq_none (Nat.le_refl _))
 rw [hf] at hm w2
 have hmono:∀ a b,a < b → b < (Pn.pts s).length → o (Pn.pts s) a < o (Pn.pts s) b:=fun a b h h'=>o_mono hp.cps a b h (by omega)
 rw [hm]
 refine ⟨rfl,rfl,rfl,by rw [flat_len_o];exact w2,?_,?_⟩
 ·rw [faults_flat hmono t w3 w6,ck_o (o (Pn.pts s)) id t [] [] [] (fun n=>rfl)]
  cases ck id [] [] t <;> rfl
 ·intro e a hk
  rw [ck_o id (o (Pn.pts s)) t [] [] [] (fun n=>rfl)] at hk
  have:=ck_in hmono w3 w6 hk
  exact ⟨by omega,this.2⟩
theorem bad_marks {s:T} (h1:Pn.ptsLen s = s.length) {e a:Nat} (h2:Whole (Pn.pts s) (.inl (e,a))):Bad (Dk.marks s) e (o (Pn.pts s) a) ∧ a ≤ (Pn.pts s).length:=by
 obtain ⟨hp,hf⟩:=pts_of s h1
 cases h2 with
 | bad h=>
  have:=marks_bad hp.cps h
  rw [hf] at this
  exact ⟨this,(fine_of h (Nat.zero_le _)).2⟩
 | brace h hq=>
  have:=marks_brace hp.cps h hq
  rw [hf] at this
  refine ⟨this,?_⟩
  rcases Nat.lt_or_ge a (Pn.pts s).length with h' | h'
  ·omega
  ·rw [List.getElem?_eq_none h'] at hq;cases hq
theorem ahead {s:T} (h1:Pn.ptsLen s = s.length) {a:Nat} (ha:a ≤ (Pn.pts s).length):(Pn.pts (s.take (o (Pn.pts s) a))).length = a:=by
 obtain ⟨hp,hf⟩:=pts_of s h1
 have:=pts_ahead hp a ha
 rw [hf] at this
 exact this
theorem read_ok {s:T} {r:Sum (Nat × Nat) Tr} (h:PatR s r):Dk.ReadOk s:=by
 intro hl hp
 obtain ⟨hpt,hf⟩:=pts_of s hp
 have hole:∀ a,o (Pn.pts s) a ≤ s.length:=fun a=>by have:=o_le (Pn.pts s) a;rw [hf] at this;exact this
 have tree:∀ t,Whole (Pn.pts s) (.inr t) → (Dk.marks s).place ≤ s.length ∧ ((Dk.marks s).err = 0 → (Dk.marks s).out.length ≤ 3016 ∧ (∀ i m,(Dk.marks s).out[i]? = some m → m.kind = 40 → Dk.endAt (Dk.marks s).out i < (Dk.marks s).out.length) ∧ (Dk.faults (Dk.marks s).out).2 ≤ s.length):=by
  intro t ht
  obtain ⟨_,g2,g3,g4,g5,g6⟩:=tree_marks hp ht
  rw [g2,g3]
  refine ⟨Nat.zero_le _,fun _=>⟨by omega,ends_flat t,?_⟩⟩
  rw [g5]
  cases hk:ck id [] [] t with
  | none=>exact Nat.zero_le _
  | some f=>exact hole _
 cases h with
 | long h=>omega
 | text h h1=>omega
 | bad h h1 h2=>
  obtain ⟨⟨g1,g2,g3⟩,_⟩:=bad_marks h1 h2
  rw [g1,g2]
  exact ⟨hole _,fun h=>absurd h g3⟩
 | chk h h1 h2 h3=>exact tree _ h2
 | ok h h1 h2 h3=>exact tree _ h2
theorem read_bad {s:T} {e a:Nat} (h:PatR s (.inl (e,a))):Dk.readS s = ([],e,a) ∧ e ≠ 0:=by
 unfold Dk.readS
 cases h with
 | long h=>rw [if_pos h];exact ⟨rfl,by decide⟩
 | text h h1=>rw [if_neg (by omega),if_pos h1];exact ⟨rfl,by decide⟩
 | bad h h1 h2=>
  obtain ⟨⟨g1,g2,g3⟩,g4⟩:=bad_marks h1 h2
  rw [if_neg (by omega),if_neg (by omega),g1,g2,if_pos g3,ahead h1 g4]
  exact ⟨rfl,g3⟩
 | chk h h1 h2 h3=>
  obtain ⟨g1,g2,g3,g4,g5,g6⟩:=tree_marks h1 h2
  obtain ⟨k1,k2⟩:=g6 _ _ h3
  rw [h3] at g5
  rw [if_neg (by omega),if_neg (by omega),g1,if_neg (by simp),g3,g5,if_pos k2,ahead h1 k1]
  exact ⟨rfl,k2⟩
theorem read_good {s:T} {t:Tr} (h:PatR s (.inr t)):Dk.readS s = (flat (o (Pn.pts s)) t,0,0):=by
 unfold Dk.readS
 cases h with
 | ok h h1 h2 h3=>
  obtain ⟨g1,g2,g3,g4,g5,g6⟩:=tree_marks h1 h2
  rw [h3] at g5
  rw [if_neg (by omega),if_neg (by omega),g1,if_neg (by simp),g3,g5,if_neg (by simp)]
end Go.Proofs.YtaepcfidpekflaaGreatDoor.Pg
