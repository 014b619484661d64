/-
  Several texts in one (Ks, Ih, Ko, Kt, Ku). By the verifier.
-/
import Derived.Test.YtaepcfidpekflaaGreatDoorZ12
namespace Go.Proofs.YtaepcfidpekflaaGreatDoor.Pg
open Go.Proofs.YtaepcfidpekflaaGreatDoor
theorem tw_stop {α:Type} (f:α → Bool) (l:List α) (n:Nat) (h:n = (l.takeWhile f).length):(l.drop n).takeWhile f = []:=by
 subst h
 induction l with
 | nil=>rfl
 | cons c r ih=>
  by_cases hf:f c = true
  ·simp [hf,ih]
  ·simp [hf]
theorem bl_bl (rs:List T) (p:Nat):bl rs (bl rs p) = bl rs p:=by
 have h:=tw_stop (one1 Dk.isBlk) (rs.drop p) _ rfl
 rw [List.drop_drop] at h
 show bl rs p + ((rs.drop (bl rs p)).takeWhile (one1 Dk.isBlk)).length = bl rs p
 have h':(rs.drop (bl rs p)).takeWhile (one1 Dk.isBlk) = []:=h
 rw [h']
 rfl
theorem known_word (t:T) (h:Dk.knownOf t ≠ 4):0 < t.length ∧ t.length ≤ 13 ∧ Dk.isAlpha (t.headD 0) = true:=by
 unfold Dk.knownOf at h
 split at h
 ·rename_i h1;rw [h1];decide
 split at h
 ·rename_i h1;rw [h1];decide
 split at h
 ·rename_i h1;rw [h1];decide
 split at h
 ·rename_i h1;rw [h1];decide
 ·exact absurd rfl h
theorem nameR_inr {rs:List T} {p:Nat} {n:T} {q:Nat} (h:nameR rs p = .inr (n,q)):n = (word rs p).flatten ∧ q = p + (word rs p).length:=by
 unfold nameR at h
 split at h
 ·cases h
 split at h
 ·cases h
 split at h
 ·cases h
 injection h with h
 injection h with h1 h2
 exact ⟨h1.symm,h2.symm⟩
theorem known_o {rs:List T} (hc:Cps rs) {x:Dk.Sc} {k:Nat} (hi:x.i = o rs k) (he:x.err = 0):
  (Dk.knownOf (word rs k).flatten = 4 → Dk.knownOf (x.nameT rs.flatten) = 4 ∧ Bad ((x.name rs.flatten).fault 3 (o rs k)) 3 (o rs k)) ∧
  (Dk.knownOf (word rs k).flatten ≠ 4 → x.nameT rs.flatten = (word rs k).flatten ∧ x.name rs.flatten = { x with i:=o rs (k + (word rs k).length) }):=by
 have hnm:=name_o hc hi he
 constructor
 ·intro h
  cases hr:nameR rs k with
  | inl a=>
   rcases hnm.2 a hr with ⟨h1,h2,h3⟩ | ⟨h1,h2,h3⟩
   ·rw [h3,h1,h2]
    exact ⟨by decide,Bad.fault (e:=3) ⟨rfl,rfl,by decide⟩ _ _⟩
   ·refine ⟨?_,?_⟩
    ·rcases Nat.decEq (Dk.knownOf (x.nameT rs.flatten)) 4 with h' | h'
     ·have:=known_word _ h'
      omega
     ·exact h'
    ·rw [h1]
     exact Bad.new (x:={ x with i:=o rs a }) he 3 _ (by decide)
  | inr nq=>
   obtain ⟨n,q⟩:=nq
   obtain ⟨h1,h2⟩:=hnm.1 n q hr
   rw [h2,h1,(nameR_inr hr).1]
   exact ⟨h,Bad.new (x:={ x with i:=o rs q }) he 3 _ (by decide)⟩
 ·intro h
  obtain ⟨k1,k2,k3⟩:=known_word _ h
  have hw:=name_word hc k k3 k1 (by omega)
  obtain ⟨h1,h2⟩:=hnm.1 _ _ hw
  exact ⟨h2,h1⟩
theorem take7 (L:T):L.take 7 = Dk.offsetW ↔ L.takeWhile isN = offW ∧ L[6]? = some 58:=by
 constructor
 ·intro h
  have h1:=List.take_append_drop 7 L
  rw [h] at h1
  rw [← h1]
  have ha:∀ l:T,(Dk.offsetW ++ l).takeWhile isN = offW:=by
   intro l
   simp only [Dk.offsetW,List.cons_append,List.nil_append,List.takeWhile_cons,offW]
   simp [show isN 111 = true by decide,show isN 102 = true by decide,show isN 115 = true by decide,show isN 101 = true by decide,show isN 116 = true by decide,show isN 58 = false by decide]
  exact ⟨ha _,by simp [Dk.offsetW]⟩
 ·rintro ⟨h1,h2⟩
  have h3:=List.takeWhile_append_dropWhile (p:=isN) (l:=L)
  rw [h1] at h3
  rw [← h3] at h2 ⊢
  cases hd:L.dropWhile isN with
  | nil=>rw [hd] at h2;simp [offW] at h2
  | cons c r=>
   rw [hd] at h2
   have:c = 58:=by simpa [offW] using h2
   rw [this]
   rfl
theorem next7 {rs:List T} (hc:Cps rs) {x:Dk.Sc} {p:Nat} (hi:x.i = o rs p):x.next rs.flatten 7 = Dk.offsetW ↔ (word rs p).flatten = offW ∧ rs[p + (word rs p).length]? = some [58]:=by
 unfold Dk.Sc.next
 rw [hi,take7,drop_o,(tw _ isN_lt _ (hc.drop p)).1]
 constructor
 ·rintro ⟨h1,h2⟩
  refine ⟨h1,?_⟩
  have hl:(word rs p).flatten.length = (word rs p).length:=(tw _ isN_lt _ (hc.drop p)).2
  have h6:(word rs p).length = 6:=by rw [← hl];show ((rs.drop p).takeWhile (one1 isN)).flatten.length = 6;rw [h1];rfl
  rw [h6]
  have h7:=o_tw (rs:=rs) isN p 6 (by show 6 ≤ (word rs p).length;omega)
  rw [← drop_o,List.getElem?_drop,← h7] at h2
  exact (at_one hc _ 58 (by decide)).1 h2
 ·rintro ⟨h1,h2⟩
  refine ⟨h1,?_⟩
  have hl:(word rs p).flatten.length = (word rs p).length:=(tw _ isN_lt _ (hc.drop p)).2
  have h6:(word rs p).length = 6:=by rw [← hl,h1];rfl
  rw [h6] at h2
  have h7:=o_tw (rs:=rs) isN p 6 (by show 6 ≤ (word rs p).length;omega)
  rw [← drop_o,List.getElem?_drop,← h7]
  exact (at_one hc _ 58 (by decide)).2 h2
theorem sel_dig {rs:List T} {a:Nat} (h:at1 rs a Pn.isDig = true):selR true rs a = .inl a:=by
 unfold selR
 rw [if_neg (by simp),if_neg (not_at h 61 (by decide)),if_neg]
 intro hcat
 obtain ⟨c1,c2,c3⟩:=cat_len _ hcat
 cases hw:(word rs a).flatten with
 | nil=>rw [hw] at c1;simp at c1
 | cons c r=>
  have h1:=word_head a c (by rw [hw];rfl)
  rw [hw] at c3
  have h2:=alpha_dig c c3
  rw [at1,h1] at h
  simp only [one1] at h
  rw [h2] at h
  cases h
theorem args_o {rs:List T} (hc:Cps rs) {x:Dk.Sc} {j:Nat} (hi:x.i = o rs j) (he:x.err = 0) (known:Nat) (m:Dk.Mark):
  (rs[j]? ≠ some [44] → Bad (x.args rs.flatten known m) 3 (o rs j)) ∧
  (rs[j]? = some [44] → 3 ≤ known → x.args rs.flatten known m = ({ x with i:=o rs (bl rs (j + 1)),out:=x.out ++ [{ m with offset:=[48] }] }:Dk.Sc).branch rs.flatten false) ∧
  (rs[j]? = some [44] → known < 3 → (∀ a,offR rs (bl rs (j + 1)) = .inl a → Bad (x.args rs.flatten known m) 3 (o rs a)) ∧
   (∀ off i,offR rs (bl rs (j + 1)) = .inr (off,i) → x.args rs.flatten known m = ({ x with i:=o rs (bl rs i),out:=x.out ++ [{ m with offset:=off }] }:Dk.Sc).branch rs.flatten true)):=by
 have hn:=needs_o hc hi he 44 (by decide)
 unfold Dk.Sc.args
 refine ⟨fun h=>?_,fun h hk=>?_,fun h hk=>?_⟩
 ·have h1:=(hn.2 h).blanks rs.flatten
  simp only
  split
  ·exact (((h1.go 7).blanks _).whole _ |>.blanks _ |>.put _).branch _ _
  ·exact (h1.put _).branch _ _
 ·rw [hn.1 h,blanks_o hc (x:={ x with i:=o rs (j + 1) }) (p:=j + 1) rfl]
  simp only
  rw [if_neg (by omega),decide_eq_false (by omega)]
  rfl
 ·rw [hn.1 h,blanks_o hc (x:={ x with i:=o rs (j + 1) }) (p:=j + 1) rfl]
  simp only
  have h7:=next7 hc (x:={ x with i:=o rs (bl rs (j + 1)) }) (p:=bl rs (j + 1)) rfl
  unfold offR
  have hbb:=bl_bl rs (j + 1)
  generalize bl rs (j + 1) = i1 at *
  by_cases ho:(word rs i1).flatten = offW ∧ rs[i1 + (word rs i1).length]? = some [58]
  ·rw [if_pos ho,if_pos ⟨hk,h7.2 ho⟩]
   have hl:(word rs i1).flatten.length = (word rs i1).length:=(tw _ isN_lt _ (hc.drop i1)).2
   have h6:(word rs i1).length = 6:=by rw [← hl,ho.1];rfl
   have hg:(({ x with i:=o rs i1 }:Dk.Sc).go 7) = { x with i:=o rs (i1 + (word rs i1).length + 1) }:=by
    rw [o_succ ho.2,o_tw (rs:=rs) isN i1 (word rs i1).length (Nat.le_refl _),h6]
    rfl
   rw [hg,blanks_o hc (x:={ x with i:=o rs (i1 + (word rs i1).length + 1) }) (p:=i1 + (word rs i1).length + 1) rfl]
   generalize bl rs (i1 + (word rs i1).length + 1) = z at *
   have hw:=whole_o hc (x:={ x with i:=o rs z }) (p:=z) rfl he
   constructor
   ·intro a h
    rcases hw.2 a h with h1 | ⟨h1,h2⟩
    ·rw [h1]
     exact ((Bad.blanks (e:=3) (a:=o rs a) ⟨rfl,rfl,by decide⟩ _).put _).branch _ _
    ·rw [h1,blanks_o hc (x:={ x with i:=o rs a }) (p:=a) rfl,bl_at h2 isDig_blk]
     exact (branch_o hc (x:=Dk.Sc.put { x with i:=o rs a } { m with offset:=({ x with i:=o rs z }:Dk.Sc).wholeT rs.flatten }) (p:=a) rfl he true).2 a (sel_dig h2)
   ·intro off i h
    obtain ⟨h1,h2⟩:=hw.1 off i h
    rw [h1,h2,blanks_o hc (x:={ x with i:=o rs i }) (p:=i) rfl]
    rfl
  ·rw [if_neg ho,if_neg (fun h=>ho (h7.1 h.2))]
   constructor
   ·intro a h;cases h
   ·intro off i h
    injection h with h
    injection h with h1 h2
    rw [← h1,← h2,decide_eq_true hk,hbb]
    rfl
theorem brace_o {rs:List T} (hc:Cps rs) {x:Dk.Sc} {p:Nat} (hi:x.i = o rs p) (he:x.err = 0) (hp:rs[p]? = some [123]):
  (∀ a,nameR rs (bl rs (p + 1)) = .inl a → Bad (x.brace rs.flatten) 3 (o rs a)) ∧
  (∀ n q,nameR rs (bl rs (p + 1)) = .inr (n,q) →
   (rs[bl rs q]? = some [125] → x.brace rs.flatten = { x with i:=o rs (bl rs q + 1),out:=x.out ++ [{ kind:=112,name:=n,at_:=o rs p }] }) ∧
   (rs[bl rs q]? ≠ some [125] → rs[bl rs q]? ≠ some [44] → Bad (x.brace rs.flatten) 3 (o rs (bl rs q))) ∧
   (rs[bl rs q]? = some [44] → ∀ k,k = bl rs (bl rs q + 1) →
    (Dk.knownOf (word rs k).flatten = 4 → Bad (x.brace rs.flatten) 3 (o rs k)) ∧
    (Dk.knownOf (word rs k).flatten ≠ 4 → ∀ j,j = bl rs (k + (word rs k).length) →
     (Dk.knownOf (word rs k).flatten = 0 → (rs[j]? ≠ some [125] → Bad (x.brace rs.flatten) 3 (o rs j)) ∧
      (rs[j]? = some [125] → x.brace rs.flatten = { x with i:=o rs (j + 1),out:=x.out ++ [{ kind:=110,name:=n,how:=(word rs k).flatten,at_:=o rs p }] })) ∧
     (Dk.knownOf (word rs k).flatten ≠ 0 → x.brace rs.flatten = ({ x with i:=o rs j }:Dk.Sc).args rs.flatten (Dk.knownOf (word rs k).flatten) { kind:=40,name:=n,how:=(word rs k).flatten,at_:=o rs p })))):=by
 have hg:x.go 1 = { x with i:=o rs (p + 1) }:=by rw [Dk.Sc.go,o_succ hp,hi];rfl
 unfold Dk.Sc.brace
 rw [hg,blanks_o hc (x:={ x with i:=o rs (p + 1) }) (p:=p + 1) rfl]
 simp only
 generalize bl rs (p + 1) = A at *
 have hnm:=name_o hc (x:={ x with i:=o rs A }) (p:=A) rfl he
 constructor
 ·intro a h
  rcases hnm.2 a h with ⟨h1,_⟩ | ⟨h1,h2,_⟩
  ·rw [h1]
   have hb:Bad (({ x with i:=o rs A,err:=3,place:=o rs a }:Dk.Sc).blanks rs.flatten) 3 (o rs a):=Bad.blanks (x:={ x with i:=o rs A,err:=3,place:=o rs a }) (e:=3) ⟨rfl,rfl,(by decide:(3:Nat) ≠ 0)⟩ _
   rw [if_pos (by rw [hb.1];decide)]
   exact hb
  ·rw [h1,blanks_o hc (x:={ x with i:=o rs a }) (p:=a) rfl,bl_at h2 isN_blk]
   have hne:=not_at h2 44 (by decide)
   simp only
   rw [if_neg (by rw [he];decide),if_pos (fun h=>hne ((at_one hc a 44 (by decide)).1 h))]
   exact ((needs_o hc (x:={ x with i:=o rs a }) (p:=a) rfl he 125 (by decide)).2 (not_at h2 125 (by decide))).put _
 ·intro n q h
  obtain ⟨h1,h2⟩:=hnm.1 n q h
  rw [h1,h2,blanks_o hc (x:={ x with i:=o rs q }) (p:=q) rfl]
  simp only
  generalize bl rs q = Q at *
  rw [if_neg (by rw [he];decide)]
  have hnd:=needs_o hc (x:={ x with i:=o rs Q }) (p:=Q) rfl he 125 (by decide)
  refine ⟨fun h3=>?_,fun h3 h4=>?_,fun h3 k hk=>?_⟩
  ·rw [if_pos (fun h=>by rw [(at_one hc Q 44 (by decide)).1 h] at h3;cases h3),hnd.1 h3,hi]
   rfl
  ·rw [if_pos (fun h=>h4 ((at_one hc Q 44 (by decide)).1 h))]
   exact (hnd.2 h3).put _
  ·rw [if_neg (fun h=>h ((at_one hc Q 44 (by decide)).2 h3))]
   have hg2:(({ x with i:=o rs Q }:Dk.Sc).go 1) = { x with i:=o rs (Q + 1) }:=by rw [Dk.Sc.go,o_succ h3];rfl
   rw [hg2,blanks_o hc (x:={ x with i:=o rs (Q + 1) }) (p:=Q + 1) rfl,← hk]
   have hkn:=known_o hc (x:={ x with i:=o rs k }) (k:=k) rfl he
   constructor
   ·intro h4
    obtain ⟨h5,h6⟩:=hkn.1 h4
    rw [if_pos h5]
    exact h6
   ·intro h4 j hj
    obtain ⟨h5,h6⟩:=hkn.2 h4
    rw [h5,h6,if_neg h4,blanks_o hc (x:={ x with i:=o rs (k + (word rs k).length) }) (p:=k + (word rs k).length) rfl,← hj]
    have hne:=needs_o hc (x:={ x with i:=o rs j }) (p:=j) rfl he 125 (by decide)
    constructor
    ·intro h7
     rw [if_pos h7,hi]
     refine ⟨fun h8=>(hne.2 h8).put _,fun h8=>?_⟩
     rw [hne.1 h8]
     rfl
    ·intro h7
     rw [if_neg h7,hi]
end Go.Proofs.YtaepcfidpekflaaGreatDoor.Pg
namespace Go.Proofs.YtaepcfidpekflaaGreatDoor
theorem cut_at39 (l:List UInt8) (k:Nat) (hk:k < l.length) (h1:∀ j (hj:j < l.length),j < k → l[j] ≠ 39) (h2:l[k] = 39):Lib.cut l [39] = (l.take k,l.drop (k + 1),true):=by
 have hi:Lib.index l [39] = k:=by
  refine Lib.index_first (by omega) ?_ ?_
  ·rw [Lib.occAt,List.drop_eq_getElem_cons hk,h2];simp [List.isPrefixOf]
  ·intro j hj
   rw [Lib.occAt,List.drop_eq_getElem_cons (by omega)]
   have:=h1 j (by omega) hj
   simp only [List.isPrefixOf,Bool.and_true,beq_eq_false_iff_ne]
   exact fun e=>this e.symm
 unfold Lib.cut
 rw [hi,if_pos (by omega)]
 simp
theorem cut_end39 (l:List UInt8) (h1:∀ j (hj:j < l.length),l[j] ≠ 39):Lib.cut l [39] = (l,[],false):=by
 have hi:Lib.index l [39] = -1:=by
  refine Lib.index_none ?_
  intro j hj
  rw [Lib.occAt]
  rcases Nat.lt_or_ge j l.length with h | h
  ·rw [List.drop_eq_getElem_cons h]
   have:=h1 j h
   simp only [List.isPrefixOf,Bool.and_true,beq_eq_false_iff_ne]
   exact fun e=>this e.symm
  ·rw [List.drop_eq_nil_of_le h];rfl
 unfold Lib.cut
 rw [hi,if_neg (by omega)]
end Go.Proofs.YtaepcfidpekflaaGreatDoor
namespace Go.Proofs.YtaepcfidpekflaaGreatDoor
theorem cut39_spec (l:List UInt8):((Lib.cut l [39]).2.2 = true ∧ l = (Lib.cut l [39]).1 ++ 39 :: (Lib.cut l [39]).2.1 ∧ 39 ∉ (Lib.cut l [39]).1)
  ∨ ((Lib.cut l [39]).2.2 = false ∧ (Lib.cut l [39]).1 = l ∧ (Lib.cut l [39]).2.1 = [] ∧ 39 ∉ l):=by
 rcases Lib.index_spec l [39] with ⟨h1,h2⟩ | ⟨i,h1,h2,h3,h4⟩
 ·right
  have:¬ (0 ≤ Lib.index l [39]):=by omega
  simp only [Lib.cut,if_neg this,true_and]
  intro hm
  obtain ⟨j,hj,he⟩:=List.getElem_of_mem hm
  have:=h2 j (by omega)
  rw [Lib.occAt,List.drop_eq_getElem_cons hj,he] at this
  simp [List.isPrefixOf] at this
 ·left
  have h0:(0:Int) ≤ Lib.index l [39]:=by omega
  have hi:(Lib.index l [39]).toNat = i:=by omega
  simp only [Lib.cut,if_pos h0,hi,true_and]
  have hlt:i < l.length:=by
   rcases Nat.lt_or_ge i l.length with h | h
   ·exact h
   ·rw [Lib.occAt,List.drop_eq_nil_of_le h] at h3;simp [List.isPrefixOf] at h3
  have hget:l[i] = 39:=by
   rw [Lib.occAt,List.drop_eq_getElem_cons hlt] at h3
   have h3':(39:UInt8) = l[i]:=by simpa [List.isPrefixOf] using h3
   exact h3'.symm
  constructor
  ·have:=List.take_append_drop i l
   rw [List.drop_eq_getElem_cons hlt,hget] at this
   simpa using this.symm
  ·intro hm
   obtain ⟨j,hj,he⟩:=List.getElem_of_mem hm
   have hj':j < i:=by simp at hj;omega
   have:=h4 j hj'
   rw [Lib.occAt,List.drop_eq_getElem_cons (by omega)] at this
   rw [List.getElem_take] at he
   simp [List.isPrefixOf,he] at this
theorem say_i (x:Dk.Sc) (t:Pr.T):(x.say t).i = x.i ∧ (x.say t).opens = x.opens:=by
 unfold Dk.Sc.say
 split <;> exact ⟨rfl,rfl⟩
theorem quote_stop (z:Dk.Sc) (k:Nat) (R:Pr.T) (h:(Lib.cut R [39]).2.2 = false):z.quoteGo (k + 1) R = (z.say (Lib.cut R [39]).1).go (Lib.cut R [39]).1.length:=by
 rw [Dk.Sc.quoteGo]
 simp only [h,if_true]
theorem quote_end (z:Dk.Sc) (k:Nat) (R:Pr.T) (h:(Lib.cut R [39]).2.2 = true) (hb:∀ r,(Lib.cut R [39]).2.1 ≠ 39 :: r):z.quoteGo (k + 1) R = ((z.say (Lib.cut R [39]).1).go (Lib.cut R [39]).1.length).go 1:=by
 rw [Dk.Sc.quoteGo]
 simp only [h,Bool.true_eq_false,if_false]
 split
 ·rename_i c r e
  rw [if_neg (fun hc=>hb r (by rw [e,hc]))]
 ·rfl
theorem quote_more (z:Dk.Sc) (k:Nat) (R r:Pr.T) (h:(Lib.cut R [39]).2.2 = true) (hb:(Lib.cut R [39]).2.1 = 39 :: r):z.quoteGo (k + 1) R = (((((z.say (Lib.cut R [39]).1).go (Lib.cut R [39]).1.length).go 1).say [39]).go 1).quoteGo k r:=by
 rw [Dk.Sc.quoteGo]
 simp only [h,Bool.true_eq_false,if_false,hb,if_true]
end Go.Proofs.YtaepcfidpekflaaGreatDoor
namespace Go.Proofs.YtaepcfidpekflaaGreatDoor.Pg
open Go.Proofs.YtaepcfidpekflaaGreatDoor
theorem cut39_at (A B:List UInt8) (h:39 ∉ A):Lib.cut (A ++ 39 :: B) [39] = (A,B,true):=by
 rw [cut_at39 (A ++ 39 :: B) A.length (by simp) (fun j hj hlt e=>h (by rw [← e,List.getElem_append_left hlt];exact List.getElem_mem hlt)) (by simp)]
 simp
theorem cut39_no (A:List UInt8) (h:39 ∉ A):Lib.cut A [39] = (A,[],false):=cut_end39 A fun j hj e=>h (by rw [← e];exact List.getElem_mem hj)
inductive Reach (s:T):Dk.Sc → Dk.Sc → Prop
 | refl (x):Reach s x x
 | step {x y} (h:x.err = 0) (h2:x.i < s.length) (r:Reach s (x.one s) y):Reach s x y
theorem Reach.trans {s:T} {x y z:Dk.Sc} (h:Reach s x y) (h2:Reach s y z):Reach s x z:=by
 induction h with
 | refl=>exact h2
 | step a b _ ih=>exact .step a b (ih h2)
theorem say_say (x:Dk.Sc) (a b:T):(x.say a).say b = x.say (a ++ b):=by
 unfold Dk.Sc.say
 by_cases ha:a = []
 ·rw [if_pos ha,ha]
  rfl
 ·rw [if_neg ha]
  by_cases hb:b = []
  ·rw [if_pos hb,hb,List.append_nil,if_neg ha]
  ·rw [if_neg hb,if_neg (by simp [ha])]
   simp only
   congr 1
   unfold Dk.addText
   rcases List.eq_nil_or_concat x.out with h0 | ⟨l,m,h0⟩
   ·simp [h0]
   ·simp only [List.concat_eq_append] at h0
    rw [h0]
    by_cases hk:m.kind = 116
    ·simp [hk]
    ·simp [hk]
theorem say_nil (x:Dk.Sc):x.say [] = x:=by
 unfold Dk.Sc.say;rw [if_pos rfl]
theorem say_go (x:Dk.Sc) (a:T) (n:Nat):(x.say a).go n = (x.go n).say a:=by
 unfold Dk.Sc.say Dk.Sc.go
 split <;> rfl
theorem say_with (x:Dk.Sc) (a:T) (n:Nat):({ x.say a with i:=n }:Dk.Sc) = ({ x with i:=n }:Dk.Sc).say a:=by
 unfold Dk.Sc.say
 split <;> rfl
theorem say_same (x:Dk.Sc) (a:T):(x.say a).i = x.i ∧ (x.say a).opens = x.opens ∧ (x.say a).err = x.err ∧ (x.say a).place = x.place:=by
 unfold Dk.Sc.say
 split <;> exact ⟨rfl,rfl,rfl,rfl⟩
theorem byNumber_say (x:Dk.Sc) (a:T):(x.say a).byNumber = x.byNumber:=by
 unfold Dk.Sc.byNumber;rw [(say_same x a).2.1]
theorem one_plain {s:T} {x:Dk.Sc} {c:UInt8} (h:s[x.i]? = some c) (h1:c ≠ 39) (h2:c ≠ 123) (h3:c ≠ 125) (h4:¬ (c = 35 ∧ x.byNumber = true)):x.one s = (x.go 1).say [c]:=by
 unfold Dk.Sc.one
 rw [h]
 simp only
 rw [if_neg h1,if_neg h2,if_neg (fun h=>h3 h.1),if_neg h3,if_neg h4]
theorem lt_of_some {α:Type} {s:List α} {i:Nat} {c:α} (h:s[i]? = some c):i < s.length:=by
 rcases Nat.lt_or_ge i s.length with h' | h'
 ·exact h'
 ·rw [List.getElem?_eq_none h'] at h;cases h
theorem reach_bytes {s:T}:∀ (c:T) (x:Dk.Sc) (r:T),s.drop x.i = c ++ r → x.err = 0 → (∀ b ∈ c,128 ≤ b.toNat) → Reach s x ((x.go c.length).say c):=by
 intro c
 induction c with
 | nil=>intro x r _ _ _;rw [say_nil];exact .refl _
 | cons b c ih=>
  intro x r h he hb
  have hg:s[x.i]? = some b:=by
   have:=congrArg List.head? h
   rw [List.head?_drop] at this
   simpa using this
  have hb0:=hb b (by simp)
  have h1:=one_plain (x:=x) hg (by rintro rfl;simp at hb0) (by rintro rfl;simp at hb0) (by rintro rfl;simp at hb0) (by rintro ⟨rfl,_⟩;simp at hb0)
  refine .step he (lt_of_some hg) ?_
  rw [h1]
  have hd:s.drop (x.i + 1) = c ++ r:=by
   rw [← List.drop_drop,h]
   rfl
  have:=ih ((x.go 1).say [b]) r (by rw [(say_same _ _).1];exact hd) (by rw [(say_same _ _).2.2.1];exact he) (fun b' hb'=>hb b' (by simp [hb']))
  rw [say_go,say_say] at this
  simp only [List.length_cons,Dk.Sc.go] at this ⊢
  rw [show x.i + (c.length + 1) = x.i + 1 + c.length by omega]
  exact this
theorem reach_cp {rs:List T} (hc:Cps rs) {x:Dk.Sc} {p:Nat} {c:T} (hi:x.i = o rs p) (he:x.err = 0) (h:rs[p]? = some c) (h1:c ≠ [39]) (h2:spec x.byNumber c = false):Reach rs.flatten x (({ x with i:=o rs (p + 1) }:Dk.Sc).say c):=by
 have hlt:=lt_of_some h
 have hdrop:rs.drop p = c :: rs.drop (p + 1):=by
  rw [List.drop_eq_getElem_cons hlt]
  rw [List.getElem?_eq_getElem hlt] at h
  injection h with h
  rw [h]
 rcases hc c (List.mem_of_getElem? h) with ⟨b,rfl,hb⟩ | ⟨h3,h4⟩
 ·have hg:=(at_one hc p b hb).2 h
  rw [← hi] at hg
  have hs:¬ b = 123 ∧ ¬ b = 125 ∧ ¬ (b = 35 ∧ x.byNumber = true):=by
   unfold spec at h2
   simp only [Bool.or_eq_false_iff,beq_eq_false_iff_ne,Bool.and_eq_false_iff,ne_eq,List.cons.injEq,and_true] at h2
   refine ⟨h2.1.1,h2.1.2,fun h=>?_⟩
   rcases h2.2 with h' | h'
   ·exact h' h.1
   ·rw [h.2] at h';cases h'
  have h5:=one_plain (x:=x) hg (by rintro rfl;exact h1 rfl) hs.1 hs.2.1 hs.2.2
  refine .step he (lt_of_some hg) ?_
  rw [h5,o_succ h,← hi]
  exact .refl _
 ·have:=reach_bytes (s:=rs.flatten) c x (rs.drop (p + 1)).flatten (by rw [hi,drop_o,hdrop];rfl) he h4
  rw [o_succ h,← hi]
  exact this
theorem saidGo_ne (num q:Bool) (c:T) (r:List T) (h:¬ (q = false ∧ spec num c = true)) (h1:c ≠ [39]):saidGo num q (c :: r) = (c ++ (saidGo num q r).1,(saidGo num q r).2 + 1):=by
 rw [saidGo.eq_def]
 simp only
 rw [if_neg h,if_pos h1]
theorem saidGo_stop (num:Bool) (c:T) (r:List T) (h:spec num c = true):saidGo num false (c :: r) = ([],0):=by
 rw [saidGo.eq_def]
 simp only
 rw [if_pos (by simp [h])]
theorem saidGo_two (num q:Bool) (r:List T):saidGo num q ([39] :: [39] :: r) = (39 :: (saidGo num q r).1,(saidGo num q r).2 + 2):=by
 rw [saidGo.eq_def]
 simp only
 rw [if_neg (by simp [spec]),if_neg (by simp),if_pos (by simp)]
theorem saidGo_quote (num q:Bool) (d:T) (r:List T) (hd:d ≠ [39]) (h:q = true ∨ spec num d = true):saidGo num q ([39] :: d :: r) = ((saidGo num (!q) (d :: r)).1,(saidGo num (!q) (d :: r)).2 + 1):=by
 conv=>lhs;rw [saidGo.eq_def]
 simp only
 rw [if_neg (by simp [spec]),if_neg (by simp),if_neg hd,if_pos h]
theorem saidGo_one (num:Bool) (d:T) (r:List T) (hd:d ≠ [39]) (h:spec num d = false):saidGo num false ([39] :: d :: r) = (39 :: (saidGo num false (d :: r)).1,(saidGo num false (d :: r)).2 + 1):=by
 conv=>lhs;rw [saidGo.eq_def]
 simp only
 rw [if_neg (by simp [spec]),if_neg (by simp),if_neg hd,if_neg (by simp [h])]
theorem said_quoted (num:Bool):∀ (A D:List T),(∀ c ∈ A,c ≠ [39]) → saidGo num true (A ++ D) = (A.flatten ++ (saidGo num true D).1,(saidGo num true D).2 + A.length):=by
 intro A
 induction A with
 | nil=>intro D _;rfl
 | cons c A ih=>
  intro D h
  have h1:=ih D (fun c hc=>h c (by simp [hc]))
  rw [List.cons_append,saidGo_ne num true c _ (by simp) (h c (by simp)),h1]
  simp only [List.flatten_cons,List.append_assoc,List.length_cons,Prod.mk.injEq,true_and]
  omega
theorem no39 {A:List T} (hc:Cps A) (h:∀ c ∈ A,c ≠ [39]):39 ∉ A.flatten:=by
 intro hm
 obtain ⟨c,h1,h2⟩:=List.mem_flatten.1 hm
 rcases hc c h1 with ⟨b,rfl,hb⟩ | ⟨h3,h4⟩
 ·have:39 = b:=by simpa using h2
  exact h _ h1 (by rw [this])
 ·have:=h4 39 h2
  simp at this
theorem split39:∀ (L:List T),∃ A D,L = A ++ D ∧ (∀ c ∈ A,c ≠ [39]) ∧ (D = [] ∨ ∃ D',D = [39] :: D'):=by
 intro L
 induction L with
 | nil=>exact ⟨[],[],rfl,by simp,.inl rfl⟩
 | cons c L ih=>
  by_cases h:c = [39]
  ·exact ⟨[],c :: L,rfl,by simp,.inr ⟨L,by rw [h]⟩⟩
  ·obtain ⟨A,D,h1,h2,h3⟩:=ih
   refine ⟨c :: A,D,by rw [h1];rfl,?_,h3⟩
   intro d hd
   rcases List.mem_cons.1 hd with rfl | hd
   ·exact h
   ·exact h2 d hd
theorem quote_o (num:Bool):∀ (k:Nat) (L:List T) (z:Dk.Sc),Cps L → L.flatten.length < k →
  ∃ n t,n ≤ L.length ∧ z.quoteGo k L.flatten = (z.go (L.take n).flatten.length).say t ∧ saidGo num true L = (t ++ (saidGo num false (L.drop n)).1,(saidGo num false (L.drop n)).2 + n):=by
 intro k
 induction k with
 | zero=>intro L z _ h;omega
 | succ k ih=>
  intro L z hc hk
  obtain ⟨A,D,rfl,hA,hD⟩:=split39 L
  have hcA:Cps A:=fun c h=>hc c (by simp [h])
  have hn:=no39 hcA hA
  have hq:=said_quoted num A D hA
  rcases hD with rfl | ⟨D',rfl⟩
  ·refine ⟨A.length,A.flatten,by simp,?_,?_⟩
   ·rw [Dk.Sc.quoteGo]
    simp only [List.append_nil,List.take_length,cut39_no _ hn,if_true]
    rw [say_go]
   ·rw [hq]
    simp [saidGo]
  ·have hcut:Lib.cut (A ++ [39] :: D').flatten [39] = (A.flatten,D'.flatten,true):=by
    rw [List.flatten_append,List.flatten_cons]
    exact cut39_at _ _ hn
   have hcD:Cps D':=fun c h=>hc c (by simp [h])
   have hlen:(A ++ [39] :: D').flatten.length = A.flatten.length + 1 + D'.flatten.length:=by simp;omega
   rw [Dk.Sc.quoteGo,hcut]
   simp only [Bool.true_eq_false,if_false]
   cases D' with
   | nil=>
    refine ⟨A.length + 1,A.flatten,by simp,?_,?_⟩
    ·have ht:(A ++ [[39]]).take (A.length + 1) = A ++ [[39]]:=List.take_of_length_le (by simp)
     rw [ht]
     simp only [List.flatten_nil]
     rw [say_go,say_go,List.flatten_append,List.length_append]
     simp [Dk.Sc.go,Nat.add_assoc]
    ·rw [hq]
     simp [saidGo,Nat.add_comm]
   | cons d D''=>
    by_cases hd:d = [39]
    ·subst hd
     simp only [List.flatten_cons,List.cons_append,List.nil_append,if_true]
     obtain ⟨n,t,h0,h1,h2⟩:=ih D'' ((((z.say A.flatten).go A.flatten.length).go 1).say [39] |>.go 1) (fun c h=>hcD c (by simp [h])) (by simp at hlen hk ⊢;omega)
     refine ⟨A.length + 2 + n,A.flatten ++ 39 :: t,by simp;omega,?_,?_⟩
     ·rw [h1]
      have ht:(A ++ [39] :: [39] :: D'').take (A.length + 2 + n) = A ++ [39] :: [39] :: D''.take n:=by
       rw [show A.length + 2 + n = A.length + (n + 2) by omega,List.take_length_add_append]
       rfl
      rw [ht]
      simp only [say_go,say_say]
      have e:((((z.go A.flatten.length).go 1).go 1).go (D''.take n).flatten.length) = z.go (A ++ [39] :: [39] :: D''.take n).flatten.length:=by
       simp only [Dk.Sc.go,List.flatten_append,List.flatten_cons,List.length_append,List.length_cons,List.length_nil]
       congr 1
       omega
      rw [e]
      congr 1
      simp
     ·have hdr:(A ++ [39] :: [39] :: D'').drop (A.length + 2 + n) = D''.drop n:=by
       rw [show A.length + 2 + n = A.length + (n + 2) by omega,List.drop_length_add_append]
       rfl
      rw [hq,hdr,saidGo_two]
      simp only [h2,List.append_assoc,List.cons_append,Prod.mk.injEq,true_and]
      omega
    ·have hne:∀ r,(d :: D'').flatten ≠ 39 :: r:=by
      intro r h
      rcases hcD d (by simp) with ⟨b,rfl,hb⟩ | ⟨h3,h4⟩
      ·have:b = 39:=by simpa using congrArg List.head? h
       exact hd (by rw [this])
      ·cases d with
       | nil=>simp at h3
       | cons b d=>
        have:b = 39:=by simpa using congrArg List.head? h
        have:=h4 b (by simp)
        subst b
        simp at this
     refine ⟨A.length + 1,A.flatten,by simp,?_,?_⟩
     ·have ht:(A ++ [39] :: d :: D'').take (A.length + 1) = A ++ [[39]]:=by
       rw [List.take_length_add_append]
       rfl
      rw [ht]
      have e:((z.say A.flatten).go A.flatten.length).go 1 = (z.go (A ++ [[39]]).flatten.length).say A.flatten:=by
       rw [say_go,say_go]
       simp [Dk.Sc.go,Nat.add_assoc]
      rw [← e]
      cases hf:(d :: D'').flatten with
      | nil=>rfl
      | cons b r=>
       simp only
       rw [if_neg (fun h=>hne r (by rw [hf,h]))]
     ·have hdr:(A ++ [39] :: d :: D'').drop (A.length + 1) = d :: D'':=by
       rw [List.drop_length_add_append]
       rfl
      rw [hq,hdr,saidGo_quote num true d D'' hd (.inl rfl)]
      simp only [Bool.not_true,Prod.mk.injEq,true_and]
      omega
end Go.Proofs.YtaepcfidpekflaaGreatDoor.Pg
namespace Go.Proofs.YtaepcfidpekflaaGreatDoor.Pg
open Go.Proofs.YtaepcfidpekflaaGreatDoor
theorem drop_cons {rs:List T} {p:Nat} {c:T} {r:List T} (h:rs.drop p = c :: r):rs[p]? = some c ∧ rs.drop (p + 1) = r:=by
 constructor
 ·have:=congrArg List.head? h
  rw [List.head?_drop] at this
  simpa using this
 ·rw [← List.drop_drop,h]
  rfl
theorem one_quote {rs:List T} (hc:Cps rs) {x:Dk.Sc} {p:Nat} (hi:x.i = o rs p) (h:rs[p]? = some [39]):x.one rs.flatten = x.apostrophe rs.flatten x.byNumber:=by
 have hg:=(at_one hc p 39 (by decide)).2 h
 rw [← hi] at hg
 unfold Dk.Sc.one
 rw [hg]
 simp
theorem spec_head (num:Bool) (b:UInt8):spec num [b] = true ↔ (b = 123 ∨ b = 125 ∨ b = 35 ∧ num = true):=by
 unfold spec
 simp [or_assoc]
theorem said_o {rs:List T} (hc:Cps rs) (num:Bool):∀ (n p:Nat) (x:Dk.Sc),(rs.drop p).length < n → x.i = o rs p → x.err = 0 → x.byNumber = num →
  Reach rs.flatten x (({ x with i:=o rs (p + (saidGo num false (rs.drop p)).2) }:Dk.Sc).say (saidGo num false (rs.drop p)).1):=by
 intro n
 induction n with
 | zero=>intro p x h;omega
 | succ n ih=>
  intro p x hn hi he hnum
  cases hd:rs.drop p with
  | nil=>
   simp only [saidGo,say_nil,Nat.add_zero]
   rw [← hi]
   exact .refl _
  | cons c r=>
   obtain ⟨hp,hr⟩:=drop_cons hd
   rw [hd] at hn
   simp only [List.length_cons] at hn
   by_cases hs:spec num c = true
   ·rw [saidGo_stop num c r hs]
    simp only [say_nil,Nat.add_zero]
    rw [← hi]
    exact .refl _
   have hs':spec num c = false:=by simpa using hs
   by_cases h39:c = [39]
   ·subst h39
    have h1:=one_quote hc hi hp
    have hlt:=o_lt hc hp
    refine .step he (by rw [hi];exact hlt) ?_
    rw [h1,hnum]
    have hg:x.go 1 = { x with i:=o rs (p + 1) }:=by rw [Dk.Sc.go,o_succ hp,hi];rfl
    unfold Dk.Sc.apostrophe
    simp only
    rw [hg]
    simp only
    rw [drop_o,hr]
    cases r with
    | nil=>
     simp only [List.flatten_nil]
     rw [saidGo.eq_def]
     simp [spec]
     exact .refl _
    | cons d r'=>
     obtain ⟨hp2,hr2⟩:=drop_cons hr
     have hcd:Cp d:=hc d (List.mem_of_getElem? hp2)
     have hcr:Cps (d :: r'):=fun c' h'=>hc c' (List.mem_of_mem_drop (i:=p + 1) (by rw [hr];exact h'))
     simp only [List.length_cons] at hn
     by_cases hd39:d = [39]
     ·subst hd39
      simp only [List.flatten_cons,List.cons_append,List.nil_append,if_true]
      rw [saidGo_two]
      have hg2:(({ x with i:=o rs (p + 1) }:Dk.Sc).go 1) = { x with i:=o rs (p + 2) }:=by
       rw [Dk.Sc.go,show p + 2 = p + 1 + 1 from rfl,o_succ hp2];rfl
      rw [hg2]
      have:=ih (p + 2) (({ x with i:=o rs (p + 2) }:Dk.Sc).say [39]) (by rw [hr2];omega) (say_same _ _).1 (by rw [(say_same _ _).2.2.1];exact he) (by rw [byNumber_say];exact hnum)
      rw [hr2,say_with,say_say] at this
      simp only [List.cons_append,List.nil_append] at this ⊢
      rw [show p + ((saidGo num false r').2 + 2) = p + 2 + (saidGo num false r').2 by omega]
      exact this
     ·obtain ⟨b,db,hdb⟩:∃ b db,d = b :: db:=by
       cases d with
       | nil=>exact absurd rfl hcd.ne
       | cons b db=>exact ⟨b,db,rfl⟩
      have hb39:b ≠ 39:=by
       rintro rfl
       rcases hcd with ⟨b',e,_⟩ | ⟨_,h4⟩
       ·rw [hdb] at e
        injection e with e1 e2
        exact hd39 (by rw [hdb,e2])
       ·have:=h4 39 (by rw [hdb];simp)
        simp at this
      have hfl:(d :: r').flatten = b :: (db ++ r'.flatten):=by rw [hdb];rfl
      by_cases hsp:spec num d = true
      ·rw [saidGo_quote num false d r' hd39 (.inr hsp)]
       have hdb1:d = [b]:=by
        unfold spec at hsp
        simp only [Bool.or_eq_true,beq_iff_eq,Bool.and_eq_true] at hsp
        rcases hsp with (h | h) | ⟨h,_⟩ <;> · rw [h] at hdb ⊢;injection hdb with h1 h2;rw [h1]
       have hb:=(spec_head num b).1 (by rw [← hdb1];exact hsp)
       have hfl':(d :: r').flatten = b :: r'.flatten:=by rw [hdb1];rfl
       rw [hfl']
       simp only
       rw [if_neg hb39,if_pos hb]
       obtain ⟨m,t,q0,q1,q2⟩:=quote_o num (r'.flatten.length + 2) (d :: r') { x with i:=o rs (p + 1) } hcr (by rw [hfl'];simp)
       rw [hfl'] at q1
       rw [q1]
       simp only [Bool.not_false]
       rw [q2]
       have hom:o rs (p + 1) + ((d :: r').take m).flatten.length = o rs (p + 1 + m):=by
        have e:rs.take (p + 1 + m) = rs.take (p + 1) ++ (rs.drop (p + 1)).take m:=List.take_add
        unfold o
        rw [e,List.flatten_append,List.length_append,hr]
       have hgo:(({ x with i:=o rs (p + 1) }:Dk.Sc).go ((d :: r').take m).flatten.length) = { x with i:=o rs (p + 1 + m) }:=by
        rw [Dk.Sc.go,← hom]
       rw [hgo]
       have hdm:rs.drop (p + 1 + m) = (d :: r').drop m:=by rw [← List.drop_drop,hr]
       have:=ih (p + 1 + m) (({ x with i:=o rs (p + 1 + m) }:Dk.Sc).say t) (by rw [hdm];simp;omega) (say_same _ _).1 (by rw [(say_same _ _).2.2.1];exact he) (by rw [byNumber_say];exact hnum)
       rw [hdm,say_with,say_say] at this
       simp only at this ⊢
       rw [show p + ((saidGo num false ((d :: r').drop m)).2 + m + 1) = p + 1 + m + (saidGo num false ((d :: r').drop m)).2 by omega]
       exact this
      ·have hsp':spec num d = false:=by simpa using hsp
       rw [saidGo_one num d r' hd39 hsp',hfl]
       simp only
       have hnb:¬ (b = 123 ∨ b = 125 ∨ b = 35 ∧ num = true):=by
        intro hb
        rcases hcd with ⟨b',e,_⟩ | ⟨_,h4⟩
        ·rw [hdb] at e
         injection e with e1 e2
         exact hsp (by rw [hdb,e2];exact (spec_head num b).2 hb)
        ·have:=h4 b (by rw [hdb];simp)
         rcases hb with rfl | rfl | ⟨rfl,_⟩ <;> simp at this
       rw [if_neg hb39,if_neg hnb]
       have:=ih (p + 1) (({ x with i:=o rs (p + 1) }:Dk.Sc).say [39]) (by rw [hr];simp;omega) (say_same _ _).1 (by rw [(say_same _ _).2.2.1];exact he) (by rw [byNumber_say];exact hnum)
       rw [hr,say_with,say_say] at this
       simp only [List.cons_append,List.nil_append] at this ⊢
       rw [show p + ((saidGo num false (d :: r')).2 + 1) = p + 1 + (saidGo num false (d :: r')).2 by omega]
       exact this
   ·rw [saidGo_ne num false c r (by simp [hs']) h39]
    have h1:=reach_cp hc hi he hp h39 (by rw [hnum];exact hs')
    refine h1.trans ?_
    have:=ih (p + 1) (({ x with i:=o rs (p + 1) }:Dk.Sc).say c) (by rw [hr];omega) (say_same _ _).1 (by rw [(say_same _ _).2.2.1];exact he) (by rw [byNumber_say];exact hnum)
    rw [hr,say_with,say_say] at this
    simp only at this ⊢
    rw [show p + ((saidGo num false r).2 + 1) = p + 1 + (saidGo num false r).2 by omega]
    exact this
theorem said_end (num:Bool):∀ (n:Nat) (L:List T) (q:Bool),L.length < n → ∀ c,L[(saidGo num q L).2]? = some c → spec num c = true:=by
 intro n
 induction n with
 | zero=>intro L q h;omega
 | succ n ih=>
  intro L q hn c hc
  cases L with
  | nil=>simp at hc
  | cons d r=>
   simp only [List.length_cons] at hn
   by_cases h0:q = false ∧ spec num d = true
   ·rw [h0.1,saidGo_stop num d r h0.2] at hc
    simp at hc
    rw [← hc]
    exact h0.2
   by_cases h39:d = [39]
   ·subst h39
    cases r with
    | nil=>
     rw [saidGo.eq_def] at hc
     simp only at hc
     rw [if_neg h0,if_neg (by simp)] at hc
     split at hc <;> simp at hc
    | cons e r=>
     simp only [List.length_cons] at hn
     by_cases he:e = [39]
     ·subst he
      rw [saidGo_two] at hc
      exact ih r q (by omega) c (by simpa using hc)
     ·by_cases hs:q = true ∨ spec num e = true
      ·rw [saidGo_quote num q e r he hs] at hc
       exact ih (e :: r) (!q) (by simp;omega) c (by simpa using hc)
      ·have hq:q = false:=by cases q with | false=>rfl | true=>exact absurd (.inl rfl) hs
       have hs':spec num e = false:=by
        cases h:spec num e with
        | false=>rfl
        | true=>exact absurd (.inr h) hs
       subst hq
       rw [saidGo_one num e r he hs'] at hc
       exact ih (e :: r) false (by simp;omega) c (by simpa using hc)
   ·rw [saidGo_ne num q d r h0 h39] at hc
    exact ih r q (by omega) c (by simpa using hc)
theorem said_ne (num:Bool) (c:T) (r:List T) (hc:Cps (c :: r)) (hs:spec num c = false):(saidGo num false (c :: r)).1 ≠ []:=by
 by_cases h39:c = [39]
 ·subst h39
  cases r with
  | nil=>rw [saidGo.eq_def];simp [spec]
  | cons d r=>
   by_cases hd:d = [39]
   ·subst hd
    rw [saidGo_two]
    simp
   ·by_cases hsp:spec num d = true
    ·rw [saidGo_quote num false d r hd (.inr hsp)]
     simp only [Bool.not_false]
     rw [saidGo_ne num true d r (by simp) hd]
     have:=(hc d (by simp)).ne
     simp [this]
    ·rw [saidGo_one num d r hd (by simpa using hsp)]
     simp
 ·rw [saidGo_ne num false c r (by simp [hs]) h39]
  have:=(hc c (by simp)).ne
  simp [this]
def Ends (s:T) (x:Dk.Sc) (e a:Nat):Prop:=∃ y,Reach s x y ∧ (Bad y e a ∨ y.err = 0 ∧ y.i = s.length ∧ y.opens ≠ [] ∧ e = 3 ∧ a = s.length)
theorem Ends.bad {s:T} {x:Dk.Sc} {e a:Nat} (h:Bad x e a):Ends s x e a:=⟨x,.refl _,.inl h⟩
theorem Ends.after {s:T} {x y:Dk.Sc} {e a:Nat} (h:Reach s x y) (h2:Ends s y e a):Ends s x e a:=by
 obtain ⟨z,h3,h4⟩:=h2
 exact ⟨z,h.trans h3,h4⟩
def beh (s:T) (z:Dk.Sc) (num first:Bool):Dk.Sc:=
 if first = true then (z.blanks s).branch s num
 else if s[(z.blanks s).i]? = some 125 then ((z.blanks s).put { kind:=41,at_:=(z.blanks s).i }).go 1 else (z.blanks s).branch s num
def Nt (rs:List T) (num:Bool) (x:Dk.Sc) (p:Nat):Prop:=(∃ m,x.out.getLast? = some m ∧ m.kind = 116) → ∀ c,rs[p]? = some c → spec num c = true
def Good (rs:List T):Mode → Nat → Res → Prop
 | .msg d num,p,res=>∀ x:Dk.Sc,x.i = o rs p → x.err = 0 → x.opens.length + 1 = d → x.byNumber = num → Nt rs num x p → match res with
  | .ok t q=>Reach rs.flatten x { x with i:=o rs q,out:=x.out ++ flat (o rs) t } ∧ (rs[q]? = none ∨ rs[q]? = some [125])
  | .okB _ _ _=>True
  | .bad e a=>Ends rs.flatten x e (o rs a)
 | .arg d,p,res=>∀ x:Dk.Sc,x.i = o rs p → x.err = 0 → x.opens.length + 1 = d → rs[p]? = some [123] → match res with
  | .ok t q=>Reach rs.flatten x { x with i:=o rs q,out:=x.out ++ flat (o rs) t } ∧ ∃ m,(flat (o rs) t).getLast? = some m ∧ m.kind ≠ 116
  | .okB _ _ _=>True
  | .bad e a=>Ends rs.flatten x e (o rs a)
 | .brs d num first,p,res=>∀ z:Dk.Sc,z.i = o rs p → z.err = 0 → z.opens.length + 1 = d → match res with
  | .okB t e q=>Reach rs.flatten (beh rs.flatten z num first) { z with i:=o rs q,out:=z.out ++ flat (o rs) t ++ [{ kind:=41,at_:=o rs e }] }
  | .ok _ _=>False
  | .bad e a=>Ends rs.flatten (beh rs.flatten z num first) e (o rs a)
theorem beh_o {rs:List T} (hc:Cps rs) {z:Dk.Sc} {p:Nat} (hi:z.i = o rs p) (num first:Bool) (h:first = true ∨ rs[bl rs p]? ≠ some [125]):beh rs.flatten z num first = ({ z with i:=o rs (bl rs p) }:Dk.Sc).branch rs.flatten num:=by
 unfold beh
 rw [blanks_o hc hi]
 cases first with
 | true=>rw [if_pos rfl]
 | false=>
  rw [if_neg (by simp),if_neg]
  intro h1
  rcases h with h | h
  ·cases h
  ·exact h ((at_one hc (bl rs p) 125 (by decide)).1 h1)
theorem one_brace {rs:List T} (hc:Cps rs) {x:Dk.Sc} {p:Nat} (hi:x.i = o rs p) (h:rs[p]? = some [123]):x.one rs.flatten = x.brace rs.flatten:=by
 have hg:=(at_one hc p 123 (by decide)).2 h
 rw [← hi] at hg
 unfold Dk.Sc.one
 rw [hg]
 simp
theorem one_close {rs:List T} (hc:Cps rs) {z:Dk.Sc} {p:Nat} {num:Bool} (h:rs[p]? = some [125]):({ z with i:=o rs p,opens:=z.opens ++ [num] }:Dk.Sc).one rs.flatten = beh rs.flatten { z with i:=o rs (p + 1),out:=z.out ++ [{ kind:=93 }] } num false:=by
 have hg:=(at_one hc p 125 (by decide)).2 h
 unfold Dk.Sc.one
 simp only
 rw [hg]
 simp only
 rw [if_neg (by decide),if_neg (by decide),if_neg (by simp),if_pos trivial]
 unfold Dk.Sc.behind beh
 have e:(({ z with i:=o rs p,opens:=z.opens ++ [num] }:Dk.Sc).go 1).put { kind:=93 } = { z with i:=o rs (p + 1),out:=z.out ++ [{ kind:=93 }],opens:=z.opens ++ [num] }:=by
  rw [o_succ h];rfl
 rw [e,if_neg (show ¬ (false = true) by simp)]
 have hb:({ z with i:=o rs (p + 1),out:=z.out ++ [{ kind:=93 }],opens:=z.opens ++ [num] }:Dk.Sc).byNumber = num:=by simp [Dk.Sc.byNumber]
 simp only [hb,List.dropLast_concat]
end Go.Proofs.YtaepcfidpekflaaGreatDoor.Pg
