/-
  Several texts in one (Kv, Kw, Kx, Ky). By the verifier.
-/
import Derived.Test.YtaepcfidpekflaaGreatDoorZ13
namespace Go.Proofs.YtaepcfidpekflaaGreatDoor.Pg
open Go.Proofs.YtaepcfidpekflaaGreatDoor
theorem Nt.of_ne {rs:List T} {num:Bool} {x:Dk.Sc} {p:Nat} {l:List Dk.Mark} {m:Dk.Mark} (h:x.out = l ++ [m]) (hm:m.kind ≠ 116):Nt rs num x p:=by
 rintro ⟨m',h1,h2⟩
 rw [h] at h1
 simp at h1
 rw [← h1] at h2
 exact absurd h2 hm
theorem last_split {α:Type} {l:List α} {m:α} (h:l.getLast? = some m):∃ k,l = k ++ [m]:=by
 rcases List.eq_nil_or_concat l with h0 | ⟨k,m',h0⟩
 ·rw [h0] at h;cases h
 ·rw [h0] at h ⊢
  simp at h
  exact ⟨k,by simp [h]⟩
theorem known_plu (ord:Bool):Dk.knownOf (if ord = true then ordinalW else pluralW) ≠ 4 ∧ Dk.knownOf (if ord = true then ordinalW else pluralW) ≠ 0 ∧ Dk.knownOf (if ord = true then ordinalW else pluralW) < 3:=by
 cases ord <;> decide
theorem plu_word {w:T} (h:w = pluralW ∨ w = ordinalW):∃ ord:Bool,w = if ord = true then ordinalW else pluralW:=by
 rcases h with h | h
 ·exact ⟨false,by rw [h];rfl⟩
 ·exact ⟨true,by rw [h];rfl⟩
set_option maxHeartbeats 1600000 in
theorem good_of {rs:List T} (hc:Cps rs) {mode:Mode} {p:Nat} {res:Res} (h:Rd rs mode p res):Good rs mode p res:=by
 induction h with
 | @stop d num p h=>
  intro x hi he hd hn nt
  refine ⟨?_,h⟩
  rw [← hi]
  simp only [flat,List.append_nil]
  exact .refl _
 | @argB d num p e a h h1 ih=>
  intro x hi he hd hn nt
  exact ih x hi he hd h
 | @argK d num p n q res h h1 h2 ih1 ih2=>
  intro x hi he hd hn nt
  obtain ⟨r1,m,m1,m2⟩:=ih1 x hi he hd h
  obtain ⟨l,hl⟩:=last_split m1
  have:=ih2 { x with i:=o rs q,out:=x.out ++ flat (o rs) n } rfl he hd hn (Nt.of_ne (l:=x.out ++ l) (m:=m) (by simp [hl]) m2)
  cases res with
  | ok t q'=>
   obtain ⟨r2,r3⟩:=this
   refine ⟨r1.trans ?_,r3⟩
   simp only [flat_app,← List.append_assoc] at r2 ⊢
   exact r2
  | okB t e q'=>trivial
  | bad e a=>exact Ends.after r1 this
 | @sign d p res h h1 ih=>
  intro x hi he hd hn nt
  have hg:=(at_one hc p 35 (by decide)).2 h
  rw [← hi] at hg
  have h1:x.one rs.flatten = { x with i:=o rs (p + 1),out:=x.out ++ [{ kind:=35 }] }:=by
   unfold Dk.Sc.one
   rw [hg]
   simp only
   rw [if_neg (by decide),if_neg (by decide),if_neg (by simp),if_neg (by decide),if_pos ⟨trivial,hn⟩,o_succ h,hi.symm]
   rfl
  have r1:Reach rs.flatten x { x with i:=o rs (p + 1),out:=x.out ++ [{ kind:=35 }] }:=.step he (lt_of_some hg) (by rw [h1];exact .refl _)
  have:=ih { x with i:=o rs (p + 1),out:=x.out ++ [{ kind:=35 }] } rfl he hd hn (Nt.of_ne rfl (by decide))
  cases res with
  | ok t q'=>
   obtain ⟨r2,r3⟩:=this
   refine ⟨r1.trans ?_,r3⟩
   simp only [flat_app,flat,← List.append_assoc] at r2 ⊢
   exact r2
  | okB t e q'=>trivial
  | bad e a=>exact Ends.after r1 this
 | @said d num p c res h hs h1 ih=>
  intro x hi he hd hn nt
  have r1:=said_o hc num _ p x (Nat.lt_succ_self _) hi he hn
  have hdr:rs.drop p = c :: rs.drop (p + 1):=by
   have hlt:=lt_of_some h
   rw [List.drop_eq_getElem_cons hlt]
   rw [List.getElem?_eq_getElem hlt] at h
   injection h with h
   rw [h]
  have hne:(saidGo num false (rs.drop p)).1 ≠ []:=by
   rw [hdr]
   exact said_ne num c _ (by rw [← hdr];exact hc.drop p) hs
  have hend:∀ c',rs[p + (saidGo num false (rs.drop p)).2]? = some c' → spec num c' = true:=by
   intro c' h'
   rw [← List.getElem?_drop] at h'
   exact said_end num _ (rs.drop p) false (Nat.lt_succ_self _) c' h'
  generalize (saidGo num false (rs.drop p)).2 = n at *
  generalize (saidGo num false (rs.drop p)).1 = t at *
  have hsay:({ x with i:=o rs (p + n) }:Dk.Sc).say t = { x with i:=o rs (p + n),out:=x.out ++ [{ kind:=116,text:=t }] }:=by
   unfold Dk.Sc.say
   rw [if_neg hne]
   congr 1
   unfold Dk.addText
   simp only
   split
   ·rename_i m hm
    rw [if_neg]
    intro hk
    have:=nt ⟨m,hm,hk⟩ c h
    rw [hs] at this
    cases this
   ·rename_i hm
    have:x.out = []:=by simpa using hm
    rw [this]
    rfl
  rw [hsay] at r1
  have:=ih { x with i:=o rs (p + n),out:=x.out ++ [{ kind:=116,text:=t }] } rfl he hd hn (fun _ c' h'=>hend c' h')
  cases res with
  | ok t q'=>
   obtain ⟨r2,r3⟩:=this
   refine ⟨r1.trans ?_,r3⟩
   simp only [flat_app,flat,← List.append_assoc] at r2 ⊢
   exact r2
  | okB t e q'=>trivial
  | bad e a=>exact Ends.after r1 this
 | @nameB d p a h=>
  intro x hi he hd hp
  have hb:=(brace_o hc hi he hp).1 a h
  rw [← one_brace hc hi hp] at hb
  exact ⟨_,.step he (by rw [hi];exact o_lt hc hp) (.refl _),.inl hb⟩
 | @simple d p n q h h1=>
  intro x hi he hd hp
  have hb:=((brace_o hc hi he hp).2 n q h).1 h1
  rw [← one_brace hc hi hp] at hb
  refine ⟨.step he (by rw [hi];exact o_lt hc hp) (by rw [hb];exact .refl _),{ kind:=112,name:=n,at_:=o rs p },rfl,by show (112:UInt8) ≠ 116;decide⟩
 | @commaB d p n q h h1 h2=>
  intro x hi he hd hp
  have hb:=((brace_o hc hi he hp).2 n q h).2.1 h1 h2
  rw [← one_brace hc hi hp] at hb
  exact ⟨_,.step he (by rw [hi];exact o_lt hc hp) (.refl _),.inl hb⟩
 | @kindB d p n q k h h2 hk h3=>
  intro x hi he hd hp
  have hb:=(((brace_o hc hi he hp).2 n q h).2.2 h2 k hk).1 h3
  rw [← one_brace hc hi hp] at hb
  exact ⟨_,.step he (by rw [hi];exact o_lt hc hp) (.refl _),.inl hb⟩
 | @numB d p n q k j h h2 hk h3 hj h4=>
  intro x hi he hd hp
  have hb:=(((((brace_o hc hi he hp).2 n q h).2.2 h2 k hk).2 (by rw [h3];decide) j hj).1 (by rw [h3];decide)).1 h4
  rw [← one_brace hc hi hp] at hb
  exact ⟨_,.step he (by rw [hi];exact o_lt hc hp) (.refl _),.inl hb⟩
 | @num d p n q k j h h2 hk h3 hj h4=>
  intro x hi he hd hp
  have hb:=(((((brace_o hc hi he hp).2 n q h).2.2 h2 k hk).2 (by rw [h3];decide) j hj).1 (by rw [h3];decide)).2 h4
  rw [← one_brace hc hi hp,h3] at hb
  refine ⟨.step he (by rw [hi];exact o_lt hc hp) (by rw [hb];exact .refl _),{ kind:=110,name:=n,how:=numberW,at_:=o rs p },rfl,by show (110:UInt8) ≠ 116;decide⟩
 | @argC d p n q k j h h2 hk h3 hj h4=>
  intro x hi he hd hp
  have hk4:Dk.knownOf (word rs k).flatten ≠ 4 ∧ Dk.knownOf (word rs k).flatten ≠ 0:=by
   rcases h3 with h3 | h3 | h3 <;> rw [h3] <;> decide
  have hb:=((((brace_o hc hi he hp).2 n q h).2.2 h2 k hk).2 hk4.1 j hj).2 hk4.2
  have hb2:=(args_o hc (x:={ x with i:=o rs j }) (j:=j) rfl he (Dk.knownOf (word rs k).flatten) { kind:=40,name:=n,how:=(word rs k).flatten,at_:=o rs p }).1 h4
  rw [← hb,← one_brace hc hi hp] at hb2
  exact ⟨_,.step he (by rw [hi];exact o_lt hc hp) (.refl _),.inl hb2⟩
 | @sel d p n q k j res h h2 hk h3 hj h4 h5 ih=>
  intro x hi he hd hp
  have hk4:Dk.knownOf (word rs k).flatten ≠ 4 ∧ Dk.knownOf (word rs k).flatten ≠ 0:=by rw [h3];decide
  have hb:=((((brace_o hc hi he hp).2 n q h).2.2 h2 k hk).2 hk4.1 j hj).2 hk4.2
  have hb2:=(args_o hc (x:={ x with i:=o rs j }) (j:=j) rfl he (Dk.knownOf (word rs k).flatten) { kind:=40,name:=n,how:=(word rs k).flatten,at_:=o rs p }).2.1 h4 (by rw [h3];decide)
  rw [← hb,← one_brace hc hi hp,h3] at hb2
  have hlt:x.i < rs.flatten.length:=by rw [hi];exact o_lt hc hp
  have:=ih { x with i:=o rs (bl rs (j + 1)),out:=x.out ++ [{ kind:=40,name:=n,how:=selectW,offset:=[48],at_:=o rs p }] } rfl he hd
  have hbe:=beh_o hc (z:={ x with i:=o rs (bl rs (j + 1)),out:=x.out ++ [{ kind:=40,name:=n,how:=selectW,offset:=[48],at_:=o rs p }] }) (p:=bl rs (j + 1)) rfl false true (.inl rfl)
  rw [bl_bl] at hbe
  rw [hbe] at this
  cases res with
  | ok t q'=>exact this.elim
  | okB t e q'=>
   refine ⟨.step he hlt ?_,{ kind:=41,at_:=o rs e },by simp [flat,List.getLast?_cons],by show (41:UInt8) ≠ 116;decide⟩
   rw [hb2]
   simp only [flat,List.append_assoc,List.cons_append,List.nil_append] at this ⊢
   exact this
  | bad e a=>
   refine Ends.after (.step he hlt (.refl _)) ?_
   rw [hb2]
   exact this
 | @offB d p n q k j a h h2 hk h3 hj h4 h5=>
  intro x hi he hd hp
  obtain ⟨ord,ho⟩:=plu_word h3
  obtain ⟨k1,k2,k3⟩:=known_plu ord
  rw [← ho] at k1 k2 k3
  have hb:=((((brace_o hc hi he hp).2 n q h).2.2 h2 k hk).2 k1 j hj).2 k2
  have hb2:=((args_o hc (x:={ x with i:=o rs j }) (j:=j) rfl he (Dk.knownOf (word rs k).flatten) { kind:=40,name:=n,how:=(word rs k).flatten,at_:=o rs p }).2.2 h4 k3).1 a h5
  rw [← hb,← one_brace hc hi hp] at hb2
  exact ⟨_,.step he (by rw [hi];exact o_lt hc hp) (.refl _),.inl hb2⟩
 | @plu d p n q k j ord off i res h h2 hk h3 hj h4 h5 h6 ih=>
  intro x hi he hd hp
  obtain ⟨k1,k2,k3⟩:=known_plu ord
  rw [← h3] at k1 k2 k3
  have hb:=((((brace_o hc hi he hp).2 n q h).2.2 h2 k hk).2 k1 j hj).2 k2
  have hb2:=((args_o hc (x:={ x with i:=o rs j }) (j:=j) rfl he (Dk.knownOf (word rs k).flatten) { kind:=40,name:=n,how:=(word rs k).flatten,at_:=o rs p }).2.2 h4 k3).2 off i h5
  rw [← hb,← one_brace hc hi hp,h3] at hb2
  have hlt:x.i < rs.flatten.length:=by rw [hi];exact o_lt hc hp
  have:=ih { x with i:=o rs i,out:=x.out ++ [{ kind:=40,name:=n,how:=if ord = true then ordinalW else pluralW,offset:=off,at_:=o rs p }] } rfl he hd
  rw [beh_o hc (z:={ x with i:=o rs i,out:=x.out ++ [{ kind:=40,name:=n,how:=if ord = true then ordinalW else pluralW,offset:=off,at_:=o rs p }] }) (p:=i) rfl true true (.inl rfl)] at this
  cases res with
  | ok t q'=>exact this.elim
  | okB t e q'=>
   refine ⟨.step he hlt ?_,{ kind:=41,at_:=o rs e },by simp [flat,List.getLast?_cons],by show (41:UInt8) ≠ 116;decide⟩
   rw [hb2]
   simp only [flat,List.append_assoc,List.cons_append,List.nil_append] at this ⊢
   exact this
  | bad e a=>
   refine Ends.after (.step he hlt (.refl _)) ?_
   rw [hb2]
   exact this
 | @brsEnd d num p h=>
  intro z hi he hd
  show Reach _ (beh _ z num false) _
  unfold beh
  rw [blanks_o hc hi,if_neg (by simp),if_pos ((at_one hc _ 125 (by decide)).2 h)]
  simp only [flat,List.append_nil]
  have e:(Dk.Sc.put { z with i:=o rs (bl rs p) } { kind:=41,at_:=o rs (bl rs p) }).go 1 = { z with i:=o rs (bl rs p + 1),out:=z.out ++ [{ kind:=41,at_:=o rs (bl rs p) }] }:=by
   rw [o_succ h];rfl
  rw [e]
  exact .refl _
 | @brsSel d num first p a h h1=>
  intro z hi he hd
  show Ends _ _ _ _
  rw [beh_o hc hi num first h]
  exact Ends.bad ((branch_o hc (x:={ z with i:=o rs (bl rs p) }) (p:=bl rs p) rfl he num).2 a h1)
 | @brsOpen d num first p w q h h1 h2=>
  intro z hi he hd
  show Ends _ _ _ _
  rw [beh_o hc hi num first h,(branch_o hc (x:={ z with i:=o rs (bl rs p) }) (p:=bl rs p) rfl he num).1 w q h1]
  exact Ends.bad ((opened_o hc (x:={ z with i:=o rs q }) (p:=q) rfl he num _).1 h2)
 | @brsDeep num first p w q h h1 h2=>
  intro z hi he hd
  show Ends _ _ _ _
  rw [beh_o hc hi num first h,(branch_o hc (x:={ z with i:=o rs (bl rs p) }) (p:=bl rs p) rfl he num).1 w q h1]
  exact Ends.bad ((opened_o hc (x:={ z with i:=o rs q }) (p:=q) rfl he num _).2.2 h2 (by show 6 < z.opens.length + 2;omega))
 | @brsMsg d num first p w q e a h h1 h2 hd6 h3 ih=>
  intro z hi he hd
  show Ends _ _ _ _
  rw [beh_o hc hi num first h,(branch_o hc (x:={ z with i:=o rs (bl rs p) }) (p:=bl rs p) rfl he num).1 w q h1]
  have:=(opened_o hc (x:={ z with i:=o rs q }) (p:=q) rfl he num { kind:=91,text:=w,at_:=o rs (bl rs p) }).2.1 h2 (by show z.opens.length + 2 ≤ 6;omega)
  simp only at this ⊢
  rw [this]
  exact ih _ rfl he (by simp;omega) (by simp [Dk.Sc.byNumber]) (Nt.of_ne rfl (by show (91:UInt8) ≠ 116;decide))
 | @brsClose d num first p w q m j h h1 h2 hd6 h3 h4 ih=>
  intro z hi he hd
  show Ends _ _ _ _
  rw [beh_o hc hi num first h,(branch_o hc (x:={ z with i:=o rs (bl rs p) }) (p:=bl rs p) rfl he num).1 w q h1]
  have:=(opened_o hc (x:={ z with i:=o rs q }) (p:=q) rfl he num { kind:=91,text:=w,at_:=o rs (bl rs p) }).2.1 h2 (by show z.opens.length + 2 ≤ 6;omega)
  simp only at this ⊢
  rw [this]
  obtain ⟨r1,r2⟩:=ih { z with i:=o rs (bl rs q + 1),opens:=z.opens ++ [num],out:=z.out ++ [{ kind:=91,text:=w,at_:=o rs (bl rs p) }] } rfl he (by simp;omega) (by simp [Dk.Sc.byNumber]) (Nt.of_ne rfl (by show (91:UInt8) ≠ 116;decide))
  refine Ends.after r1 ⟨_,.refl _,.inr ⟨he,?_,by simp,rfl,?_⟩⟩
  ·rcases r2 with r2 | r2
   ·exact o_len rs j (List.getElem?_eq_none_iff.1 r2)
   ·exact absurd r2 h4
  ·rcases r2 with r2 | r2
   ·exact o_len rs j (List.getElem?_eq_none_iff.1 r2)
   ·exact absurd r2 h4
 | @brs d num first p w q m j res h h1 h2 hd6 h3 h4 h5 ih1 ih2=>
  intro z hi he hd
  have hop:=(opened_o hc (x:={ z with i:=o rs q }) (p:=q) rfl he num { kind:=91,text:=w,at_:=o rs (bl rs p) }).2.1 h2 (by show z.opens.length + 2 ≤ 6;omega)
  have hbe:=(beh_o hc hi num first h).trans ((branch_o hc (x:={ z with i:=o rs (bl rs p) }) (p:=bl rs p) rfl he num).1 w q h1)
  simp only at hop hbe
  rw [hop] at hbe
  obtain ⟨r1,_⟩:=ih1 { z with i:=o rs (bl rs q + 1),opens:=z.opens ++ [num],out:=z.out ++ [{ kind:=91,text:=w,at_:=o rs (bl rs p) }] } rfl he (by simp;omega) (by simp [Dk.Sc.byNumber]) (Nt.of_ne rfl (by show (91:UInt8) ≠ 116;decide))
  have hcl:=one_close hc (z:={ z with out:=z.out ++ [{ kind:=91,text:=w,at_:=o rs (bl rs p) }] ++ flat (o rs) m }) (num:=num) h4
  have hlt:=o_lt hc h4
  have r3:Reach rs.flatten (beh rs.flatten z num first) (beh rs.flatten { z with i:=o rs (j + 1),out:=z.out ++ [{ kind:=91,text:=w,at_:=o rs (bl rs p) }] ++ flat (o rs) m ++ [{ kind:=93 }] } num false):=by
   rw [hbe]
   refine r1.trans (.step he hlt ?_)
   simp only at hcl ⊢
   rw [hcl]
   exact .refl _
  have:=ih2 { z with i:=o rs (j + 1),out:=z.out ++ [{ kind:=91,text:=w,at_:=o rs (bl rs p) }] ++ flat (o rs) m ++ [{ kind:=93 }] } rfl he hd
  cases res with
  | ok t q'=>exact this.elim
  | okB t e q'=>
   have r4:=r3.trans this
   simp only [Res.pre,Tr.app]
   show Reach _ _ _
   simp only [flat,List.append_assoc,List.cons_append,List.nil_append] at r4 ⊢
   exact r4
  | bad e a=>exact Ends.after r3 this
end Go.Proofs.YtaepcfidpekflaaGreatDoor.Pg
namespace Go.Proofs.YtaepcfidpekflaaGreatDoor.Pg
open Go.Proofs.YtaepcfidpekflaaGreatDoor
theorem fault_i' (x:Dk.Sc) (e a:Nat):(x.fault e a).i = x.i:=by
 unfold Dk.Sc.fault;split <;> rfl
theorem blanks_ge (s:T) (x:Dk.Sc):x.i ≤ (x.blanks s).i:=Nat.le_add_right _ _
theorem go_ge (x:Dk.Sc) (n:Nat):x.i ≤ (x.go n).i:=Nat.le_add_right _ _
theorem name_ge (s:T) (x:Dk.Sc):x.i ≤ (x.name s).i:=by
 unfold Dk.Sc.name
 refine Nat.le_trans ?_ (go_ge _ _)
 split
 ·rw [fault_i'];exact Nat.le_refl _
 ·exact Nat.le_refl _
theorem whole_ge (s:T) (x:Dk.Sc):x.i ≤ (x.whole s).i:=by
 unfold Dk.Sc.whole
 refine Nat.le_trans ?_ (go_ge _ _)
 split
 ·rw [fault_i'];exact Nat.le_refl _
 ·exact Nat.le_refl _
theorem needs_ge (s:T) (x:Dk.Sc) (c:UInt8):x.i ≤ (x.needs s c).i:=by
 unfold Dk.Sc.needs
 split
 ·exact go_ge _ _
 ·rw [fault_i'];exact Nat.le_refl _
theorem opened_ge (s:T) (x:Dk.Sc) (num:Bool) (m:Dk.Mark):x.i ≤ (x.opened s num m).i:=by
 have h:=Nat.le_trans (blanks_ge s x) (needs_ge s (x.blanks s) 123)
 unfold Dk.Sc.opened
 simp only
 split
 ·rw [fault_i'];exact h
 ·exact h
theorem branch_ge (s:T) (x:Dk.Sc) (num:Bool):x.i ≤ (x.branch s num).i:=by
 unfold Dk.Sc.branch
 split
 ·exact Nat.le_refl _
 split
 ·exact Nat.le_trans (Nat.le_trans (go_ge x 1) (whole_ge s _)) (opened_ge _ _ _ _)
 ·refine Nat.le_trans (Nat.le_trans (name_ge s x) ?_) (opened_ge _ _ _ _)
  split
  ·rw [fault_i'];exact Nat.le_refl _
  ·exact Nat.le_refl _
theorem args_ge (s:T) (x:Dk.Sc) (k:Nat) (m:Dk.Mark):x.i ≤ (x.args s k m).i:=by
 have h:=Nat.le_trans (needs_ge s x 44) (blanks_ge s (x.needs s 44))
 unfold Dk.Sc.args
 simp only
 split
 ·generalize (x.needs s 44).blanks s = y at *
  have h1:=go_ge y 7
  generalize y.go 7 = y1 at *
  have h2:=blanks_ge s y1
  have h3:=whole_ge s (y1.blanks s)
  have h4:=blanks_ge s ((y1.blanks s).whole s)
  generalize ((y1.blanks s).whole s).blanks s = y4 at *
  have h5:=branch_ge s (y4.put { m with offset:=(y1.blanks s).wholeT s }) true
  have h6:(y4.put { m with offset:=(y1.blanks s).wholeT s }).i = y4.i:=rfl
  omega
 ·generalize (x.needs s 44).blanks s = y at *
  have h5:=branch_ge s (y.put { m with offset:=[48] }) (decide (k < 3))
  have h6:(y.put { m with offset:=[48] }).i = y.i:=rfl
  omega
theorem brace_ge (s:T) (x:Dk.Sc):x.i + 1 ≤ (x.brace s).i:=by
 have h1:x.i + 1 ≤ ((x.go 1).blanks s).i:=blanks_ge s (x.go 1)
 have h2:=Nat.le_trans h1 (Nat.le_trans (name_ge s _) (blanks_ge s _))
 unfold Dk.Sc.brace
 simp only
 split
 ·exact h2
 split
 ·exact Nat.le_trans h2 (needs_ge s _ 125)
 have h3:=Nat.le_trans h2 (Nat.le_trans (go_ge _ 1) (Nat.le_trans (blanks_ge s _) (name_ge s _)))
 split
 ·rw [fault_i'];exact h3
 split
 ·exact Nat.le_trans h3 (Nat.le_trans (blanks_ge s _) (needs_ge s _ 125))
 ·exact Nat.le_trans h3 (Nat.le_trans (blanks_ge s _) (args_ge s _ _ _))
theorem quoteGo_ge:∀ (k:Nat) (x:Dk.Sc) (r:T),x.i ≤ (x.quoteGo k r).i:=by
 intro k
 induction k with
 | zero=>intro x r;exact Nat.le_refl _
 | succ k ih=>
  intro x r
  have h1:x.i ≤ ((x.say (Lib.cut r [39]).1).go (Lib.cut r [39]).1.length).i:=by
   refine Nat.le_trans ?_ (go_ge _ _)
   rw [(say_same _ _).1]
   exact Nat.le_refl _
  rw [Dk.Sc.quoteGo]
  simp only
  split
  ·exact h1
  split
  ·split
   ·refine Nat.le_trans (Nat.le_trans h1 (go_ge _ 1)) (Nat.le_trans ?_ (ih _ _))
    refine Nat.le_trans ?_ (go_ge _ 1)
    rw [(say_same _ _).1]
    exact Nat.le_refl _
   ·exact Nat.le_trans h1 (go_ge _ 1)
  ·exact Nat.le_trans h1 (go_ge _ 1)
theorem apos_ge (s:T) (x:Dk.Sc) (num:Bool):x.i + 1 ≤ (x.apostrophe s num).i:=by
 unfold Dk.Sc.apostrophe
 simp only
 split
 ·rw [(say_same _ _).1];exact Nat.le_refl _
 split
 ·rw [(say_same _ _).1];exact Nat.le_succ _
 split
 ·rename_i c r _ _ _
  exact quoteGo_ge (r.length + 2) (x.go 1) (c :: r)
 ·rw [(say_same _ _).1];exact Nat.le_refl _
theorem behind_ge (s:T) (x:Dk.Sc):x.i ≤ (x.behind s).i:=by
 unfold Dk.Sc.behind
 simp only
 have h:x.i ≤ (({ x with opens:=x.opens.dropLast }:Dk.Sc).blanks s).i:=blanks_ge s { x with opens:=x.opens.dropLast }
 split
 ·exact Nat.le_trans h (Nat.le_succ _)
 ·exact Nat.le_trans h (branch_ge _ _ _)
theorem one_adv (s:T) (x:Dk.Sc) (he:x.err = 0) (hi:x.i < s.length):(x.one s).err ≠ 0 ∨ x.i < (x.one s).i:=by
 unfold Dk.Sc.one
 rw [List.getElem?_eq_getElem hi]
 simp only
 split
 ·exact .inr (apos_ge s x _)
 split
 ·exact .inr (brace_ge s x)
 split
 ·left
  unfold Dk.Sc.fault
  rw [if_pos he]
  simp
 split
 ·exact .inr (behind_ge s ((x.go 1).put { kind:=93 }))
 split
 ·exact .inr (Nat.lt_succ_self _)
 ·right
  rw [(say_same _ _).1]
  exact Nat.lt_succ_self _
theorem marksGo_stop (s:T) (k:Nat) (x:Dk.Sc) (h:x.err ≠ 0 ∨ s.length ≤ x.i):Dk.marksGo s k x = x:=by
 cases k with
 | zero=>rfl
 | succ k=>
  rw [Dk.marksGo,if_neg]
  rintro ⟨h1,h2⟩
  rcases h with h | h
  ·exact h h1
  ·omega
theorem marksGo_reach {s:T} {x y:Dk.Sc} (h:Reach s x y) (hy:y.err ≠ 0 ∨ s.length ≤ y.i):∀ k,s.length - x.i ≤ k → Dk.marksGo s k x = y:=by
 induction h with
 | refl x=>intro k _;exact marksGo_stop s k x hy
 | @step x y he hi r ih=>
  intro k hk
  obtain ⟨k',rfl⟩:∃ k',k = k' + 1:=⟨k - 1,by omega⟩
  rw [Dk.marksGo,if_pos ⟨he,hi⟩]
  rcases one_adv s x he hi with h | h
  ·rw [marksGo_stop s k' _ (.inl h)]
   cases r with
   | refl=>rfl
   | step h'=>exact absurd h' h
  ·exact ih hy k' (by omega)
def sc0:Dk.Sc:={ i:=0,out:=[],opens:=[],err:=0,place:=0 }
theorem marks_ok {rs:List T} (hc:Cps rs) {t:Tr} {q:Nat} (h:Rd rs (.msg 1 false) 0 (.ok t q)) (hq:rs[q]? = none):Dk.marks rs.flatten = { i:=rs.flatten.length,out:=flat (o rs) t,opens:=[],err:=0,place:=0 }:=by
 obtain ⟨r1,_⟩:=good_of hc h sc0 (by simp [sc0,o]) rfl rfl rfl (by rintro ⟨m,h,_⟩;cases h)
 have hl:=o_len rs q (List.getElem?_eq_none_iff.1 hq)
 have:=marksGo_reach r1 (.inr (by rw [hl];exact Nat.le_refl _)) rs.flatten.length (by simp [sc0])
 unfold Dk.marks
 have e:({ i:=0,out:=[],opens:=[],err:=0,place:=0 }:Dk.Sc) = sc0:=rfl
 rw [e,this,hl]
 simp [sc0]
theorem marks_brace {rs:List T} (hc:Cps rs) {t:Tr} {q:Nat} (h:Rd rs (.msg 1 false) 0 (.ok t q)) (hq:rs[q]? = some [125]):Bad (Dk.marks rs.flatten) 3 (o rs q):=by
 obtain ⟨r1,_⟩:=good_of hc h sc0 (by simp [sc0,o]) rfl rfl rfl (by rintro ⟨m,h,_⟩;cases h)
 have hg:=(at_one hc q 125 (by decide)).2 hq
 have h1:Dk.Sc.one rs.flatten { sc0 with i:=o rs q,out:=sc0.out ++ flat (o rs) t } = ({ sc0 with i:=o rs q,out:=sc0.out ++ flat (o rs) t }:Dk.Sc).fault 3 (o rs q):=by
  unfold Dk.Sc.one
  simp only
  rw [hg]
  simp [sc0]
 have hb:Bad (({ sc0 with i:=o rs q,out:=sc0.out ++ flat (o rs) t }:Dk.Sc).fault 3 (o rs q)) 3 (o rs q):=Bad.new (x:={ sc0 with i:=o rs q,out:=sc0.out ++ flat (o rs) t }) rfl 3 _ (by decide)
 have r2:=r1.trans (.step rfl (o_lt hc hq) (by rw [h1];exact .refl _))
 have:=marksGo_reach r2 (.inl (by rw [hb.1];decide)) rs.flatten.length (by simp [sc0])
 unfold Dk.marks
 have e:({ i:=0,out:=[],opens:=[],err:=0,place:=0 }:Dk.Sc) = sc0:=rfl
 rw [e,this]
 simp only
 split
 ·exact hb.fault _ _
 ·exact hb
theorem marks_bad {rs:List T} (hc:Cps rs) {e a:Nat} (h:Rd rs (.msg 1 false) 0 (.bad e a)):Bad (Dk.marks rs.flatten) e (o rs a):=by
 obtain ⟨y,r1,h1⟩:=good_of hc h sc0 (by simp [sc0,o]) rfl rfl rfl (by rintro ⟨m,h,_⟩;cases h)
 have e0:({ i:=0,out:=[],opens:=[],err:=0,place:=0 }:Dk.Sc) = sc0:=rfl
 unfold Dk.marks
 rcases h1 with h1 | ⟨h1,h2,h3,h4,h5⟩
 ·have:=marksGo_reach r1 (.inl (by rw [h1.1];exact h1.2.2)) rs.flatten.length (by simp [sc0])
  rw [e0,this]
  simp only
  split
  ·exact h1.fault _ _
  ·exact h1
 ·have:=marksGo_reach r1 (.inr (by rw [h2];exact Nat.le_refl _)) rs.flatten.length (by simp [sc0])
  rw [e0,this]
  simp only
  rw [if_pos ⟨h1,h3⟩,h4,h5]
  exact Bad.new h1 3 _ (by decide)
end Go.Proofs.YtaepcfidpekflaaGreatDoor.Pg
namespace Go.Proofs.YtaepcfidpekflaaGreatDoor.Dk
def sortM (m:Mark):Nat:=if m.kind = 110 ∨ m.kind = 40 ∧ m.how ≠ Pg.selectW then 110 else if m.kind = 40 then 116 else 0
def upd (st c:Nat × Nat):Nat × Nat:=if st.1 = 0 ∨ c.2 < st.2 then c else st
def delta (m:Mark):Int:=if m.kind = 40 ∨ m.kind = 91 then 1 else if m.kind = 41 ∨ m.kind = 93 then -1 else 0
def endF:Int → List Mark → Nat
 | _,[]=>0
 | d,m :: r=>if d + delta m = 0 then 0 else endF (d + delta m) r + 1
def endAt (l:List Mark) (k:Nat):Nat:=k + endF 0 (l.drop k)
def brGo (l:List Mark) (e:Nat):Nat → Nat → List Nat
 | 0,_=>[]
 | n + 1,i=>if i < e then i :: brGo l e n (endAt l i + 1) else []
def brsAt (l:List Mark) (k:Nat):List Nat:=brGo l (endAt l k) l.length (k + 1)
def firstK (n:T):List Mark → Nat
 | []=>0
 | m :: r=>if sortM m ≠ 0 ∧ m.name = n then sortM m else firstK n r
def kindC (P:List Mark) (m:Mark):List (Nat × Nat):=if sortM m ≠ 0 ∧ firstK m.name P ≠ 0 ∧ firstK m.name P ≠ sortM m then [(5,m.at_)] else []
def textAt (l:List Mark) (i:Nat):T:=(l[i]?.map Mark.text).getD []
def placeAt (l:List Mark) (i:Nat):Nat:=(l[i]?.map Mark.at_).getD 0
def twGo (l:List Mark) (seen:List Nat):List Nat → List (Nat × Nat)
 | []=>[]
 | a :: r=>(seen.filter (fun b=>textAt l a = textAt l b)).map (fun _=>(7,placeAt l a)) ++ twGo l (seen ++ [a]) r
def otherW:T:=[111,116,104,101,114]
def othC (l:List Mark) (k:Nat) (bs:List Nat):List (Nat × Nat):=if bs.any (fun b=>textAt l b == otherW) = true then [] else [(6,placeAt l (endAt l k))]
def candsAt (l:List Mark) (i:Nat):List (Nat × Nat):=match l[i]? with
 | none=>[]
 | some m=>kindC (l.take i) m ++ if m.kind = 40 then twGo l [] (brsAt l i) ++ othC l i (brsAt l i) else []
def faults (l:List Mark):Nat × Nat:=((List.range l.length).flatMap (candsAt l)).foldl upd (0,0)
end Go.Proofs.YtaepcfidpekflaaGreatDoor.Dk
namespace Go.Proofs.YtaepcfidpekflaaGreatDoor.Pg
open Go.Proofs.YtaepcfidpekflaaGreatDoor
theorem upd_least:∀ (C:List (Nat × Nat)) (st c:Nat × Nat),(st = c ∨ c ∈ C ∧ (st.1 = 0 ∨ c.2 < st.2)) → c.1 ≠ 0 → (∀ d ∈ C,c.2 ≤ d.2 ∧ (d.2 = c.2 → d = c)) → C.foldl Dk.upd st = c:=by
 intro C
 induction C with
 | nil=>intro st c h _ _;rcases h with h | h;exact h;cases h.1
 | cons d C ih=>
  intro st c h hc hd
  rw [List.foldl_cons]
  have hd':∀ d ∈ C,c.2 ≤ d.2 ∧ (d.2 = c.2 → d = c):=fun d h=>hd d (by simp [h])
  obtain ⟨d1,d2⟩:=hd d (by simp)
  apply ih _ _ _ hc hd'
  unfold Dk.upd
  rcases h with h | ⟨h1,h2⟩
  ·left
   rw [if_neg,h]
   rw [h]
   omega
  ·by_cases hdc:d = c
   ·left
    rw [hdc,if_pos h2]
   ·right
    have hm:c ∈ C:=by
     rcases List.mem_cons.1 h1 with h | h
     ·exact absurd h.symm hdc
     ·exact h
    refine ⟨hm,?_⟩
    split
    ·right
     rcases Nat.lt_or_ge c.2 d.2 with h | h
     ·exact h
     ·exact absurd (d2 (by omega)) hdc
    ·exact h2
theorem upd_none (C:List (Nat × Nat)) (h:C = []):C.foldl Dk.upd (0,0) = (0,0):=by rw [h];rfl
def In:Nat → Nat → Tr → Prop
 | lo,hi,.nil=>lo ≤ hi
 | lo,hi,.text _ r=>In lo hi r
 | lo,hi,.sign r=>In lo hi r
 | lo,hi,.simple _ a r=>lo ≤ a ∧ In (a + 1) hi r
 | lo,hi,.num _ a r=>lo ≤ a ∧ In (a + 1) hi r
 | lo,hi,.sel _ a bs e r=>lo ≤ a ∧ In (a + 1) e bs ∧ In (e + 1) hi r
 | lo,hi,.plu _ a _ _ bs e r=>lo ≤ a ∧ In (a + 1) e bs ∧ In (e + 1) hi r
 | lo,hi,.br _ a m r=>lo ≤ a ∧ ∃ c,In (a + 1) c m ∧ In c hi r
theorem In.le {lo hi:Nat} {t:Tr} (h:In lo hi t):lo ≤ hi:=by
 induction t generalizing lo hi with
 | nil=>exact h
 | text _ r ih=>exact ih h
 | sign r ih=>exact ih h
 | simple _ a r ih=>have:=ih h.2;have:=h.1;omega
 | num _ a r ih=>have:=ih h.2;have:=h.1;omega
 | sel _ a bs e r ih1 ih2=>have:=ih1 h.2.1;have:=ih2 h.2.2;have:=h.1;omega
 | plu _ a _ _ bs e r ih1 ih2=>have:=ih1 h.2.1;have:=ih2 h.2.2;have:=h.1;omega
 | br _ a m r ih1 ih2=>
  obtain ⟨h1,c,h2,h3⟩:=h
  have:=ih1 h2
  have:=ih2 h3
  omega
def keys:Tr → List T
 | .br w _ _ r=>w :: keys r
 | _=>[]
def nodeM (o:Nat → Nat):Tr → Dk.Mark
 | .num n a _=>{ kind:=110,name:=n,how:=numberW,at_:=o a }
 | .sel n a _ _ _=>{ kind:=40,name:=n,how:=selectW,offset:=[48],at_:=o a }
 | .plu n a ord off _ _ _=>{ kind:=40,name:=n,how:=if ord then ordinalW else pluralW,offset:=off,at_:=o a }
 | _=>{ kind:=0 }
def kindB (P : List Dk.Mark) (m : Dk.Mark) : Bool := decide (Dk.firstK m.name P ≠ 0 ∧ Dk.firstK m.name P ≠ Dk.sortM m)
abbrev kindBad (P : List Dk.Mark) (m : Dk.Mark) : Prop := kindB P m = true
theorem kindBad_iff {P : List Dk.Mark} {m : Dk.Mark} : kindBad P m ↔ (Dk.firstK m.name P ≠ 0 ∧ Dk.firstK m.name P ≠ Dk.sortM m) := by simp [kindBad, kindB]
def ck (o:Nat → Nat):List Dk.Mark → List T → Tr → Option (Nat × Nat)
 | _,_,.nil=>none
 | P,seen,.text t r=>ck o (P ++ [{ kind:=116,text:=t }]) seen r
 | P,seen,.sign r=>ck o (P ++ [{ kind:=35 }]) seen r
 | P,seen,.simple n a r=>ck o (P ++ [{ kind:=112,name:=n,at_:=o a }]) seen r
 | P,seen,.num n a r=>if kindBad P (nodeM o (.num n a r)) then some (5,a) else ck o (P ++ [nodeM o (.num n a r)]) seen r
 | P,seen,.sel n a bs e r=>if kindBad P (nodeM o (.sel n a bs e r)) then some (5,a) else
   match ck o (P ++ [nodeM o (.sel n a bs e r)]) [] bs with
   | some f=>some f
   | none=>if Dk.otherW ∈ keys bs then ck o (P ++ flat o (.sel n a bs e .nil)) seen r else some (6,e)
 | P,seen,.plu n a ord off bs e r=>if kindBad P (nodeM o (.plu n a ord off bs e r)) then some (5,a) else
   match ck o (P ++ [nodeM o (.plu n a ord off bs e r)]) [] bs with
   | some f=>some f
   | none=>if Dk.otherW ∈ keys bs then ck o (P ++ flat o (.plu n a ord off bs e .nil)) seen r else some (6,e)
 | P,seen,.br w a m r=>if w ∈ seen then some (7,a) else
   match ck o (P ++ [{ kind:=91,text:=w,at_:=o a }]) [] m with
   | some f=>some f
   | none=>ck o (P ++ flat o (.br w a m .nil)) (seen ++ [w]) r
def Tw (o:Nat → Nat):List T → Tr → Nat × Nat → Prop
 | seen,.br w a _ r,x=>w ∈ seen ∧ x = (7,o a) ∨ Tw o (seen ++ [w]) r x
 | _,_,_=>False
def Cd (o:Nat → Nat):List Dk.Mark → Tr → Nat × Nat → Prop
 | _,.nil,_=>False
 | P,.text t r,x=>Cd o (P ++ [{ kind:=116,text:=t }]) r x
 | P,.sign r,x=>Cd o (P ++ [{ kind:=35 }]) r x
 | P,.simple n a r,x=>Cd o (P ++ [{ kind:=112,name:=n,at_:=o a }]) r x
 | P,.num n a r,x=>kindBad P (nodeM o (.num n a r)) ∧ x = (5,o a) ∨ Cd o (P ++ [nodeM o (.num n a r)]) r x
 | P,.sel n a bs e r,x=>kindBad P (nodeM o (.sel n a bs e r)) ∧ x = (5,o a) ∨ Tw o [] bs x ∨ Cd o (P ++ [nodeM o (.sel n a bs e r)]) bs x ∨ Dk.otherW ∉ keys bs ∧ x = (6,o e) ∨ Cd o (P ++ flat o (.sel n a bs e .nil)) r x
 | P,.plu n a ord off bs e r,x=>kindBad P (nodeM o (.plu n a ord off bs e r)) ∧ x = (5,o a) ∨ Tw o [] bs x ∨ Cd o (P ++ [nodeM o (.plu n a ord off bs e r)]) bs x ∨ Dk.otherW ∉ keys bs ∧ x = (6,o e) ∨ Cd o (P ++ flat o (.plu n a ord off bs e .nil)) r x
 | P,.br w a m r,x=>Cd o (P ++ [{ kind:=91,text:=w,at_:=o a }]) m x ∨ Cd o (P ++ flat o (.br w a m .nil)) r x
theorem Tw_In {o:Nat → Nat}:∀ (t:Tr) (seen:List T) (lo hi:Nat) (x:Nat × Nat),In lo hi t → Tw o seen t x → ∃ a,lo ≤ a ∧ a < hi ∧ x = (7,o a):=by
 intro t
 induction t with
 | br w a m r ih1 ih2=>
  intro seen lo hi x h hx
  obtain ⟨h1,c,h2,h3⟩:=h
  rcases hx with ⟨_,hx⟩ | hx
  ·exact ⟨a,h1,by have:=h2.le;have:=h3.le;omega,hx⟩
  ·obtain ⟨b,b1,b2,b3⟩:=ih2 _ _ _ _ h3 hx
   exact ⟨b,by have:=h2.le;omega,b2,b3⟩
 | _=>intro seen lo hi x _ hx;exact hx.elim
theorem Cd_In {o:Nat → Nat}:∀ (t:Tr) (P:List Dk.Mark) (lo hi:Nat) (x:Nat × Nat),In lo hi t → Cd o P t x → ∃ a,lo ≤ a ∧ a < hi ∧ x.2 = o a ∧ x.1 ≠ 0:=by
 intro t
 induction t with
 | nil=>intro P lo hi x _ hx;exact hx.elim
 | text t r ih=>intro P lo hi x h hx;exact ih _ _ _ _ h hx
 | sign r ih=>intro P lo hi x h hx;exact ih _ _ _ _ h hx
 | simple n a r ih=>
  intro P lo hi x h hx
  obtain ⟨b,b1,b2,b3⟩:=ih _ _ _ _ h.2 hx
  exact ⟨b,by have:=h.1;omega,b2,b3⟩
 | num n a r ih=>
  intro P lo hi x h hx
  rcases hx with ⟨_,rfl⟩ | hx
  ·exact ⟨a,h.1,h.2.le,rfl,by simp⟩
  ·obtain ⟨b,b1,b2,b3⟩:=ih _ _ _ _ h.2 hx
   exact ⟨b,by have:=h.1;omega,b2,b3⟩
 | sel n a bs e r ih1 ih2=>
  intro P lo hi x h hx
  obtain ⟨h1,h2,h3⟩:=h
  have l1:=h2.le
  have l2:=h3.le
  rcases hx with ⟨_,rfl⟩ | hx | hx | ⟨_,rfl⟩ | hx
  ·exact ⟨a,h1,by omega,rfl,by simp⟩
  ·obtain ⟨b,b1,b2,rfl⟩:=Tw_In _ _ _ _ _ h2 hx
   exact ⟨b,by omega,by omega,rfl,by simp⟩
  ·obtain ⟨b,b1,b2,b3⟩:=ih1 _ _ _ _ h2 hx
   exact ⟨b,by omega,by omega,b3⟩
  ·exact ⟨e,by omega,by omega,rfl,by simp⟩
  ·obtain ⟨b,b1,b2,b3⟩:=ih2 _ _ _ _ h3 hx
   exact ⟨b,by omega,by omega,b3⟩
 | plu n a ord off bs e r ih1 ih2=>
  intro P lo hi x h hx
  obtain ⟨h1,h2,h3⟩:=h
  have l1:=h2.le
  have l2:=h3.le
  rcases hx with ⟨_,rfl⟩ | hx | hx | ⟨_,rfl⟩ | hx
  ·exact ⟨a,h1,by omega,rfl,by simp⟩
  ·obtain ⟨b,b1,b2,rfl⟩:=Tw_In _ _ _ _ _ h2 hx
   exact ⟨b,by omega,by omega,rfl,by simp⟩
  ·obtain ⟨b,b1,b2,b3⟩:=ih1 _ _ _ _ h2 hx
   exact ⟨b,by omega,by omega,b3⟩
  ·exact ⟨e,by omega,by omega,rfl,by simp⟩
  ·obtain ⟨b,b1,b2,b3⟩:=ih2 _ _ _ _ h3 hx
   exact ⟨b,by omega,by omega,b3⟩
 | br w a m r ih1 ih2=>
  intro P lo hi x h hx
  obtain ⟨h1,c,h2,h3⟩:=h
  have l1:=h2.le
  have l2:=h3.le
  rcases hx with hx | hx
  ·obtain ⟨b,b1,b2,b3⟩:=ih1 _ _ _ _ h2 hx
   exact ⟨b,by omega,by omega,b3⟩
  ·obtain ⟨b,b1,b2,b3⟩:=ih2 _ _ _ _ h3 hx
   exact ⟨b,by omega,by omega,b3⟩
end Go.Proofs.YtaepcfidpekflaaGreatDoor.Pg
namespace Go.Proofs.YtaepcfidpekflaaGreatDoor.Pg
open Go.Proofs.YtaepcfidpekflaaGreatDoor
def Wf:Bool → Tr → Prop
 | _,.nil=>True
 | b,.text _ r=>b = false ∧ Wf false r
 | b,.sign r=>b = false ∧ Wf false r
 | b,.simple _ _ r=>b = false ∧ Wf false r
 | b,.num _ _ r=>b = false ∧ Wf false r
 | b,.sel _ _ bs _ r=>b = false ∧ Wf true bs ∧ Wf false r
 | b,.plu _ _ _ _ bs _ r=>b = false ∧ Wf true bs ∧ Wf false r
 | b,.br _ _ m r=>b = true ∧ Wf false m ∧ Wf true r
theorem no_Tw {o:Nat → Nat} {t:Tr} (h:Wf false t) (seen:List T) (x:Nat × Nat):¬ Tw o seen t x:=by
 cases t with
 | br w a m r=>exact absurd h.1 (by simp)
 | _=>exact fun h=>h
def Least (o:Nat → Nat) (S:Nat × Nat → Prop) (lo hi:Nat):Option (Nat × Nat) → Prop
 | none=>∀ x,¬ S x
 | some f=>S (f.1,o f.2) ∧ lo ≤ f.2 ∧ f.2 < hi ∧ f.1 ≠ 0 ∧ ∀ x,S x → o f.2 ≤ x.2 ∧ (x.2 = o f.2 → x = (f.1,o f.2))
theorem Least.congr {o:Nat → Nat} {S S':Nat × Nat → Prop} {lo lo' hi hi':Nat} {r:Option (Nat × Nat)} (h:Least o S lo hi r) (hS:∀ x,S x ↔ S' x) (h1:lo' ≤ lo) (h2:hi ≤ hi'):Least o S' lo' hi' r:=by
 cases r with
 | none=>exact fun x hx=>h x ((hS x).2 hx)
 | some f=>
  obtain ⟨a,b,c,d,e⟩:=h
  exact ⟨(hS _).1 a,by omega,by omega,d,fun x hx=>e x ((hS x).2 hx)⟩
theorem Least.head {o:Nat → Nat} {S:Nat × Nat → Prop} {lo hi a e:Nat} (h:S (e,o a)) (h1:lo ≤ a) (h2:a < hi) (he:e ≠ 0) (h3:∀ x,S x → x = (e,o a) ∨ o a < x.2):Least o S lo hi (some (e,a)):=by
 refine ⟨h,h1,h2,he,fun x hx=>?_⟩
 rcases h3 x hx with rfl | h
 ·exact ⟨Nat.le_refl _,fun _=>rfl⟩
 ·exact ⟨by simp only;omega,fun h'=>by simp only at h';omega⟩
theorem Least.more {o:Nat → Nat} {S S':Nat × Nat → Prop} {lo hi mid:Nat} {f:Nat × Nat} (h:Least o S lo mid (some f)) (hm:mid ≤ hi) (hS:∀ x,S x → S' x) (h3:∀ x,S' x → S x ∨ ∃ b,mid ≤ b ∧ b < hi ∧ x.2 = o b) (mono:∀ a b,a < b → b < hi → o a < o b):Least o S' lo hi (some f):=by
 obtain ⟨a,b,c,d,e⟩:=h
 refine ⟨hS _ a,b,by omega,d,fun x hx=>?_⟩
 rcases h3 x hx with h | ⟨b',b1,b2,b3⟩
 ·exact e x h
 ·have:=mono f.2 b' (by omega) b2
  exact ⟨by omega,fun h=>by omega⟩
theorem ck_least {o:Nat → Nat} {N:Nat} (mono:∀ a b,a < b → b < N → o a < o b):∀ (t:Tr) (k:Bool) (P:List Dk.Mark) (seen:List T) (lo hi:Nat),hi ≤ N → Wf k t → In lo hi t → Least o (fun x=>Tw o seen t x ∨ Cd o P t x) lo hi (ck o P seen t):=by
 intro t
 induction t with
 | nil=>intro k P seen lo hi _ _ _ x hx;rcases hx with h | h <;> exact h.elim
 | text t r ih=>
  intro k P seen lo hi hN hw h
  rw [ck]
  refine Least.congr (ih false (P ++ [{ kind:=116,text:=t }]) seen lo hi hN hw.2 h) (fun x=>?_) (Nat.le_refl _) (Nat.le_refl _)
  simp [Cd,Tw,no_Tw hw.2]
 | sign r ih=>
  intro k P seen lo hi hN hw h
  rw [ck]
  refine Least.congr (ih false (P ++ [{ kind:=35 }]) seen lo hi hN hw.2 h) (fun x=>?_) (Nat.le_refl _) (Nat.le_refl _)
  simp [Cd,Tw,no_Tw hw.2]
 | simple n a r ih=>
  intro k P seen lo hi hN hw h
  rw [ck]
  refine Least.congr (ih false (P ++ [{ kind:=112,name:=n,at_:=o a }]) seen (a + 1) hi hN hw.2 h.2) (fun x=>?_) (by have:=h.1;omega) (Nat.le_refl _)
  simp [Cd,Tw,no_Tw hw.2]
 | num n a r ih=>
  intro k P seen lo hi hN hw h
  have hle:=h.2.le
  rw [ck]
  by_cases hk:kindBad P (nodeM o (.num n a r))
  ·rw [if_pos hk]
   refine Least.head (.inr (.inl ⟨hk,rfl⟩)) h.1 (by omega) (by decide) fun x hx=>?_
   rcases hx with hx | ⟨_,hx⟩ | hx
   ·exact hx.elim
   ·exact .inl hx
   ·obtain ⟨b,b1,b2,b3,_⟩:=Cd_In _ _ _ _ _ h.2 hx
    right
    rw [b3]
    exact mono a b (by omega) (by omega)
  ·rw [if_neg hk]
   exact (ih false (P ++ [nodeM o (.num n a r)]) seen (a + 1) hi hN hw.2 h.2).congr (fun x=>by simp [Cd,Tw,no_Tw hw.2,hk]) (by have:=h.1;omega) (Nat.le_refl _)
 | sel n a bs e r ih1 ih2=>
  intro k P seen lo hi hN hw h
  obtain ⟨h1,h2,h3⟩:=h
  obtain ⟨_,w1,w2⟩:=hw
  have l1:=h2.le
  have l2:=h3.le
  rw [ck]
  by_cases hk:kindBad P (nodeM o (.sel n a bs e r))
  ·rw [if_pos hk]
   refine Least.head (.inr (.inl ⟨hk,rfl⟩)) h1 (by omega) (by decide) fun x hx=>?_
   rcases hx with hx | ⟨_,hx⟩ | hx | hx | ⟨_,rfl⟩ | hx
   ·exact hx.elim
   ·exact .inl hx
   ·obtain ⟨b,b1,b2,rfl⟩:=Tw_In _ _ _ _ _ h2 hx
    exact .inr (mono a b (by omega) (by omega))
   ·obtain ⟨b,b1,b2,b3,_⟩:=Cd_In _ _ _ _ _ h2 hx
    right
    rw [b3]
    exact mono a b (by omega) (by omega)
   ·exact .inr (mono a e (by omega) (by omega))
   ·obtain ⟨b,b1,b2,b3,_⟩:=Cd_In _ _ _ _ _ h3 hx
    right
    rw [b3]
    exact mono a b (by omega) (by omega)
  ·rw [if_neg hk]
   have i1:=ih1 true (P ++ [nodeM o (.sel n a bs e r)]) [] (a + 1) e (by omega) w1 h2
   cases hc:ck o (P ++ [nodeM o (.sel n a bs e r)]) [] bs with
   | some f=>
    rw [hc] at i1
    have hL:=Least.more (S':=fun x=>Tw o seen (.sel n a bs e r) x ∨ Cd o P (.sel n a bs e r) x) (hi:=hi) i1 (by omega) (fun x hx=>by rcases hx with hx | hx;exact .inr (.inr (.inl hx));exact .inr (.inr (.inr (.inl hx)))) (fun x hx=>by
     rcases hx with hx | ⟨hx,_⟩ | hx | hx | ⟨_,rfl⟩ | hx
     ·exact hx.elim
     ·exact absurd hx hk
     ·exact .inl (.inl hx)
     ·exact .inl (.inr hx)
     ·exact .inr ⟨e,Nat.le_refl _,by omega,rfl⟩
     ·obtain ⟨b,b1,b2,b3,_⟩:=Cd_In _ _ _ _ _ h3 hx
      exact .inr ⟨b,by omega,b2,b3⟩) (fun a b h h'=>mono a b h (by omega))
    exact hL.congr (fun x=>Iff.rfl) (by omega) (Nat.le_refl _)
   | none=>
    rw [hc] at i1
    simp only
    have n1:∀ x,¬ Tw o [] bs x:=fun x hx=>i1 x (.inl hx)
    have n2:∀ x,¬ Cd o (P ++ [nodeM o (.sel n a bs e r)]) bs x:=fun x hx=>i1 x (.inr hx)
    by_cases ho:Dk.otherW ∈ keys bs
    ·rw [if_pos ho]
     exact (ih2 false (P ++ flat o (.sel n a bs e .nil)) seen (e + 1) hi hN w2 h3).congr (fun x=>by simp [Cd,Tw,no_Tw w2,hk,n1,n2,ho]) (by omega) (Nat.le_refl _)
    ·rw [if_neg ho]
     refine Least.head (.inr (.inr (.inr (.inr (.inl ⟨ho,rfl⟩))))) (by omega) (by omega) (by decide) fun x hx=>?_
     rcases hx with hx | ⟨hx,_⟩ | hx | hx | ⟨_,rfl⟩ | hx
     ·exact hx.elim
     ·exact absurd hx hk
     ·exact absurd hx (n1 x)
     ·exact absurd hx (n2 x)
     ·exact .inl rfl
     ·obtain ⟨b,b1,b2,b3,_⟩:=Cd_In _ _ _ _ _ h3 hx
      right
      rw [b3]
      exact mono e b (by omega) (by omega)
 | plu n a ord off bs e r ih1 ih2=>
  intro k P seen lo hi hN hw h
  obtain ⟨h1,h2,h3⟩:=h
  obtain ⟨_,w1,w2⟩:=hw
  have l1:=h2.le
  have l2:=h3.le
  rw [ck]
  by_cases hk:kindBad P (nodeM o (.plu n a ord off bs e r))
  ·rw [if_pos hk]
   refine Least.head (.inr (.inl ⟨hk,rfl⟩)) h1 (by omega) (by decide) fun x hx=>?_
   rcases hx with hx | ⟨_,hx⟩ | hx | hx | ⟨_,rfl⟩ | hx
   ·exact hx.elim
   ·exact .inl hx
   ·obtain ⟨b,b1,b2,rfl⟩:=Tw_In _ _ _ _ _ h2 hx
    exact .inr (mono a b (by omega) (by omega))
   ·obtain ⟨b,b1,b2,b3,_⟩:=Cd_In _ _ _ _ _ h2 hx
    right
    rw [b3]
    exact mono a b (by omega) (by omega)
   ·exact .inr (mono a e (by omega) (by omega))
   ·obtain ⟨b,b1,b2,b3,_⟩:=Cd_In _ _ _ _ _ h3 hx
    right
    rw [b3]
    exact mono a b (by omega) (by omega)
  ·rw [if_neg hk]
   have i1:=ih1 true (P ++ [nodeM o (.plu n a ord off bs e r)]) [] (a + 1) e (by omega) w1 h2
   cases hc:ck o (P ++ [nodeM o (.plu n a ord off bs e r)]) [] bs with
   | some f=>
    rw [hc] at i1
    have hL:=Least.more (S':=fun x=>Tw o seen (.plu n a ord off bs e r) x ∨ Cd o P (.plu n a ord off bs e r) x) (hi:=hi) i1 (by omega) (fun x hx=>by rcases hx with hx | hx;exact .inr (.inr (.inl hx));exact .inr (.inr (.inr (.inl hx)))) (fun x hx=>by
     rcases hx with hx | ⟨hx,_⟩ | hx | hx | ⟨_,rfl⟩ | hx
     ·exact hx.elim
     ·exact absurd hx hk
     ·exact .inl (.inl hx)
     ·exact .inl (.inr hx)
     ·exact .inr ⟨e,Nat.le_refl _,by omega,rfl⟩
     ·obtain ⟨b,b1,b2,b3,_⟩:=Cd_In _ _ _ _ _ h3 hx
      exact .inr ⟨b,by omega,b2,b3⟩) (fun a b h h'=>mono a b h (by omega))
    exact hL.congr (fun x=>Iff.rfl) (by omega) (Nat.le_refl _)
   | none=>
    rw [hc] at i1
    simp only
    have n1:∀ x,¬ Tw o [] bs x:=fun x hx=>i1 x (.inl hx)
    have n2:∀ x,¬ Cd o (P ++ [nodeM o (.plu n a ord off bs e r)]) bs x:=fun x hx=>i1 x (.inr hx)
    by_cases ho:Dk.otherW ∈ keys bs
    ·rw [if_pos ho]
     exact (ih2 false (P ++ flat o (.plu n a ord off bs e .nil)) seen (e + 1) hi hN w2 h3).congr (fun x=>by simp [Cd,Tw,no_Tw w2,hk,n1,n2,ho]) (by omega) (Nat.le_refl _)
    ·rw [if_neg ho]
     refine Least.head (.inr (.inr (.inr (.inr (.inl ⟨ho,rfl⟩))))) (by omega) (by omega) (by decide) fun x hx=>?_
     rcases hx with hx | ⟨hx,_⟩ | hx | hx | ⟨_,rfl⟩ | hx
     ·exact hx.elim
     ·exact absurd hx hk
     ·exact absurd hx (n1 x)
     ·exact absurd hx (n2 x)
     ·exact .inl rfl
     ·obtain ⟨b,b1,b2,b3,_⟩:=Cd_In _ _ _ _ _ h3 hx
      right
      rw [b3]
      exact mono e b (by omega) (by omega)
 | br w a m r ih1 ih2=>
  intro k P seen lo hi hN hw h
  obtain ⟨h1,c,h2,h3⟩:=h
  obtain ⟨_,w1,w2⟩:=hw
  have l1:=h2.le
  have l2:=h3.le
  rw [ck]
  by_cases hs:w ∈ seen
  ·rw [if_pos hs]
   refine Least.head (.inl (.inl ⟨hs,rfl⟩)) h1 (by omega) (by decide) fun x hx=>?_
   rcases hx with (⟨_,hx⟩ | hx) | hx | hx
   ·exact .inl hx
   ·obtain ⟨b,b1,b2,rfl⟩:=Tw_In _ _ _ _ _ h3 hx
    exact .inr (mono a b (by omega) (by omega))
   ·obtain ⟨b,b1,b2,b3,_⟩:=Cd_In _ _ _ _ _ h2 hx
    right
    rw [b3]
    exact mono a b (by omega) (by omega)
   ·obtain ⟨b,b1,b2,b3,_⟩:=Cd_In _ _ _ _ _ h3 hx
    right
    rw [b3]
    exact mono a b (by omega) (by omega)
  ·rw [if_neg hs]
   have i1:=ih1 false (P ++ [{ kind:=91,text:=w,at_:=o a }]) [] (a + 1) c (by omega) w1 h2
   cases hc:ck o (P ++ [{ kind:=91,text:=w,at_:=o a }]) [] m with
   | some f=>
    rw [hc] at i1
    have hL:=Least.more (S':=fun x=>Tw o seen (.br w a m r) x ∨ Cd o P (.br w a m r) x) (hi:=hi) i1 (by omega) (fun x hx=>by rcases hx with hx | hx;exact absurd hx (no_Tw w1 _ _);exact .inr (.inl hx)) (fun x hx=>by
     rcases hx with (⟨hx,_⟩ | hx) | hx | hx
     ·exact absurd hx hs
     ·obtain ⟨b,b1,b2,rfl⟩:=Tw_In _ _ _ _ _ h3 hx
      exact .inr ⟨b,b1,b2,rfl⟩
     ·exact .inl (.inr hx)
     ·obtain ⟨b,b1,b2,b3,_⟩:=Cd_In _ _ _ _ _ h3 hx
      exact .inr ⟨b,b1,b2,b3⟩) (fun a b h h'=>mono a b h (by omega))
    exact hL.congr (fun x=>Iff.rfl) (by omega) (Nat.le_refl _)
   | none=>
    rw [hc] at i1
    simp only
    have n2:∀ x,¬ Cd o (P ++ [{ kind:=91,text:=w,at_:=o a }]) m x:=fun x hx=>i1 x (.inr hx)
    exact (ih2 true (P ++ flat o (.br w a m .nil)) (seen ++ [w]) c hi hN w2 h3).congr (fun x=>by simp [Cd,Tw,hs,n2]) (by omega) (Nat.le_refl _)
end Go.Proofs.YtaepcfidpekflaaGreatDoor.Pg
