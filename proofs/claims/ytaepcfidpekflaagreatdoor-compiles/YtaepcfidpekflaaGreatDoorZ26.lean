/-
  Several texts in one (Ba, Da, Bb). By the verifier.
-/
import Derived.Test.YtaepcfidpekflaaGreatDoorZ25
import Derived.RangeFuncNested
import Derived.Test.YtaepcfidpekflaaGreatDoorZ11
import Derived.Test.YtaepcfidpekflaaGreatDoorZ12
namespace Go.Proofs.YtaepcfidpekflaaGreatDoor
open Go.RowKit Go.Maps Go.Shelf Pg
theorem info_instr:(Tryz.prog.info? 312).map (fun i=>(i.zero,i.size,i.bytes)) = some (some .nilIface,1,16):=by kernel_rfl
def Bd (w:World) (b n:Nat):Prop:=∃ v xs,Boxed w b 243 v ∧ w.ownsRow (b + 1) 312 1 v n xs
def Bo (b:Nat) (w:World) (k:Nat):Prop:=k = b ∨ ∃ v,w.cell? ⟨b,0,none⟩ = some v ∧ v.ownBlock = some k
structure Fb (b:Nat) (w w':World):Prop where
 os:w'.os = w.os
 tape:w'.tape = w.tape
 output:w'.output = w.output
 size:w.heap.size ≤ w'.heap.size
 block:∀ k,k < w.heap.size → ¬ Bo b w k → w'.heap[k]? = w.heap[k]?
 own:∀ k,k < w.heap.size → Bo b w' k → Bo b w k
theorem Fb.refl (b:Nat) (w:World):Fb b w w:=⟨rfl,rfl,rfl,Nat.le_refl _,fun _ _ _=>rfl,fun _ _ h=>h⟩
theorem Fb.trans {b:Nat} {u v w:World} (h:Fb b u v) (k:Fb b v w):Fb b u w:=
 ⟨k.os.trans h.os,k.tape.trans h.tape,k.output.trans h.output,Nat.le_trans h.size k.size,fun i hi hn=>(k.block i (Nat.lt_of_lt_of_le hi h.size) (fun e=>hn (h.own i hi e))).trans (h.block i hi hn),fun i hi e=>h.own i hi (k.own i (Nat.lt_of_lt_of_le hi h.size) e)⟩
theorem Bd.base {w:World} {b n k:Nat} (h:Bd w b n) (hk:Bo b w k):b ≤ k ∧ k < w.heap.size:=by
 obtain ⟨v,xs,h1,h2⟩:=h
 rcases hk with rfl | ⟨v',hv,hg⟩
 ·exact ⟨Nat.le_refl _,h1.lt⟩
 ·rw [h1.cell] at hv
  cases hv
  have:=h2.lt k hg
  omega
theorem Bd.lt {w:World} {b n:Nat} (h:Bd w b n):b < w.heap.size:=(h.base (.inl rfl)).2
theorem Fb.below {b n:Nat} {w w':World} (h:Fb b w w') (hb:Bd w b n):Below b w w':=
 ⟨h.os,h.tape,h.output,h.size,fun k hk=>h.block k (by have:=hb.lt;omega) (fun e=>by have:=(hb.base e).1;omega)⟩
theorem bo_same {b:Nat} {w w':World} (hs:w'.heap[b]? = w.heap[b]?) (k:Nat):Bo b w' k ↔ Bo b w k:=by
 unfold Bo
 rw [show w'.cell? ⟨b,0,none⟩ = w.cell? ⟨b,0,none⟩ by simp [World.cell?,hs]]
theorem Fb.of {b n:Nat} {w w':World} (hb:Bd w b n) (h:Below w.heap.size w w'):Fb b w w':=
 ⟨h.os,h.tape,h.output,h.size,fun k hk _=>h.block k hk,fun k _ e=>(bo_same (h.block b hb.lt) k).1 e⟩
theorem owns_same {W W':World} {B k n:Nat} {e:TypeId} {v:Value} {xs:List Value} (h:W.ownsRow B e k v n xs) (hs:∀ g,v.ownBlock = some g → W'.heap[g]? = W.heap[g]?):W'.ownsRow B e k v n xs:=by
 refine ⟨h.1,?_⟩
 rcases h.2 with h2 | ⟨g,cap,cur,hv,hB,hg,h3⟩
 ·exact .inl h2
 ·exact .inr ⟨g,cap,cur,hv,hB,(hs g (by rw [hv];rfl)).trans hg,h3⟩
theorem Bd.keep {b n:Nat} {w w':World} (h:Bd w b n) (hb:Below w.heap.size w w'):Bd w' b n:=by
 obtain ⟨v,xs,h1,h2⟩:=h
 exact ⟨v,xs,(hb.block b h1.lt).trans h1,owns_same h2 fun g hg=>hb.block g (h2.lt g hg).2⟩
theorem heap_other {W:World} {p:Addr} {v:Value} {k:Nat} (h:k ≠ p.block):(W.setCell p v).heap[k]? = W.heap[k]?:=by
 simp only [World.setCell,Array.getElem?_modify]
 rw [if_neg (fun e=>h e.symm)]
theorem heap_size {W:World} {p:Addr} {v:Value}:(W.setCell p v).heap.size = W.heap.size:=by simp [World.setCell]
theorem heap_ltO {w:World} {k:Nat} {o:Obj} (h:w.heap[k]? = some o):k < w.heap.size:=by
 rcases Nat.lt_or_ge k w.heap.size with h' | h'
 ·exact h'
 ·rw [Array.getElem?_eq_none h'] at h;cases h
theorem Fb.at {b k:Nat} {w w':World} {o:Obj} (h:Fb b w w') (hk:w.heap[k]? = some o) (hn:¬ Bo b w k):w'.heap[k]? = some o ∧ ¬ Bo b w' k:=
 ⟨(h.block k (heap_ltO hk) hn).trans hk,fun e=>hn (h.own k (heap_ltO hk) e)⟩
theorem bo_new {b n:Nat} {w:World} {k:Nat} (h:Bd w b n) (hk:w.heap.size ≤ k):¬ Bo b w k:=fun e=>by have:=(h.base e).2;omega
theorem bd_grown {b n:Nat} {w w1 w2:World} {v v2:Value} {xs ys:List Value} (h1:Boxed w b 243 v) (h2:w.ownsRow (b + 1) 312 1 v n xs) (hb1:Below w.heap.size w w1) (hg:w1.grownBy w2 v.ownBlock) (h3:w2.ownsRow (b + 1) 312 1 v2 (n + 1) ys) (hat:v2.ownBlock = v.ownBlock ∨ v2.ownBlock = some w1.heap.size):
  Bd (w2.setCell ⟨b,0,none⟩ v2) b (n + 1) ∧ Fb b w (w2.setCell ⟨b,0,none⟩ v2):=by
 have hnb:v.ownBlock ≠ some b:=fun e=>by have:=(h2.lt b e).1;omega
 have hlb:=h1.lt
 have b1:Boxed w1 b 243 v:=(hb1.block b h1.lt).trans h1
 have b2:Boxed w2 b 243 v:=b1.kept hg (fun e=>hnb e.symm)
 have b3:Boxed (w2.setCell ⟨b,0,none⟩ v2) b 243 v2:=b2.set _
 have hz:=hb1.size
 have hz2:=hg.size
 refine ⟨⟨v2,ys,b3,owns_same h3 fun g hg'=>heap_other (p:=⟨b,0,none⟩) (by have:=(h3.lt g hg').1;simp;omega)⟩,⟨hg.os.trans hb1.os,hg.tape.trans hb1.tape,hg.output.trans hb1.output,by rw [heap_size];omega,fun k hk hn=>?_,fun k hk hn=>?_⟩⟩
 ·rw [heap_other (p:=⟨b,0,none⟩) (fun e=>hn (.inl e)),hg.block k (by omega) (fun e=>hn (.inr ⟨v,h1.cell,e.symm⟩)),hb1.block k hk]
 ·rcases hn with rfl | ⟨u,hu,hk2⟩
  ·exact .inl rfl
  ·rw [b3.cell] at hu
   cases hu
   rcases hat with e | e
   ·rw [e] at hk2;exact .inr ⟨v,h1.cell,hk2⟩
   ·rw [e] at hk2
    injection hk2 with hk2
    omega
set_option maxHeartbeats 1600000 in
set_option maxRecDepth 100000 in
theorem badd_any (b n:Nat) (i:Value) (hi:i = .nilIface ∨ ∃ t v,i = .iface t v) (w:World) (h:Bd w b n) (hn:n < 100000000):
  Calls Tryz.prog 134 #[.pointer (some ⟨b,0,none⟩),i] w fun e w'=>e = .returned (.tuple #[]) ∧ Bd w' b (n + 1) ∧ Fb b w w':=by
 obtain ⟨i0,h01,h02,h03,h04⟩:=info_parts info_instr
 have HI0:Hid (Tryz.prog.info? 312 = some i0 ∧ i0.zero = some .nilIface ∧ i0.size = 1 ∧ i0.bytes = 16):=⟨h01,h02,h03,h04⟩
 clear h01 h02 h03 h04
 obtain ⟨v,xs,h1,h2⟩:=h
 obtain ⟨va,vc,rfl⟩:=owns_len h2
 have c1:=h1.cell
 have f1:=h1.frozen
 have hlb:=h1.lt
 have H1:Hid (Boxed w b 243 (.slice va n vc)):=h1
 have hic:i.cells = #[i]:=by rcases hi with rfl | ⟨t,v,rfl⟩ <;> rfl
 clear h1
 rcases hi with rfl | ⟨t,u,rfl⟩
 all_goals
  go_enter Tryz.func134,Tryz.ntmps134
  go_wp2_with (at_builtin;refine wpList_append_own_at _ rfl _ _ 193 rfl (b + 1) 312 i0 .nilIface 1 16 Tryz.underlying193 HI0.out.1 HI0.out.2.1 HI0.out.2.2.1 HI0.out.2.2.2 rfl (by decide) _ n xs rfl (World.ownsRow.alloc h2 _) ⟨w.heap.size,0,none⟩ 1 1 [_] rfl rfl (cell_one_new _ _ _) (by intro u hu;simp at hu;subst hu;rfl) (by unfold maxLen;omega) (by omega) (by simp;omega) ?_)
  intro v3 w3 hown3 hgrow3 _ hat3
  obtain ⟨HD,HF⟩:=bd_grown H1.out h2 (allocB w _) hgrow3 hown3 (by simpa using hat3)
  have HD2:Hid (Bd (w3.setCell ⟨b,0,none⟩ v3) b (n + 1)):=HD
  have HF2:Hid (Fb b w (w3.setCell ⟨b,0,none⟩ v3)):=HF
  have b3:Boxed w3 b 243 (.slice va n vc):=(H1.out.alloc _).kept hgrow3 (fun e=>by have:=(h2.lt b e.symm).1;omega)
  obtain ⟨a3,c3,rfl⟩:=owns_len hown3
  have c4:=b3.cell
  have f4:=b3.frozen
  clear HD HF hown3 hgrow3 hat3 b3 h2 c1 f1
  go_wp2
  go_end0
  exact ⟨rfl,HD2.out,HF2.out⟩
theorem bhere_any (b n:Nat) (w:World) (h:Bd w b n):
  Calls Tryz.prog 228 #[.pointer (some ⟨b,0,none⟩)] w fun e w'=>e = .returned (.int .i64 n) ∧ w' = w:=by
 obtain ⟨v,xs,h1,h2⟩:=h
 obtain ⟨va,vc,rfl⟩:=owns_len h2
 have c1:=h1.cell
 clear h1 h2
 go_enter Tryz.func228,Tryz.ntmps228
 go_wp2
 go_ret
 exact ⟨rfl,rfl⟩
def Hs (w:World) (b n:Nat) (f:Value):Prop:=∃ p q at_:Nat,f = .func (.func 229) #[] #[.pointer (some ⟨p,0,none⟩),.pointer (some ⟨q,0,none⟩)] ∧ Boxed w p 302 (.pointer (some ⟨b,0,none⟩)) ∧ Boxed w q 3 (.int .i64 at_) ∧ at_ < n ∧ ¬ Bo b w p ∧ ¬ Bo b w q
theorem Hs.fb {w w':World} {b n n':Nat} {f:Value} (h:Hs w b n f) (hf:Fb b w w') (hn:n ≤ n'):Hs w' b n' f:=by
 obtain ⟨p,q,a,h1,h2,h3,h4,h5,h6⟩:=h
 obtain ⟨k1,k2⟩:=hf.at h2 h5
 obtain ⟨k3,k4⟩:=hf.at h3 h6
 exact ⟨p,q,a,h1,k1,k3,by omega,k2,k4⟩
set_option maxHeartbeats 1600000 in
set_option maxRecDepth 100000 in
theorem bhold_any (b n:Nat) (w:World) (h:Bd w b n) (hn:n < 100000000):
  Calls Tryz.prog 204 #[.pointer (some ⟨b,0,none⟩)] w fun e w'=>∃ f,e = .returned f ∧ Hs w' b (n + 1) f ∧ Bd w' b (n + 1) ∧ Fb b w w':=by
 obtain ⟨W1,hW1⟩:∃ W1,w.alloc (.cells #[.pointer (some ⟨b,0,none⟩)] 302) = W1:=⟨_,rfl⟩
 have hb1:Below w.heap.size w W1:=by subst hW1;exact allocB _ _
 have hd1:=h.keep hb1
 have kh:=bhere_any b n W1 hd1
 have hz1:W1.heap.size = w.heap.size + 1:=by subst hW1;simp
 have x1:Boxed W1 w.heap.size 302 (.pointer (some ⟨b,0,none⟩)):=by subst hW1;exact Boxed.new _ _ _
 have n1:=bo_new (b:=b) (k:=w.heap.size) h (Nat.le_refl _)
 have x1c:=x1.cell
 have hb2:Below w.heap.size w (W1.alloc (.cells #[.int .i64 (n:Nat)] 3)):=hb1.alloc (by omega) _
 have hd2:=h.keep hb2
 have y1:Boxed (W1.alloc (.cells #[.int .i64 (n:Nat)] 3)) w.heap.size 302 (.pointer (some ⟨b,0,none⟩)):=x1.alloc _
 have y2:Boxed (W1.alloc (.cells #[.int .i64 (n:Nat)] 3)) (w.heap.size + 1) 3 (.int .i64 (n:Nat)):=by have:=Boxed.new W1 3 (.int .i64 (n:Nat));rw [hz1] at this;exact this
 have y1c:=y1.cell
 have ka:=badd_any b n .nilIface (.inl rfl) _ hd2 hn
 have n1:¬ Bo b (W1.alloc (.cells #[.int .i64 (n:Nat)] 3)) w.heap.size:=fun e=>bo_new h (Nat.le_refl _) ((bo_same (hb2.block b h.lt) _).1 e)
 have n2:¬ Bo b (W1.alloc (.cells #[.int .i64 (n:Nat)] 3)) (w.heap.size + 1):=fun e=>bo_new h (by omega) ((bo_same (hb2.block b h.lt) _).1 e)
 have HF2:Hid (Fb b w (W1.alloc (.cells #[.int .i64 (n:Nat)] 3))):=Fb.of h hb2
 have HY:Hid (Hs (W1.alloc (.cells #[.int .i64 (n:Nat)] 3)) b (n + 1) (.func (.func 229) #[] #[.pointer (some ⟨w.heap.size,0,none⟩),.pointer (some ⟨w.heap.size + 1,0,none⟩)])):=⟨_,_,n,rfl,y1,y2,by omega,n1,n2⟩
 clear h hb1 hd1 x1 hb2 hd2 y1 y2 n1 n2
 go_enter Tryz.func204,Tryz.ntmps204
 go_wp2_with fail
 refine kh.mono ?_
 rintro e w2 ⟨rfl,rfl⟩
 clear kh
 go_wp2_with fail
 refine ka.mono ?_
 rintro e w3 ⟨rfl,hd3,hf3⟩
 have HD3:Hid (Bd w3 b (n + 1)):=hd3
 have HF3:Hid (Fb b w w3):=HF2.out.trans hf3
 have HS3:Hid (Hs w3 b (n + 1) (.func (.func 229) #[] #[.pointer (some ⟨w.heap.size,0,none⟩),.pointer (some ⟨w.heap.size + 1,0,none⟩)])):=HY.out.fb hf3 (Nat.le_refl _)
 clear ka hd3 hf3 HY HF2 
 go_wp2
 go_ret
 exact ⟨_,rfl,HS3.out,HD3.out,HF3.out⟩
theorem own_set {W:World} {B n g j:Nat} {e:TypeId} {c:Nat} {xs:List Value} (h:W.ownsRow B e 1 (.slice (some ⟨g,0,none⟩) n c) n xs) (u:Value):(W.setCell ⟨g,j,none⟩ u).ownsRow B e 1 (.slice (some ⟨g,0,none⟩) n c) n (xs.set j u):=by
 refine ⟨by rw [List.length_set];exact h.1,?_⟩
 rcases h.2 with ⟨h1,_⟩ | ⟨g',cap,cur,h1,h2,h3,h4,h5,h6,h7⟩
 ·cases h1
 ·cases h1
  refine .inr ⟨g,c,cur.setIfInBounds j u,rfl,h2,?_,h4,h5,by rw [Array.size_setIfInBounds];exact h6,?_⟩
  ·simp only [World.setCell,Array.getElem?_modify,if_true,h3]
   rfl
  ·rw [Array.toList_setIfInBounds,List.take_set,h7]
theorem bset_any (b n:Nat) (f i:Value) (hi:i = .nilIface ∨ ∃ t v,i = .iface t v) (w:World) (hd:Bd w b n) (hs:Hs w b n f):
  ∃ cap,f = .func (.func 229) #[] cap ∧ Calls Tryz.prog 229 (#[i] ++ cap) w fun e w'=>e = .returned (.tuple #[]) ∧ Bd w' b n ∧ Fb b w w':=by
 obtain ⟨p,q,at_,rfl,hp,hq,hat,np,nq⟩:=hs
 refine ⟨_,rfl,?_⟩
 obtain ⟨v,xs,h1,h2⟩:=hd
 obtain ⟨va,vc,rfl⟩:=owns_len h2
 have cp:=hp.cell
 have cq:=hq.cell
 have c1:=h1.cell
 obtain ⟨g,rfl,hg⟩:∃ g,va = some ⟨g,0,none⟩ ∧ True:=by
  rcases id h2.2 with ⟨h3,h4⟩ | ⟨g,cap,cur,h3,_⟩
  ·omega
  ·simp only [Value.slice.injEq] at h3
   exact ⟨g,h3.1,trivial⟩
 have hgl:=h2.lt g rfl
 have hcg:w.cell? ⟨g,at_,none⟩ = xs[at_]?:=h2.cellAt at_ (by omega)
 have hlx:=h2.1
 obtain ⟨x0,hx0⟩:∃ x0,xs[at_]? = some x0:=⟨xs[at_]'(by omega),List.getElem?_eq_getElem (by omega)⟩
 rw [hx0] at hcg
 have hfg:w.frozen? ⟨g,at_,none⟩ = false:=by
  rcases id h2.2 with ⟨h3,h4⟩ | ⟨g',cap,cur,h3,_,h5,_⟩
  ·cases h3
  ·cases h3
   simp [World.frozen?,h5]
 have hat':(at_:Int) < n:=by omega
 have HD:Hid (∀ w2,Below w.heap.size w w2 → Bd (w2.setCell ⟨g,at_,none⟩ i) b n ∧ Fb b w (w2.setCell ⟨g,at_,none⟩ i)):=fun w2 hb2=>by
  have g1:Boxed w2 b 243 _:=(hb2.block b h1.lt).trans h1
  have g2:=owns_same h2 (W':=w2) fun g hg=>hb2.block g (h2.lt g hg).2
  have hz:=hb2.size
  refine ⟨⟨_,_,(heap_other (p:=⟨g,at_,none⟩) (by simp;omega)).trans g1,own_set g2 i⟩,⟨hb2.os,hb2.tape,hb2.output,by rw [heap_size];exact hz,fun k hk hn=>(heap_other (p:=⟨g,at_,none⟩) (fun e=>hn (.inr ⟨_,h1.cell,by rw [e];rfl⟩))).trans (hb2.block k hk),fun k hk e=>(bo_same ((heap_other (p:=⟨g,at_,none⟩) (by simp;omega)).trans (hb2.block b h1.lt)) k).1 e⟩⟩
 clear h1 h2 hp hq np nq hx0 hlx
 rcases hi with rfl | ⟨t,u,rfl⟩
 all_goals
  go_enter Tryz.func229,Tryz.ntmps229
  go_wp2
  go_region_with (fail)
  all_goals (go_wp2;go_end0;obtain ⟨z1,z2⟩:=HD.out w (Below.refl _ _);first | exact ⟨rfl,z1,z2⟩ | exact ⟨rfl,z1.keep (Below.refl _ _).drew,z2.trans (Fb.of z1 (Below.refl _ _).drew)⟩)
end Go.Proofs.YtaepcfidpekflaaGreatDoor
namespace Go.Proofs.YtaepcfidpekflaaGreatDoor
open Go.RowKit
theorem api_cells {w:World} {B:Nat} {v:Value} {l:List (Pr.T × Pr.T)} (h:ApiV w B v l):(v = .slice none 0 0 ∧ l = []) ∨ ∃ g cap,v = .slice (some ⟨g,0,none⟩) l.length cap ∧ ∀ j u,(ruleCells l)[j]? = some u → w.cell? ((⟨g,0,none⟩:Addr).add j) = some u:=by
 have h0:w.ownsRow B 44 2 v l.length (ruleCells l):=h
 have hcl:=ruleCells_len l
 rcases h0.2 with ⟨rfl,hz⟩ | ⟨g,cap,cur,rfl,hgc⟩
 ·exact .inl ⟨rfl,List.length_eq_zero_iff.1 hz⟩
 ·refine .inr ⟨g,cap,rfl,fun j u hj=>?_⟩
  have hjl:j < (ruleCells l).length:=by
   rcases Nat.lt_or_ge j (ruleCells l).length with h | h
   ·exact h
   ·rw [List.getElem?_eq_none h] at hj;cases hj
  have:=h0.cellAt j (by omega)
  simp only [Addr.add,Nat.zero_add]
  rw [← hj]
  split
  ·rename_i e;subst e;exact this
  ·exact this
theorem grown_refl (w:World) (r:Option Nat):w.grownBy w r:=⟨rfl,rfl,rfl,Nat.le_refl _,fun _ _ _=>rfl⟩
theorem wpList_api {w:World} {ops:Array Oper} {rest:List Oper} {o:Oper} {a:Act} {Q:Exit → Act → World → Prop} (hgd:o.guard = none) (s x:Operand)
  (ho:o.op = .call { callee:=.builtin .append,args:=#[s,x],argTypes:=#[23,23] }) (B base:Nat) (v:Value) (l:List (Pr.T × Pr.T)) (hl:l.length ≤ 100000) (hs:a.eval s = .slice none 0 0) (hx:a.eval x = v) (hA:ApiV w B v l) (hbase:base ≤ w.heap.size)
  (h:∀ v' w',ApiV w' base v' l → w.grownBy w' none → wpList Tryz.prog ops Q rest (a.put o.dst v') w'):wpList Tryz.prog ops Q (o :: rest) a w:=by
 obtain ⟨i0,hi0,hz0,hz1,hz2⟩:=info_parts info_api
 rcases api_cells hA with ⟨rfl,rfl⟩ | ⟨g,cap,rfl,hc⟩
 ·exact wpList_append_own_none hgd s x 23 ho base 44 i0 2 Tryz.underlying23 hi0 _ 0 [] hs (World.ownsRow_nil _ _ _ _) hx (h _ _ (World.ownsRow_nil _ _ _ _) (grown_refl _ _))
 ·refine wpList_append_own _ hgd s x 23 ho base 44 i0 (.agg #[.string ⟨#[]⟩,.string ⟨#[]⟩]) 2 32 Tryz.underlying23 hi0 hz0 hz1 hz2 rfl (by decide) _ 0 [] hs (World.ownsRow_nil _ _ _ _) ⟨g,0,none⟩ l.length cap (ruleCells l) hx (ruleCells_len l) hc ?_ (by unfold maxLen;omega) (by omega) hbase ?_
  ·intro u hu
   obtain ⟨t,rfl⟩:=ruleCells_mem l u hu
   rfl
  ·intro v' w' h1 h2 _
   exact h v' w' (by simpa [ApiV] using h1) h2
theorem ApiV.set {w:World} {B x j:Nat} {v u:Value} {l:List (Pr.T × Pr.T)} (h:ApiV w B v l) (hx:v.ownBlock ≠ some x):ApiV (w.setCell ⟨x,j,none⟩ u) B v l:=
 owns_same h fun g hg=>heap_other (p:=⟨x,j,none⟩) (fun e=>hx (by rw [hg,e]))
theorem ApiV.low {w:World} {B x:Nat} {v:Value} {l:List (Pr.T × Pr.T)} (h:ApiV w B v l) (hx:x < B):v.ownBlock ≠ some x:=fun e=>by
 have:=(World.ownsRow.lt h x e).1
 omega
theorem ApiV.high {w:World} {B x:Nat} {v:Value} {l:List (Pr.T × Pr.T)} (h:ApiV w B v l) (hx:w.heap.size ≤ x):v.ownBlock ≠ some x:=fun e=>by
 have:=(World.ownsRow.lt h x e).2
 omega
set_option maxHeartbeats 1600000 in
theorem copied_any (B0 B1:Nat) (l0 l1:List (Pr.T × Pr.T)) (v0 v1:Value) (mi po g:Int) (f n:Nat) (d:ByteArray) (w:World) (k0:l0.length ≤ 100000) (k1:l1.length ≤ 100000) (h0:ApiV w B0 v0 l0) (h1:ApiV w B1 v1 l1):
  Calls Tryz.prog 27 #[.agg #[v0,v1,.int .i32 mi,.int .i32 po,.int .i32 g,.int .u8 f,.int .u8 n,.string d]] w fun e w'=>(∃ B u0 u1,e = .returned (.agg #[u0,u1,.int .i32 mi,.int .i32 po,.int .i32 g,.int .u8 f,.int .u8 n,.string d]) ∧ ApiV w' B u0 l0 ∧ ApiV w' B u1 l1) ∧ Below w.heap.size w w':=by
 obtain ⟨a0,c0,rfl,-⟩:=h0.form
 obtain ⟨a1,c1,rfl,-⟩:=h1.form
 have hba:Below w.heap.size w ((w.alloc (.cells #[.slice a0 l0.length c0,.slice a1 l1.length c1,.int .i32 mi,.int .i32 po,.int .i32 g,.int .u8 f,.int .u8 n,.string d] 25)).alloc (.cells #[.slice none 0 0,.slice none 0 0,.int .i32 0,.int .i32 0,.int .i32 0,.int .u8 0,.int .u8 0,.string ⟨#[]⟩] 25)):=((Below.refl _ _).alloc (Nat.le_refl _) _).alloc (by simp) _
 have g0:=h0.keep hba
 have g1:=h1.keep hba
 have HR:Hid (Row ((w.alloc (.cells #[.slice a0 l0.length c0,.slice a1 l1.length c1,.int .i32 mi,.int .i32 po,.int .i32 g,.int .u8 f,.int .u8 n,.string d] 25)).alloc (.cells #[.slice none 0 0,.slice none 0 0,.int .i32 0,.int .i32 0,.int .i32 0,.int .u8 0,.int .u8 0,.string ⟨#[]⟩] 25)) w.heap.size #[.slice a0 l0.length c0,.slice a1 l1.length c1,.int .i32 mi,.int .i32 po,.int .i32 g,.int .u8 f,.int .u8 n,.string d]):=(row_at w _ _).alloc _
 have HQ:Hid (Row ((w.alloc (.cells #[.slice a0 l0.length c0,.slice a1 l1.length c1,.int .i32 mi,.int .i32 po,.int .i32 g,.int .u8 f,.int .u8 n,.string d] 25)).alloc (.cells #[.slice none 0 0,.slice none 0 0,.int .i32 0,.int .i32 0,.int .i32 0,.int .u8 0,.int .u8 0,.string ⟨#[]⟩] 25)) (w.heap.size + 1) #[.slice none 0 0,.slice none 0 0,.int .i32 0,.int .i32 0,.int .i32 0,.int .u8 0,.int .u8 0,.string ⟨#[]⟩]):=by have:=row_at (w.alloc (.cells #[.slice a0 l0.length c0,.slice a1 l1.length c1,.int .i32 mi,.int .i32 po,.int .i32 g,.int .u8 f,.int .u8 n,.string d] 25)) #[.slice none 0 0,.slice none 0 0,.int .i32 0,.int .i32 0,.int .i32 0,.int .u8 0,.int .u8 0,.string ⟨#[]⟩] 25;rw [World.size_alloc] at this;exact this
 have HBA:Hid (Below w.heap.size w ((w.alloc (.cells #[.slice a0 l0.length c0,.slice a1 l1.length c1,.int .i32 mi,.int .i32 po,.int .i32 g,.int .u8 f,.int .u8 n,.string d] 25)).alloc (.cells #[.slice none 0 0,.slice none 0 0,.int .i32 0,.int .i32 0,.int .i32 0,.int .u8 0,.int .u8 0,.string ⟨#[]⟩] 25))):=hba
 have H1:Hid (ApiV w B1 (.slice a1 l1.length c1) l1):=h1
 clear h0 h1 hba
 go_enter Tryz.func27,Tryz.ntmps27
 go_wp2_with (at_builtin;refine wpList_api rfl _ _ rfl B0 (w.heap.size + 2) _ l0 k0 rfl rfl g0 (by simp) ?_)
 intro u0 w2 hu0 hg0
 obtain ⟨q0,e0,rfl,-⟩:=hu0.form
 have hb2:Below ((w.alloc (.cells #[.slice a0 l0.length c0,.slice a1 l1.length c1,.int .i32 mi,.int .i32 po,.int .i32 g,.int .u8 f,.int .u8 n,.string d] 25)).alloc (.cells #[.slice none 0 0,.slice none 0 0,.int .i32 0,.int .i32 0,.int .i32 0,.int .u8 0,.int .u8 0,.string ⟨#[]⟩] 25)).heap.size ((w.alloc (.cells #[.slice a0 l0.length c0,.slice a1 l1.length c1,.int .i32 mi,.int .i32 po,.int .i32 g,.int .u8 f,.int .u8 n,.string d] 25)).alloc (.cells #[.slice none 0 0,.slice none 0 0,.int .i32 0,.int .i32 0,.int .i32 0,.int .u8 0,.int .u8 0,.string ⟨#[]⟩] 25)) w2:=(Below.refl _ _).grown hg0 (Nat.le_refl _) fun j hj=>by cases hj
 have HB2:Hid (Below w.heap.size w w2):=below_of HBA.out hb2
 have HR2:Hid (Row w2 w.heap.size #[.slice a0 l0.length c0,.slice a1 l1.length c1,.int .i32 mi,.int .i32 po,.int .i32 g,.int .u8 f,.int .u8 n,.string d]):=HR.out.keep hb2
 have HU0:Hid (ApiV (w2.setCell ⟨w.heap.size,0,none⟩ (.slice q0 l0.length e0)) (w.heap.size + 2) (.slice q0 l0.length e0) l0):=hu0.set (hu0.low (by omega))
 have HR3:Hid (Row (w2.setCell ⟨w.heap.size,0,none⟩ (.slice q0 l0.length e0)) w.heap.size #[.slice q0 l0.length e0,.slice a1 l1.length c1,.int .i32 mi,.int .i32 po,.int .i32 g,.int .u8 f,.int .u8 n,.string d]):=HR2.out.setC 0 (.slice q0 l0.length e0) (by simp)
 have HB3:Hid (Below w.heap.size w (w2.setCell ⟨w.heap.size,0,none⟩ (.slice q0 l0.length e0))):=HB2.out.setCell (p:=⟨w.heap.size,0,none⟩) (Nat.le_refl _) _
 have g3:ApiV (w2.setCell ⟨w.heap.size,0,none⟩ (.slice q0 l0.length e0)) B1 (.slice a1 l1.length c1) l1:=(H1.out.keep HB2.out).set (H1.out.high (Nat.le_refl _))
 have HQ2:Hid (Row (w2.setCell ⟨w.heap.size,0,none⟩ (.slice q0 l0.length e0)) (w.heap.size + 1) #[.slice none 0 0,.slice none 0 0,.int .i32 0,.int .i32 0,.int .i32 0,.int .u8 0,.int .u8 0,.string ⟨#[]⟩]):=(HQ.out.keep hb2).setO (by omega) _
 have r1:=HR2.out.2.1
 have f1:=HR2.out.2.2
 have hz3:w.heap.size + 2 ≤ (w2.setCell ⟨w.heap.size,0,none⟩ (.slice q0 l0.length e0)).heap.size:=by have:=hb2.size;simp at this ⊢;omega
 have HZ3:Hid (w.heap.size + 2 ≤ (w2.setCell ⟨w.heap.size,0,none⟩ (.slice q0 l0.length e0)).heap.size):=hz3
 clear hu0 hg0 hb2 HBA HR HQ g0 g1 hz3
 go_wp2_with (at_builtin;refine wpList_api rfl _ _ rfl B1 (w.heap.size + 2) _ l1 k1 rfl rfl g3 HZ3.out ?_)
 intro u1 w4 hu1 hg1
 obtain ⟨q1,e1,rfl,-⟩:=hu1.form
 have hb4:Below (w2.setCell ⟨w.heap.size,0,none⟩ (.slice q0 l0.length e0)).heap.size (w2.setCell ⟨w.heap.size,0,none⟩ (.slice q0 l0.length e0)) w4:=(Below.refl _ _).grown hg1 (Nat.le_refl _) fun j hj=>by cases hj
 have HB4:Hid (Below w.heap.size w w4):=below_of HB3.out hb4
 have HR4:Hid (Row w4 w.heap.size #[.slice q0 l0.length e0,.slice a1 l1.length c1,.int .i32 mi,.int .i32 po,.int .i32 g,.int .u8 f,.int .u8 n,.string d]):=HR3.out.keep hb4
 have HU04:Hid (ApiV (w4.setCell ⟨w.heap.size,1,none⟩ (.slice q1 l1.length e1)) (w.heap.size + 2) (.slice q0 l0.length e0) l0):=(HU0.out.keep hb4).set (HU0.out.low (by omega))
 have HU1:Hid (ApiV (w4.setCell ⟨w.heap.size,1,none⟩ (.slice q1 l1.length e1)) (w.heap.size + 2) (.slice q1 l1.length e1) l1):=hu1.set (hu1.low (by omega))
 have HQ4:Hid (Row w4 (w.heap.size + 1) #[.slice none 0 0,.slice none 0 0,.int .i32 0,.int .i32 0,.int .i32 0,.int .u8 0,.int .u8 0,.string ⟨#[]⟩]):=HQ2.out.keep hb4
 have r5:=HQ4.out.2.1
 have f5:=HQ4.out.2.2
 have r4:=HR4.out.2.1
 have f4:=HR4.out.2.2
 clear hu1 hg1 hb4 g3 r1 f1 HU0 HR2 HR3 HB2 HB3 HZ3 H1
 go_wp2
 exact bodyPost_ret (v:=.agg #[.slice q0 l0.length e0,.slice q1 l1.length e1,.int .i32 mi,.int .i32 po,.int .i32 g,.int .u8 f,.int .u8 n,.string d]) (by simp [results,Tryz.results27,go_sem,r5]) rfl ⟨⟨_,_,_,rfl,((((((((HU04.out.set (j:=0) (HU04.out.low (by omega))).set (j:=1) (HU04.out.low (by omega))).set (j:=2) (HU04.out.low (by omega))).set (j:=3) (HU04.out.low (by omega))).set (j:=4) (HU04.out.low (by omega))).set (j:=5) (HU04.out.low (by omega))).set (j:=6) (HU04.out.low (by omega))).set (j:=7) (HU04.out.low (by omega))),((((((((HU1.out.set (j:=0) (HU1.out.low (by omega))).set (j:=1) (HU1.out.low (by omega))).set (j:=2) (HU1.out.low (by omega))).set (j:=3) (HU1.out.low (by omega))).set (j:=4) (HU1.out.low (by omega))).set (j:=5) (HU1.out.low (by omega))).set (j:=6) (HU1.out.low (by omega))).set (j:=7) (HU1.out.low (by omega)))⟩,(((((((((HB4.out.setCell (p:=⟨w.heap.size,1,none⟩) (Nat.le_refl _) _).setCell (p:=⟨w.heap.size + 1,0,none⟩) (Nat.le_succ _) _).setCell (p:=⟨w.heap.size + 1,1,none⟩) (Nat.le_succ _) _).setCell (p:=⟨w.heap.size + 1,2,none⟩) (Nat.le_succ _) _).setCell (p:=⟨w.heap.size + 1,3,none⟩) (Nat.le_succ _) _).setCell (p:=⟨w.heap.size + 1,4,none⟩) (Nat.le_succ _) _).setCell (p:=⟨w.heap.size + 1,5,none⟩) (Nat.le_succ _) _).setCell (p:=⟨w.heap.size + 1,6,none⟩) (Nat.le_succ _) _).setCell (p:=⟨w.heap.size + 1,7,none⟩) (Nat.le_succ _) _)⟩
set_option maxHeartbeats 1600000 in
theorem localeR_any (v0 v1 v:Value) (l0 l1:List Pr.T) (mi po g fi ne:Int) (d:ByteArray) (w:World) (k0:l0.length ≤ 100000) (k1:l1.length ≤ 100000) (s0:SlE w v0 l0) (s1:SlE w v1 l1)
  (h0:Hid (∀ w',Below w.heap.size w w' → Calls Tryz.prog 26 #[v,.int .i64 0] w' fun e w2=>e = .returned (.int .i32 mi) ∧ w2 = w'))
  (h1:Hid (∀ w',Below w.heap.size w w' → Calls Tryz.prog 26 #[v,.int .i64 1] w' fun e w2=>e = .returned (.int .i32 po) ∧ w2 = w'))
  (h2:Hid (∀ w',Below w.heap.size w w' → Calls Tryz.prog 26 #[v,.int .i64 2] w' fun e w2=>e = .returned (.int .i32 g) ∧ w2 = w')):
  Calls Tryz.prog 10 #[v0,v1,v,.int .i64 fi,.int .i64 ne,.string d] w fun e w'=>(∃ B0 B1 u0 u1,e = .returned (.agg #[u0,u1,.int .i32 mi,.int .i32 po,.int .i32 g,.int .u8 (fi % 256),.int .u8 (ne % 256),.string d]) ∧ ApiV w' B0 u0 (pairsOf l0) ∧ ApiV w' B1 u1 (pairsOf l1)) ∧ Below w.heap.size w w':=by
 have hz:Below w.heap.size w (w.alloc (.cells #[.slice none 0 0,.slice none 0 0,.int .i32 0,.int .i32 0,.int .i32 0,.int .u8 0,.int .u8 0,.string ⟨#[]⟩] 25)):=allocB _ _
 have ru0:=rules_any _ v0 l0 k0 (s0.keep hz)
 have HZR:Hid (Row (w.alloc (.cells #[.slice none 0 0,.slice none 0 0,.int .i32 0,.int .i32 0,.int .i32 0,.int .u8 0,.int .u8 0,.string ⟨#[]⟩] 25)) w.heap.size #[.slice none 0 0,.slice none 0 0,.int .i32 0,.int .i32 0,.int .i32 0,.int .u8 0,.int .u8 0,.string ⟨#[]⟩]):=row_at w _ _
 have HZ:Hid (Below w.heap.size w (w.alloc (.cells #[.slice none 0 0,.slice none 0 0,.int .i32 0,.int .i32 0,.int .i32 0,.int .u8 0,.int .u8 0,.string ⟨#[]⟩] 25))):=hz
 have HS1:Hid (SlE w v1 l1):=s1
 clear hz s0 s1
 go_enter Tryz.func10,Tryz.ntmps10
 go_wp2_with fail
 refine ru0.mono ?_
 rintro e w1 ⟨⟨u0,rfl,hu0⟩,hb1⟩
 obtain ⟨q0,e0,rfl,-⟩:=hu0.form
 have HB1:Hid (Below w.heap.size w w1):=below_of HZ.out hb1
 have hzr:=HZR.out.keep hb1
 have hz1:=hb1.size
 rw [World.size_alloc] at hz1
 have hb2:Below w1.heap.size w1 (w1.alloc (.cells #[.slice q0 (pairsOf l0).length e0,.slice none 0 0,.int .i32 0,.int .i32 0,.int .i32 0,.int .u8 (fi % 256),.int .u8 (ne % 256),.string d] 25)):=allocB _ _
 have HB2:Hid (Below w.heap.size w (w1.alloc (.cells #[.slice q0 (pairsOf l0).length e0,.slice none 0 0,.int .i32 0,.int .i32 0,.int .i32 0,.int .u8 (fi % 256),.int .u8 (ne % 256),.string d] 25))):=below_of HB1.out hb2
 have ru1:=rules_any (w1.alloc (.cells #[.slice q0 (pairsOf l0).length e0,.slice none 0 0,.int .i32 0,.int .i32 0,.int .i32 0,.int .u8 (fi % 256),.int .u8 (ne % 256),.string d] 25)) v1 l1 k1 (HS1.out.keep HB2.out)
 have HZR2:Hid (Row (w1.alloc (.cells #[.slice q0 (pairsOf l0).length e0,.slice none 0 0,.int .i32 0,.int .i32 0,.int .i32 0,.int .u8 (fi % 256),.int .u8 (ne % 256),.string d] 25)) w.heap.size #[.slice none 0 0,.slice none 0 0,.int .i32 0,.int .i32 0,.int .i32 0,.int .u8 0,.int .u8 0,.string ⟨#[]⟩]):=hzr.keep hb2
 have HLR2:Hid (Row (w1.alloc (.cells #[.slice q0 (pairsOf l0).length e0,.slice none 0 0,.int .i32 0,.int .i32 0,.int .i32 0,.int .u8 (fi % 256),.int .u8 (ne % 256),.string d] 25)) w1.heap.size #[.slice q0 (pairsOf l0).length e0,.slice none 0 0,.int .i32 0,.int .i32 0,.int .i32 0,.int .u8 (fi % 256),.int .u8 (ne % 256),.string d]):=row_at w1 _ _
 have HU0:Hid (ApiV (w1.alloc (.cells #[.slice q0 (pairsOf l0).length e0,.slice none 0 0,.int .i32 0,.int .i32 0,.int .i32 0,.int .u8 (fi % 256),.int .u8 (ne % 256),.string d] 25)) (w.alloc (.cells #[.slice none 0 0,.slice none 0 0,.int .i32 0,.int .i32 0,.int .i32 0,.int .u8 0,.int .u8 0,.string ⟨#[]⟩] 25)).heap.size (.slice q0 (pairsOf l0).length e0) (pairsOf l0)):=hu0.keep hb2
 have HN0:Hid ((Value.slice q0 (pairsOf l0).length e0).ownBlock ≠ some w1.heap.size ∧ (Value.slice q0 (pairsOf l0).length e0).ownBlock ≠ some w.heap.size):=⟨hu0.high (Nat.le_refl _),hu0.low (by simp)⟩
 clear ru0 hb1 HZ hzr HZR hb2 hu0 HS1
 go_wp2_with fail
 refine ru1.mono ?_
 rintro e w3 ⟨⟨u1,rfl,hu1⟩,hb3⟩
 obtain ⟨q1,e1,rfl,-⟩:=hu1.form
 have HB3:Hid (Below w.heap.size w w3):=below_of HB2.out hb3
 have HA1:Hid (Below w.heap.size w (w3.setCell ⟨w1.heap.size,1,none⟩ (.slice q1 (pairsOf l1).length e1))):=HB3.out.setCell (p:=⟨w1.heap.size,1,none⟩) (by show w.heap.size ≤ w1.heap.size;omega) _
 have HA2:Hid (Below w.heap.size w ((w3.setCell ⟨w1.heap.size,1,none⟩ (.slice q1 (pairsOf l1).length e1)).setCell ⟨w1.heap.size,2,none⟩ (.int .i32 mi))):=HA1.out.setCell (p:=⟨w1.heap.size,2,none⟩) (by show w.heap.size ≤ w1.heap.size;omega) _
 have HA3:Hid (Below w.heap.size w (((w3.setCell ⟨w1.heap.size,1,none⟩ (.slice q1 (pairsOf l1).length e1)).setCell ⟨w1.heap.size,2,none⟩ (.int .i32 mi)).setCell ⟨w1.heap.size,3,none⟩ (.int .i32 po))):=HA2.out.setCell (p:=⟨w1.heap.size,3,none⟩) (by show w.heap.size ≤ w1.heap.size;omega) _
 have hne:w1.heap.size ≠ w.heap.size:=by omega
 have hne':w.heap.size ≠ w1.heap.size:=by omega
 have HR3:Hid (Row (((w3.setCell ⟨w1.heap.size,1,none⟩ (.slice q1 (pairsOf l1).length e1)).setCell ⟨w1.heap.size,2,none⟩ (.int .i32 mi)).setCell ⟨w1.heap.size,3,none⟩ (.int .i32 po)) w1.heap.size #[.slice q0 (pairsOf l0).length e0,.slice q1 (pairsOf l1).length e1,.int .i32 mi,.int .i32 po,.int .i32 0,.int .u8 (fi % 256),.int .u8 (ne % 256),.string d]):=(((HLR2.out.keep hb3).setC 1 (.slice q1 (pairsOf l1).length e1) (by simp)).setC 2 (.int .i32 mi) (by simp)).setC 3 (.int .i32 po) (by simp)
 have HZ3:Hid (Row (((w3.setCell ⟨w1.heap.size,1,none⟩ (.slice q1 (pairsOf l1).length e1)).setCell ⟨w1.heap.size,2,none⟩ (.int .i32 mi)).setCell ⟨w1.heap.size,3,none⟩ (.int .i32 po)) w.heap.size #[.slice none 0 0,.slice none 0 0,.int .i32 0,.int .i32 0,.int .i32 0,.int .u8 0,.int .u8 0,.string ⟨#[]⟩]):=(((HZR2.out.keep hb3).setO hne _).setO hne _).setO hne _
 have HN1:Hid ((Value.slice q1 (pairsOf l1).length e1).ownBlock ≠ some w1.heap.size ∧ (Value.slice q1 (pairsOf l1).length e1).ownBlock ≠ some w.heap.size):=⟨hu1.low (by simp),hu1.low (by simp;omega)⟩
 have HU03:Hid (ApiV (((w3.setCell ⟨w1.heap.size,1,none⟩ (.slice q1 (pairsOf l1).length e1)).setCell ⟨w1.heap.size,2,none⟩ (.int .i32 mi)).setCell ⟨w1.heap.size,3,none⟩ (.int .i32 po)) _ (.slice q0 (pairsOf l0).length e0) (pairsOf l0)):=(((HU0.out.keep hb3).set HN0.out.1).set HN0.out.1).set HN0.out.1
 have HU13:Hid (ApiV (((w3.setCell ⟨w1.heap.size,1,none⟩ (.slice q1 (pairsOf l1).length e1)).setCell ⟨w1.heap.size,2,none⟩ (.int .i32 mi)).setCell ⟨w1.heap.size,3,none⟩ (.int .i32 po)) _ (.slice q1 (pairsOf l1).length e1) (pairsOf l1)):=((hu1.set HN1.out.1).set HN1.out.1).set HN1.out.1
 have r3:=(HLR2.out.keep hb3).2.1
 have f3:=(HLR2.out.keep hb3).2.2
 clear ru1 hu1 hb3 HZR2 HLR2 HU0
 go_wp2_with fail
 refine (h0.out _ HA1.out).mono ?_
 rintro e w' ⟨rfl,rfl⟩
 go_wp2_with fail
 refine (h1.out _ HA2.out).mono ?_
 rintro e w' ⟨rfl,rfl⟩
 go_wp2_with fail
 refine (h2.out _ HA3.out).mono ?_
 rintro e w' ⟨rfl,rfl⟩
 clear r3 f3
 obtain ⟨B3,hB3⟩:∃ B3,(((w3.setCell ⟨w1.heap.size,1,none⟩ (.slice q1 (pairsOf l1).length e1)).setCell ⟨w1.heap.size,2,none⟩ (.int .i32 mi)).setCell ⟨w1.heap.size,3,none⟩ (.int .i32 po)) = B3:=⟨_,rfl⟩
 rw [hB3] at HA3 HR3 HZ3 HU03 HU13 ⊢
 have r3:=HR3.out.2.1
 have f3:=HR3.out.2.2
 have rz:=HZ3.out.2.1
 have fz:=HZ3.out.2.2
 clear hB3 HR3 HZ3 HA1 HA2 HB3 HB1 HB2 h0 h1 h2
 go_wp2
 exact bodyPost_ret (v:=.agg #[.slice q0 (pairsOf l0).length e0,.slice q1 (pairsOf l1).length e1,.int .i32 mi,.int .i32 po,.int .i32 g,.int .u8 (fi % 256),.int .u8 (ne % 256),.string d]) (by simp [results,Tryz.results10,go_sem,rz]) rfl ⟨⟨_,_,_,_,rfl,(((((((((HU03.out.set (j:=4) HN0.out.1).set (j:=0) HN0.out.2).set (j:=1) HN0.out.2).set (j:=2) HN0.out.2).set (j:=3) HN0.out.2).set (j:=4) HN0.out.2).set (j:=5) HN0.out.2).set (j:=6) HN0.out.2).set (j:=7) HN0.out.2),(((((((((HU13.out.set (j:=4) HN1.out.1).set (j:=0) HN1.out.2).set (j:=1) HN1.out.2).set (j:=2) HN1.out.2).set (j:=3) HN1.out.2).set (j:=4) HN1.out.2).set (j:=5) HN1.out.2).set (j:=6) HN1.out.2).set (j:=7) HN1.out.2)⟩,(((((((((HA3.out.setCell (p:=⟨w1.heap.size,4,none⟩) (by show w.heap.size ≤ w1.heap.size;omega) _).setCell (p:=⟨w.heap.size,0,none⟩) (Nat.le_refl _) _).setCell (p:=⟨w.heap.size,1,none⟩) (Nat.le_refl _) _).setCell (p:=⟨w.heap.size,2,none⟩) (Nat.le_refl _) _).setCell (p:=⟨w.heap.size,3,none⟩) (Nat.le_refl _) _).setCell (p:=⟨w.heap.size,4,none⟩) (Nat.le_refl _) _).setCell (p:=⟨w.heap.size,5,none⟩) (Nat.le_refl _) _).setCell (p:=⟨w.heap.size,6,none⟩) (Nat.le_refl _) _).setCell (p:=⟨w.heap.size,7,none⟩) (Nat.le_refl _) _)⟩
end Go.Proofs.YtaepcfidpekflaaGreatDoor
namespace Go.Proofs.YtaepcfidpekflaaGreatDoor
open Go.RowKit Go.Maps Go.Shelf Pg
theorem not_bo {w:World} {b n k:Nat} {c:Array Value} {T:TypeId} {f:Nat × Nat} (h:Bd w b n) (hk:w.heap[k]? = some (.cells c T f)) (h1:T ≠ 243) (h2:T ≠ 312):¬ Bo b w k:=by
 obtain ⟨v,xs,g1,g2⟩:=h
 rintro (rfl | ⟨u,hu,hg⟩)
 ·rw [show w.heap[k]? = _ from g1] at hk
  cases hk
  exact h1 rfl
 ·rw [g1.cell] at hu
  cases hu
  rcases g2.2 with ⟨g3,_⟩ | ⟨g,cap,cur,g3,g4,g5,_⟩
  ·rw [g3] at hg;cases hg
  ·rw [g3] at hg
   injection hg with hg
   simp at hg
   subst hg
   rw [g5] at hk
   cases hk
   exact h2 rfl
theorem not_bo_map {w:World} {b n k:Nat} (h:Bd w b n) (hk:∃ es c,w.heap[k]? = some (.map es c)):¬ Bo b w k:=by
 obtain ⟨es,c,hk⟩:=hk
 obtain ⟨v,xs,g1,g2⟩:=h
 rintro (rfl | ⟨u,hu,hg⟩)
 ·rw [show w.heap[k]? = _ from g1] at hk
  cases hk
 ·rw [g1.cell] at hu
  cases hu
  rcases g2.2 with ⟨g3,_⟩ | ⟨g,cap,cur,g3,g4,g5,_⟩
  ·rw [g3] at hg;cases hg
  ·rw [g3] at hg
   injection hg with hg
   simp at hg
   subst hg
   rw [g5] at hk
   cases hk
theorem Fb.low {b:Nat} {u w w':World} (h:Fb b u w) (hb:Below u.heap.size w w') (hl:b < u.heap.size):Fb b u w':=
 ⟨hb.os.trans h.os,hb.tape.trans h.tape,hb.output.trans h.output,Nat.le_trans h.size hb.size,fun k hk hn=>(hb.block k hk).trans (h.block k hk hn),fun k hk e=>h.own k hk ((bo_same (hb.block b hl) k).1 e)⟩
theorem Bd.same {w w':World} {b n:Nat} (h:Bd w b n) (hs:∀ k,Bo b w k → w'.heap[k]? = w.heap[k]?):Bd w' b n:=by
 obtain ⟨v,xs,g1,g2⟩:=h
 exact ⟨v,xs,(hs b (.inl rfl)).trans g1,owns_same g2 fun g hg=>hs g (.inr ⟨v,g1.cell,hg⟩)⟩
def Mp (w:World) (M n:Nat):Prop:=∃ D:DataW Unit,w.ownsMap Tryz.prog 330 (plainElem Tryz.prog 3) M n D
theorem Mp.at {w:World} {M n:Nat} (h:Mp w M n):∃ es c,w.heap[M]? = some (.map es c):=by
 obtain ⟨D,es,c,h1,_⟩:=h
 exact ⟨es,c,h1⟩
theorem Mp.same {w w':World} {M n:Nat} (h:Mp w M n) (hs:w'.heap[M]? = w.heap[M]?):Mp w' M n:=by
 obtain ⟨D,es,c,h1,h2⟩:=h
 exact ⟨D,es,c,hs.trans h1,h2⟩
theorem Mp.lt {w:World} {M n:Nat} (h:Mp w M n):M < w.heap.size:=by
 obtain ⟨es,c,h1⟩:=h.at
 exact heap_ltO h1
theorem Mp.fb {w w':World} {b n M k:Nat} (h:Mp w M k) (hd:Bd w b n) (hf:Fb b w w'):Mp w' M k:=h.same (hf.block M h.lt (not_bo_map hd h.at))
theorem Mp.keep {w w':World} {M k:Nat} (h:Mp w M k) (hb:Below w.heap.size w w'):Mp w' M k:=h.same (hb.block M h.lt)
set_option maxHeartbeats 1600000 in
set_option maxRecDepth 100000 in
theorem of_any (M n:Nat) (F:Pg.T) (hF:F.length ≤ 1000) (w:World) (h:Mp w M n):
  Calls Tryz.prog 206 #[.map (some M),.string ⟨F.toArray⟩] w fun e w'=>(∃ z:Int,e = .returned (.int .i64 z)) ∧ Below w.heap.size w w':=by
 obtain ⟨D,hD⟩:=h
 have hkey:=sel_key F 0 (by omega) (by decide)
 have HKEY:Hid (keyOf Tryz.prog 330 (.agg #[.string ⟨F.toArray⟩,.int .u32 0]) = some (.string (keyBytes [.string F,.int .u32 (0:Nat)]))):=hkey
 have hkeyo:=sel_key Dk.otherW 0 (by decide) (by decide)
 have HKO:Hid (keyOf Tryz.prog 330 (.agg #[.string ⟨#[111,116,104,101,114]⟩,.int .u32 0]) = some (.string (selB Dk.otherW))):=hkeyo
 have law:=sel_keyed
 have HZK:Hid (∀ W,(zeroValue 3).run Tryz.prog W = .ok (.int .i64 0) W):=Tryz.zeroValue3
 have HD:Hid (w.ownsMap Tryz.prog 330 (plainElem Tryz.prog 3) M n D):=hD
 clear hD hkey hkeyo
 go_enter Tryz.func206,Tryz.ntmps206
 have HU:Hid (Tryz.prog.underlying 337 = some (.map 330 3)):=Tryz.underlying337
 cases hh:Maps.has D (.string (keyBytes [.string F,.int .u32 (0:Nat)])) with
 | true=>
  have HH:Hid (Maps.has D (.string (keyBytes [.string F,.int .u32 (0:Nat)])) = true):=hh
  clear hh
  go_wp2_with (at_lookup;refine wpList_lookup_own_ok_int _ rfl _ _ 337 rfl 330 3 .i64 law HU.out Tryz.underlying3 (HZK.out _) M n D rfl HD.out _ _ rfl HKEY.out ?_;intro c hat hwc;rw [HH.out])
  go_ret
  exact ⟨⟨_,rfl⟩,Below.refl _ _⟩
 | false=>
  have HH:Hid (Maps.has D (.string (keyBytes [.string F,.int .u32 (0:Nat)])) = false):=hh
  clear hh
  go_wp2_with (first | (at_lookup;refine wpList_lookup_own_ok_int _ rfl _ _ 337 rfl 330 3 .i64 law HU.out Tryz.underlying3 (HZK.out _) M n D rfl HD.out _ _ rfl HKEY.out ?_;intro c hat hwc;rw [HH.out]) | (at_lookup;refine wpList_lookup_own_int _ rfl _ _ 337 rfl 330 3 .i64 law HU.out Tryz.underlying3 (HZK.out _) M n D rfl HD.out _ _ rfl HKO.out ?_;intro c2 hat2 hwc2))
  go_ret
  exact ⟨⟨_,rfl⟩,Below.refl _ _⟩
end Go.Proofs.YtaepcfidpekflaaGreatDoor
