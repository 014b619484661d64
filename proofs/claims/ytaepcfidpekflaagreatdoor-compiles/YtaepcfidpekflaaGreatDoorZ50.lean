/-
  Several texts in one (Jh, Ji, Jj, Jk, Jo). By the verifier.
-/
import Derived.Test.YtaepcfidpekflaaGreatDoorZ25
import Derived.Test.YtaepcfidpekflaaGreatDoorZ49
import Derived.Test.YtaepcfidpekflaaGreatDoorZ14
import Derived.Test.YtaepcfidpekflaaGreatDoorZ39
namespace Go.Proofs.YtaepcfidpekflaaGreatDoor.Dk
open Go.Proofs.YtaepcfidpekflaaGreatDoor Pg
theorem fault_op (x:Sc) (e a:Nat):(x.fault e a).opens = x.opens:=by unfold Sc.fault;split <;> rfl
theorem name_op (s:T) (x:Sc):(x.name s).opens = x.opens:=by unfold Sc.name Sc.go;split;exact fault_op _ _ _;rfl
theorem whole_op (s:T) (x:Sc):(x.whole s).opens = x.opens:=by unfold Sc.whole Sc.go;split;exact fault_op _ _ _;rfl
theorem needs_op (s:T) (x:Sc) (c:UInt8):(x.needs s c).opens = x.opens:=by unfold Sc.needs;split;rfl;exact fault_op _ _ _
theorem blanks_op (s:T) (x:Sc):(x.blanks s).opens = x.opens:=rfl
theorem say_op (x:Sc) (t:T):(x.say t).opens = x.opens:=by unfold Sc.say;split <;> rfl
theorem go_op (x:Sc) (n:Nat):(x.go n).opens = x.opens:=rfl
theorem put_op (x:Sc) (m:Mark):(x.put m).opens = x.opens:=rfl
theorem opened_op (s:T) (x:Sc) (num:Bool) (m:Mark):(x.opened s num m).opens.length = x.opens.length + 1:=by
 unfold Sc.opened
 simp only
 rw [List.length_append]
 split
 ·rw [fault_op,needs_op,blanks_op];rfl
 ·rw [needs_op,blanks_op];rfl
theorem branch_op (s:T) (x:Sc) (num:Bool):(x.branch s num).opens.length ≤ x.opens.length + 1:=by
 unfold Sc.branch
 split
 ·omega
 ·split
  ·rw [opened_op,whole_op,go_op];exact Nat.le_refl _
  ·simp only
   rw [opened_op]
   split
   ·rw [fault_op,name_op];exact Nat.le_refl _
   ·rw [name_op];exact Nat.le_refl _
theorem behind_op (s:T) (x:Sc):(x.behind s).opens.length ≤ x.opens.length + 1:=by
 unfold Sc.behind
 simp only
 split
 ·show (x.opens.dropLast).length ≤ _
  rw [List.length_dropLast]
  omega
 ·have h:=branch_op s (({ x with opens:=x.opens.dropLast }:Sc).blanks s) x.byNumber
  rw [blanks_op] at h
  have h2:(x.opens.dropLast).length ≤ x.opens.length:=by rw [List.length_dropLast];omega
  exact Nat.le_trans h (by show (x.opens.dropLast).length + 1 ≤ _;omega)
theorem args_op (s:T) (x:Sc) (known:Nat) (m:Mark):(x.args s known m).opens.length ≤ x.opens.length + 1:=by
 unfold Sc.args
 simp only
 split
 ·have h:=branch_op s (((((((x.needs s 44).blanks s).go 7).blanks s).whole s).blanks s).put { m with offset:=((((x.needs s 44).blanks s).go 7).blanks s).wholeT s }) true
  rw [put_op,blanks_op,whole_op,blanks_op,go_op,blanks_op,needs_op] at h
  exact h
 ·have h:=branch_op s ((((x.needs s 44).blanks s)).put { m with offset:=[48] }) (decide (known < 3))
  rw [put_op,blanks_op,needs_op] at h
  exact h
theorem brace_op (s:T) (x:Sc):(x.brace s).opens.length ≤ x.opens.length + 1:=by
 have hb:((((x.go 1).blanks s).name s).blanks s).opens = x.opens:=by rw [blanks_op,name_op];rfl
 unfold Sc.brace
 simp only
 generalize (((x.go 1).blanks s).name s).blanks s = b at *
 split
 ·rw [hb];omega
 ·split
  ·rw [put_op,needs_op,hb];omega
  ·split
   ·rw [fault_op,name_op,blanks_op,go_op,hb];omega
   ·split
    ·rw [put_op,needs_op,blanks_op,name_op,blanks_op,go_op,hb];omega
    ·have h:=args_op s ((((b.go 1).blanks s).name s).blanks s) (knownOf (((b.go 1).blanks s).nameT s)) { kind:=40,name:=((x.go 1).blanks s).nameT s,how:=((b.go 1).blanks s).nameT s,at_:=x.i }
     rw [blanks_op,name_op,blanks_op,go_op,hb] at h
     exact h
theorem quote_op:∀ (k:Nat) (x:Sc) (r:T),(x.quoteGo k r).opens = x.opens:=by
 intro k
 induction k with
 | zero=>intro x r;rfl
 | succ k ih=>
  intro x r
  rw [Sc.quoteGo]
  simp only
  split
  ·rw [go_op,say_op]
  ·split
   ·split
    ·rw [ih,go_op,say_op,go_op,go_op,say_op]
    ·rw [go_op,go_op,say_op]
   ·rw [go_op,go_op,say_op]
theorem apos_op (s:T) (x:Sc) (num:Bool):(x.apostrophe s num).opens = x.opens:=by
 unfold Sc.apostrophe
 simp only
 split
 ·rw [say_op,go_op]
 ·split
  ·rw [say_op,go_op,go_op]
  ·split
   ·rw [quote_op,go_op]
   ·rw [say_op,go_op]
theorem one_op (s:T) (x:Sc):(x.one s).opens.length ≤ x.opens.length + 1:=by
 unfold Sc.one
 split
 ·omega
 ·split
  ·rw [apos_op];omega
  ·split
   ·exact brace_op s x
   ·split
    ·rw [fault_op];omega
    ·split
     ·exact behind_op s ((x.go 1).put { kind:=93 })
     ·split
      ·rw [put_op,go_op];omega
      ·rw [say_op,go_op];omega
end Go.Proofs.YtaepcfidpekflaaGreatDoor.Dk
namespace Go.Proofs.YtaepcfidpekflaaGreatDoor
open Go.RowKit
def MarksSaid (w w':World) (X:Dk.Sc) (e:Ending):Prop:=∃ ov,e = .returned (.tuple #[ov,.int .i64 X.err,.int .i64 X.place]) ∧ w'.ownsRow w.heap.size 130 6 ov X.out.length (marksCells X.out) ∧ Below w.heap.size w w'
theorem Below.ownsRowN {w:World} {B e k n:Nat} {v:Value} {l:List Value} (h:w.ownsRow B e k v n l) (m:Nat):(w.drewN m).ownsRow B e k v n l:=by
 induction m generalizing w with
 | zero=>exact h
 | succ m ih=>exact ih (World.ownsRow.drew h)
def sc0:Dk.Sc:={ i:=0,out:=[],opens:=[],err:=0,place:=0 }
theorem scan0 (w:World) (s:Pr.T) (T:TypeId):ScanAt [] (w.alloc (.cells #[.string ⟨s.toArray⟩,.int .i64 0,.slice none 0 0,.slice none 0 0,.int .i64 0,.int .i64 0] T)) w.heap.size w.heap.size s sc0:=
 ⟨.slice none 0 0,.slice none 0 0,row_at w _ T,Nat.le_refl _,World.ownsRow_nil _ _ _ _,World.ownsRow_nil _ _ _ _,by simp [Value.ownBlock],by simp [Value.ownBlock],by simp [Value.ownBlock],fun q hq=>by cases hq⟩
set_option maxHeartbeats 1600000 in
set_option maxRecDepth 100000 in
theorem kmarks_any (w:World) (s:Pr.T) (hs:s.length ≤ 1000):
  Calls Tryz.prog 70 #[.string ⟨s.toArray⟩] w fun e w'=>MarksSaid w w' (Dk.marks s) e:=by
 obtain ⟨X,hX⟩:∃ X,Hid (Dk.marks s = X):=⟨_,rfl⟩
 rw [hX.out]
 obtain ⟨Z,hZ⟩:∃ Z,Hid (Dk.marksGo s s.length sc0 = Z):=⟨_,rfl⟩
 have HX:Hid ((if Z.err = 0 ∧ Z.opens ≠ [] then Z.fault 3 s.length else Z) = X):=by
  show _ = _
  rw [← hX.out,← hZ.out]
  rfl
 clear hX
 have s0:=scan0 w s 199
 have b0:Below w.heap.size w (w.alloc (.cells #[.string ⟨s.toArray⟩,.int .i64 0,.slice none 0 0,.slice none 0 0,.int .i64 0,.int .i64 0] 199)):=(Below.refl _ _).alloc (Nat.le_refl _) _
 go_enter Tryz.func70,Tryz.ntmps70
 go_upto_block 0 with fail
 go_cut [5] (fun p wd=>p = .pointer (some ⟨w.heap.size,0,none⟩) ∧ ScanAt [] wd w.heap.size w.heap.size s Z ∧ Below w.heap.size w wd)
 case first=>
  clear HX
  go_wp2_with fail
  go_loopg [] s.length (fun g wr=>∃ z:Dk.Sc,Hid (ScanAt [] wr w.heap.size w.heap.size s z) ∧ Below w.heap.size w wr ∧ Hid (Dk.marksGo s g z = Z) ∧ (z.err ≠ 0 ∨ s.length ≤ z.i + g) ∧ Hid (Dk.Sz (3 * z.i + 16) z) ∧ z.opens.length + g ≤ s.length)
  case atStart=>exact ⟨sc0,s0,b0,hZ,.inr (by simp [sc0]),⟨by simp [sc0],by simp [sc0]⟩,by simp [sc0]⟩
  case round=>
   obtain ⟨z,HS,hb1,HG,hg,HZ,hop⟩:=hrel
   obtain ⟨a1,n1,c1,a2,c2,q1,f1⟩:=HS.out.cells
   clear s0 b0 hZ
   by_cases he:z.err = 0
   ·have he':((z.err:Int) == 0) = true:=by rw [he];rfl
    by_cases hi:z.i < s.length
    ·have hi':(z.i:Int) < s.length:=by omega
     have hgk:0 < gk:=by rcases hg with h | h;exact absurd he h;omega
     have ko:=kone_any wr w.heap.size w.heap.size s z HS.out hs hi HZ.out (by omega)
     have HG2:Hid (Dk.marksGo s (gk - 1) (z.one s) = Z):=by
      show _ = _
      rw [← HG.out]
      obtain ⟨k,rfl⟩:∃ k,gk = k + 1:=⟨gk - 1,by omega⟩
      rw [Dk.marksGo,if_pos ⟨he,hi⟩]
      rfl
     have hg2:(z.one s).err ≠ 0 ∨ s.length ≤ (z.one s).i + (gk - 1):=by
      rcases Pg.one_adv s z he hi with h | h
      ·exact .inl h
      ·rcases hg with h' | h'
       ·exact absurd he h'
       ·exact .inr (by omega)
     have HZ2:Hid (Dk.Sz (3 * (z.one s).i + 16) (z.one s)):=Dk.one_sz s z 16 (Nat.le_refl _) HZ.out
     have hop2:(z.one s).opens.length + (gk - 1) ≤ s.length:=by have:=Dk.one_op s z;omega
     clear HS HG hg HZ hop
     generalize z.one s = z2 at *
     go_wp2_with fail
     refine ko.mono ?_
     rintro e w2 ⟨rfl,hs2,hb2⟩
     have hb3:=hb1.trans hb2
     clear ko q1 f1
     have HS2:Hid (ScanAt [] w2 w.heap.size w.heap.size s z2):=hs2
     clear hs2
     go_wp2
     go_roundg (gk - 1)
     case measure=>omega
     case rel=>exact ⟨z2,HS2,hb3,HG2,hg2,HZ2,hop2⟩
    ·have hi':¬ (z.i:Int) < s.length:=by omega
     have HE:Hid (z = Z):=by show _ = _;rw [← HG.out,Pg.marksGo_stop s gk z (.inr (by omega))]
     clear HG hg HZ hop
     go_wp2
     go_meet
     case rel=>exact ⟨rfl,by rw [← HE.out];exact HS.out,hb1⟩
   ·have he':((z.err:Int) == 0) = false:=by rw [beq_eq_false_iff_ne];omega
    have HE:Hid (z = Z):=by show _ = _;rw [← HG.out,Pg.marksGo_stop s gk z (.inl he)]
    clear HG hg HZ hop
    go_wp2
    go_meet
    case rel=>exact ⟨rfl,by rw [← HE.out];exact HS.out,hb1⟩
 case rest=>
  obtain ⟨rfl,hsZ,hb1⟩:=hcut
  clear s0 b0 hZ
  obtain ⟨a1,n1,c1,a2,c2,q1,f1⟩:=hsZ.cells
  by_cases he:Z.err = 0
  ·have he':((Z.err:Int) == 0) = true:=by rw [he];rfl
   by_cases ho:Z.opens = []
   ·have ho':¬ ((0:Int) < Z.opens.length):=by rw [ho];simp
    have ho2:¬ (0 < Z.opens.length):=by rw [ho];simp
    have e:Z = X:=by have:=HX.out;rw [if_neg (fun h=>h.2 ho)] at this;exact this
    have hsX:Hid (ScanAt [] wc w.heap.size w.heap.size s X):=by rw [← e];exact hsZ
    have HBX:Hid (∀ n,Below w.heap.size w (wc.drewN n)):=fun n=>below_of hb1 (drewB wc n)
    clear HX hsZ hb1 he ho e
    go_upto_region 6 with fail
    clear q1 f1
    obtain ⟨ov,pv,h1,_,h3,_⟩:=hsX.out
    obtain ⟨oa,on,oc,rfl⟩:=owns_form h3
    have q2:=h1.2.1
    clear h1 hsX
    go_wp2
    go_quiet (fail)
    go_wp2
    refine bodyPost_ret (v:=.tuple #[.slice oa on oc,.int .i64 X.err,.int .i64 X.place]) (by simp [results,Tryz.results70,go_sem]) rfl ?_
    exact ⟨_,rfl,Below.ownsRowN h3 _,HBX.out _⟩
   ·have ho':(0:Int) < Z.opens.length:=by have:=List.length_pos_iff.2 ho;omega
    have ho2:0 < Z.opens.length:=List.length_pos_iff.2 ho
    have kf:=kfault_any (ms:=[]) wc w.heap.size w.heap.size s Z 3 s.length hsZ
    have e:Z.fault 3 s.length = X:=by have:=HX.out;rw [if_pos ⟨he,ho⟩] at this;exact this
    rw [e] at kf
    clear HX hsZ he ho e
    go_wp2_with fail
    refine kf.mono ?_
    rintro e w2 ⟨rfl,hs2,hb2⟩
    have hsX:Hid (ScanAt [] w2 w.heap.size w.heap.size s X):=hs2
    have HBX:Hid (∀ n,Below w.heap.size w (w2.drewN n)):=fun n=>below_of (hb1.trans hb2) (drewB w2 n)
    clear kf hs2 hb1 hb2 q1 f1
    obtain ⟨ov,pv,h1,_,h3,_⟩:=hsX.out
    obtain ⟨oa,on,oc,rfl⟩:=owns_form h3
    have q2:=h1.2.1
    clear h1 hsX
    go_wp2
    go_quiet (fail)
    go_wp2
    refine bodyPost_ret (v:=.tuple #[.slice oa on oc,.int .i64 X.err,.int .i64 X.place]) (by simp [results,Tryz.results70,go_sem]) rfl ?_
    exact ⟨_,rfl,Below.ownsRowN h3 _,HBX.out _⟩
  ·have he':((Z.err:Int) == 0) = false:=by rw [beq_eq_false_iff_ne];omega
   have e:Z = X:=by have:=HX.out;rw [if_neg (fun h=>he h.1)] at this;exact this
   have hsX:Hid (ScanAt [] wc w.heap.size w.heap.size s X):=by rw [← e];exact hsZ
   have HBX:Hid (∀ n,Below w.heap.size w (wc.drewN n)):=fun n=>below_of hb1 (drewB wc n)
   clear HX hsZ hb1 he e
   go_upto_region 6 with fail
   clear q1 f1
   obtain ⟨ov,pv,h1,_,h3,_⟩:=hsX.out
   obtain ⟨oa,on,oc,rfl⟩:=owns_form h3
   have q2:=h1.2.1
   clear h1 hsX
   go_wp2
   go_quiet (fail)
   go_wp2
   refine bodyPost_ret (v:=.tuple #[.slice oa on oc,.int .i64 X.err,.int .i64 X.place]) (by simp [results,Tryz.results70,go_sem]) rfl ?_
   exact ⟨_,rfl,Below.ownsRowN h3 _,HBX.out _⟩
end Go.Proofs.YtaepcfidpekflaaGreatDoor
namespace Go.Proofs.YtaepcfidpekflaaGreatDoor
open Go.RowKit
def mkV (m:Dk.Mark):Value:=.agg #[.int .u8 m.kind.toNat,.string ⟨m.text.toArray⟩,.string ⟨m.name.toArray⟩,.string ⟨m.how.toArray⟩,.string ⟨m.offset.toArray⟩,.int .i64 m.at_]
def MkAt (w:World) (a:Option Addr) (l:List Dk.Mark):Prop:=∀ i m,l[i]? = some m → ∃ g,a = some ⟨g,0,none⟩ ∧ g < w.heap.size ∧ ∀ j,j < 6 → w.cell? ⟨g,i * 6 + j,none⟩ = (mCells m)[j]?
theorem marksCells_at:∀ (l:List Dk.Mark) (i j:Nat) (m:Dk.Mark),l[i]? = some m → j < 6 → (marksCells l)[i * 6 + j]? = (mCells m)[j]?:=by
 intro l
 induction l with
 | nil=>intro i j m h;cases h
 | cons k r ih=>
  intro i j m h hj
  cases i with
  | zero=>
   have e:k = m:=by simpa using h
   rw [e,marksCells,List.getElem?_append_left (by simp [mCells];omega)]
   congr 1
   omega
  | succ i=>
   have e:r[i]? = some m:=by simpa using h
   rw [marksCells,List.getElem?_append_right (by simp [mCells];omega),← ih i j m e hj]
   congr 1
   simp [mCells]
   omega
theorem MkAt.of {w:World} {B:Nat} {ov:Value} {l:List Dk.Mark} (h:w.ownsRow B 130 6 ov l.length (marksCells l)):∃ a c,ov = .slice a l.length c ∧ MkAt w a l:=by
 rcases h with ⟨_,⟨h1,h2⟩ | ⟨g,cap,cur,h1,_,h2,h3,_,h4,h5⟩⟩
 ·refine ⟨none,0,by rw [h1,h2],fun i m hm=>?_⟩
  rw [List.getElem?_eq_none (by omega)] at hm
  cases hm
 ·refine ⟨_,_,h1,fun i m hm=>⟨g,rfl,?_,fun j hj=>?_⟩⟩
  ·rcases Nat.lt_or_ge g w.heap.size with h' | h'
   ·exact h'
   ·rw [Array.getElem?_eq_none h'] at h2;cases h2
  ·have hi:i < l.length:=by
    rcases Nat.lt_or_ge i l.length with h' | h'
    ·exact h'
    ·rw [List.getElem?_eq_none h'] at hm;cases hm
   have e:w.cell? ⟨g,i * 6 + j,none⟩ = cur[i * 6 + j]?:=by simp [World.cell?,h2]
   rw [e,← marksCells_at l i j m hm hj,← h5,List.getElem?_take,if_pos (by omega)]
   simp
theorem MkAt.keep {w w1:World} {a:Option Addr} {l:List Dk.Mark} (h:MkAt w a l) (hb:Below w.heap.size w w1):MkAt w1 a l:=fun i m hm=>by
 obtain ⟨g,h1,h2,h3⟩:=h i m hm
 exact ⟨g,h1,Nat.lt_of_lt_of_le h2 hb.size,fun j hj=>by rw [← h3 j hj];exact hb.cell h2⟩
set_option maxHeartbeats 800000 in
theorem ksort_any (w:World) (m:Dk.Mark):
  Calls Tryz.prog 101 #[mkV m] w fun e w'=>e = .returned (.int .u8 (Dk.sortM m)) ∧ Below w.heap.size w w':=by
 obtain ⟨S,hS⟩:∃ S:Nat,Hid (Dk.sortM m = S):=⟨_,rfl⟩
 rw [hS.out]
 have HS:Hid ((if m.kind = 110 ∨ m.kind = 40 ∧ m.how ≠ Pg.selectW then 110 else if m.kind = 40 then 116 else 0) = S):=hS
 clear hS
 unfold mkV
 by_cases h1:m.kind = 110
 ·have t1:((m.kind.toNat:Int) == 110) = true:=by rw [h1];rfl
  have HF:Hid (S = 110):=by show _ = _;rw [← HS.out,if_pos (.inl h1)]
  clear HS h1
  generalize m.kind.toNat = kk at *
  go_enter Tryz.func101,Tryz.ntmps101
  go_wp2
  go_ret
  exact ⟨by rw [HF.out];rfl,(Below.refl _ _).alloc (Nat.le_refl _) _⟩
 ·have f1:((m.kind.toNat:Int) == 110) = false:=byte_ne (n:=110) (by decide) h1
  by_cases h2:m.kind = 40
  ·have t2:((m.kind.toNat:Int) == 40) = true:=by rw [h2];rfl
   by_cases h3:m.how = Pg.selectW
   ·have t3:(m.how == [115,101,108,101,99,116]) = true:=by rw [beq_iff_eq];exact h3
    have HF:Hid (S = 116):=by show _ = _;rw [← HS.out,if_neg (fun h=>h.elim h1 (fun h=>h.2 h3)),if_pos h2]
    clear HS h1 h2 h3
    generalize m.how = hw at *
    generalize m.kind.toNat = kk at *
    go_enter Tryz.func101,Tryz.ntmps101
    go_wp2
    go_ret
    exact ⟨by rw [HF.out];rfl,(Below.refl _ _).alloc (Nat.le_refl _) _⟩
   ·have t3:(m.how == [115,101,108,101,99,116]) = false:=by rw [beq_eq_false_iff_ne];exact h3
    have HF:Hid (S = 110):=by show _ = _;rw [← HS.out,if_pos (.inr ⟨h2,h3⟩)]
    clear HS h1 h2 h3
    generalize m.how = hw at *
    generalize m.kind.toNat = kk at *
    go_enter Tryz.func101,Tryz.ntmps101
    go_wp2
    go_ret
    exact ⟨by rw [HF.out];rfl,(Below.refl _ _).alloc (Nat.le_refl _) _⟩
  ·have f2:((m.kind.toNat:Int) == 40) = false:=byte_ne (n:=40) (by decide) h2
   have HF:Hid (S = 0):=by show _ = _;rw [← HS.out,if_neg (fun h=>h.elim h1 (fun h=>h2 h.1)),if_neg h2]
   clear HS h1 h2
   generalize m.kind.toNat = kk at *
   go_enter Tryz.func101,Tryz.ntmps101
   go_wp2
   go_ret
   exact ⟨by rw [HF.out];rfl,(Below.refl _ _).alloc (Nat.le_refl _) _⟩
theorem endF_le:∀ (d:Int) (l:List Dk.Mark),Dk.endF d l ≤ l.length:=by
 intro d l
 induction l generalizing d with
 | nil=>exact Nat.le_refl _
 | cons m r ih=>
  rw [Dk.endF]
  split
  ·omega
  ·have:=ih (d + Dk.delta m)
   rw [List.length_cons]
   omega
theorem endAt_le (l:List Dk.Mark) (k:Nat) (hk:k ≤ l.length):Dk.endAt l k ≤ l.length:=by
 have:=endF_le 0 (l.drop k)
 rw [List.length_drop] at this
 unfold Dk.endAt
 omega
set_option maxHeartbeats 1600000 in
theorem kend_any (w:World) (a:Option Addr) (l:List Dk.Mark) (c k:Nat) (hl:l.length ≤ 100000) (hk:k ≤ l.length) (HM:Hid (MkAt w a l)):
  Calls Tryz.prog 103 #[.slice a l.length c,.int .i64 k] w fun e w'=>e = .returned (.int .i64 (Dk.endAt l k)) ∧ w' = w:=by
 obtain ⟨E,hE⟩:∃ E:Nat,Hid (Dk.endAt l k = E):=⟨_,rfl⟩
 rw [hE.out]
 have H0:Hid (k + Dk.endF 0 (l.drop k) = E):=hE
 clear hE
 go_enter Tryz.func103,Tryz.ntmps103
 go_wp2_with fail
 go_loop [5,6] (fun d i=>∃ (n:Nat) (D:Int),d = .int .i64 D ∧ i = .int .i64 n ∧ k ≤ n ∧ n ≤ l.length ∧ -(n:Int) ≤ D ∧ D ≤ n ∧ Hid (n + Dk.endF D (l.drop n) = E)) (fun d i=>l.length - (intOf i).toNat)
 case atStart=>exact ⟨k,0,rfl,rfl,Nat.le_refl _,hk,by omega,by omega,H0⟩
 case round=>
  obtain ⟨n,D,rfl,rfl,hkn,hnl,hD1,hD2,HG⟩:=hrel
  clear H0
  by_cases hlt:n < l.length
  ·have hlt':(n:Int) < l.length:=by omega
   obtain ⟨m,hm⟩:∃ m,l[n]? = some m:=⟨l[n],List.getElem?_eq_getElem hlt⟩
   obtain ⟨g,rfl,hg,hc⟩:=HM.out n m hm
   have c0:=hc 0 (by decide)
   simp only [mCells,List.getElem?_cons_zero,Nat.add_zero] at c0
   have HL:Hid (l.drop n = m :: l.drop (n + 1)):=by
    show _ = _
    rw [List.drop_eq_getElem_cons hlt]
    rw [List.getElem?_eq_getElem hlt] at hm
    rw [Option.some.inj hm]
   clear hm hc HM
   by_cases h40:m.kind = 40
   ·have t40:((m.kind.toNat:Int) == 40) = true:=by rw [h40];rfl
    have hkk:m.kind = 40 ∨ m.kind = 91:=.inl h40
    clear h40
    have hw:IntKind.i64.wrap (D + 1) = D + 1:=by rw [IntKind.wrap_i64];omega
    have HD:Hid (Dk.delta m = 1):=by show _ = _;rw [Dk.delta,if_pos hkk]
    clear hkk
    generalize m.kind.toNat = kk at *
    by_cases hz:D + 1 = 0
    ·have hz':((D + 1) == 0) = true:=by rw [beq_iff_eq];exact hz
     have HE:Hid (E = n):=by
      show _ = _
      rw [← HG.out,HL.out,Dk.endF,HD.out,if_pos (by omega)]
      rfl
     clear HG HL HD
     go_wp2
     go_ret
     exact ⟨by rw [HE.out];try rfl,rfl⟩
    ·have hz':((D + 1) == 0) = false:=by rw [beq_eq_false_iff_ne];exact hz
     have HG2:Hid (n + 1 + Dk.endF (D + 1) (l.drop (n + 1)) = E):=by
      show _ = _
      have h:=HG.out
      rw [HL.out,Dk.endF,HD.out,if_neg (by omega)] at h
      rw [← h,show D + (1) = D + 1 by omega]
      omega
     clear HG HL HD hz
     go_wp2
     go_round
     case rel=>exact ⟨n + 1,_,rfl,by go_num,by omega,by omega,by omega,by omega,HG2⟩
     case measure=>simp [intOf];omega
   ·have f40:((m.kind.toNat:Int) == 40) = false:=byte_ne (n:=40) (by decide) h40
    by_cases h91:m.kind = 91
    ·have t91:((m.kind.toNat:Int) == 91) = true:=by rw [h91];rfl
     have hkk:m.kind = 40 ∨ m.kind = 91:=.inr h91
     clear h40 h91
     have hw:IntKind.i64.wrap (D + 1) = D + 1:=by rw [IntKind.wrap_i64];omega
     have HD:Hid (Dk.delta m = 1):=by show _ = _;rw [Dk.delta,if_pos hkk]
     clear hkk
     generalize m.kind.toNat = kk at *
     by_cases hz:D + 1 = 0
     ·have hz':((D + 1) == 0) = true:=by rw [beq_iff_eq];exact hz
      have HE:Hid (E = n):=by
       show _ = _
       rw [← HG.out,HL.out,Dk.endF,HD.out,if_pos (by omega)]
       rfl
      clear HG HL HD
      go_wp2
      go_ret
      exact ⟨by rw [HE.out];try rfl,rfl⟩
     ·have hz':((D + 1) == 0) = false:=by rw [beq_eq_false_iff_ne];exact hz
      have HG2:Hid (n + 1 + Dk.endF (D + 1) (l.drop (n + 1)) = E):=by
       show _ = _
       have h:=HG.out
       rw [HL.out,Dk.endF,HD.out,if_neg (by omega)] at h
       rw [← h,show D + (1) = D + 1 by omega]
       omega
      clear HG HL HD hz
      go_wp2
      go_round
      case rel=>exact ⟨n + 1,_,rfl,by go_num,by omega,by omega,by omega,by omega,HG2⟩
      case measure=>simp [intOf];omega
    ·have f91:((m.kind.toNat:Int) == 91) = false:=byte_ne (n:=91) (by decide) h91
     by_cases h41:m.kind = 41
     ·have t41:((m.kind.toNat:Int) == 41) = true:=by rw [h41];rfl
      have hkk:¬ (m.kind = 40 ∨ m.kind = 91) ∧ (m.kind = 41 ∨ m.kind = 93):=⟨fun h=>h.elim h40 h91,.inl h41⟩
      clear h40 h91 h41
      have hw:IntKind.i64.wrap (D - 1) = D - 1:=by rw [IntKind.wrap_i64];omega
      have HD:Hid (Dk.delta m = -1):=by show _ = _;rw [Dk.delta,if_neg hkk.1,if_pos hkk.2]
      clear hkk
      generalize m.kind.toNat = kk at *
      by_cases hz:D - 1 = 0
      ·have hz':((D - 1) == 0) = true:=by rw [beq_iff_eq];exact hz
       have HE:Hid (E = n):=by
        show _ = _
        rw [← HG.out,HL.out,Dk.endF,HD.out,if_pos (by omega)]
        rfl
       clear HG HL HD
       go_wp2
       go_ret
       exact ⟨by rw [HE.out];try rfl,rfl⟩
      ·have hz':((D - 1) == 0) = false:=by rw [beq_eq_false_iff_ne];exact hz
       have HG2:Hid (n + 1 + Dk.endF (D - 1) (l.drop (n + 1)) = E):=by
        show _ = _
        have h:=HG.out
        rw [HL.out,Dk.endF,HD.out,if_neg (by omega)] at h
        rw [← h,show D + (-1) = D - 1 by omega]
        omega
       clear HG HL HD hz
       go_wp2
       go_round
       case rel=>exact ⟨n + 1,_,rfl,by go_num,by omega,by omega,by omega,by omega,HG2⟩
       case measure=>simp [intOf];omega
     ·have f41:((m.kind.toNat:Int) == 41) = false:=byte_ne (n:=41) (by decide) h41
      by_cases h93:m.kind = 93
      ·have t93:((m.kind.toNat:Int) == 93) = true:=by rw [h93];rfl
       have hkk:¬ (m.kind = 40 ∨ m.kind = 91) ∧ (m.kind = 41 ∨ m.kind = 93):=⟨fun h=>h.elim h40 h91,.inr h93⟩
       clear h40 h91 h41 h93
       have hw:IntKind.i64.wrap (D - 1) = D - 1:=by rw [IntKind.wrap_i64];omega
       have HD:Hid (Dk.delta m = -1):=by show _ = _;rw [Dk.delta,if_neg hkk.1,if_pos hkk.2]
       clear hkk
       generalize m.kind.toNat = kk at *
       by_cases hz:D - 1 = 0
       ·have hz':((D - 1) == 0) = true:=by rw [beq_iff_eq];exact hz
        have HE:Hid (E = n):=by
         show _ = _
         rw [← HG.out,HL.out,Dk.endF,HD.out,if_pos (by omega)]
         rfl
        clear HG HL HD
        go_wp2
        go_ret
        exact ⟨by rw [HE.out];try rfl,rfl⟩
       ·have hz':((D - 1) == 0) = false:=by rw [beq_eq_false_iff_ne];exact hz
        have HG2:Hid (n + 1 + Dk.endF (D - 1) (l.drop (n + 1)) = E):=by
         show _ = _
         have h:=HG.out
         rw [HL.out,Dk.endF,HD.out,if_neg (by omega)] at h
         rw [← h,show D + (-1) = D - 1 by omega]
         omega
        clear HG HL HD hz
        go_wp2
        go_round
        case rel=>exact ⟨n + 1,_,rfl,by go_num,by omega,by omega,by omega,by omega,HG2⟩
        case measure=>simp [intOf];omega
      ·have f93:((m.kind.toNat:Int) == 93) = false:=byte_ne (n:=93) (by decide) h93
       have hkk:¬ (m.kind = 40 ∨ m.kind = 91) ∧ ¬ (m.kind = 41 ∨ m.kind = 93):=⟨fun h=>h.elim h40 h91,fun h=>h.elim h41 h93⟩
       clear h40 h91 h41 h93
       have hw:IntKind.i64.wrap (D) = D:=by rw [IntKind.wrap_i64];omega
       have HD:Hid (Dk.delta m = 0):=by show _ = _;rw [Dk.delta,if_neg hkk.1,if_neg hkk.2]
       clear hkk
       generalize m.kind.toNat = kk at *
       by_cases hz:D = 0
       ·have hz':((D) == 0) = true:=by rw [beq_iff_eq];exact hz
        have HE:Hid (E = n):=by
         show _ = _
         rw [← HG.out,HL.out,Dk.endF,HD.out,if_pos (by omega)]
         rfl
        clear HG HL HD
        go_wp2
        go_ret
        exact ⟨by rw [HE.out];try rfl,rfl⟩
       ·have hz':((D) == 0) = false:=by rw [beq_eq_false_iff_ne];exact hz
        have HG2:Hid (n + 1 + Dk.endF (D) (l.drop (n + 1)) = E):=by
         show _ = _
         have h:=HG.out
         rw [HL.out,Dk.endF,HD.out,if_neg (by omega)] at h
         rw [← h,show D + (0) = D by omega]
         omega
        clear HG HL HD hz
        go_wp2
        go_round
        case rel=>exact ⟨n + 1,_,rfl,by go_num,by omega,by omega,by omega,by omega,HG2⟩
        case measure=>simp [intOf];omega
  ·have hlt':¬ (n:Int) < l.length:=by omega
   have HE:Hid (E = l.length):=by
    show _ = _
    rw [← HG.out,List.drop_eq_nil_of_le (by omega),Dk.endF]
    omega
   clear HG
   go_wp2
   go_ret
   exact ⟨by rw [HE.out];try rfl,rfl⟩
end Go.Proofs.YtaepcfidpekflaaGreatDoor
namespace Go.Proofs.YtaepcfidpekflaaGreatDoor
open Go.RowKit
theorem info_int3:(Tryz.prog.info? 3).map (fun i=>(i.zero,i.size,i.bytes)) = some (some (.int .i64 0),1,8):=by kernel_rfl
def ixV (i:Nat):Value:=.int .i64 i
def IxAt (w:World) (B:Nat) (v:Value) (l:List Nat):Prop:=w.ownsRow B 3 1 v l.length (l.map ixV)
def BrsSaid (w w':World) (bs:List Nat) (e:Ending):Prop:=∃ v,e = .returned v ∧ IxAt w' w.heap.size v bs ∧ Below w.heap.size w w'
theorem ix_grow {w w1 w2:World} {B n:Nat} {v v':Value} {l:List Nat} {o:Obj} (hb:Below B w w1) (hB:B ≤ w1.heap.size) (hown:IxAt w1 B v l) (hown':w2.ownsRow B 3 1 v' (l.length + 1) ((l.map ixV) ++ [.int .i64 (n:Int)])) (hg:(w1.alloc o).grownBy w2 v.ownBlock):
  IxAt w2 B v' (l ++ [n]) ∧ Below B w w2:=by
 refine ⟨?_,(hb.alloc hB o).grown hg (by simp;omega) fun k hk=>(World.ownsRow.lt hown k hk).1⟩
 unfold IxAt
 rw [List.length_append,List.map_append]
 exact hown'
theorem endAt_ge (l:List Dk.Mark) (k:Nat):k ≤ Dk.endAt l k:=by unfold Dk.endAt;omega
theorem brGo_stop (l:List Dk.Mark) (E g n:Nat) (h:¬ n < E):Dk.brGo l E g n = []:=by
 cases g with
 | zero=>rfl
 | succ g=>rw [Dk.brGo,if_neg h]
set_option maxHeartbeats 1600000 in
set_option maxRecDepth 100000 in
theorem kbranches_any (w:World) (a:Option Addr) (l:List Dk.Mark) (c k:Nat) (hl:l.length ≤ 90000) (hk:k ≤ l.length) (HM:Hid (MkAt w a l)):
  Calls Tryz.prog 102 #[.slice a l.length c,.int .i64 k] w fun e w'=>BrsSaid w w' (Dk.brsAt l k) e:=by
 obtain ⟨BS,hBS⟩:∃ BS,Hid (Dk.brsAt l k = BS):=⟨_,rfl⟩
 rw [hBS.out]
 have HE:=endAt_le l k hk
 have ke:=kend_any w a l c k (by omega) hk HM
 have H0:Hid (Dk.brGo l (Dk.endAt l k) l.length (k + 1) = BS):=hBS
 clear hBS
 generalize Dk.endAt l k = E at *
 have hw1:IntKind.i64.wrap ((k:Int) + 1) = (k:Int) + 1:=by rw [IntKind.wrap_i64];omega
 go_enter Tryz.func102,Tryz.ntmps102
 go_wp2_with fail
 refine ke.mono ?_
 rintro e w0 ⟨rfl,hw0⟩
 have hw0':=hw0.symm
 subst hw0'
 clear ke
 obtain ⟨i1,hi0,hz0,hz1,hz2⟩:=info_parts info_int3
 have HI1:Hid (Tryz.prog.info? 3 = some i1 ∧ i1.zero = some (.int .i64 0) ∧ i1.size = 1 ∧ i1.bytes = 8):=⟨hi0,hz0,hz1,hz2⟩
 clear hi0 hz0 hz1 hz2
 go_wp2_with fail
 go_loopg [5,7] l.length (fun g o i wr=>∃ (L:List Nat) (n:Nat),i = .int .i64 n ∧ Hid (IxAt wr w.heap.size o L) ∧ Below w.heap.size w wr ∧ Hid (L ++ Dk.brGo l E g n = BS) ∧ E ≤ n + g ∧ L.length + g ≤ l.length)
 case atStart=>exact ⟨[],k + 1,by go_num,World.ownsRow_nil _ _ _ _,Below.refl _ _,H0,by omega,by simp⟩
 case round=>
  obtain ⟨L,n,rfl,HO,hb1,HG,hge,hLg⟩:=hrel
  clear H0
  obtain ⟨oa,on,oc,rfl⟩:=owns_form HO.out
  by_cases hlt:n < E
  ·have hlt':(n:Int) < E:=by omega
   have hg0:0 < gk:=by omega
   have HG2:Hid (L ++ [n] ++ Dk.brGo l E (gk - 1) (Dk.endAt l n + 1) = BS):=by
    show _ = _
    rw [← HG.out]
    obtain ⟨q,rfl⟩:∃ q,gk = q + 1:=⟨gk - 1,by omega⟩
    rw [Dk.brGo,if_pos hlt]
    simp
   have hsz:=hb1.size
   have HP:Hid (∀ w2 v' o,w2.ownsRow w.heap.size 3 1 v' (L.length + 1) ((L.map ixV) ++ [.int .i64 (n:Int)]) → (wr.alloc o).grownBy w2 (Value.slice oa on oc).ownBlock → IxAt w2 w.heap.size v' (L ++ [n]) ∧ Below w.heap.size w w2):=fun w2 v' o h1 h2=>ix_grow hb1 hsz HO.out h1 h2
   have hown:wr.ownsRow w.heap.size 3 1 (.slice oa on oc) L.length (L.map ixV):=HO.out
   have he1:=endAt_ge l n
   have he2:=endAt_le l n (by omega)
   have ke:=fun W (h:Below w.heap.size w W)=>kend_any W a l c n (by omega) (by omega) (HM.out.keep h)
   clear HG HO HM
   generalize Dk.endAt l n = F at *
   have hw2:IntKind.i64.wrap ((F:Int) + 1) = (F:Int) + 1:=by rw [IntKind.wrap_i64];omega
   go_wp2_with (at_builtin;refine wpList_append_own_at _ rfl _ _ 22 rfl w.heap.size 3 i1 (.int .i64 0) 1 8 Tryz.underlying22 HI1.out.1 HI1.out.2.1 HI1.out.2.2.1 HI1.out.2.2.2 rfl (by decide) _ L.length (L.map ixV) rfl (World.ownsRow.alloc hown _) ⟨wr.heap.size,0,none⟩ 1 1 [.int .i64 (n:Int)] rfl rfl (cell_one_new _ _ _) (by intro u hu;simp at hu;subst hu;rfl) (by unfold maxLen;omega) (by omega) (by simp;omega) ?_)
   intro v' w2 hown' hgrow _ hat
   obtain ⟨h5,h6⟩:=HP.out w2 v' _ hown' hgrow
   obtain ⟨va,vn,vc,rfl⟩:=owns_form hown'
   have HO2:Hid (IxAt w2 w.heap.size (.slice va vn vc) (L ++ [n])):=h5
   clear hown' hgrow hat HP hown h5
   go_wp2_with fail
   refine (ke w2 h6).mono ?_
   rintro e w3 ⟨rfl,hw0⟩
   have hw0':=hw0.symm
   subst hw0'
   clear ke
   go_wp2
   go_roundg (gk - 1)
   case measure=>omega
   case rel=>exact ⟨L ++ [n],F + 1,by go_num,HO2,h6,HG2,by omega,by simp;omega⟩
  ·have hlt':¬ (n:Int) < E:=by omega
   have HF:Hid (L = BS):=by show _ = _;rw [← HG.out,brGo_stop l E gk n hlt,List.append_nil]
   clear HG HM
   go_wp2
   go_ret
   exact ⟨_,rfl,by rw [← HF.out];exact HO.out,hb1⟩
end Go.Proofs.YtaepcfidpekflaaGreatDoor
namespace Go.Proofs.YtaepcfidpekflaaGreatDoor
open Go.RowKit
theorem IxAt.at {w:World} {B:Nat} {a:Option Addr} {n c j x:Nat} {l:List Nat} (h:IxAt w B (.slice a n c) l) (hx:l[j]? = some x):∃ g,a = some ⟨g,0,none⟩ ∧ n = l.length ∧ g < w.heap.size ∧ w.cell? ⟨g,j,none⟩ = some (.int .i64 x):=by
 have hj:j < l.length:=by
  rcases Nat.lt_or_ge j l.length with h' | h'
  ·exact h'
  ·rw [List.getElem?_eq_none h'] at hx;cases hx
 rcases h with ⟨_,⟨_,h2⟩ | ⟨g,cap,cur,h1,_,h2,h3,_,h4,h5⟩⟩
 ·omega
 ·simp only [Value.slice.injEq] at h1
  refine ⟨g,h1.1,h1.2.1,?_,?_⟩
  ·rcases Nat.lt_or_ge g w.heap.size with h' | h'
   ·exact h'
   ·rw [Array.getElem?_eq_none h'] at h2;cases h2
  ·have e:w.cell? ⟨g,j,none⟩ = cur[j]?:=by simp [World.cell?,h2]
   have e2:(l.map ixV)[j]? = some (ixV x):=by rw [List.getElem?_map,hx];rfl
   rw [← h5,List.getElem?_take,if_pos (by omega)] at e2
   rw [e,← Array.getElem?_toList]
   exact e2
theorem IxAt.len {w:World} {B:Nat} {a:Option Addr} {n c:Nat} {l:List Nat} (h:IxAt w B (.slice a n c) l):n = l.length:=by
 rcases h with ⟨_,⟨h1,h2⟩ | ⟨g,cap,cur,h1,_⟩⟩
 ·simp only [Value.slice.injEq] at h1
  omega
 ·simp only [Value.slice.injEq] at h1
  exact h1.2.1
theorem IxAt.keep {w w1:World} {B:Nat} {a:Option Addr} {n c:Nat} {l:List Nat} (h:IxAt w B (.slice a n c) l) (hb:Below w.heap.size w w1):IxAt w1 B (.slice a n c) l:=by
 refine World.ownsRow.kept (row:=none) h ⟨hb.os,hb.tape,hb.output,hb.size,fun k hk _=>hb.block k hk⟩ ?_
 cases e:(Value.slice a n c).ownBlock with
 | none=>exact .inl rfl
 | some k=>exact .inr (by simp)
theorem MkAt.six {w:World} {a:Option Addr} {l:List Dk.Mark} {n:Nat} {m:Dk.Mark} (h:MkAt w a l) (hm:l[n]? = some m):∃ g,a = some ⟨g,0,none⟩ ∧ g < w.heap.size ∧ w.cell? ⟨g,n * 6,none⟩ = some (.int .u8 m.kind.toNat) ∧ w.cell? ⟨g,n * 6 + 1,none⟩ = some (.string ⟨m.text.toArray⟩) ∧ w.cell? ⟨g,n * 6 + 2,none⟩ = some (.string ⟨m.name.toArray⟩) ∧ w.cell? ⟨g,n * 6 + 3,none⟩ = some (.string ⟨m.how.toArray⟩) ∧ w.cell? ⟨g,n * 6 + 4,none⟩ = some (.string ⟨m.offset.toArray⟩) ∧ w.cell? ⟨g,n * 6 + 5,none⟩ = some (.int .i64 m.at_):=by
 obtain ⟨g,h1,h2,h3⟩:=h n m hm
 exact ⟨g,h1,h2,h3 0 (by decide),h3 1 (by decide),h3 2 (by decide),h3 3 (by decide),h3 4 (by decide),h3 5 (by decide)⟩
end Go.Proofs.YtaepcfidpekflaaGreatDoor
