/-
  Several texts in one (Pn, Pr, Qa, Sh). By the verifier.
-/
import Derived.Lib.Strings
import Derived.Lib.IndexMore
import Derived.Lib.TrimByte
import Derived.Lib.Small
import Derived.Test.YtaepcfidpekflaaGreatDoorZ01
import Derived.Shelf.Abstract
import Derived.Shelf.Strings.Trim
import Derived.Shelf.Small.Utf8
import Derived.Shelf.Small.Wraps
import Derived.Shelf.Strings.BuilderK
import Derived.Shelf.Strings.BuilderRune
import Derived.Shelf.Utf8.RuneCount
import Derived.Shelf.Strings.Cut
import Derived.Test.YtaepcfidpekflaaGreatDoorProg
namespace Go.Proofs.YtaepcfidpekflaaGreatDoor.Pn
def isDig (c:UInt8):Bool:=decide (48 ≤ c.toNat ∧ c.toNat ≤ 57)
def digitsB (l:List UInt8):Bool:=!l.isEmpty && l.all isDig
def zeroB (l:List UInt8):Bool:=l.all (· == 48)
theorem isDig_iff (c:UInt8):isDig c = true ↔ 48 ≤ c.toNat ∧ c.toNat ≤ 57:=by simp [isDig]
/-! ### How it is written -/
def firstOf (g:Int) (f:Nat):Nat:=if g = 0 ∨ f = 0 then 0 else f
def nextOf (g:Int) (f n:Nat):Nat:=if g = 0 ∨ f = 0 then 0 else if n = 0 then f else n
def signsB (mi po g:Int):Bool:=decide (mi ≠ 0) && Lib.validRune mi && decide (po ≠ 0) && Lib.validRune po && Lib.validRune g
end Go.Proofs.YtaepcfidpekflaaGreatDoor.Pn
namespace Go.Proofs.YtaepcfidpekflaaGreatDoor.Pr
abbrev T:=List UInt8
abbrev Sem:=T → T → Bool
abbrev Opd:=T → T → Nat × Bool
abbrev Rd:=List T → Option (Sem × List T)
def val (l:T):Nat:=l.foldl (fun v c=>10 * v + (c.toNat - 48)) 0
def shortR (l:T):T:=(l.reverse.dropWhile (· == 48)).reverse
def fig (t:T):Option Nat:=if Pn.digitsB t = true ∧ t.length ≤ 9 ∧ (t.length = 1 ∨ t.head? ≠ some 48) then some (val t) else none
def value:List T → Option (Nat × List T)
 | []=>none
 | t :: r=>match fig t with
  | none=>none
  | some v=>some (v,r)
def opd (t:T):Option Opd:=
 if t = [110] then some fun a b=>(val a,!(shortR b).isEmpty)
 else if t = [105] then some fun a _=>(val a,false)
 else if t = [118] then some fun _ b=>(b.length,false)
 else if t = [119] then some fun _ b=>((shortR b).length,false)
 else if t = [102] then some fun _ b=>(val b,false)
 else if t = [116] then some fun _ b=>(val (shortR b),false)
 else none
def modS (o:Opd) (m:Nat):Opd:=fun a b=>((o a b).1 % m,(o a b).2)
def spanS (o:Opd) (lo hi:Nat):Sem:=fun a b=>!(o a b).2 && decide (lo ≤ (o a b).1) && decide ((o a b).1 ≤ hi)
def stretchS (o:Opd) (lo hi:Nat):Sem:=fun a b=>decide (lo ≤ (o a b).1) && (decide ((o a b).1 < hi) || decide ((o a b).1 = hi) && !(o a b).2)
def turnS (f:Sem) (n:Bool):Sem:=fun a b=>f a b != n
def orS (f g:Sem):Sem:=fun a b=>f a b || g a b
def andS (f g:Sem):Sem:=fun a b=>f a b && g a b
def inS (o:Opd) (within:Bool) (lo hi:Nat):Sem:=if within then stretchS o lo hi else spanS o lo hi
def rowGo (mem:Rd) (sep:T) (jn:Sem → Sem → Sem):Nat → Sem → Rd
 | 0,f,l=>some (f,l)
 | _ + 1,f,[]=>some (f,[])
 | k + 1,f,t :: l=>if t = sep then match mem l with
   | none=>none
   | some (g,r)=>rowGo mem sep jn k (jn f g) r
  else some (f,t :: l)
def rowP (mem:Rd) (sep:T) (jn:Sem → Sem → Sem):Rd:=fun l=>match mem l with
 | none=>none
 | some (f,r)=>rowGo mem sep jn r.length f r
def valueP (k:Nat → Rd):Rd:=fun l=>match value l with
 | none=>none
 | some (v,r)=>k v r
def itemK (o:Opd) (within:Bool) (lo:Nat):Rd
 | []=>some (inS o within lo lo,[])
 | t :: r=>if t = [46,46] then valueP (fun hi l=>if hi < lo then none else some (inS o within lo hi,l)) r
  else some (inS o within lo lo,t :: r)
def itemP (o:Opd) (within:Bool):Rd:=valueP (itemK o within)
def listP (o:Opd) (n within:Bool):Rd:=fun l=>match rowP (itemP o within) [44] orS l with
 | none=>none
 | some (f,r)=>some (turnS f n,r)
def isP (o:Opd) (n:Bool):Rd:=valueP fun v l=>some (turnS (spanS o v v) n,l)
def isN (o:Opd):Rd
 | []=>none
 | u :: l=>if u = [110,111,116] then isP o true l else isP o false (u :: l)
def inN (o:Opd) (n:Bool):Rd
 | []=>none
 | u :: l=>if u = [105,110] then listP o n false l else if u = [119,105,116,104,105,110] then listP o n true l else none
def howP (o:Opd):Rd
 | []=>none
 | t :: l=>if t = [61] then listP o false false l
  else if t = [33,61] then listP o true false l
  else if t = [105,115] then isN o l
  else if t = [110,111,116] then inN o true l
  else inN o false (t :: l)
def modP (o:Opd):Rd
 | []=>none
 | u :: l=>if u = [109,111,100] ∨ u = [37] then valueP (fun m r=>if m = 0 then none else howP (modS o m) r) l else howP o (u :: l)
def relP:Rd
 | []=>none
 | t :: l=>match opd t with
  | none=>none
  | some o=>modP o l
def andP:Rd:=rowP relP [97,110,100] andS
def orP:Rd:=rowP andP [111,114] orS
def condP (l:List T):Option Sem:=match orP l with
 | some (f,[])=>some f
 | _=>none
def isLet (c:UInt8):Bool:=decide (97 ≤ c.toNat ∧ c.toNat ≤ 122)
def partLen:T → Nat
 | []=>0
 | c :: r=>if isLet c then ((c :: r).takeWhile isLet).length
  else if Pn.isDig c then ((c :: r).takeWhile Pn.isDig).length
  else if c = 33 ∧ r.head? = some 61 ∨ c = 46 ∧ r.head? = some 46 then 2
  else if c = 32 ∨ c = 61 ∨ c = 37 ∨ c = 44 then 1 else 0
def splitGo:Nat → T → Option (List T)
 | _,[]=>some []
 | 0,_ :: _=>none
 | k + 1,c :: r=>if partLen (c :: r) = 0 then none else match splitGo k ((c :: r).drop (partLen (c :: r))) with
  | none=>none
  | some l=>some (if c = 32 then l else (c :: r).take (partLen (c :: r)) :: l)
def toks (l:T):Option (List T):=splitGo l.length l
def whenP (l:T):Option Sem:=if 200 < l.length then none else match toks (Lib.cut l [64]).1 with
 | none=>none
 | some ts=>condP ts
def catB (n:T):Bool:=n = [122,101,114,111] ∨ n = [111,110,101] ∨ n = [116,119,111] ∨ n = [102,101,119] ∨ n = [109,97,110,121]
def rulesP (seen:List T):List (T × T) → Option (List (T × Sem))
 | []=>some []
 | (n,s) :: r=>if n ∈ seen ∨ catB n = false then none else match whenP s with
  | none=>none
  | some f=>match rulesP (seen ++ [n]) r with
   | none=>none
   | some l=>some ((n,f) :: l)
end Go.Proofs.YtaepcfidpekflaaGreatDoor.Pr
namespace Go.Proofs.YtaepcfidpekflaaGreatDoor
open Go.RowKit
structure Ag (P:Nat) (w w':World):Prop where
 os:w'.os = w.os
 tape:w'.tape = w.tape
 output:w'.output = w.output
 size:w.heap.size ≤ w'.heap.size
 block:∀ k,k < w.heap.size → k ≠ P → w'.heap[k]? = w.heap[k]?
theorem Ag.refl (P:Nat) (w:World):Ag P w w:=⟨rfl,rfl,rfl,Nat.le_refl _,fun _ _ _=>rfl⟩
theorem Ag.trans {P:Nat} {w w1 w2:World} (h:Ag P w w1) (h2:Ag P w1 w2):Ag P w w2:=
 ⟨h2.os.trans h.os,h2.tape.trans h.tape,h2.output.trans h.output,Nat.le_trans h.size h2.size,fun k hk hP=>(h2.block k (Nat.lt_of_lt_of_le hk h.size) hP).trans (h.block k hk hP)⟩
theorem Ag.of {P B:Nat} {w w':World} (h:Below B w w') (hB:w.heap.size ≤ B):Ag P w w':=⟨h.os,h.tape,h.output,h.size,fun k hk _=>h.block k (Nat.lt_of_lt_of_le hk hB)⟩
theorem Ag.below {P B:Nat} {w w':World} (h:Ag P w w') (hP:B ≤ P) (hB:B ≤ w.heap.size):Below B w w':=
 ⟨h.os,h.tape,h.output,h.size,fun k hk=>h.block k (Nat.lt_of_lt_of_le hk hB) (by omega)⟩
theorem Ag.setCell {P:Nat} {w w':World} (h:Ag P w w') (j:Nat) (v:Value):Ag P w (w'.setCell ⟨P,j,none⟩ v):=by
 have hb:=(Below.refl P w').setCell (p:=⟨P,j,none⟩) (Nat.le_refl _) v
 refine ⟨hb.os.trans h.os,hb.tape.trans h.tape,hb.output.trans h.output,Nat.le_trans h.size hb.size,fun k hk hP=>?_⟩
 refine Eq.trans ?_ (h.block k hk hP)
 exact Below.heap_setCell _ _ _ _ hP
theorem Ag.alloc {P:Nat} {w w':World} (h:Ag P w w') (o:Obj):Ag P w (w'.alloc o):=h.trans (.of ((Below.refl _ _).alloc (Nat.le_refl _) _) (Nat.le_refl _))
theorem Ag.then {P:Nat} {w w1 w2:World} (h:Ag P w w1) (h2:Below w1.heap.size w1 w2):Ag P w w2:=h.trans (.of h2 (Nat.le_refl _))
def BaseX (P:Nat) (w:World):Prop:=∀ W,Ag P w W → Base W
theorem BaseX.later {P:Nat} {w w':World} (h:BaseX P w) (ha:Ag P w w'):BaseX P w':=fun W hW=>h W (ha.trans hW)
theorem Row.ag {P:Nat} {w w':World} {b:Nat} {cs:Array Value} (h:Row w b cs) (ha:Ag P w w') (hb:b ≠ P):Row w' b cs:=by
 have e:=ha.block b h.1 hb
 refine ⟨Nat.lt_of_lt_of_le h.1 ha.size,fun j=>?_,fun j=>?_⟩
 ·have:=h.2.1 j
  simp only [World.cell?,e] at this ⊢
  exact this
 ·have:=h.2.2 j
  simp only [World.frozen?,e] at this ⊢
  exact this
def Txts (P:Nat) (w:World) (a:Option Addr) (l:List Pr.T):Prop:=
 l = [] ∨ ∃ blk off,a = some ⟨blk,off,none⟩ ∧ blk ≠ P ∧ blk < w.heap.size ∧ ∀ j,j < l.length → w.cell? ⟨blk,off + j,none⟩ = some (.string ⟨(l.getD j []).toArray⟩)
theorem Txts.ag {P:Nat} {w w':World} {a:Option Addr} {l:List Pr.T} (h:Txts P w a l) (ha:Ag P w w'):Txts P w' a l:=by
 rcases h with h | ⟨blk,off,h1,h2,h3,h4⟩
 ·exact .inl h
 ·refine .inr ⟨blk,off,h1,h2,Nat.lt_of_lt_of_le h3 ha.size,fun j hj=>?_⟩
  have:=h4 j hj
  simp only [World.cell?,ha.block blk h3 h2] at this ⊢
  exact this
def Left (P:Nat) (w:World) (l:List Pr.T):Prop:=∃ a c,Row w P #[.slice a l.length c] ∧ l.length ≤ c ∧ (l.length ≤ 1000 ∧ Hid (∀ t ∈ l,t.length ≤ 1000)) ∧ Txts P w a l
theorem small_tail {t:Pr.T} {l:List Pr.T} (h:Hid (∀ u ∈ t :: l,u.length ≤ 1000)):Hid (∀ u ∈ l,u.length ≤ 1000):=fun u hu=>h.out u (by simp [hu])
theorem Left.then {P:Nat} {w w':World} {l:List Pr.T} (h:Left P w l) (hb:Below w.heap.size w w'):Left P w' l:=by
 obtain ⟨a,c,h1,h2,h3,h4⟩:=h
 exact ⟨a,c,h1.keep hb,h2,h3,h4.ag (.of hb (Nat.le_refl _))⟩
def Up (P:Nat) (w W:World):Prop:=∀ k,P < k → k < w.heap.size → W.heap[k]? = w.heap[k]?
theorem heap_lt {w W:World} {k:Nat} (h:W.heap[k]? = w.heap[k]?) (hk:k < w.heap.size):k < W.heap.size:=by
 rcases Nat.lt_or_ge k W.heap.size with h' | h'
 ·exact h'
 ·rw [Array.getElem?_eq_none h',Array.getElem?_eq_getElem hk] at h;cases h
theorem Ag.up {P:Nat} {w W:World} (h:Ag P w W):Up P w W:=fun k h1 h2=>h.block k h2 (by omega)
theorem Up.then {P:Nat} {w W W':World} (h:Up P w W) (hb:Below W.heap.size W W'):Up P w W':=fun k h1 h2=>(hb.block k (heap_lt (h k h1 h2) h2)).trans (h k h1 h2)
theorem Up.after {P:Nat} {w w1 W:World} (hb:Below w.heap.size w w1) (h:Up P w1 W):Up P w W:=fun k h1 h2=>(h k h1 (Nat.lt_of_lt_of_le h2 hb.size)).trans (hb.block k h2)
theorem Up.trans {P:Nat} {w w1 W:World} (h1:Up P w w1) (h2:Up P w1 W):Up P w W:=fun k a b=>(h2 k a (heap_lt (h1 k a b) b)).trans (h1 k a b)
theorem Row.up {P:Nat} {w w':World} {b:Nat} {cs:Array Value} (h:Row w b cs) (ha:Up P w w') (hb:P < b):Row w' b cs:=by
 have e:=ha b hb h.1
 refine ⟨heap_lt e h.1,fun j=>?_,fun j=>?_⟩
 ·have:=h.2.1 j
  simp only [World.cell?,e] at this ⊢
  exact this
 ·have:=h.2.2 j
  simp only [World.frozen?,e] at this ⊢
  exact this
def numV (m:Bool) (a b:Pr.T):Value:=.agg #[.bool m,.string ⟨a.toArray⟩,.string ⟨b.toArray⟩]
def Digs (a:Pr.T):Prop:=(∀ c ∈ a,Pn.isDig c = true) ∧ a.length ≤ 30
def Enters (g:Nat):Prop:=∀ args w,(callFunc g args).run Tryz.prog w = .ok (.enter g args) w
def Cnd (P:Nat) (w:World) (v:Value) (f:Pr.Sem):Prop:=∃ g lb,v = .func (.func g) #[] lb ∧ Enters g ∧
 ∀ W,Base W → Up P w W → ∀ m a b,Digs a → Digs b → Calls Tryz.prog g (#[numV m a b] ++ lb) W fun e w'=>e = .returned (.bool (f a b)) ∧ Below W.heap.size W w'
def Opv (P:Nat) (w:World) (v:Value) (o:Pr.Opd):Prop:=∃ g lb,v = .func (.func g) #[] lb ∧ Enters g ∧
 ∀ W,Base W → Up P w W → ∀ m a b,Digs a → Digs b → Calls Tryz.prog g (#[numV m a b] ++ lb) W fun e w'=>(∃ d,e = .returned (.agg #[.string ⟨d.toArray⟩,.bool (o a b).2]) ∧ Digs d ∧ Pr.val d = (o a b).1) ∧ Below W.heap.size W w'
theorem Cnd.later {P:Nat} {w W:World} {v:Value} {f:Pr.Sem} (h:Cnd P w v f) (ha:Ag P w W):Cnd P W v f:=by
 obtain ⟨g,lb,h1,h2,h3⟩:=h
 exact ⟨g,lb,h1,h2,fun W' hB hA=>h3 W' hB (ha.up.trans hA)⟩
theorem Opv.later {P:Nat} {w W:World} {v:Value} {o:Pr.Opd} (h:Opv P w v o) (ha:Ag P w W):Opv P W v o:=by
 obtain ⟨g,lb,h1,h2,h3⟩:=h
 exact ⟨g,lb,h1,h2,fun W' hB hA=>h3 W' hB (ha.up.trans hA)⟩
def errRule:Value:=.iface 30 (.int .i64 9)
def Said (P:Nat) (w:World) (x:Option (Pr.Sem × List Pr.T)) (e:Ending) (w':World):Prop:=Ag P w w' ∧ match x with
 | none=>e = .returned (.tuple #[.nilFunc,errRule])
 | some (f,r)=>∃ v,e = .returned (.tuple #[v,.nilIface]) ∧ Cnd P w' v f ∧ Left P w' r
def Rdv (P:Nat) (w:World) (v:Value) (rd:Pr.Rd):Prop:=∃ g bd lb,v = .func (.func g) bd lb ∧ Enters g ∧
 ∀ W l,BaseX P W → Ag P w W → Left P W l → Calls Tryz.prog g (bd ++ lb) W fun e w'=>Said P W (rd l) e w'
theorem left_set {P:Nat} {w:World} {x:Value} (h:Row w P #[x]) (a:Option Addr) (c:Nat) (l:List Pr.T) (hc:l.length ≤ c) (hl:l.length ≤ 1000 ∧ Hid (∀ t ∈ l,t.length ≤ 1000)) (ht:Txts P w a l):Left P (w.setCell ⟨P,0,none⟩ (.slice a l.length c)) l:=
 ⟨a,c,h.setC 0 _ (by simp),hc,hl,ht.ag ((Ag.refl P w).setCell 0 _)⟩
theorem txts_tail {P:Nat} {w:World} {blk off:Nat} {t:Pr.T} {l:List Pr.T} (h5:blk ≠ P) (h6:blk < w.heap.size) (h7:∀ j,j < (t :: l).length → w.cell? ⟨blk,off + j,none⟩ = some (.string ⟨((t :: l).getD j []).toArray⟩)):
  Txts P w (some ⟨blk,off + 1,none⟩) l:=.inr ⟨blk,off + 1,rfl,h5,h6,fun j hj=>by
 have:=h7 (j + 1) (by simpa using hj)
 rw [show off + 1 + j = off + (j + 1) by omega,this]
 simp⟩
set_option maxHeartbeats 400000 in
theorem next_any (P:Nat) (w:World) (l:List Pr.T) (h:Left P w l):
  Calls Tryz.prog 233 #[.pointer (some ⟨P,0,none⟩)] w fun e w'=>e = .returned (.string ⟨(l.headD []).toArray⟩) ∧ Left P w' l.tail ∧ Ag P w w':=by
 obtain ⟨a,c,h1,h2,h3,h4⟩:=h
 have q1:=h1.2.1
 have q2:=h1.2.2
 cases l with
 | nil=>
  go_enter Tryz.func233,Tryz.ntmps233
  go_wp2
  go_ret
  exact ⟨rfl,⟨a,c,h1,h2,h3,.inl rfl⟩,Ag.refl _ _⟩
 | cons t l=>
  obtain ⟨h3,hsm⟩:=h3
  rcases h4 with h4 | ⟨blk,off,rfl,h5,h6,h7⟩
  ·cases h4
  have q0:=h7 0 (by simp)
  simp only [List.length_cons] at h2 h3 q1
  have q0':w.cell? ⟨blk,off,none⟩ = some (.string ⟨t.toArray⟩):=by simpa using q0
  go_enter Tryz.func233,Tryz.ntmps233
  by_cases e:c = 1
  ·obtain rfl:l = []:=List.length_eq_zero_iff.1 (by omega)
   subst e
   go_wp2
   go_ret
   exact ⟨rfl,left_set h1 _ _ [] (by simp) ⟨by simp,small_tail hsm⟩ (.inl rfl),(Ag.refl P w).setCell 0 _⟩
  ·go_wp2
   go_ret
   exact ⟨rfl,left_set h1 _ _ l (by omega) ⟨by omega,small_tail hsm⟩ (txts_tail h5 h6 h7),(Ag.refl P w).setCell 0 _⟩
end Go.Proofs.YtaepcfidpekflaaGreatDoor
namespace Go.Proofs
open Go.Shelf
def Tryz.lays119_ren:Go.Shelf.Ren:=⟨fun | 119=>106 | n=>n,fun | 21=>21 | 4=>4 | n=>n,fun | n=>n⟩
theorem Tryz.lays119:Go.Proofs.Lays.n119 Tryz.prog Tryz.lays119_ren:={
 mixed:=by kernel_rfl
 f119:=Tryz.func106.trans (congrArg some (by kernel_rfl))
 t4:=Tryz.underlying4
 a4:=Tryz.isAgg4
 z4:=Tryz.sizeOf4
 v4:=Tryz.zeroValue4
 t21:=Tryz.underlying21
 a21:=Tryz.isAgg21
 z21:=Tryz.sizeOf21
 v21:=Tryz.zeroValue21 }
theorem Tryz.utf8_ValidRune (r:Int) (w:World):
  Calls Tryz.prog 106 #[.int .i32 r] w fun e w'=>e = .returned (.bool (Lib.validRune r)) ∧ w' = w:=Any.utf8_ValidRune Tryz.lays119 r w
def Tryz.lays169_ren:Go.Shelf.Ren:=⟨fun | 169=>83 | n=>n,fun | 70=>145 | 9=>9 | 0=>0 | 72=>148 | 37=>146 | 127=>206 | 3=>3 | 5=>5 | n=>n,fun | n=>n⟩
theorem Tryz.lays169:Go.Proofs.Lays.n169 Tryz.prog Tryz.lays169_ren:={
 mixed:=by kernel_rfl
 f169:=Tryz.func83.trans (congrArg some (by kernel_rfl))
 t0:=Tryz.underlying0
 a0:=Tryz.isAgg0
 z0:=Tryz.sizeOf0
 v0:=Tryz.zeroValue0
 t3:=Tryz.underlying3
 a3:=Tryz.isAgg3
 z3:=Tryz.sizeOf3
 v3:=Tryz.zeroValue3
 t9:=Tryz.underlying9
 a9:=Tryz.isAgg9
 z9:=Tryz.sizeOf9
 v9:=Tryz.zeroValue9
 t37:=Tryz.underlying146
 a37:=Tryz.isAgg146
 z37:=Tryz.sizeOf146
 v37:=Tryz.zeroValue146
 t70:=Tryz.underlying145
 a70:=Tryz.isAgg145
 z70:=Tryz.sizeOf145
 v70:=Tryz.zeroValue145
 t72:=Tryz.underlying148
 a72:=Tryz.isAgg148
 z72:=Tryz.sizeOf148
 v72:=Tryz.zeroValue148
 t127:=Tryz.underlying206
 a127:=Tryz.isAgg206
 z127:=Tryz.sizeOf206
 v127:=Tryz.zeroValue206 }
theorem Tryz.Builder_Extra_169:Builder.Extra Tryz.prog Tryz.lays169_ren:={
 sizeBuilder:=by kernel_rfl
 liesBuilder:=by kernel_rfl
 t5:=Tryz.underlying5
 a5:=Tryz.isAgg5
 z5:=Tryz.sizeOf5
 v5:=Tryz.zeroValue5
 infoByte:=by kernel_rfl
 cellsByte:=by kernel_rfl
 sizeByte:=by kernel_rfl
 neB5:=by decide }
open Go.RowKit in
theorem Tryz.Builder_String_any_k (B b:Nat) (l:List UInt8) (w:World) (h:Lib.IsBuilderF 148 5 B b (Lib.byteCells l) w) (hBw:B ≤ w.heap.size):
  Calls Tryz.prog 83 #[.pointer (some ⟨b,0,none⟩)] w fun e w'=>e = .returned (.string ⟨l.toArray⟩) ∧ (Lib.IsBuilderF 148 5 B b (Lib.byteCells l) w' ∧ Below B w w' ∧ Lib.OthersKept 5 (some b) w w'):=Any.Builder_String_any_k Tryz.lays169 Tryz.Builder_Extra_169 B b l w h hBw
def Tryz.lays195_ren:Go.Shelf.Ren:=⟨fun | 195=>105 | n=>n,fun | 9=>9 | 3=>3 | 0=>0 | 4=>4 | n=>n,fun | n=>n⟩
theorem Tryz.lays195:Go.Proofs.Lays.n195 Tryz.prog Tryz.lays195_ren:={
 mixed:=by kernel_rfl
 f195:=Tryz.func105.trans (congrArg some (by kernel_rfl))
 t0:=Tryz.underlying0
 a0:=Tryz.isAgg0
 z0:=Tryz.sizeOf0
 v0:=Tryz.zeroValue0
 t3:=Tryz.underlying3
 a3:=Tryz.isAgg3
 z3:=Tryz.sizeOf3
 v3:=Tryz.zeroValue3
 t4:=Tryz.underlying4
 a4:=Tryz.isAgg4
 z4:=Tryz.sizeOf4
 v4:=Tryz.zeroValue4
 t9:=Tryz.underlying9
 a9:=Tryz.isAgg9
 z9:=Tryz.sizeOf9
 v9:=Tryz.zeroValue9 }
open Go.RowKit in
theorem Tryz.utf8_RuneCountInString (s:ByteArray) (w:World) (hs:s.size < 9223372036854775807):
  Calls Tryz.prog 105 #[.string s] w fun e w'=>e = .returned (.int .i64 (Lib.runeCount s)) ∧ ∃ pos,w' = w.iter s pos:=Any.utf8_RuneCountInString Tryz.lays195 s w hs
def Tryz.lays145_ren:Go.Shelf.Ren:=⟨fun | 145=>77 | 220=>108 | 219=>142 | 217=>176 | 225=>177 | 224=>178 | 267=>179 | 266=>209 | 314=>210 | n=>n,fun | 9=>9 | 4=>4 | 59=>98 | 3=>3 | 5=>5 | 46=>254 | 146=>354 | 51=>264 | n=>n,fun | 1=>3 | n=>n⟩
theorem Tryz.lays145:Go.Proofs.Lays.n145 Tryz.prog Tryz.lays145_ren:={
 mixed:=by kernel_rfl
 f145:=Tryz.func77.trans (congrArg some (by kernel_rfl))
 f217:=Tryz.func176.trans (congrArg some (by kernel_rfl))
 f219:=Tryz.func142.trans (congrArg some (by kernel_rfl))
 f220:=Tryz.func108.trans (congrArg some (by kernel_rfl))
 f224:=Tryz.func178.trans (congrArg some (by kernel_rfl))
 f225:=Tryz.func177.trans (congrArg some (by kernel_rfl))
 f266:=Tryz.func209.trans (congrArg some (by kernel_rfl))
 f267:=Tryz.func179.trans (congrArg some (by kernel_rfl))
 f314:=Tryz.func210.trans (congrArg some (by kernel_rfl))
 t3:=Tryz.underlying3
 a3:=Tryz.isAgg3
 z3:=Tryz.sizeOf3
 v3:=Tryz.zeroValue3
 t4:=Tryz.underlying4
 a4:=Tryz.isAgg4
 z4:=Tryz.sizeOf4
 v4:=Tryz.zeroValue4
 t5:=Tryz.underlying5
 a5:=Tryz.isAgg5
 z5:=Tryz.sizeOf5
 v5:=Tryz.zeroValue5
 t9:=Tryz.underlying9
 a9:=Tryz.isAgg9
 z9:=Tryz.sizeOf9
 v9:=Tryz.zeroValue9
 t46:=Tryz.underlying254
 a46:=Tryz.isAgg254
 z46:=Tryz.sizeOf254
 v46:=Tryz.zeroValue254
 t51:=Tryz.underlying264
 a51:=Tryz.isAgg264
 z51:=Tryz.sizeOf264
 v51:=Tryz.zeroValue264
 t59:=Tryz.underlying98
 a59:=Tryz.isAgg98
 z59:=Tryz.sizeOf98
 v59:=Tryz.zeroValue98
 t146:=Tryz.underlying354
 a146:=Tryz.isAgg354
 z146:=Tryz.sizeOf354
 v146:=Tryz.zeroValue354
 g1:=by kernel_rfl }
open Go.RowKit Go.Lib in
theorem Tryz.strings_Cut (s sep:ByteArray) (m:Int) (w:World) (hs:s.size < 4294967281) (hm:w.cell? ⟨3,0,none⟩ = some (.int .i64 m)):
  Calls Tryz.prog 77 #[.string s,.string sep] w fun e w'=>e = .returned (.tuple #[.string ⟨(Lib.cut s.data.toList sep.data.toList).1.toArray⟩,.string ⟨(Lib.cut s.data.toList sep.data.toList).2.1.toArray⟩,.bool (Lib.cut s.data.toList sep.data.toList).2.2]) ∧ ∃ n,w' = w.drewN n:=Any.strings_Cut Tryz.lays145 s sep m w hs hm
def Tryz.lays168_ren:Go.Shelf.Ren:=⟨fun | 168=>81 | 240=>110 | 242=>111 | 276=>150 | 278=>151 | n=>n,fun | 0=>0 | 3=>3 | 4=>4 | 5=>5 | 9=>9 | 20=>20 | 21=>21 | 37=>146 | 46=>254 | 51=>264 | 70=>145 | 72=>148 | 75=>67 | 80=>151 | 164=>152 | n=>n,fun | n=>n⟩
theorem Tryz.lays168:Go.Proofs.Lays.n168 Tryz.prog Tryz.lays168_ren:={
 mixed:=by kernel_rfl
 f168:=Tryz.func81.trans (congrArg some (by kernel_rfl))
 f240:=Tryz.func110.trans (congrArg some (by kernel_rfl))
 f242:=Tryz.func111.trans (congrArg some (by kernel_rfl))
 f276:=Tryz.func150.trans (congrArg some (by kernel_rfl))
 f278:=Tryz.func151.trans (congrArg some (by kernel_rfl))
 t0:=Tryz.underlying0
 a0:=Tryz.isAgg0
 z0:=Tryz.sizeOf0
 v0:=Tryz.zeroValue0
 t3:=Tryz.underlying3
 a3:=Tryz.isAgg3
 z3:=Tryz.sizeOf3
 v3:=Tryz.zeroValue3
 t4:=Tryz.underlying4
 a4:=Tryz.isAgg4
 z4:=Tryz.sizeOf4
 v4:=Tryz.zeroValue4
 t5:=Tryz.underlying5
 a5:=Tryz.isAgg5
 z5:=Tryz.sizeOf5
 v5:=Tryz.zeroValue5
 t9:=Tryz.underlying9
 a9:=Tryz.isAgg9
 z9:=Tryz.sizeOf9
 v9:=Tryz.zeroValue9
 t20:=Tryz.underlying20
 a20:=Tryz.isAgg20
 z20:=Tryz.sizeOf20
 v20:=Tryz.zeroValue20
 t21:=Tryz.underlying21
 a21:=Tryz.isAgg21
 z21:=Tryz.sizeOf21
 v21:=Tryz.zeroValue21
 t37:=Tryz.underlying146
 a37:=Tryz.isAgg146
 z37:=Tryz.sizeOf146
 v37:=Tryz.zeroValue146
 t46:=Tryz.underlying254
 a46:=Tryz.isAgg254
 z46:=Tryz.sizeOf254
 v46:=Tryz.zeroValue254
 t51:=Tryz.underlying264
 a51:=Tryz.isAgg264
 z51:=Tryz.sizeOf264
 v51:=Tryz.zeroValue264
 t70:=Tryz.underlying145
 a70:=Tryz.isAgg145
 z70:=Tryz.sizeOf145
 v70:=Tryz.zeroValue145
 t72:=Tryz.underlying148
 a72:=Tryz.isAgg148
 z72:=Tryz.sizeOf148
 v72:=Tryz.zeroValue148
 t75:=Tryz.underlying67
 a75:=Tryz.isAgg67
 z75:=Tryz.sizeOf67
 v75:=Tryz.zeroValue67
 t164:=Tryz.underlying152
 a164:=Tryz.isAgg152
 z164:=Tryz.sizeOf152
 v164:=Tryz.zeroValue152 }
theorem Tryz.Builder_Extra_168:Builder.Extra Tryz.prog Tryz.lays168_ren:={
 sizeBuilder:=by kernel_rfl
 liesBuilder:=by kernel_rfl
 t5:=Tryz.underlying5
 a5:=Tryz.isAgg5
 z5:=Tryz.sizeOf5
 v5:=Tryz.zeroValue5
 infoByte:=by kernel_rfl
 cellsByte:=by kernel_rfl
 sizeByte:=by kernel_rfl
 neB5:=by decide }
open Go.RowKit in
theorem Tryz.Builder_WriteRune_k (B b:Nat) (bs:List Value) (r:Int) (hr0:-2147483648 ≤ r) (hr1:r ≤ 2147483647) (w:World) (h:Lib.IsBuilderF 148 5 B b bs w) (hlen:bs.length + 4 ≤ 140737488355328) (hBw:B ≤ w.heap.size):
  Calls Tryz.prog 81 #[.pointer (some ⟨b,0,none⟩),.int .i32 r] w fun e w'=>e = .returned (.tuple #[.int .i64 (Lib.runeCells r).length,.nilIface]) ∧ (Lib.BuilderAtF 148 5 B b (.pointer (some ⟨b,0,none⟩)) (bs ++ Lib.runeCells r) w' ∧ Below B w w' ∧ Lib.OthersKept 5 (some b) w w'):=Any.Builder_WriteRune_k Tryz.lays168 Tryz.Builder_Extra_168 B b bs r hr0 hr1 w h hlen hBw
end Go.Proofs
