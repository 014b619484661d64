/-
  Several texts in one (Na, Ka, Kq, Kr). By the verifier.
-/
import Derived.Test.YtaepcfidpekflaaGreatDoorProg
import Derived.Test.YtaepcfidpekflaaGreatDoorZ01
import Derived.WalkKit
import Derived.WalkSpells
import Derived.WalkLawsBesides
import Derived.BigQuiet
import Derived.Outline
import Derived.Test.YtaepcfidpekflaaGreatDoorZ03
namespace Go.Proofs.YtaepcfidpekflaaGreatDoor
open Go.RowKit
set_option maxHeartbeats 400000 in
theorem sign_in (b off len cap k:Nat) (x:Int) (w:World) (h:(k:Int) < len) (hc:w.cell? ⟨b,off + k,none⟩ = some (.int .i64 x)):
  Calls Tryz.prog 26 #[.slice (some ⟨b,off,none⟩) len cap,.int .i64 k] w fun e w'=>e = .returned (.int .i32 (wrap32 x)) ∧ w' = w:=by
 go_enter Tryz.func26,Tryz.ntmps26
 go_wp2
 go_ret
 exact ⟨rfl,rfl⟩
set_option maxHeartbeats 400000 in
theorem sign_out (a:Option Addr) (len cap k:Nat) (w:World) (h:¬ (k:Int) < len):
  Calls Tryz.prog 26 #[.slice a len cap,.int .i64 k] w fun e w'=>e = .returned (.int .i32 0) ∧ w' = w:=by
 go_enter Tryz.func26,Tryz.ntmps26
 go_wp2
 go_ret
 exact ⟨rfl,rfl⟩
end Go.Proofs.YtaepcfidpekflaaGreatDoor
namespace Go.Proofs.YtaepcfidpekflaaGreatDoor.Dk
abbrev T:=List UInt8
structure Mark where
 kind:UInt8
 text:T:=[]
 name:T:=[]
 how:T:=[]
 offset:T:=[]
 at_:Nat:=0
structure Sc where
 i:Nat
 out:List Mark
 opens:List Bool
 err:Nat
 place:Nat
def Sc.fault (x:Sc) (e p:Nat):Sc:=if x.err = 0 then { x with err:=e,place:=p } else x
def Sc.byNumber (x:Sc):Bool:=x.opens.getLastD false
def addText (out:List Mark) (t:T):List Mark:=match out.getLast? with
 | some m=>if m.kind = 116 then out.dropLast ++ [{ m with text:=m.text ++ t }] else out ++ [{ kind:=116,text:=t }]
 | none=>[{ kind:=116,text:=t }]
def Sc.say (x:Sc) (t:T):Sc:=if t = [] then x else { x with out:=addText x.out t }
def Sc.put (x:Sc) (m:Mark):Sc:={ x with out:=x.out ++ [m] }
def Sc.go (x:Sc) (n:Nat):Sc:={ x with i:=x.i + n }
def isBlk (c:UInt8):Bool:=c == 32 || c == 9 || c == 10 || c == 13
def Sc.blanks (s:T) (x:Sc):Sc:=x.go ((s.drop x.i).takeWhile isBlk).length
def isAlpha (c:UInt8):Bool:=decide (97 ≤ c.toNat ∧ c.toNat ≤ 122) || decide (65 ≤ c.toNat ∧ c.toNat ≤ 90) || c == 95
def namedGo (n:Nat):T → Nat
 | []=>n
 | c :: r=>if n < 16 ∧ (isAlpha c = true ∨ n ≠ 0 ∧ Pn.isDig c = true) then namedGo (n + 1) r else n
def named (l:T):Nat:=namedGo 0 l
def Sc.next (s:T) (x:Sc) (n:Nat):T:=(s.drop x.i).take n
def Sc.name (s:T) (x:Sc):Sc:=(if named (s.drop x.i) = 0 then x.fault 3 x.i else x).go (named (s.drop x.i))
def Sc.nameT (s:T) (x:Sc):T:=x.next s (named (s.drop x.i))
def wholeGo (z:Bool) (n:Nat):T → Nat
 | []=>n
 | c :: r=>if n < 9 ∧ Pn.isDig c = true ∧ ¬ (n = 1 ∧ z = true) then wholeGo z (n + 1) r else n
def wholeN (l:T):Nat:=wholeGo (l.head? == some 48) 0 l
def Sc.whole (s:T) (x:Sc):Sc:=(if wholeN (s.drop x.i) = 0 then x.fault 3 x.i else x).go (wholeN (s.drop x.i))
def Sc.wholeT (s:T) (x:Sc):T:=x.next s (wholeN (s.drop x.i))
def Sc.needs (s:T) (x:Sc) (c:UInt8):Sc:=if s[x.i]? = some c then x.go 1 else x.fault 3 x.i
def knownOf (t:T):Nat:=if t = [110,117,109,98,101,114] then 0 else if t = [112,108,117,114,97,108] then 1 else if t = [115,101,108,101,99,116,111,114,100,105,110,97,108] then 2 else if t = [115,101,108,101,99,116] then 3 else 4
def isCat (t:T):Bool:=Pr.catB t || t == [111,116,104,101,114]
def Sc.opened (s:T) (x:Sc) (num:Bool) (m:Mark):Sc:=
 let y:=x.blanks s
 let z:=y.needs s 123
 let z:=if 6 < z.opens.length + 2 then z.fault 4 y.i else z
 { z with opens:=z.opens ++ [num],out:=z.out ++ [m] }
def Sc.branch (s:T) (x:Sc) (num:Bool):Sc:=
 if x.err ≠ 0 then x
 else if num = true ∧ s[x.i]? = some 61 then ((x.go 1).whole s).opened s num { kind:=91,text:=61 :: (x.go 1).wholeT s,at_:=x.i }
 else
  let y:=x.name s
  let y:=if num = true ∧ isCat (x.nameT s) = false then y.fault 3 x.i else y
  y.opened s num { kind:=91,text:=x.nameT s,at_:=x.i }
def Sc.behind (s:T) (x:Sc):Sc:=
 let y:=({ x with opens:=x.opens.dropLast }:Sc).blanks s
 if s[y.i]? = some 125 then (y.put { kind:=41,at_:=y.i }).go 1 else y.branch s x.byNumber
def offsetW:T:=[111,102,102,115,101,116,58]
def Sc.args (s:T) (x:Sc) (known:Nat) (m:Mark):Sc:=
 let y:=(x.needs s 44).blanks s
 if known < 3 ∧ y.next s 7 = offsetW then
  let z:=(y.go 7).blanks s
  let u:=(z.whole s).blanks s
  (u.put { m with offset:=z.wholeT s }).branch s true
 else (y.put { m with offset:=[48] }).branch s (decide (known < 3))
def Sc.brace (s:T) (x:Sc):Sc:=
 let a:=(x.go 1).blanks s
 let b:=(a.name s).blanks s
 if b.err ≠ 0 then b
 else if s[b.i]? ≠ some 44 then (b.needs s 125).put { kind:=112,name:=a.nameT s,at_:=x.i }
 else
  let c:=(b.go 1).blanks s
  let d:=c.name s
  let how:=c.nameT s
  if knownOf how = 4 then d.fault 3 c.i
  else
   let e:=d.blanks s
   if knownOf how = 0 then (e.needs s 125).put { kind:=110,name:=a.nameT s,how:=how,at_:=x.i }
   else e.args s (knownOf how) { kind:=40,name:=a.nameT s,how:=how,at_:=x.i }
def Sc.quoteGo (x:Sc):Nat → T → Sc
 | 0,_=>x
 | k + 1,rest=>
  let a:=(Lib.cut rest [39]).1
  let b:=(Lib.cut rest [39]).2.1
  let y:=(x.say a).go a.length
  if (Lib.cut rest [39]).2.2 = false then y
  else
   let z:=y.go 1
   match b with
   | c :: r=>if c = 39 then ((z.say [39]).go 1).quoteGo k r else z
   | []=>z
def Sc.apostrophe (s:T) (x:Sc) (num:Bool):Sc:=
 let y:=x.go 1
 match s.drop y.i with
 | []=>y.say [39]
 | c :: r=>if c = 39 then (y.go 1).say [39]
  else if c = 123 ∨ c = 125 ∨ c = 35 ∧ num = true then y.quoteGo (r.length + 2) (c :: r)
  else y.say [39]
def Sc.one (s:T) (x:Sc):Sc:=
 match s[x.i]? with
 | none=>x
 | some c=>
  if c = 39 then x.apostrophe s x.byNumber
  else if c = 123 then x.brace s
  else if c = 125 ∧ x.opens = [] then x.fault 3 x.i
  else if c = 125 then ((x.go 1).put { kind:=93 }).behind s
  else if c = 35 ∧ x.byNumber = true then (x.go 1).put { kind:=35 }
  else (x.go 1).say [c]
def marksGo (s:T):Nat → Sc → Sc
 | 0,x=>x
 | k + 1,x=>if x.err = 0 ∧ x.i < s.length then marksGo s k (x.one s) else x
def marks (s:T):Sc:=
 let x:=marksGo s s.length { i:=0,out:=[],opens:=[],err:=0,place:=0 }
 if x.err = 0 ∧ x.opens ≠ [] then x.fault 3 s.length else x
end Go.Proofs.YtaepcfidpekflaaGreatDoor.Dk
namespace Go.Proofs.YtaepcfidpekflaaGreatDoor.Pg
open Go.Proofs.YtaepcfidpekflaaGreatDoor
abbrev T:=List UInt8
inductive Tr where
 | nil
 | text (t:T) (r:Tr)
 | sign (r:Tr)
 | simple (n:T) (a:Nat) (r:Tr)
 | num (n:T) (a:Nat) (r:Tr)
 | sel (n:T) (a:Nat) (bs:Tr) (e:Nat) (r:Tr)
 | plu (n:T) (a:Nat) (ord:Bool) (off:T) (bs:Tr) (e:Nat) (r:Tr)
 | br (w:T) (a:Nat) (m:Tr) (r:Tr)
def Tr.app:Tr → Tr → Tr
 | nil,u=>u
 | text t r,u=>text t (r.app u)
 | sign r,u=>sign (r.app u)
 | simple n a r,u=>simple n a (r.app u)
 | num n a r,u=>num n a (r.app u)
 | sel n a bs e r,u=>sel n a bs e (r.app u)
 | plu n a ord off bs e r,u=>plu n a ord off bs e (r.app u)
 | br w a m r,u=>br w a m (r.app u)
theorem Tr.app_nil (t:Tr):t.app nil = t:=by
 induction t <;> simp_all [Tr.app]
theorem Tr.app_app (t u v:Tr):(t.app u).app v = t.app (u.app v):=by
 induction t <;> simp_all [Tr.app]
def numberW:T:=[110,117,109,98,101,114]
def pluralW:T:=[112,108,117,114,97,108]
def ordinalW:T:=[115,101,108,101,99,116,111,114,100,105,110,97,108]
def selectW:T:=[115,101,108,101,99,116]
def flat (o:Nat → Nat):Tr → List Dk.Mark
 | .nil=>[]
 | .text t r=>{ kind:=116,text:=t } :: flat o r
 | .sign r=>{ kind:=35 } :: flat o r
 | .simple n a r=>{ kind:=112,name:=n,at_:=o a } :: flat o r
 | .num n a r=>{ kind:=110,name:=n,how:=numberW,at_:=o a } :: flat o r
 | .sel n a bs e r=>{ kind:=40,name:=n,how:=selectW,offset:=[48],at_:=o a } :: (flat o bs ++ { kind:=41,at_:=o e } :: flat o r)
 | .plu n a ord off bs e r=>{ kind:=40,name:=n,how:=if ord then ordinalW else pluralW,offset:=off,at_:=o a } :: (flat o bs ++ { kind:=41,at_:=o e } :: flat o r)
 | .br w a m r=>{ kind:=91,text:=w,at_:=o a } :: (flat o m ++ { kind:=93 } :: flat o r)
theorem flat_app (o:Nat → Nat) (t u:Tr):flat o (t.app u) = flat o t ++ flat o u:=by
 induction t <;> simp_all [Tr.app,flat]
def one1 (f:UInt8 → Bool) (c:T):Bool:=match c with | [b]=>f b | _=>false
def isN (c:UInt8):Bool:=Dk.isAlpha c || Pn.isDig c
def bl (rs:List T) (p:Nat):Nat:=p + ((rs.drop p).takeWhile (one1 Dk.isBlk)).length
def word (rs:List T) (p:Nat):List T:=(rs.drop p).takeWhile (one1 isN)
def digs (rs:List T) (p:Nat):List T:=(rs.drop p).takeWhile (one1 Pn.isDig)
def at1 (rs:List T) (p:Nat) (f:UInt8 → Bool):Bool:=match rs[p]? with | some c=>one1 f c | none=>false
def nameR (rs:List T) (p:Nat):Sum Nat (T × Nat):=
 if at1 rs p Pn.isDig = true then .inl p
 else if (word rs p).length = 0 then .inl p
 else if 16 < (word rs p).length then .inl (p + 16)
 else .inr ((word rs p).flatten,p + (word rs p).length)
def valR (rs:List T) (p:Nat):Sum Nat (T × Nat):=
 if (digs rs p).length = 0 then .inl p
 else if 1 < (digs rs p).length ∧ rs[p]? = some [48] then .inl (p + 1)
 else if 9 < (digs rs p).length then .inl (p + 9)
 else .inr ((digs rs p).flatten,p + (digs rs p).length)
def selR (num:Bool) (rs:List T) (p:Nat):Sum Nat (T × Nat):=
 if num = false then nameR rs p
 else if rs[p]? = some [61] then match valR rs (p + 1) with | .inl a=>.inl a | .inr (t,q)=>.inr (61 :: t,q)
 else if Dk.isCat (word rs p).flatten = true then .inr ((word rs p).flatten,p + (word rs p).length) else .inl p
def offW:T:=[111,102,102,115,101,116]
def offR (rs:List T) (p:Nat):Sum Nat (T × Nat):=
 if (word rs p).flatten = offW ∧ rs[p + (word rs p).length]? = some [58] then valR rs (bl rs (p + (word rs p).length + 1)) else .inr ([48],p)
def spec (num:Bool) (c:T):Bool:=c == [123] || c == [125] || (c == [35] && num)
def saidGo (num:Bool):Bool → List T → T × Nat
 | _,[]=>([],0)
 | q,c :: r=>
  if q = false ∧ spec num c = true then ([],0)
  else if c ≠ [39] then (c ++ (saidGo num q r).1,(saidGo num q r).2 + 1)
  else match r with
   | []=>if q = true then ([],1) else ([39],1)
   | d :: r'=>if d = [39] then (39 :: (saidGo num q r').1,(saidGo num q r').2 + 2)
    else if q = true ∨ spec num d = true then ((saidGo num (!q) (d :: r')).1,(saidGo num (!q) (d :: r')).2 + 1)
    else (39 :: (saidGo num q (d :: r')).1,(saidGo num q (d :: r')).2 + 1)
inductive Res where
 | ok (t:Tr) (q:Nat)
 | okB (t:Tr) (e q:Nat)
 | bad (e a:Nat)
def Res.pre (n:Tr):Res → Res
 | .ok t q=>.ok (n.app t) q
 | .okB t e q=>.okB (n.app t) e q
 | .bad e a=>.bad e a
def Res.sel (n:T) (p:Nat):Res → Res
 | .okB t e q=>.ok (.sel n p t e .nil) q
 | .ok t q=>.ok t q
 | .bad e a=>.bad e a
def Res.plu (n:T) (p:Nat) (ord:Bool) (off:T):Res → Res
 | .okB t e q=>.ok (.plu n p ord off t e .nil) q
 | .ok t q=>.ok t q
 | .bad e a=>.bad e a
theorem Res.pre_pre (a b:Tr) (r:Res):(r.pre b).pre a = r.pre (a.app b):=by
 cases r <;> simp [Res.pre,Tr.app_app]
theorem Res.pre_nil (r:Res):r.pre .nil = r:=by
 cases r <;> rfl
inductive Mode where
 | msg (d:Nat) (num:Bool)
 | arg (d:Nat)
 | brs (d:Nat) (num first:Bool)
inductive Rd (rs:List T):Mode → Nat → Res → Prop
 | stop {d num p} (h:rs[p]? = none ∨ rs[p]? = some [125]):Rd rs (.msg d num) p (.ok .nil p)
 | argB {d num p e a} (h:rs[p]? = some [123]) (h1:Rd rs (.arg d) p (.bad e a)):Rd rs (.msg d num) p (.bad e a)
 | argK {d num p n q res} (h:rs[p]? = some [123]) (h1:Rd rs (.arg d) p (.ok n q)) (h2:Rd rs (.msg d num) q res):Rd rs (.msg d num) p (res.pre n)
 | sign {d p res} (h:rs[p]? = some [35]) (h1:Rd rs (.msg d true) (p + 1) res):Rd rs (.msg d true) p (res.pre (.sign .nil))
 | said {d num p c res} (h:rs[p]? = some c) (hs:spec num c = false) (h1:Rd rs (.msg d num) (p + (saidGo num false (rs.drop p)).2) res):Rd rs (.msg d num) p (res.pre (.text (saidGo num false (rs.drop p)).1 .nil))
 | nameB {d p a} (h:nameR rs (bl rs (p + 1)) = .inl a):Rd rs (.arg d) p (.bad 3 a)
 | simple {d p n q} (h:nameR rs (bl rs (p + 1)) = .inr (n,q)) (h1:rs[bl rs q]? = some [125]):Rd rs (.arg d) p (.ok (.simple n p .nil) (bl rs q + 1))
 | commaB {d p n q} (h:nameR rs (bl rs (p + 1)) = .inr (n,q)) (h1:rs[bl rs q]? ≠ some [125]) (h2:rs[bl rs q]? ≠ some [44]):Rd rs (.arg d) p (.bad 3 (bl rs q))
 | kindB {d p n q k} (h:nameR rs (bl rs (p + 1)) = .inr (n,q)) (h2:rs[bl rs q]? = some [44]) (hk:k = bl rs (bl rs q + 1)) (h3:Dk.knownOf (word rs k).flatten = 4):Rd rs (.arg d) p (.bad 3 k)
 | numB {d p n q k j} (h:nameR rs (bl rs (p + 1)) = .inr (n,q)) (h2:rs[bl rs q]? = some [44]) (hk:k = bl rs (bl rs q + 1)) (h3:(word rs k).flatten = numberW) (hj:j = bl rs (k + (word rs k).length)) (h4:rs[j]? ≠ some [125]):Rd rs (.arg d) p (.bad 3 j)
 | num {d p n q k j} (h:nameR rs (bl rs (p + 1)) = .inr (n,q)) (h2:rs[bl rs q]? = some [44]) (hk:k = bl rs (bl rs q + 1)) (h3:(word rs k).flatten = numberW) (hj:j = bl rs (k + (word rs k).length)) (h4:rs[j]? = some [125]):Rd rs (.arg d) p (.ok (.num n p .nil) (j + 1))
 | argC {d p n q k j} (h:nameR rs (bl rs (p + 1)) = .inr (n,q)) (h2:rs[bl rs q]? = some [44]) (hk:k = bl rs (bl rs q + 1)) (h3:(word rs k).flatten = selectW ∨ (word rs k).flatten = pluralW ∨ (word rs k).flatten = ordinalW) (hj:j = bl rs (k + (word rs k).length)) (h4:rs[j]? ≠ some [44]):Rd rs (.arg d) p (.bad 3 j)
 | sel {d p n q k j res} (h:nameR rs (bl rs (p + 1)) = .inr (n,q)) (h2:rs[bl rs q]? = some [44]) (hk:k = bl rs (bl rs q + 1)) (h3:(word rs k).flatten = selectW) (hj:j = bl rs (k + (word rs k).length)) (h4:rs[j]? = some [44]) (h5:Rd rs (.brs d false true) (bl rs (j + 1)) res):Rd rs (.arg d) p (res.sel n p)
 | offB {d p n q k j a} (h:nameR rs (bl rs (p + 1)) = .inr (n,q)) (h2:rs[bl rs q]? = some [44]) (hk:k = bl rs (bl rs q + 1)) (h3:(word rs k).flatten = pluralW ∨ (word rs k).flatten = ordinalW) (hj:j = bl rs (k + (word rs k).length)) (h4:rs[j]? = some [44]) (h5:offR rs (bl rs (j + 1)) = .inl a):Rd rs (.arg d) p (.bad 3 a)
 | plu {d p n q k j ord off i res} (h:nameR rs (bl rs (p + 1)) = .inr (n,q)) (h2:rs[bl rs q]? = some [44]) (hk:k = bl rs (bl rs q + 1)) (h3:(word rs k).flatten = if ord = true then ordinalW else pluralW) (hj:j = bl rs (k + (word rs k).length)) (h4:rs[j]? = some [44]) (h5:offR rs (bl rs (j + 1)) = .inr (off,i)) (h6:Rd rs (.brs d true true) i res):Rd rs (.arg d) p (res.plu n p ord off)
 | brsEnd {d num p} (h:rs[bl rs p]? = some [125]):Rd rs (.brs d num false) p (.okB .nil (bl rs p) (bl rs p + 1))
 | brsSel {d num first p a} (h:first = true ∨ rs[bl rs p]? ≠ some [125]) (h1:selR num rs (bl rs p) = .inl a):Rd rs (.brs d num first) p (.bad 3 a)
 | brsOpen {d num first p w q} (h:first = true ∨ rs[bl rs p]? ≠ some [125]) (h1:selR num rs (bl rs p) = .inr (w,q)) (h2:rs[bl rs q]? ≠ some [123]):Rd rs (.brs d num first) p (.bad 3 (bl rs q))
 | brsDeep {num first p w q} (h:first = true ∨ rs[bl rs p]? ≠ some [125]) (h1:selR num rs (bl rs p) = .inr (w,q)) (h2:rs[bl rs q]? = some [123]):Rd rs (.brs 6 num first) p (.bad 4 (bl rs q))
 | brsMsg {d num first p w q e a} (h:first = true ∨ rs[bl rs p]? ≠ some [125]) (h1:selR num rs (bl rs p) = .inr (w,q)) (h2:rs[bl rs q]? = some [123]) (hd:d < 6) (h3:Rd rs (.msg (d + 1) num) (bl rs q + 1) (.bad e a)):Rd rs (.brs d num first) p (.bad e a)
 | brsClose {d num first p w q m j} (h:first = true ∨ rs[bl rs p]? ≠ some [125]) (h1:selR num rs (bl rs p) = .inr (w,q)) (h2:rs[bl rs q]? = some [123]) (hd:d < 6) (h3:Rd rs (.msg (d + 1) num) (bl rs q + 1) (.ok m j)) (h4:rs[j]? ≠ some [125]):Rd rs (.brs d num first) p (.bad 3 j)
 | brs {d num first p w q m j res} (h:first = true ∨ rs[bl rs p]? ≠ some [125]) (h1:selR num rs (bl rs p) = .inr (w,q)) (h2:rs[bl rs q]? = some [123]) (hd:d < 6) (h3:Rd rs (.msg (d + 1) num) (bl rs q + 1) (.ok m j)) (h4:rs[j]? = some [125]) (h5:Rd rs (.brs d num false) (j + 1) res):Rd rs (.brs d num first) p (res.pre (.br w (bl rs p) m .nil))
def Cp (c:T):Prop:=(∃ b:UInt8,c = [b] ∧ b.toNat < 128) ∨ (2 ≤ c.length ∧ ∀ b ∈ c,128 ≤ b.toNat)
def Cps (rs:List T):Prop:=∀ c ∈ rs,Cp c
def o (rs:List T) (p:Nat):Nat:=((rs.take p).flatten).length
theorem Cp.ne {c:T} (h:Cp c):c ≠ []:=by
 rcases h with ⟨b,rfl,_⟩ | ⟨h,_⟩
 ·simp
 ·rintro rfl;simp at h
theorem o_succ {rs:List T} {p:Nat} {c:T} (h:rs[p]? = some c):o rs (p + 1) = o rs p + c.length:=by
 have hl:p < rs.length:=by
  rcases Nat.lt_or_ge p rs.length with h' | h'
  ·exact h'
  ·rw [List.getElem?_eq_none h'] at h;cases h
 rw [List.getElem?_eq_getElem hl] at h
 injection h with h
 unfold o
 rw [List.take_succ_eq_append_getElem hl,List.flatten_append,h]
 simp
theorem drop_o (rs:List T) (p:Nat):rs.flatten.drop (o rs p) = (rs.drop p).flatten:=by
 unfold o
 conv=>lhs;rw [← List.take_append_drop p rs,List.flatten_append]
 rw [List.take_append_drop]
 simp
theorem o_len (rs:List T) (p:Nat) (h:rs.length ≤ p):o rs p = rs.flatten.length:=by
 unfold o;rw [List.take_of_length_le h]
theorem o_le (rs:List T) (p:Nat):o rs p ≤ rs.flatten.length:=by
 unfold o
 conv=>rhs;rw [← List.take_append_drop p rs,List.flatten_append,List.length_append]
 exact Nat.le_add_right _ _
theorem o_lt {rs:List T} (hc:Cps rs) {p:Nat} {c:T} (h:rs[p]? = some c):o rs p < rs.flatten.length:=by
 have h1:=o_succ h
 have h2:=o_le rs (p + 1)
 have h3:=(hc c (List.mem_of_getElem? h)).ne
 have:0 < c.length:=List.length_pos_iff.2 h3
 omega
theorem at_o {rs:List T} (hc:Cps rs) (p:Nat):rs.flatten[o rs p]? = (rs[p]?).bind List.head?:=by
 have h:=congrArg List.head? (drop_o rs p)
 rw [List.head?_drop] at h
 rw [h]
 cases hd:rs.drop p with
 | nil=>
  have:rs.length ≤ p:=List.drop_eq_nil_iff.1 hd
  rw [List.getElem?_eq_none this]
  rfl
 | cons c r=>
  have h1:rs[p]? = some c:=by
   have:=congrArg List.head? hd
   rw [List.head?_drop] at this
   simpa using this
  rw [h1]
  have h3:=(hc c (List.mem_of_getElem? h1)).ne
  cases c with
  | nil=>exact absurd rfl h3
  | cons b r=>simp
theorem at_one {rs:List T} (hc:Cps rs) (p:Nat) (b:UInt8) (hb:b.toNat < 128):rs.flatten[o rs p]? = some b ↔ rs[p]? = some [b]:=by
 rw [at_o hc]
 cases h:rs[p]? with
 | none=>simp
 | some c=>
  rcases hc c (List.mem_of_getElem? h) with ⟨b',rfl,hb'⟩ | ⟨h1,h2⟩
  ·simp
  ·cases c with
   | nil=>simp at h1
   | cons d r=>
    have:=h2 d (by simp)
    constructor
    ·intro e
     have e:d = b:=by simpa using e
     rw [e] at this
     omega
    ·intro e
     have e:d :: r = [b]:=by simpa using e
     rw [e] at h1
     simp at h1
theorem tw (f:UInt8 → Bool) (hf:∀ b,f b = true → b.toNat < 128):∀ (l:List T),Cps l → l.flatten.takeWhile f = (l.takeWhile (one1 f)).flatten ∧ (l.takeWhile (one1 f)).flatten.length = (l.takeWhile (one1 f)).length:=by
 intro l
 induction l with
 | nil=>intro _;exact ⟨rfl,rfl⟩
 | cons c l ih=>
  intro h
  obtain ⟨i1,i2⟩:=ih (fun c hc=>h c (List.mem_cons_of_mem _ hc))
  rcases h c (by simp) with ⟨b,rfl,hb⟩ | ⟨h1,h2⟩
  ·by_cases hfb:f b = true
   ·simp [one1,hfb,i1,i2]
   ·simp [one1,hfb]
  ·have h3:one1 f c = false:=by
    unfold one1
    split
    ·simp at h1
    ·rfl
   cases c with
   | nil=>simp at h1
   | cons b r=>
    have hb:=h2 b (by simp)
    have hfb:¬ f b = true:=fun e=>by have:=hf b e;omega
    simp [h3,hfb]
theorem Cps.drop {rs:List T} (h:Cps rs) (p:Nat):Cps (rs.drop p):=fun c hc=>h c (List.mem_of_mem_drop hc)
theorem o_tw {rs:List T} (f:UInt8 → Bool) (p n:Nat) (hn:n ≤ ((rs.drop p).takeWhile (one1 f)).length):o rs (p + n) = o rs p + n:=by
 induction n with
 | zero=>rfl
 | succ n ih=>
  have h1:=ih (by omega)
  have hlt:n < ((rs.drop p).takeWhile (one1 f)).length:=by omega
  have hm:one1 f (((rs.drop p).takeWhile (one1 f))[n]) = true:=by
   have:=List.all_takeWhile (l:=rs.drop p) (p:=one1 f)
   exact List.all_eq_true.1 this _ (List.getElem_mem hlt)
  have hpre:(rs.drop p)[n]? = some (((rs.drop p).takeWhile (one1 f))[n]):=by
   have:=(List.takeWhile_prefix (one1 f) (l:=rs.drop p)).getElem hlt
   rw [List.getElem?_eq_getElem (Nat.lt_of_lt_of_le hlt (List.takeWhile_prefix _).length_le)]
   rw [this]
  rw [List.getElem?_drop] at hpre
  have h2:=o_succ hpre
  have h3:(((rs.drop p).takeWhile (one1 f))[n]).length = 1:=by
   generalize ((rs.drop p).takeWhile (one1 f))[n] = c at hm ⊢
   unfold one1 at hm
   split at hm
   ·rfl
   ·cases hm
  rw [h3] at h2
  rw [← Nat.add_assoc]
  omega
theorem isBlk_lt (b:UInt8) (h:Dk.isBlk b = true):b.toNat < 128:=by
 simp only [Dk.isBlk,Bool.or_eq_true,beq_iff_eq] at h
 rcases h with ((rfl | rfl) | rfl) | rfl <;> decide
theorem isDig_lt (b:UInt8) (h:Pn.isDig b = true):b.toNat < 128:=by
 simp only [Pn.isDig,decide_eq_true_eq] at h;omega
theorem isAlpha_lt (b:UInt8) (h:Dk.isAlpha b = true):b.toNat < 128:=by
 simp only [Dk.isAlpha,Bool.or_eq_true,decide_eq_true_eq,beq_iff_eq] at h
 rcases h with (h | h) | rfl
 ·omega
 ·omega
 ·decide
theorem isN_lt (b:UInt8) (h:isN b = true):b.toNat < 128:=by
 simp only [isN,Bool.or_eq_true] at h
 rcases h with h | h
 ·exact isAlpha_lt b h
 ·exact isDig_lt b h
end Go.Proofs.YtaepcfidpekflaaGreatDoor.Pg
namespace Go.Proofs.YtaepcfidpekflaaGreatDoor.Pg
open Go.Proofs.YtaepcfidpekflaaGreatDoor
theorem blanks_o {rs:List T} (hc:Cps rs) {x:Dk.Sc} {p:Nat} (hi:x.i = o rs p):x.blanks rs.flatten = { x with i:=o rs (bl rs p) }:=by
 unfold Dk.Sc.blanks Dk.Sc.go bl
 rw [hi,drop_o,(tw _ isBlk_lt _ (hc.drop p)).1,(tw _ isBlk_lt _ (hc.drop p)).2,o_tw Dk.isBlk p _ (Nat.le_refl _)]
theorem alpha_dig (c:UInt8) (h:Dk.isAlpha c = true):Pn.isDig c = false:=by
 simp only [Dk.isAlpha,Bool.or_eq_true,decide_eq_true_eq,beq_iff_eq] at h
 simp only [Pn.isDig,decide_eq_false_iff_not]
 rcases h with (h | h) | rfl
 ·omega
 ·omega
 ·decide
theorem namedGo_eq:∀ (l:T) (n:Nat),1 ≤ n → n ≤ 16 → Dk.namedGo n l = min 16 (n + (l.takeWhile isN).length):=by
 intro l
 induction l with
 | nil=>intro n _ h;simp [Dk.namedGo];omega
 | cons c r ih=>
  intro n h1 h2
  rw [Dk.namedGo]
  by_cases hn:isN c = true
  ·have hc:Dk.isAlpha c = true ∨ n ≠ 0 ∧ Pn.isDig c = true:=by
    simp only [isN,Bool.or_eq_true] at hn
    rcases hn with h | h
    ·exact .inl h
    ·exact .inr ⟨by omega,h⟩
   by_cases h16:n < 16
   ·rw [if_pos ⟨h16,hc⟩,ih (n + 1) (by omega) (by omega),List.takeWhile_cons,if_pos hn]
    simp only [List.length_cons]
    omega
   ·rw [if_neg (fun h=>h16 h.1)]
    omega
  ·rw [if_neg ?_,List.takeWhile_cons,if_neg hn]
   ·simp;omega
   ·rintro ⟨_,h | h⟩
    ·exact hn (by simp [isN,h])
    ·exact hn (by simp [isN,h.2])
theorem named_eq (l:T):Dk.named l = if (l.head?.any Pn.isDig) = true then 0 else min 16 (l.takeWhile isN).length:=by
 cases l with
 | nil=>rfl
 | cons c r=>
  unfold Dk.named
  rw [Dk.namedGo,show ((c :: r).head?.any Pn.isDig) = Pn.isDig c from rfl]
  by_cases ha:Dk.isAlpha c = true
  ·rw [if_pos ⟨by omega,.inl ha⟩,namedGo_eq r 1 (by omega) (by omega),if_neg (by rw [alpha_dig c ha];simp),List.takeWhile_cons,if_pos (by simp [isN,ha])]
   simp only [List.length_cons]
   omega
  ·rw [if_neg (by rintro ⟨_,h | h⟩;exact ha h;exact h.1 rfl)]
   by_cases hd:Pn.isDig c = true
   ·rw [if_pos hd]
   ·rw [if_neg hd,List.takeWhile_cons,if_neg (by simp [isN,ha,hd])]
    rfl
theorem wholeGo_eq (z:Bool):∀ (l:T) (n:Nat),1 ≤ n → n ≤ 9 → (z = true → 2 ≤ n) → Dk.wholeGo z n l = min 9 (n + (l.takeWhile Pn.isDig).length):=by
 intro l
 induction l with
 | nil=>intro n _ h _;simp [Dk.wholeGo];omega
 | cons c r ih=>
  intro n h1 h2 h3
  rw [Dk.wholeGo]
  by_cases hn:Pn.isDig c = true
  ·by_cases h16:n < 9
   ·rw [if_pos ⟨h16,hn,fun h=>by have:=h3 h.2;omega⟩,ih (n + 1) (by omega) (by omega) (fun h=>by have:=h3 h;omega),List.takeWhile_cons,if_pos hn]
    simp only [List.length_cons]
    omega
   ·rw [if_neg (fun h=>h16 h.1)]
    omega
  ·rw [if_neg (fun h=>hn h.2.1),List.takeWhile_cons,if_neg hn]
   simp;omega
theorem wholeN_eq (l:T):Dk.wholeN l = if l.head? = some 48 then 1 else min 9 (l.takeWhile Pn.isDig).length:=by
 cases l with
 | nil=>rfl
 | cons c r=>
  unfold Dk.wholeN
  obtain ⟨z,hz⟩:∃ z,((c :: r).head? == some (48:UInt8)) = z:=⟨_,rfl⟩
  rw [hz,Dk.wholeGo]
  by_cases hd:Pn.isDig c = true
  ·rw [if_pos ⟨by omega,hd,by omega⟩]
   by_cases h0:c = 48
   ·have hz1:z = true:=by rw [← hz,h0];rfl
    rw [if_pos (show (c :: r).head? = some 48 by rw [h0];rfl),hz1]
    cases r with
    | nil=>rfl
    | cons d r=>rw [Dk.wholeGo,if_neg];simp
   ·have hz0:z = false:=by rw [← hz];simpa using h0
    rw [if_neg (show ¬ (c :: r).head? = some 48 by simpa using h0),hz0,wholeGo_eq false r 1 (by omega) (by omega) (by simp),List.takeWhile_cons,if_pos hd]
    simp only [List.length_cons]
    omega
  ·rw [if_neg (fun h=>hd h.2.1),List.takeWhile_cons,if_neg hd,if_neg (show ¬ (c :: r).head? = some 48 from fun e=>hd (by
    have:c = 48:=by simpa using e
    rw [this];decide))]
   rfl
theorem head_o {rs:List T} (hc:Cps rs) (p:Nat) (f:UInt8 → Bool) (hf:∀ b,f b = true → b.toNat < 128):((rs.drop p).flatten.head?.any f) = at1 rs p f:=by
 rw [← drop_o,List.head?_drop,at_o hc,at1]
 cases h:rs[p]? with
 | none=>rfl
 | some c=>
  rcases hc c (List.mem_of_getElem? h) with ⟨b,rfl,hb⟩ | ⟨h1,h2⟩
  ·rfl
  ·cases c with
   | nil=>simp at h1
   | cons b r=>
    cases r with
    | nil=>simp at h1
    | cons d r=>
     have:=h2 b (by simp)
     have hb:f b = false:=by
      cases e:f b with
      | false=>rfl
      | true=>have:=hf b e;omega
     simp [one1,hb]
theorem take_tw {rs:List T} (hc:Cps rs) (f:UInt8 → Bool) (hf:∀ b,f b = true → b.toNat < 128) (p:Nat):((rs.flatten).drop (o rs p)).take ((rs.drop p).takeWhile (one1 f)).length = ((rs.drop p).takeWhile (one1 f)).flatten:=by
 rw [drop_o,← (tw f hf _ (hc.drop p)).2,← (tw f hf _ (hc.drop p)).1]
 exact (List.prefix_iff_eq_take.1 (List.takeWhile_prefix f)).symm
theorem at_tw {rs:List T} (f:UInt8 → Bool) (p n:Nat) (hn:n < ((rs.drop p).takeWhile (one1 f)).length):at1 rs (p + n) f = true:=by
 have hm:one1 f (((rs.drop p).takeWhile (one1 f))[n]) = true:=by
  have:=List.all_takeWhile (l:=rs.drop p) (p:=one1 f)
  exact List.all_eq_true.1 this _ (List.getElem_mem hn)
 have hpre:(rs.drop p)[n]? = some (((rs.drop p).takeWhile (one1 f))[n]):=by
  have:=(List.takeWhile_prefix (one1 f) (l:=rs.drop p)).getElem hn
  rw [List.getElem?_eq_getElem (Nat.lt_of_lt_of_le hn (List.takeWhile_prefix _).length_le)]
  rw [this]
 rw [List.getElem?_drop] at hpre
 unfold at1
 rw [hpre]
 exact hm
theorem name_o {rs:List T} (hc:Cps rs) {x:Dk.Sc} {p:Nat} (hi:x.i = o rs p) (he:x.err = 0):
  (∀ n q,nameR rs p = .inr (n,q) → x.name rs.flatten = { x with i:=o rs q } ∧ x.nameT rs.flatten = n) ∧
  (∀ a,nameR rs p = .inl a → x.name rs.flatten = { x with err:=3,place:=o rs a } ∧ a = p ∧ x.nameT rs.flatten = [] ∨ x.name rs.flatten = { x with i:=o rs a } ∧ at1 rs a isN = true ∧ (x.nameT rs.flatten).length = 16):=by
 have hn:Dk.named (rs.flatten.drop x.i) = if at1 rs p Pn.isDig = true then 0 else min 16 (word rs p).length:=by
  rw [hi,drop_o,named_eq,head_o hc p _ isDig_lt,(tw _ isN_lt _ (hc.drop p)).1,(tw _ isN_lt _ (hc.drop p)).2]
  rfl
 have hT:((rs.flatten).drop x.i).take (word rs p).length = (word rs p).flatten:=by rw [hi];exact take_tw hc isN isN_lt p
 have hlen:((rs.flatten).drop x.i).length ≥ (word rs p).length:=by
  rw [hi,drop_o]
  have h1:(word rs p).flatten.length ≤ (rs.drop p).flatten.length:=by
   have:=(tw _ isN_lt _ (hc.drop p)).1
   show ((rs.drop p).takeWhile (one1 isN)).flatten.length ≤ _
   rw [← this]
   exact (List.takeWhile_prefix _).length_le
  have h2:(word rs p).flatten.length = (word rs p).length:=(tw _ isN_lt _ (hc.drop p)).2
  omega
 unfold nameR Dk.Sc.name Dk.Sc.nameT Dk.Sc.next
 rw [hn]
 constructor
 ·intro n q h
  split at h
  ·cases h
  rename_i h1
  split at h
  ·cases h
  rename_i h2
  split at h
  ·cases h
  rename_i h3
  injection h with h
  injection h with h4 h5
  have hm:min 16 (word rs p).length = (word rs p).length:=by omega
  rw [if_neg h1,hm,if_neg h2]
  refine ⟨?_,by rw [hT,h4]⟩
  rw [← h5,Dk.Sc.go,hi,← o_tw isN p (word rs p).length (Nat.le_refl _)]
 ·intro a h
  split at h
  ·rename_i h1
   injection h with h
   left
   rw [if_pos h1]
   simp only [if_true,Dk.Sc.fault,if_pos he,Dk.Sc.go,Nat.add_zero,List.take_zero,and_true,← h]
   rw [hi]
  rename_i h1
  split at h
  ·rename_i h2
   injection h with h
   left
   rw [if_neg h1,h2]
   simp only [Nat.min_zero,if_true,Dk.Sc.fault,if_pos he,Dk.Sc.go,Nat.add_zero,List.take_zero,and_true,← h]
   rw [hi]
  rename_i h2
  split at h
  ·rename_i h3
   injection h with h
   right
   have hm:min 16 (word rs p).length = 16:=by omega
   rw [if_neg h1,hm,if_neg (by omega),← h]
   refine ⟨?_,at_tw isN p 16 h3,by rw [List.length_take];omega⟩
   rw [Dk.Sc.go,o_tw isN p 16 (by show 16 ≤ (word rs p).length;omega),hi]
  ·cases h
theorem whole_o {rs:List T} (hc:Cps rs) {x:Dk.Sc} {p:Nat} (hi:x.i = o rs p) (he:x.err = 0):
  (∀ n q,valR rs p = .inr (n,q) → x.whole rs.flatten = { x with i:=o rs q } ∧ x.wholeT rs.flatten = n) ∧
  (∀ a,valR rs p = .inl a → x.whole rs.flatten = { x with err:=3,place:=o rs a } ∨ x.whole rs.flatten = { x with i:=o rs a } ∧ at1 rs a Pn.isDig = true):=by
 have hT:((rs.flatten).drop x.i).take (digs rs p).length = (digs rs p).flatten:=by rw [hi];exact take_tw hc Pn.isDig isDig_lt p
 have hh:(rs.drop p).flatten.head? = some 48 ↔ rs[p]? = some [48]:=by
  rw [← drop_o,List.head?_drop]
  exact at_one hc p 48 (by decide)
 have hn:Dk.wholeN (rs.flatten.drop x.i) = if rs[p]? = some [48] then 1 else min 9 (digs rs p).length:=by
  rw [hi,drop_o,wholeN_eq,(tw _ isDig_lt _ (hc.drop p)).1,(tw _ isDig_lt _ (hc.drop p)).2]
  simp only [hh]
  rfl
 have h48:rs[p]? = some [48] → 1 ≤ (digs rs p).length:=by
  intro h
  have hd:rs.drop p = [48] :: rs.drop (p + 1):=by
   have hl:p < rs.length:=by
    rcases Nat.lt_or_ge p rs.length with h' | h'
    ·exact h'
    ·rw [List.getElem?_eq_none h'] at h;cases h
   rw [List.drop_eq_getElem_cons hl]
   rw [List.getElem?_eq_getElem hl] at h
   injection h with h
   rw [h]
  unfold digs
  rw [hd,List.takeWhile_cons,if_pos (by decide)]
  simp
 unfold valR Dk.Sc.whole Dk.Sc.wholeT Dk.Sc.next
 rw [hn]
 constructor
 ·intro n q h
  split at h
  ·cases h
  rename_i h1
  split at h
  ·cases h
  rename_i h2
  split at h
  ·cases h
  rename_i h3
  injection h with h
  injection h with h4 h5
  have hm:(if rs[p]? = some [48] then 1 else min 9 (digs rs p).length) = (digs rs p).length:=by
   split
   ·rename_i h6
    have:¬ 1 < (digs rs p).length:=fun h=>h2 ⟨h,h6⟩
    omega
   ·omega
  rw [hm,if_neg h1]
  refine ⟨?_,by rw [hT,h4]⟩
  rw [← h5,Dk.Sc.go,hi,← o_tw Pn.isDig p (digs rs p).length (Nat.le_refl _)]
 ·intro a h
  split at h
  ·rename_i h1
   injection h with h
   left
   have hm:(if rs[p]? = some [48] then 1 else min 9 (digs rs p).length) = 0:=by
    split
    ·rename_i h6
     have:=h48 h6
     omega
    ·omega
   rw [hm]
   simp only [if_true,Dk.Sc.fault,if_pos he,Dk.Sc.go,Nat.add_zero]
   rw [hi,h]
  rename_i h1
  split at h
  ·rename_i h2
   injection h with h
   right
   rw [if_pos h2.2,if_neg (by omega),← h]
   refine ⟨?_,at_tw Pn.isDig p 1 h2.1⟩
   rw [Dk.Sc.go,o_tw Pn.isDig p 1 (by show 1 ≤ (digs rs p).length;omega),hi]
  rename_i h2
  split at h
  ·rename_i h3
   injection h with h
   right
   have h6:¬ rs[p]? = some [48]:=fun h=>h2 ⟨by omega,h⟩
   have hm:min 9 (digs rs p).length = 9:=by omega
   rw [if_neg h6,hm,if_neg (by omega),← h]
   refine ⟨?_,at_tw Pn.isDig p 9 h3⟩
   rw [Dk.Sc.go,o_tw Pn.isDig p 9 (by show 9 ≤ (digs rs p).length;omega),hi]
  ·cases h
def Bad (x:Dk.Sc) (e a:Nat):Prop:=x.err = e ∧ x.place = a ∧ e ≠ 0
theorem Bad.go {x:Dk.Sc} {e a:Nat} (h:Bad x e a) (n:Nat):Bad (x.go n) e a:=h
theorem Bad.put {x:Dk.Sc} {e a:Nat} (h:Bad x e a) (m:Dk.Mark):Bad (x.put m) e a:=h
theorem Bad.blanks {x:Dk.Sc} {e a:Nat} (h:Bad x e a) (s:T):Bad (x.blanks s) e a:=h
theorem Bad.fault {x:Dk.Sc} {e a:Nat} (h:Bad x e a) (f b:Nat):Bad (x.fault f b) e a:=by
 unfold Dk.Sc.fault
 rw [if_neg (by rw [h.1];exact h.2.2)]
 exact h
theorem Bad.new {x:Dk.Sc} (he:x.err = 0) (e a:Nat) (h:e ≠ 0):Bad (x.fault e a) e a:=by
 unfold Dk.Sc.fault
 rw [if_pos he]
 exact ⟨rfl,rfl,h⟩
theorem Bad.whole {x:Dk.Sc} {e a:Nat} (h:Bad x e a) (s:T):Bad (x.whole s) e a:=by
 unfold Dk.Sc.whole
 split
 ·exact (h.fault _ _).go _
 ·exact h.go _
theorem Bad.needs {x:Dk.Sc} {e a:Nat} (h:Bad x e a) (s:T) (c:UInt8):Bad (x.needs s c) e a:=by
 unfold Dk.Sc.needs
 split
 ·exact h.go _
 ·exact h.fault _ _
theorem Bad.opened {x:Dk.Sc} {e a:Nat} (h:Bad x e a) (s:T) (num:Bool) (m:Dk.Mark):Bad (x.opened s num m) e a:=by
 have h1:=(h.blanks s).needs s 123
 unfold Dk.Sc.opened
 simp only
 split
 ·exact h1.fault _ _
 ·exact h1
theorem Bad.branch {x:Dk.Sc} {e a:Nat} (h:Bad x e a) (s:T) (num:Bool):Bad (x.branch s num) e a:=by
 unfold Dk.Sc.branch
 rw [if_pos (by rw [h.1];exact h.2.2)]
 exact h
theorem needs_o {rs:List T} (hc:Cps rs) {x:Dk.Sc} {p:Nat} (hi:x.i = o rs p) (he:x.err = 0) (c:UInt8) (hb:c.toNat < 128):
  (rs[p]? = some [c] → x.needs rs.flatten c = { x with i:=o rs (p + 1) }) ∧ (rs[p]? ≠ some [c] → Bad (x.needs rs.flatten c) 3 (o rs p)):=by
 unfold Dk.Sc.needs
 rw [hi]
 constructor
 ·intro h
  rw [if_pos ((at_one hc p c hb).2 h),o_succ h,Dk.Sc.go,hi]
  rfl
 ·intro h
  rw [if_neg (fun h'=>h ((at_one hc p c hb).1 h'))]
  exact Bad.new he 3 _ (by omega)
theorem bl_at {rs:List T} {p:Nat} {f:UInt8 → Bool} (h:at1 rs p f = true) (hf:∀ b,f b = true → Dk.isBlk b = false):bl rs p = p:=by
 unfold at1 at h
 split at h
 ·rename_i c hc
  have hl:p < rs.length:=by
   rcases Nat.lt_or_ge p rs.length with h' | h'
   ·exact h'
   ·rw [List.getElem?_eq_none h'] at hc;cases hc
  unfold bl
  rw [List.getElem?_eq_getElem hl] at hc
  injection hc with hc
  rw [List.drop_eq_getElem_cons hl,hc,List.takeWhile_cons,if_neg]
  ·rfl
  ·unfold one1 at h ⊢
   split at h
   ·rw [hf _ h];simp
   ·cases h
 ·cases h
theorem not_at {rs:List T} {p:Nat} {f:UInt8 → Bool} (h:at1 rs p f = true) (c:UInt8) (hf:f c = false):rs[p]? ≠ some [c]:=by
 intro e
 rw [at1,e] at h
 simp only [one1] at h
 rw [hf] at h
 cases h
theorem isN_blk (b:UInt8) (h:isN b = true):Dk.isBlk b = false:=by
 cases e:Dk.isBlk b with
 | false=>rfl
 | true=>
  simp only [Dk.isBlk,Bool.or_eq_true,beq_iff_eq] at e
  rcases e with ((rfl | rfl) | rfl) | rfl <;> exact absurd h (by decide)
theorem isDig_blk (b:UInt8) (h:Pn.isDig b = true):Dk.isBlk b = false:=isN_blk b (by simp [isN,h])
theorem opened_o {rs:List T} (hc:Cps rs) {x:Dk.Sc} {p:Nat} (hi:x.i = o rs p) (he:x.err = 0) (num:Bool) (m:Dk.Mark):
  (rs[bl rs p]? ≠ some [123] → Bad (x.opened rs.flatten num m) 3 (o rs (bl rs p))) ∧
  (rs[bl rs p]? = some [123] → x.opens.length + 2 ≤ 6 → x.opened rs.flatten num m = { x with i:=o rs (bl rs p + 1),opens:=x.opens ++ [num],out:=x.out ++ [m] }) ∧
  (rs[bl rs p]? = some [123] → 6 < x.opens.length + 2 → Bad (x.opened rs.flatten num m) 4 (o rs (bl rs p))):=by
 have hn:=needs_o hc (x:={ x with i:=o rs (bl rs p) }) (p:=bl rs p) rfl he 123 (by decide)
 unfold Dk.Sc.opened
 rw [blanks_o hc hi]
 simp only
 refine ⟨fun h=>?_,fun h h6=>?_,fun h h6=>?_⟩
 ·have:=hn.2 h
  split
  ·exact this.fault _ _
  ·exact this
 ·rw [hn.1 h]
  simp only
  rw [if_neg (by omega)]
 ·rw [hn.1 h]
  simp only
  rw [if_pos h6]
  have:=Bad.new (x:={ x with i:=o rs (bl rs p + 1) }) he 4 (o rs (bl rs p)) (by decide)
  exact this
theorem cat_len (t:T) (h:Dk.isCat t = true):0 < t.length ∧ t.length ≤ 5 ∧ Dk.isAlpha (t.headD 0) = true:=by
 have:t = [122,101,114,111] ∨ t = [111,110,101] ∨ t = [116,119,111] ∨ t = [102,101,119] ∨ t = [109,97,110,121] ∨ t = [111,116,104,101,114]:=by
  simpa [Dk.isCat,Pr.catB,or_assoc] using h
 rcases this with rfl | rfl | rfl | rfl | rfl | rfl <;> decide
theorem word_head {rs:List T} (p:Nat) (c:UInt8) (h:(word rs p).flatten.head? = some c):rs[p]? = some [c]:=by
 unfold word at h
 cases hd:rs.drop p with
 | nil=>rw [hd] at h;simp at h
 | cons d r=>
  have h1:rs[p]? = some d:=by
   have:=congrArg List.head? hd
   rw [List.head?_drop] at this
   simpa using this
  rw [hd,List.takeWhile_cons] at h
  split at h
  ·rename_i hd1
   unfold one1 at hd1
   split at hd1
   ·rename_i b
    simp at h
    rw [h1,h]
   ·cases hd1
  ·simp at h
theorem name_word {rs:List T} (hc:Cps rs) (p:Nat) (h0:Dk.isAlpha ((word rs p).flatten.headD 0) = true) (h1:0 < (word rs p).flatten.length) (h2:(word rs p).flatten.length ≤ 16):nameR rs p = .inr ((word rs p).flatten,p + (word rs p).length):=by
 have hl:(word rs p).flatten.length = (word rs p).length:=(tw _ isN_lt _ (hc.drop p)).2
 have hd:at1 rs p Pn.isDig = false:=by
  cases hw:(word rs p).flatten with
  | nil=>rw [hw] at h1;simp at h1
  | cons c r=>
   have:=word_head p c (by rw [hw];rfl)
   rw [hw] at h0
   unfold at1
   rw [this]
   exact alpha_dig c h0
 unfold nameR
 rw [hd,if_neg (by simp),if_neg (by omega),if_neg (by omega)]
theorem branch_o {rs:List T} (hc:Cps rs) {x:Dk.Sc} {p:Nat} (hi:x.i = o rs p) (he:x.err = 0) (num:Bool):
  (∀ w q,selR num rs p = .inr (w,q) → x.branch rs.flatten num = ({ x with i:=o rs q }:Dk.Sc).opened rs.flatten num { kind:=91,text:=w,at_:=o rs p }) ∧
  (∀ a,selR num rs p = .inl a → Bad (x.branch rs.flatten num) 3 (o rs a)):=by
 have hnm:=name_o hc hi he
 unfold Dk.Sc.branch
 rw [if_neg (by rw [he];simp)]
 cases num with
 | false=>
  simp only [Bool.false_eq_true,false_and,if_false]
  unfold selR
  rw [if_pos rfl]
  constructor
  ·intro w q h
   obtain ⟨h1,h2⟩:=hnm.1 w q h
   rw [h1,h2,hi]
  ·intro a h
   rcases hnm.2 a h with ⟨h1,_,_⟩ | ⟨h1,h2,_⟩
   ·rw [h1]
    exact Bad.opened (e:=3) ⟨rfl,rfl,by decide⟩ _ _ _
   ·rw [h1]
    have hb:=bl_at h2 isN_blk
    have:=(opened_o hc (x:={ x with i:=o rs a }) (p:=a) rfl he false { kind:=91,text:=x.nameT rs.flatten,at_:=x.i }).1
    rw [hb] at this
    exact this (not_at h2 123 (by decide))
 | true=>
  simp only [true_and]
  rw [hi]
  simp only [at_one hc p 61 (by decide)]
  unfold selR
  rw [if_neg (by simp)]
  by_cases h61:rs[p]? = some [61]
  ·rw [if_pos h61,if_pos h61]
   have hg:(x.go 1).i = o rs (p + 1):=by rw [Dk.Sc.go,o_succ h61,hi];rfl
   have hwh:=whole_o hc hg he
   have hgo:x.go 1 = { x with i:=o rs (p + 1) }:=by rw [Dk.Sc.go,o_succ h61,hi];rfl
   constructor
   ·intro w q h
    split at h
    ·cases h
    ·rename_i t q' e
     injection h with h
     injection h with h3 h4
     obtain ⟨h1,h2⟩:=hwh.1 t q' e
     rw [h1,h2,h3,h4,hgo]
   ·intro a h
    split at h
    ·rename_i a' e
     injection h with h
     rw [← h]
     rcases hwh.2 a' e with h1 | ⟨h1,h2⟩
     ·rw [h1]
      exact Bad.opened (e:=3) ⟨rfl,rfl,by decide⟩ _ _ _
     ·rw [h1]
      have hb:=bl_at h2 isDig_blk
      have:=(opened_o hc (x:={ x.go 1 with i:=o rs a' }) (p:=a') rfl he true { kind:=91,text:=61 :: (x.go 1).wholeT rs.flatten,at_:=o rs p }).1
      rw [hb] at this
      exact this (not_at h2 123 (by decide))
    ·cases h
  ·rw [if_neg h61,if_neg h61]
   by_cases hcat:Dk.isCat (word rs p).flatten = true
   ·obtain ⟨c1,c2,c3⟩:=cat_len _ hcat
    have hw:=name_word hc p c3 c1 (by omega)
    obtain ⟨h1,h2⟩:=hnm.1 _ _ hw
    rw [if_pos hcat]
    constructor
    ·intro w q h
     injection h with h
     injection h with h3 h4
     rw [h2,h1,hcat,← h3,← h4]
     simp
    ·intro a h
     cases h
   ·rw [if_neg hcat]
    constructor
    ·intro w q h
     cases h
    ·intro a h
     injection h with h
     rw [← h]
     have hcT:Dk.isCat (x.nameT rs.flatten) = false:=by
      cases hr:nameR rs p with
      | inl b=>
       rcases hnm.2 b hr with ⟨_,_,h3⟩ | ⟨_,_,h3⟩
       ·rw [h3];decide
       ·cases e:Dk.isCat (x.nameT rs.flatten) with
        | false=>rfl
        | true=>have:=cat_len _ e;omega
      | inr nq=>
       obtain ⟨n,q⟩:=nq
       rw [(hnm.1 n q hr).2]
       have:n = (word rs p).flatten:=by
        unfold nameR at hr
        split at hr
        ·cases hr
        split at hr
        ·cases hr
        split at hr
        ·cases hr
        injection hr with hr
        injection hr with hr _
        exact hr.symm
       rw [this]
       simpa using hcat
     rw [if_pos hcT]
     refine Bad.opened ?_ _ _ _
     cases hr:nameR rs p with
     | inl b=>
      rcases hnm.2 b hr with ⟨h3,h4,_⟩ | ⟨h3,_⟩
      ·rw [h3,h4]
       exact Bad.fault (e:=3) ⟨rfl,rfl,by decide⟩ _ _
      ·rw [h3]
       exact Bad.new (x:={ x with i:=o rs b }) he 3 _ (by decide)
     | inr nq=>
      obtain ⟨n,q⟩:=nq
      rw [(hnm.1 n q hr).1]
      exact Bad.new (x:={ x with i:=o rs q }) he 3 _ (by decide)
end Go.Proofs.YtaepcfidpekflaaGreatDoor.Pg
