/-
  Several texts in one (Kk, Mm, Mn). By the verifier.
-/
import Derived.Test.YtaepcfidpekflaaGreatDoorZ21
import Derived.Deep.RegionLaw
import Derived.Test.YtaepcfidpekflaaGreatDoorZ19
namespace Go.Proofs.YtaepcfidpekflaaGreatDoor
open Go.RowKit
theorem ScanAt.box {w:World} {B b:Nat} {s:Pr.T} {x:Dk.Sc} (h:ScanAt [] w B b s x) (cs:Array Value) (T:TypeId):ScanAt [(w.heap.size,cs)] (w.alloc (.cells cs T)) B b s x:=by
 have h':=h.keep (((Below.refl w.heap.size w).alloc (Nat.le_refl _)) (.cells cs T))
 obtain ⟨ov,pv,h1,h2,h3,h4,h5,h6,h7,_⟩:=h'
 have hb:=h.base.2
 obtain ⟨ov0,pv0,k1,k2,k3,k4,_⟩:=h
 have e1:ov0 = ov:=by
  have a:=k1.2.1 2
  have c:=h1.2.1 2
  rw [World.cell?_alloc_lt w _ ⟨b,2,none⟩ hb,a] at c
  simpa using c
 have e2:pv0 = pv:=by
  have a:=k1.2.1 3
  have c:=h1.2.1 3
  rw [World.cell?_alloc_lt w _ ⟨b,3,none⟩ hb,a] at c
  simpa using c
 subst e1
 subst e2
 refine ⟨ov0,pv0,h1,h2,h3,h4,h5,h6,h7,fun q hq=>?_⟩
 simp only [List.mem_singleton] at hq
 subst hq
 refine ⟨row_at w cs T,by simp only;omega,fun e=>?_,fun e=>?_⟩
 ·exact absurd (World.ownsRow.lt k3 _ e).2 (by omega)
 ·exact absurd (World.ownsRow.lt k4 _ e).2 (by omega)
theorem ScanAt.rowOf {w:World} {B b mb:Nat} {s:Pr.T} {x:Dk.Sc} {cs:Array Value} (h:ScanAt [(mb,cs)] w B b s x):Row w mb cs:=by
 obtain ⟨ov,pv,h1,h2,h3,h4,h5,h6,h7,h8⟩:=h
 exact (h8 (mb,cs) (by simp)).1
theorem ScanAt.setBox {w:World} {B b mb:Nat} {s:Pr.T} {x:Dk.Sc} {cs:Array Value} (h:ScanAt [(mb,cs)] w B b s x) (k:Nat) (u:Value) (hk:k < cs.size):ScanAt [(mb,cs.setIfInBounds k u)] (w.setCell ⟨mb,k,none⟩ u) B b s x:=by
 obtain ⟨ov,pv,h1,h2,h3,h4,h5,h6,h7,h8⟩:=h
 obtain ⟨r1,r2,r3,r4⟩:=h8 (mb,cs) (by simp)
 refine ⟨ov,pv,h1.other (fun e=>r2 e.symm) _,h2,ownsRow_setCell_other h3 r3 _,ownsRow_setCell_other h4 r4 _,h5,h6,h7,fun q hq=>?_⟩
 simp only [List.mem_singleton] at hq
 subst hq
 exact ⟨r1.setC k u hk,r2,r3,r4⟩
theorem ScanAt.unbox {w:World} {B b:Nat} {s:Pr.T} {x:Dk.Sc} {ms:List (Nat × Array Value)} (h:ScanAt ms w B b s x):ScanAt [] w B b s x:=by
 obtain ⟨ov,pv,h1,h2,h3,h4,h5,h6,h7,_⟩:=h
 exact ⟨ov,pv,h1,h2,h3,h4,h5,h6,h7,fun q hq=>by cases hq⟩
variable {ms:List (Nat × Array Value)}
theorem ScanAt.push {w w2:World} {B b:Nat} {s:Pr.T} {x:Dk.Sc} {ov pv v':Value} {num:Bool} {o:Obj}
  (h1:Row w b #[.string ⟨s.toArray⟩,.int .i64 x.i,ov,pv,.int .i64 x.err,.int .i64 x.place]) (h2:B ≤ b) (h4:w.ownsRow B 4 1 pv x.opens.length (x.opens.map .bool))
  (h5:ov.ownBlock ≠ some b) (h6:pv.ownBlock ≠ some b) (h7:∀ g,ov.ownBlock = some g → pv.ownBlock ≠ some g) (h3:w.ownsRow B 130 6 ov x.out.length (marksCells x.out)) (h8:∀ q ∈ ms,Row w q.1 q.2 ∧ q.1 ≠ b ∧ ov.ownBlock ≠ some q.1 ∧ pv.ownBlock ≠ some q.1)
  (hown:w2.ownsRow B 4 1 v' (x.opens.length + 1) (x.opens.map .bool ++ [.bool num])) (hg:(w.alloc o).grownBy w2 pv.ownBlock) (hat:v'.ownBlock = pv.ownBlock ∨ v'.ownBlock = some (w.alloc o).heap.size):
  ScanAt ms (w2.setCell ⟨b,3,none⟩ v') B b s { x with opens:=x.opens ++ [num] } ∧ Below B w (w2.setCell ⟨b,3,none⟩ v'):=by
 have hbl:=h1.1
 have hB:B ≤ w.heap.size:=by omega
 have hr:Row w2 b #[.string ⟨s.toArray⟩,.int .i64 x.i,ov,pv,.int .i64 x.err,.int .i64 x.place]:=(h1.alloc o).grown hg h6
 have hv:v'.ownBlock ≠ some b:=by
  rcases hat with h | h
  ·rw [h];exact h6
  ·rw [h];simp;omega
 have hp:w2.ownsRow B 130 6 ov x.out.length (marksCells x.out):=by
  refine World.ownsRow.kept (h3.alloc o) hg ?_
  cases e:ov.ownBlock with
  | none=>exact .inl rfl
  | some g=>exact .inr (fun e2=>h7 g e e2.symm)
 refine ⟨⟨ov,v',hr.setC 3 _ (by simp),h2,ownsRow_setCell_other hp h5 _,?_,h5,hv,fun g hg2=>?_,fun q hq=>?_⟩,?_⟩
 ·have:=ownsRow_setCell_other hown (a:=⟨b,3,none⟩) hv v'
  simp only [List.length_append,List.length_singleton,List.map_append,List.map_cons,List.map_nil]
  exact this
 ·rcases hat with h | h
  ·rw [h];exact h7 g hg2
  ·rw [h]
   have:=(World.ownsRow.lt h3 g hg2).2
   simp
   omega
 ·obtain ⟨r1,r2,r3,r4⟩:=h8 q hq
  refine ⟨((r1.alloc o).grown hg r4).other r2 _,r2,r3,?_⟩
  rcases hat with h | h
  ·rw [h];exact r4
  ·rw [h]
   have:=r1.1
   simp
   omega
 ·refine Below.setCell (((Below.refl B w).alloc hB o).grown hg (by simp;omega) fun k hk=>(World.ownsRow.lt h4 k hk).1) (p:=⟨b,3,none⟩) h2 _
theorem info_bool:(Tryz.prog.info? 4).map (fun i=>(i.zero,i.size,i.bytes)) = some (some (.bool false),1,1):=by kernel_rfl
theorem step_append_at {P:Program} {ops:Array Oper} {o:Oper} {a:Act} {w:World} {K:Act → World → Prop} {Q:Exit → Act → World → Prop} {E:Prop} (hg:o.guard = none) (s x:Operand) (t:TypeId)
  (ho:o.op = .call { callee:=.builtin .append,args:=#[s,x],argTypes:=#[t,t] })
  (base:Nat) (e:TypeId) (i:TypeInfo) (z:Value) (size bytes:Nat) (ht:P.underlying t = some (.slice e)) (hi:P.info? e = some i) (hz:i.zero = some z)
  (hsize:i.size = size) (hby:i.bytes = bytes) (hzs:z.cells.size = size) (hsz:0 < size)
  (v:Value) (n:Nat) (xs:List Value) (hs:a.eval s = v) (hown:w.ownsRow base e size v n xs)
  (ad:Addr) (m c:Nat) (news:List Value) (hx:a.eval x = .slice (some ad) m c) (hl:news.length = m * size) (hnews:∀ j u,news[j]? = some u → w.cell? (ad.add j) = some u) (h1:∀ u ∈ news,u.oneCell' = true)
  (h63:n + m ≤ maxLen) (hbytes:(n + m) * bytes ≤ 140737488355328) (hbase:base ≤ w.heap.size)
  (h:∀ v' w',w'.ownsRow base e size v' (n + m) (xs ++ news) → w.grownBy w' v.ownBlock → (v'.ownBlock = v.ownBlock ∨ v'.ownBlock = some w.heap.size) → K (a.put o.dst v') w'):
  if Region.wanted o (yielded ops a.tmps) = true then Oper.wp P o a w K Q else E:=by
 have hw:Region.wanted o (yielded ops a.tmps) = true:=by simp [Region.wanted,hg]
 rw [if_pos hw]
 obtain ⟨v',w',hr,h2,h3,h4,h5⟩:=run_append_own_at (P:=P) w base t o.type e i z size bytes ht hi hz hsize hby hzs hsz v n xs hown ad m c news hl hnews h1 h63 hbytes hbase
 unfold Oper.wp execOp
 simp only [ho,resolve,invoke,builtin,Sem.run_bind,Sem.run_pure,Result.andThen_ok,List.map_toArray,List.map_cons,List.map_nil,hs,hx,hr]
 exact h v' w' h2 h3 h5
end Go.Proofs.YtaepcfidpekflaaGreatDoor
namespace Go.Proofs.YtaepcfidpekflaaGreatDoor
open Go.RowKit Pg
structure Grow (w:World) (B:Nat) (T:TypeId) (k:Nat) (v:Value) (n:Nat) (t:Pg.Tr) (vs:List Value):Prop where
 own:w.ownsRow B T k v n vs
 lay:Lay w (fun g=>B ≤ g ∧ v.ownBlock ≠ some g) t vs
theorem Grow.nil (w:World) (B:Nat) (T:TypeId) (k:Nat):Grow w B T k (.slice none 0 0) 0 .nil []:=⟨World.ownsRow_nil _ _ _ _,.nil⟩
theorem Grow.form {w:World} {B:Nat} {T:TypeId} {k:Nat} {v:Value} {n:Nat} {t:Pg.Tr} {vs:List Value} (h:Grow w B T k v n t vs):∃ a c,v = .slice a n c:=by
 rcases h.own.2 with ⟨rfl,hz⟩ | ⟨g,cap,cur,rfl,_⟩
 ·exact ⟨none,0,by rw [hz]⟩
 ·exact ⟨_,_,rfl⟩
theorem Grow.ag {P:Nat} {w w':World} {B:Nat} {T:TypeId} {k:Nat} {v:Value} {n:Nat} {t:Pg.Tr} {vs:List Value} (h:Grow w B T k v n t vs) (ha:Ag P w w') (hP:P < B):Grow w' B T k v n t vs:=by
 refine ⟨World.ownsRow.kept (row:=some P) h.own ⟨ha.os,ha.tape,ha.output,ha.size,fun k hk hkP=>ha.block k hk (fun e=>hkP (by rw [e]))⟩ ?_,h.lay.mono ha.size fun g hg hl=>⟨ha.block g hl (by omega),hg⟩⟩
 cases e:v.ownBlock with
 | none=>exact .inl rfl
 | some g=>
  refine .inr fun e2=>?_
  injection e2 with e2
  have:=(World.ownsRow.lt h.own g e).1
  omega
theorem Grow.set {w:World} {B:Nat} {T:TypeId} {k:Nat} {v:Value} {n g j:Nat} {t:Pg.Tr} {vs:List Value} (h:Grow w B T k v n t vs) (hg:g < B) (u:Value):Grow (w.setCell ⟨g,j,none⟩ u) B T k v n t vs:=h.ag ((Ag.refl g w).setCell j u) hg
theorem Grow.row {w:World} {B:Nat} {T:TypeId} {k:Nat} {v:Value} {n:Nat} {t:Pg.Tr} {vs:List Value} (h:Grow w B T k v n t vs) (hn:n ≤ 1000):RowAt w (fun g=>B ≤ g) k v t:=by
 refine ⟨vs,?_,h.lay.mono (Nat.le_refl _) fun g hg _=>⟨rfl,hg.1⟩⟩
 have hl:=h.own.1
 rcases h.own.2 with ⟨rfl,hz⟩ | ⟨g,cap,cur,rfl,hb,hg,hnc,hcm,hcs,htake⟩
 ·refine .inl ⟨?_,rfl⟩
  rw [hz] at hl
  exact List.length_eq_zero_iff.1 (by simpa using hl)
 ·refine .inr ⟨g,n,cap,rfl,hb,(World.ownsRow.lt h.own g rfl).2,hl,hnc,hn,fun j u hu=>?_⟩
  have:=h.own.cellAt j (by rw [← hl];exact lt_of_some hu)
  rw [this]
  exact hu
theorem Grow.put {w w2:World} {B:Nat} {T:TypeId} {k:Nat} {v v':Value} {n:Nat} {t u:Pg.Tr} {vs news:List Value} (h:Grow w B T k v n t vs) (hu:Lay w (fun g=>B ≤ g ∧ v.ownBlock ≠ some g) u news) (hown:w2.ownsRow B T k v' (n + 1) (vs ++ news)) (hg:w.grownBy w2 v.ownBlock) (hat:v'.ownBlock = v.ownBlock ∨ v'.ownBlock = some w.heap.size):Grow w2 B T k v' (n + 1) (t.app u) (vs ++ news):=by
 refine ⟨hown,(h.lay.app hu).mono hg.size fun g hS hl=>⟨hg.block g hl (fun e=>hS.2 (by rw [← e])),hS.1,?_⟩⟩
 rcases hat with e | e
 ·rw [e];exact hS.2
 ·rw [e]
  intro e2
  injection e2 with e2
  omega
theorem Grow.alloc {w:World} {B:Nat} {T:TypeId} {k:Nat} {v:Value} {n:Nat} {t:Pg.Tr} {vs:List Value} (h:Grow w B T k v n t vs) (o:Obj):Grow (w.alloc o) B T k v n t vs:=
 ⟨h.own.alloc o,h.lay.mono (by simp) fun g hS hl=>⟨(allocB w o).block g hl,hS⟩⟩
theorem Grow.drew {w:World} {B:Nat} {T:TypeId} {k:Nat} {v:Value} {n:Nat} {t:Pg.Tr} {vs:List Value} (h:Grow w B T k v n t vs):Grow w.drew B T k v n t vs:=
 ⟨h.own.drew,Lay.mono (w':=w.drew) (Below.refl w.heap.size w).drew.size (fun g hS hl=>⟨(Below.refl w.heap.size w).drew.block g hl,hS⟩) h.lay⟩
theorem Ag.grown {P:Nat} {w w1 w2:World} {row:Option Nat} (h:Ag P w w1) (hg:w1.grownBy w2 row) (hr:∀ g,row = some g → w.heap.size ≤ g):Ag P w w2:=
 ⟨hg.os.trans h.os,hg.tape.trans h.tape,hg.output.trans h.output,Nat.le_trans h.size hg.size,fun k hk hP=>(hg.block k (by have:=h.size;omega) (fun e=>by have:=hr k e.symm;omega)).trans (h.block k hk hP)⟩
theorem Scn.grown {P:Nat} {w w2:World} {row:Option Nat} {rs:List Pg.T} {p:Nat} (h:Scn P w rs p) (hg:w.grownBy w2 row) (hr:∀ g,row = some g → P < g):Scn P w2 rs p:=by
 obtain ⟨a,c,h1,h2,h3⟩:=h
 refine ⟨a,c,h1.grown hg (fun e=>by have:=hr P e;omega),?_,h3⟩
 rcases h2 with h2 | ⟨blk,k1,k2,k3,k4⟩
 ·exact .inl h2
 ·refine .inr ⟨blk,k1,k2,Nat.lt_of_lt_of_le k3 hg.size,fun j hj=>?_⟩
  have:=k4 j hj
  simp only [World.cell?,hg.block blk k3 (fun e=>by have:=hr blk e.symm;omega)] at this ⊢
  exact this
theorem cells_new (W:World) (g:Nat) (l:List Value) (T:TypeId) (hg:g = W.heap.size):∀ j u,l[j]? = some u → (W.alloc (.cells l.toArray T)).cell? ((⟨g,0,none⟩:Addr).add j) = some u:=by
 intro j u hu
 have e:(⟨g,0,none⟩:Addr).add j = ⟨W.heap.size,j,none⟩:=by
  unfold Addr.add
  split
  ·rename_i h0;rw [h0,hg]
  ·rw [hg];simp
 rw [e,(row_at W l.toArray T).2.1 j]
 simpa using hu
theorem info_branch:(Tryz.prog.info? 332).map (fun i=>(i.zero,i.size,i.bytes)) = some (some (.agg #[.string ⟨#[]⟩,.int .u32 0,.int .i64 0,.slice none 0 0]),4,56):=by kernel_rfl
structure Bs (rs:List Pg.T) (d:Nat) (num:Bool) (p q n:Nat) (t:Pg.Tr):Prop where
 more:∀ res,Rd rs (.brs d num (decide (n = 0))) q res → Rd rs (.brs d num true) p (res.pre t)
 small:n ≤ q
 ahead:p ≤ q
theorem Bs.start (rs:List Pg.T) (d:Nat) (num:Bool) (p:Nat):Bs rs d num p p 0 .nil:=⟨fun res h=>by rw [Res.pre_nil];exact h,Nat.zero_le _,Nat.le_refl _⟩
set_option maxHeartbeats 6400000 in
theorem pbranches_any (d:Nat) (hd:d ≤ 6) (hM:d < 6 → MsgOk (d + 1)) (P:Nat) (w:World) (rs:List Pg.T) (p:Nat) (num:Bool) (sv:Value) (h:Scn P w rs p) (hv:Slv P rs num w sv):
  Calls Tryz.prog 261 #[.pointer (some ⟨P,0,none⟩),sv,.int .i64 d,.bool num] w fun e w'=>Rdn P rs (.brs d num true) p w e w':=by
 have hPl:=h.lt
 have hpl:=h.pts
 have hb0:Below w.heap.size w ((w.alloc (.cells #[.slice none 0 0,.int .i64 0] 294)).alloc (.cells #[.slice none 0 0,.int .i64 0] 294)):=(allocB _ _).alloc (by simp) _
 have HS:Hid (Scn P ((w.alloc (.cells #[.slice none 0 0,.int .i64 0] 294)).alloc (.cells #[.slice none 0 0,.int .i64 0] 294)) rs p):=h.then hb0
 have HA:Hid (Ag P w ((w.alloc (.cells #[.slice none 0 0,.int .i64 0] 294)).alloc (.cells #[.slice none 0 0,.int .i64 0] 294))):=Ag.of hb0 (Nat.le_refl _)
 have HR:Hid (Row ((w.alloc (.cells #[.slice none 0 0,.int .i64 0] 294)).alloc (.cells #[.slice none 0 0,.int .i64 0] 294)) w.heap.size #[.slice none 0 0,.int .i64 0]):=(row_at w _ _).alloc _
 have HL:Hid (Row ((w.alloc (.cells #[.slice none 0 0,.int .i64 0] 294)).alloc (.cells #[.slice none 0 0,.int .i64 0] 294)) (w.heap.size + 1) #[.slice none 0 0,.int .i64 0]):=by
  have:=row_at (w.alloc (.cells #[.slice none 0 0,.int .i64 0] 294)) #[.slice none 0 0,.int .i64 0] 294
  rw [World.size_alloc] at this
  exact this
 have HV:Hid (Slv P rs num w sv):=hv
 obtain ⟨g,bd,lb,rfl,_⟩:=hv
 clear h hb0
 go_enter Tryz.func261,Tryz.ntmps261
 go_wp2_with fail
 go_loopw [] (fun wr=>∃ (q n:Nat) (t:Pg.Tr) (vs:List Value) (lv:Value) (e0:Int),Hid (Bs rs d num p q n t) ∧ Hid (Scn P wr rs q) ∧ Hid (Ag P w wr) ∧ Hid (Row wr w.heap.size #[.slice none 0 0,.int .i64 0]) ∧ Hid (Row wr (w.heap.size + 1) #[lv,.int .i64 e0]) ∧ Hid (Grow wr (w.heap.size + 2) 332 4 lv n t vs) ∧ w.heap.size + 1 < wr.heap.size) (fun wr=>rs.length - posOf wr P)
 case atStart=>exact ⟨p,0,.nil,[],.slice none 0 0,0,Bs.start _ _ _ _,HS,HA,HR,HL,Grow.nil _ _ _ _,by simp⟩
 case round=>
  clear HS HA HR HL
  obtain ⟨q,n,t,vs,lv,e0,HB,HS,HA,HR,HL,HG,hz⟩:=hrel
  obtain ⟨la,lc,rfl⟩:=HG.out.form
  have hpos:=HS.out.pos
  have hql:=HS.out.pts.2.2
  have hnq:=HB.out.small
  have kb:=pblanks_any P wr rs q HS.out
  go_wp2_with fail
  refine kb.mono ?_
  rintro e w1 ⟨rfl,hs1,ha1⟩
  have HS1:Hid (Scn P w1 rs (bl rs q)):=hs1
  have HA1:Hid (Ag P w w1):=HA.out.trans ha1
  have HR1:Hid (Row w1 w.heap.size #[.slice none 0 0,.int .i64 0]):=HR.out.ag ha1 (by omega)
  have HL1:Hid (Row w1 (w.heap.size + 1) #[.slice la n lc,.int .i64 e0]):=HL.out.ag ha1 (by omega)
  have HG1:Hid (Grow w1 (w.heap.size + 2) 332 4 (.slice la n lc) n t vs):=HG.out.ag ha1 (by omega)
  have hz1:w.heap.size + 1 < w1.heap.size:=by have:=ha1.size;omega
  have hbl:=bl_ge rs q
  have hbl2:=hs1.pts.2.2
  clear kb HS HA HR HL HG hs1 ha1
  obtain ⟨a1,c1,q1,f1⟩:=HS1.out.rows
  have ql1:=HL1.out.2.1
  have fl1:=HL1.out.2.2
  have HS2:Hid (Scn P (w1.setCell ⟨w.heap.size + 1,1,none⟩ (.int .i64 (bl rs q:Nat))) rs (bl rs q)):=HS1.out.set (by omega) _
  have HA2:Hid (Ag P w (w1.setCell ⟨w.heap.size + 1,1,none⟩ (.int .i64 (bl rs q:Nat)))):=HA1.out.setNew (by omega) 1 _
  have HR2:Hid (Row (w1.setCell ⟨w.heap.size + 1,1,none⟩ (.int .i64 (bl rs q:Nat))) w.heap.size #[.slice none 0 0,.int .i64 0]):=HR1.out.setO (by omega) _
  have HL2:Hid (Row (w1.setCell ⟨w.heap.size + 1,1,none⟩ (.int .i64 (bl rs q:Nat))) (w.heap.size + 1) #[.slice la n lc,.int .i64 (bl rs q:Nat)]):=HL1.out.setC 1 _ (by simp)
  have HG2:Hid (Grow (w1.setCell ⟨w.heap.size + 1,1,none⟩ (.int .i64 (bl rs q:Nat))) (w.heap.size + 2) 332 4 (.slice la n lc) n t vs):=HG1.out.set (by omega) _
  have hz2:w.heap.size + 1 < (w1.setCell ⟨w.heap.size + 1,1,none⟩ (.int .i64 (bl rs q:Nat))).heap.size:=by simpa using hz1
  by_cases hn0:n = 0
  ·have HFI:Hid (decide (n = 0) = true ∨ rs[bl rs q]? ≠ some [125]):=.inl (decide_eq_true hn0)
   have hn':(n:Int) = 0:=by omega
   have hn'':((0:Int) < n) = False:=eq_false (by omega)
   clear HS1 HA1 HR1 HL1 HG1
   subst hn0
   have kbr:=pbranch_any d hd hM P (w1.setCell ⟨w.heap.size + 1,1,none⟩ (.int .i64 (bl rs q:Nat))) rs (bl rs q) num _ HS2.out (HV.out.later HA2.out)
   go_wp2_with fail
   clear ql1 fl1 q1 f1
   generalize w1.setCell ⟨w.heap.size + 1,1,none⟩ (.int .i64 (bl rs q:Nat)) = w3 at *
   have HS3:Hid (Scn P w3 rs (bl rs q)):=HS2
   have HA3:Hid (Ag P w w3):=HA2
   have HR3:Hid (Row w3 w.heap.size #[.slice none 0 0,.int .i64 0]):=HR2
   have HL3:Hid (Row w3 (w.heap.size + 1) #[.slice la 0 lc,.int .i64 (bl rs q:Nat)]):=HL2
   have HG3:Hid (Grow w3 (w.heap.size + 2) 332 4 (.slice la 0 lc) 0 t vs):=HG2
   have hz3:w.heap.size + 1 < w3.heap.size:=hz2
   have HOB:Hid (∀ g,(Value.slice la 0 lc).ownBlock = some g → g < w3.heap.size):=fun g e=>(World.ownsRow.lt HG3.out.own g e).2
   refine kbr.mono ?_
   rintro e w4 ⟨ha4,hbr⟩
   have HA4:Hid (Ag P w w4):=HA3.out.trans ha4
   have HR4:Hid (Row w4 w.heap.size #[.slice none 0 0,.int .i64 0]):=HR3.out.ag ha4 (by omega)
   have HL4:Hid (Row w4 (w.heap.size + 1) #[.slice la 0 lc,.int .i64 (bl rs q:Nat)]):=HL3.out.ag ha4 (by omega)
   have HG4:Hid (Grow w4 (w.heap.size + 2) 332 4 (.slice la 0 lc) 0 t vs):=HG3.out.ag ha4 (by omega)
   have hz4:=ha4.size
   have hzw:w.heap.size < w4.heap.size:=by omega
   have hzw2:w.heap.size + 1 < w4.heap.size:=by omega
   clear kbr HA3 HR3 HL3 HG3 HS3 ha4
   rcases hbr with ⟨er,a,⟨s0,k0,z0,ad0,n0,cc0⟩,v,hrd,rfl,hv⟩ | ⟨tk,m,j,v,hrd,hpj,rfl,hrow,hs4⟩
   ·have HN:Hid (Rd rs (.brs d num true) p (.bad er a)):=HB.out.more _ (hrd q _ rfl HFI.out)
    have HVV:Hid (Flt (w.heap.size + 2) w4 v er a):=hv.mono (by omega)
    obtain ⟨b,rfl,_⟩:=hv
    have q4:=HR4.out.2.1
    have f4:=HR4.out.2.2
    clear hrd
    go_wp2
    refine bodyPost_ret (v:=.tuple #[.agg #[.slice none 0 0,.int .i64 0],.iface 113 (.pointer (some ⟨b,0,none⟩))]) (by simp [results,Tryz.results261,go_sem,q4,World.cell?_alloc_lt,hzw]) rfl ?_
    exact ⟨((HA4.out.setNew (Nat.le_refl _) 0 _).setNew (Nat.le_refl _) 1 _).then (allocB _ _),_,HN.out,_,_,rfl,(((HVV.out.set (by omega) _).set (by omega) _).keep (allocB _ _)).mono (by omega),rfl⟩
   ·have HRD:Hid (∀ res,Rd rs (.brs d num false) (j + 1) res → Rd rs (.brs d num (decide (0 = 0))) q (res.pre (.br tk (bl rs q) m .nil))):=fun res hr=>hrd q _ res rfl HFI.out hr
    have HS4:Hid (Scn P w4 rs (j + 1)):=hs4
    have hjl:=hs4.pts.2.2
    have HROW:Hid (RowAt w4 (fun g=>w3.heap.size < g) 1 v m):=hrow
    obtain ⟨va,vn,vc,rfl⟩:∃ va vn vc,v = .slice va vn vc:=by
     obtain ⟨us,h1,_⟩:=hrow
     rcases h1 with ⟨_,h1⟩ | ⟨g,n,c,h1,_⟩
     ·exact ⟨_,_,_,h1⟩
     ·exact ⟨_,_,_,h1⟩
    have q4:=HR4.out.2.1
    have f4:=HR4.out.2.2
    have ql4:=HL4.out.2.1
    have fl4:=HL4.out.2.2
    obtain ⟨F,hF⟩:∃ F,Hid ((selV tk).1 = F):=⟨_,rfl⟩
    obtain ⟨V,hV⟩:∃ V,Hid ((selV tk).2 = V):=⟨_,rfl⟩
    rw [hF.out,hV.out]
    have HG6:Hid (Grow ((w4.alloc (.cells #[.string ⟨F.toArray⟩,.int .u32 V,.int .i64 (bl rs q:Nat),.slice va vn vc] 332)).alloc (.cells #[.string ⟨F.toArray⟩,.int .u32 V,.int .i64 (bl rs q:Nat),.slice va vn vc] 332)) (w.heap.size + 2) 332 4 (.slice la 0 lc) 0 t vs):=(HG4.out.alloc _).alloc _
    have HY:Hid (Lay ((w4.alloc (.cells #[.string ⟨F.toArray⟩,.int .u32 V,.int .i64 (bl rs q:Nat),.slice va vn vc] 332)).alloc (.cells #[.string ⟨F.toArray⟩,.int .u32 V,.int .i64 (bl rs q:Nat),.slice va vn vc] 332)) (fun g=>w.heap.size + 2 ≤ g ∧ (Value.slice la 0 lc).ownBlock ≠ some g) (.br tk (bl rs q) m .nil) [.string ⟨F.toArray⟩,.int .u32 V,.int .i64 (bl rs q:Nat),.slice va vn vc]):=by
     obtain ⟨us,h1,h2⟩:=hrow
     have hS:∀ g,w3.heap.size < g → g < w4.heap.size → ((w4.alloc (.cells #[.string ⟨F.toArray⟩,.int .u32 V,.int .i64 (bl rs q:Nat),.slice va vn vc] 332)).alloc (.cells #[.string ⟨F.toArray⟩,.int .u32 V,.int .i64 (bl rs q:Nat),.slice va vn vc] 332)).heap[g]? = w4.heap[g]? ∧ (w.heap.size + 2 ≤ g ∧ (Value.slice la 0 lc).ownBlock ≠ some g):=fun g hg hl=>⟨((allocB w4 _).alloc (by simp) _).block g hl,by omega,fun e=>by have:=HOB.out g e;omega⟩
     have:=Lay.br (t:=tk) (a:=bl rs q) (r:=.nil) (vs:=[]) (h1.mono (by simp;omega) hS) (h2.mono (by simp;omega) hS) .nil
     rw [hF.out,hV.out] at this
     exact this
    obtain ⟨i0,hi0,hz0,hz1',hz2'⟩:=info_parts info_branch
    have HI:Hid (Tryz.prog.info? 332 = some i0 ∧ i0.zero = some (.agg #[.string ⟨#[]⟩,.int .u32 0,.int .i64 0,.slice none 0 0]) ∧ i0.size = 4 ∧ i0.bytes = 56):=⟨hi0,hz0,hz1',hz2'⟩
    clear hrd hrow hs4 hi0 hz0 hz1' hz2'
    go_wp2_with (at_builtin;refine wpList_append_own_at _ rfl _ _ 292 rfl (w.heap.size + 2) 332 i0 (.agg #[.string ⟨#[]⟩,.int .u32 0,.int .i64 0,.slice none 0 0]) 4 56 Tryz.underlying292 HI.out.1 HI.out.2.1 HI.out.2.2.1 HI.out.2.2.2 rfl (by decide) (.slice la 0 lc) 0 vs rfl HG6.out.own ⟨w4.heap.size + 1,0,none⟩ 1 1 [.string ⟨F.toArray⟩,.int .u32 V,.int .i64 (bl rs q:Nat),.slice va vn vc] rfl rfl ?c1 ?c2 ?c3 ?c4 ?c5 ?_)
    case c1=>exact cells_new (w4.alloc _) _ [.string ⟨F.toArray⟩,.int .u32 V,.int .i64 (bl rs q:Nat),.slice va vn vc] 332 (by simp)
    case c2=>intro u hu;simp only [List.mem_cons,List.not_mem_nil,or_false] at hu;rcases hu with rfl | rfl | rfl | rfl <;> rfl
    case c3=>unfold maxLen;omega
    case c4=>omega
    case c5=>simp;omega
    intro v8 w8 hown8 hgrow8 _ hat8
    have hg8:=HG6.out.put HY.out hown8 hgrow8 (by simpa using hat8)
    have hob:∀ g,(Value.slice la 0 lc).ownBlock = some g → w.heap.size + 2 ≤ g:=fun g e=>(World.ownsRow.lt HG6.out.own g e).1
    have HL8:=((HL4.out.alloc (.cells #[.string ⟨F.toArray⟩,.int .u32 V,.int .i64 (bl rs q:Nat),.slice va vn vc] 332)).alloc (.cells #[.string ⟨F.toArray⟩,.int .u32 V,.int .i64 (bl rs q:Nat),.slice va vn vc] 332)).grown hgrow8 (fun e=>by have:=hob _ e;omega)
    have HR8:=((HR4.out.alloc (.cells #[.string ⟨F.toArray⟩,.int .u32 V,.int .i64 (bl rs q:Nat),.slice va vn vc] 332)).alloc (.cells #[.string ⟨F.toArray⟩,.int .u32 V,.int .i64 (bl rs q:Nat),.slice va vn vc] 332)).grown hgrow8 (fun e=>by have:=hob _ e;omega)
    have HS8:=((HS4.out.then (allocB w4 (.cells #[.string ⟨F.toArray⟩,.int .u32 V,.int .i64 (bl rs q:Nat),.slice va vn vc] 332))).then (allocB _ (.cells #[.string ⟨F.toArray⟩,.int .u32 V,.int .i64 (bl rs q:Nat),.slice va vn vc] 332))).grown hgrow8 (fun g e=>by have:=hob _ e;omega)
    have HA8:=((HA4.out.then (allocB w4 (.cells #[.string ⟨F.toArray⟩,.int .u32 V,.int .i64 (bl rs q:Nat),.slice va vn vc] 332))).then (allocB _ (.cells #[.string ⟨F.toArray⟩,.int .u32 V,.int .i64 (bl rs q:Nat),.slice va vn vc] 332))).grown hgrow8 (fun g e=>by have:=hob _ e;omega)
    have hz8:w.heap.size + 1 < w8.heap.size:=by have:=hgrow8.size;simp at this;omega
    obtain ⟨va8,vc8,rfl⟩:=hg8.form
    have ql8:=HL8.2.1
    have fl8:=HL8.2.2
    have HS9:=HS8.set (g:=w.heap.size + 1) (j:=0) (by omega) (.slice va8 (0 + 1) vc8)
    have hpos9:=HS9.pos
    have HS9:Hid (Scn P (w8.setCell ⟨w.heap.size + 1,0,none⟩ (.slice va8 (0 + 1) vc8)) rs (j + 1)):=HS9
    have HA9:Hid (Ag P w (w8.setCell ⟨w.heap.size + 1,0,none⟩ (.slice va8 (0 + 1) vc8))):=HA8.setNew (by omega) 0 _
    have HR9:Hid (Row (w8.setCell ⟨w.heap.size + 1,0,none⟩ (.slice va8 (0 + 1) vc8)) w.heap.size #[.slice none 0 0,.int .i64 0]):=HR8.setO (by omega) _
    have HL9:Hid (Row (w8.setCell ⟨w.heap.size + 1,0,none⟩ (.slice va8 (0 + 1) vc8)) (w.heap.size + 1) #[.slice va8 (0 + 1) vc8,.int .i64 (bl rs q:Nat)]):=HL8.setC 0 _ (by simp)
    have HG9:Hid (Grow (w8.setCell ⟨w.heap.size + 1,0,none⟩ (.slice va8 (0 + 1) vc8)) (w.heap.size + 2) 332 4 (.slice va8 (0 + 1) vc8) (0 + 1) (t.app (.br tk (bl rs q) m .nil)) (vs ++ [.string ⟨F.toArray⟩,.int .u32 V,.int .i64 (bl rs q:Nat),.slice va vn vc])):=hg8.set (by omega) _
    have HB9:Hid (Bs rs d num p (j + 1) (0 + 1) (t.app (.br tk (bl rs q) m .nil))):=⟨fun res hr=>by
     have h1:=HB.out.more _ (HRD.out res (by simpa using hr))
     rw [Res.pre_pre] at h1
     exact h1,by omega,by have:=HB.out.ahead;omega⟩
    clear HL8 HR8 HS8 HA8 hg8 hown8 hgrow8 hat8 HG6 HY HG4 HL4 HR4 HA4 HS4 HROW q4 f4 ql4 fl4 hob
    go_wp2
    exact ⟨⟨j + 1,0 + 1,_,_,.slice va8 (0 + 1) vc8,_,HB9,HS9,HA9,HR9,HL9,HG9,by simpa using hz8⟩,by rw [hpos9,hpos];omega⟩
  ·have hn':(0:Int) < n:=by omega
   have kt:=ptake_any P (w1.setCell ⟨w.heap.size + 1,1,none⟩ (.int .i64 (bl rs q:Nat))) rs (bl rs q) 125 (by decide) HS2.out
   clear HS1 HA1 HR1 HL1 HG1
   by_cases hc:rs[bl rs q]? = some [125]
   ·have HN:Hid (Rd rs (.brs d num true) p (.okB t (bl rs q) (bl rs q + 1))):=by
     have:=HB.out.more _ (by rw [decide_eq_false hn0];exact .brsEnd hc)
     rw [show (Res.okB .nil (bl rs q) (bl rs q + 1)).pre t = .okB t (bl rs q) (bl rs q + 1) from by show Res.okB (t.app .nil) _ _ = _;rw [Tr.app_nil]] at this
     exact this
    rw [decide_eq_true hc,if_pos hc] at kt
    clear hc
    go_wp2_with fail
    refine kt.mono ?_
    rintro e w3 ⟨rfl,hs3,ha3⟩
    have HR3:=HR2.out.ag ha3 (by omega)
    have HL3:=HL2.out.ag ha3 (by omega)
    have HG3:=HG2.out.ag ha3 (by omega)
    have q3:=HR3.2.1
    have f3:=HR3.2.2
    have ql3:=HL3.2.1
    go_wp2
    refine bodyPost_ret (v:=.tuple #[.agg #[.slice la n lc,.int .i64 (bl rs q:Nat)],.nilIface]) (by simp [results,Tryz.results261,go_sem,q3]) rfl ?_
    have hbb:=HB.out.ahead
    refine ⟨((HA2.out.trans ha3).setNew (Nat.le_refl _) 0 _).setNew (Nat.le_refl _) 1 _,_,HN.out,.slice la n lc,rfl,(hs3.set hPl _).set hPl _,by omega,?_⟩
    exact ((((HG3.set (g:=w.heap.size) (by omega) _).set (g:=w.heap.size) (by omega) _)).row (by omega)).wide (fun g hg=>by omega)
   ·have HFI:Hid (decide (n = 0) = true ∨ rs[bl rs q]? ≠ some [125]):=.inr hc
    rw [decide_eq_false hc,if_neg hc] at kt
    clear hc
    go_wp2_with fail
    refine kt.mono ?_
    rintro e w3 ⟨rfl,hs3,ha3⟩
    have HS3:Hid (Scn P w3 rs (bl rs q)):=hs3
    have HA3:Hid (Ag P w w3):=HA2.out.trans ha3
    have HR3:Hid (Row w3 w.heap.size #[.slice none 0 0,.int .i64 0]):=HR2.out.ag ha3 (by omega)
    have HL3:Hid (Row w3 (w.heap.size + 1) #[.slice la n lc,.int .i64 (bl rs q:Nat)]):=HL2.out.ag ha3 (by omega)
    have HG3:Hid (Grow w3 (w.heap.size + 2) 332 4 (.slice la n lc) n t vs):=HG2.out.ag ha3 (by omega)
    have hz3:w.heap.size + 1 < w3.heap.size:=by have:=ha3.size;omega
    clear kt HS2 HA2 HR2 HL2 HG2 hs3 ha3 ql1 fl1 q1 f1
    have kbr:=pbranch_any d hd hM P w3 rs (bl rs q) num _ HS3.out (HV.out.later HA3.out)
    go_wp2_with fail
    have HOB:Hid (∀ g,(Value.slice la n lc).ownBlock = some g → g < w3.heap.size):=fun g e=>(World.ownsRow.lt HG3.out.own g e).2
    refine kbr.mono ?_
    rintro e w4 ⟨ha4,hbr⟩
    have HA4:Hid (Ag P w w4):=HA3.out.trans ha4
    have HR4:Hid (Row w4 w.heap.size #[.slice none 0 0,.int .i64 0]):=HR3.out.ag ha4 (by omega)
    have HL4:Hid (Row w4 (w.heap.size + 1) #[.slice la n lc,.int .i64 (bl rs q:Nat)]):=HL3.out.ag ha4 (by omega)
    have HG4:Hid (Grow w4 (w.heap.size + 2) 332 4 (.slice la n lc) n t vs):=HG3.out.ag ha4 (by omega)
    have hz4:=ha4.size
    have hzw:w.heap.size < w4.heap.size:=by omega
    have hzw2:w.heap.size + 1 < w4.heap.size:=by omega
    clear kbr HA3 HR3 HL3 HG3 HS3 ha4
    rcases hbr with ⟨er,a,⟨s0,k0,z0,ad0,n0,cc0⟩,v,hrd,rfl,hv⟩ | ⟨tk,m,j,v,hrd,hpj,rfl,hrow,hs4⟩
    ·have HN:Hid (Rd rs (.brs d num true) p (.bad er a)):=HB.out.more _ (hrd q _ rfl HFI.out)
     have HVV:Hid (Flt (w.heap.size + 2) w4 v er a):=hv.mono (by omega)
     obtain ⟨b,rfl,_⟩:=hv
     have q4:=HR4.out.2.1
     have f4:=HR4.out.2.2
     clear hrd
     go_wp2
     refine bodyPost_ret (v:=.tuple #[.agg #[.slice none 0 0,.int .i64 0],.iface 113 (.pointer (some ⟨b,0,none⟩))]) (by simp [results,Tryz.results261,go_sem,q4,World.cell?_alloc_lt,hzw]) rfl ?_
     exact ⟨((HA4.out.setNew (Nat.le_refl _) 0 _).setNew (Nat.le_refl _) 1 _).then (allocB _ _),_,HN.out,_,_,rfl,(((HVV.out.set (by omega) _).set (by omega) _).keep (allocB _ _)).mono (by omega),rfl⟩
    ·have HRD:Hid (∀ res,Rd rs (.brs d num false) (j + 1) res → Rd rs (.brs d num (decide (n = 0))) q (res.pre (.br tk (bl rs q) m .nil))):=fun res hr=>hrd q _ res rfl HFI.out hr
     have HS4:Hid (Scn P w4 rs (j + 1)):=hs4
     have hjl:=hs4.pts.2.2
     have HROW:Hid (RowAt w4 (fun g=>w3.heap.size < g) 1 v m):=hrow
     obtain ⟨va,vn,vc,rfl⟩:∃ va vn vc,v = .slice va vn vc:=by
      obtain ⟨us,h1,_⟩:=hrow
      rcases h1 with ⟨_,h1⟩ | ⟨g,n,c,h1,_⟩
      ·exact ⟨_,_,_,h1⟩
      ·exact ⟨_,_,_,h1⟩
     have q4:=HR4.out.2.1
     have f4:=HR4.out.2.2
     have ql4:=HL4.out.2.1
     have fl4:=HL4.out.2.2
     obtain ⟨F,hF⟩:∃ F,Hid ((selV tk).1 = F):=⟨_,rfl⟩
     obtain ⟨V,hV⟩:∃ V,Hid ((selV tk).2 = V):=⟨_,rfl⟩
     rw [hF.out,hV.out]
     have HG6:Hid (Grow ((w4.alloc (.cells #[.string ⟨F.toArray⟩,.int .u32 V,.int .i64 (bl rs q:Nat),.slice va vn vc] 332)).alloc (.cells #[.string ⟨F.toArray⟩,.int .u32 V,.int .i64 (bl rs q:Nat),.slice va vn vc] 332)) (w.heap.size + 2) 332 4 (.slice la n lc) n t vs):=(HG4.out.alloc _).alloc _
     have HY:Hid (Lay ((w4.alloc (.cells #[.string ⟨F.toArray⟩,.int .u32 V,.int .i64 (bl rs q:Nat),.slice va vn vc] 332)).alloc (.cells #[.string ⟨F.toArray⟩,.int .u32 V,.int .i64 (bl rs q:Nat),.slice va vn vc] 332)) (fun g=>w.heap.size + 2 ≤ g ∧ (Value.slice la n lc).ownBlock ≠ some g) (.br tk (bl rs q) m .nil) [.string ⟨F.toArray⟩,.int .u32 V,.int .i64 (bl rs q:Nat),.slice va vn vc]):=by
      obtain ⟨us,h1,h2⟩:=hrow
      have hS:∀ g,w3.heap.size < g → g < w4.heap.size → ((w4.alloc (.cells #[.string ⟨F.toArray⟩,.int .u32 V,.int .i64 (bl rs q:Nat),.slice va vn vc] 332)).alloc (.cells #[.string ⟨F.toArray⟩,.int .u32 V,.int .i64 (bl rs q:Nat),.slice va vn vc] 332)).heap[g]? = w4.heap[g]? ∧ (w.heap.size + 2 ≤ g ∧ (Value.slice la n lc).ownBlock ≠ some g):=fun g hg hl=>⟨((allocB w4 _).alloc (by simp) _).block g hl,by omega,fun e=>by have:=HOB.out g e;omega⟩
      have:=Lay.br (t:=tk) (a:=bl rs q) (r:=.nil) (vs:=[]) (h1.mono (by simp;omega) hS) (h2.mono (by simp;omega) hS) .nil
      rw [hF.out,hV.out] at this
      exact this
     obtain ⟨i0,hi0,hz0,hz1',hz2'⟩:=info_parts info_branch
     have HI:Hid (Tryz.prog.info? 332 = some i0 ∧ i0.zero = some (.agg #[.string ⟨#[]⟩,.int .u32 0,.int .i64 0,.slice none 0 0]) ∧ i0.size = 4 ∧ i0.bytes = 56):=⟨hi0,hz0,hz1',hz2'⟩
     clear hrd hrow hs4 hi0 hz0 hz1' hz2'
     go_wp2_with (at_builtin;refine wpList_append_own_at _ rfl _ _ 292 rfl (w.heap.size + 2) 332 i0 (.agg #[.string ⟨#[]⟩,.int .u32 0,.int .i64 0,.slice none 0 0]) 4 56 Tryz.underlying292 HI.out.1 HI.out.2.1 HI.out.2.2.1 HI.out.2.2.2 rfl (by decide) (.slice la n lc) n vs rfl HG6.out.own ⟨w4.heap.size + 1,0,none⟩ 1 1 [.string ⟨F.toArray⟩,.int .u32 V,.int .i64 (bl rs q:Nat),.slice va vn vc] rfl rfl ?c1 ?c2 ?c3 ?c4 ?c5 ?_)
     case c1=>exact cells_new (w4.alloc _) _ [.string ⟨F.toArray⟩,.int .u32 V,.int .i64 (bl rs q:Nat),.slice va vn vc] 332 (by simp)
     case c2=>intro u hu;simp only [List.mem_cons,List.not_mem_nil,or_false] at hu;rcases hu with rfl | rfl | rfl | rfl <;> rfl
     case c3=>unfold maxLen;omega
     case c4=>omega
     case c5=>simp;omega
     intro v8 w8 hown8 hgrow8 _ hat8
     have hg8:=HG6.out.put HY.out hown8 hgrow8 (by simpa using hat8)
     have hob:∀ g,(Value.slice la n lc).ownBlock = some g → w.heap.size + 2 ≤ g:=fun g e=>(World.ownsRow.lt HG6.out.own g e).1
     have HL8:=((HL4.out.alloc (.cells #[.string ⟨F.toArray⟩,.int .u32 V,.int .i64 (bl rs q:Nat),.slice va vn vc] 332)).alloc (.cells #[.string ⟨F.toArray⟩,.int .u32 V,.int .i64 (bl rs q:Nat),.slice va vn vc] 332)).grown hgrow8 (fun e=>by have:=hob _ e;omega)
     have HR8:=((HR4.out.alloc (.cells #[.string ⟨F.toArray⟩,.int .u32 V,.int .i64 (bl rs q:Nat),.slice va vn vc] 332)).alloc (.cells #[.string ⟨F.toArray⟩,.int .u32 V,.int .i64 (bl rs q:Nat),.slice va vn vc] 332)).grown hgrow8 (fun e=>by have:=hob _ e;omega)
     have HS8:=((HS4.out.then (allocB w4 (.cells #[.string ⟨F.toArray⟩,.int .u32 V,.int .i64 (bl rs q:Nat),.slice va vn vc] 332))).then (allocB _ (.cells #[.string ⟨F.toArray⟩,.int .u32 V,.int .i64 (bl rs q:Nat),.slice va vn vc] 332))).grown hgrow8 (fun g e=>by have:=hob _ e;omega)
     have HA8:=((HA4.out.then (allocB w4 (.cells #[.string ⟨F.toArray⟩,.int .u32 V,.int .i64 (bl rs q:Nat),.slice va vn vc] 332))).then (allocB _ (.cells #[.string ⟨F.toArray⟩,.int .u32 V,.int .i64 (bl rs q:Nat),.slice va vn vc] 332))).grown hgrow8 (fun g e=>by have:=hob _ e;omega)
     have hz8:w.heap.size + 1 < w8.heap.size:=by have:=hgrow8.size;simp at this;omega
     obtain ⟨va8,vc8,rfl⟩:=hg8.form
     have ql8:=HL8.2.1
     have fl8:=HL8.2.2
     have HS9:=HS8.set (g:=w.heap.size + 1) (j:=0) (by omega) (.slice va8 (n + 1) vc8)
     have hpos9:=HS9.pos
     have HS9:Hid (Scn P (w8.setCell ⟨w.heap.size + 1,0,none⟩ (.slice va8 (n + 1) vc8)) rs (j + 1)):=HS9
     have HA9:Hid (Ag P w (w8.setCell ⟨w.heap.size + 1,0,none⟩ (.slice va8 (n + 1) vc8))):=HA8.setNew (by omega) 0 _
     have HR9:Hid (Row (w8.setCell ⟨w.heap.size + 1,0,none⟩ (.slice va8 (n + 1) vc8)) w.heap.size #[.slice none 0 0,.int .i64 0]):=HR8.setO (by omega) _
     have HL9:Hid (Row (w8.setCell ⟨w.heap.size + 1,0,none⟩ (.slice va8 (n + 1) vc8)) (w.heap.size + 1) #[.slice va8 (n + 1) vc8,.int .i64 (bl rs q:Nat)]):=HL8.setC 0 _ (by simp)
     have HG9:Hid (Grow (w8.setCell ⟨w.heap.size + 1,0,none⟩ (.slice va8 (n + 1) vc8)) (w.heap.size + 2) 332 4 (.slice va8 (n + 1) vc8) (n + 1) (t.app (.br tk (bl rs q) m .nil)) (vs ++ [.string ⟨F.toArray⟩,.int .u32 V,.int .i64 (bl rs q:Nat),.slice va vn vc])):=hg8.set (by omega) _
     have HB9:Hid (Bs rs d num p (j + 1) (n + 1) (t.app (.br tk (bl rs q) m .nil))):=⟨fun res hr=>by
      have h1:=HB.out.more _ (HRD.out res (by simpa using hr))
      rw [Res.pre_pre] at h1
      exact h1,by omega,by have:=HB.out.ahead;omega⟩
     clear HL8 HR8 HS8 HA8 hg8 hown8 hgrow8 hat8 HG6 HY HG4 HL4 HR4 HA4 HS4 HROW q4 f4 ql4 fl4 hob
     go_wp2
     exact ⟨⟨j + 1,n + 1,_,_,.slice va8 (n + 1) vc8,_,HB9,HS9,HA9,HR9,HL9,HG9,by simpa using hz8⟩,by rw [hpos9,hpos];omega⟩
end Go.Proofs.YtaepcfidpekflaaGreatDoor
namespace Go.Proofs.YtaepcfidpekflaaGreatDoor
open Go.RowKit Pg
theorem enters_byName:Enters 260:=enters_of Tryz.func260 (by kernel_rfl) rfl
theorem enters_numeral:Enters 263:=enters_of Tryz.func263 (by kernel_rfl) rfl
def Node (P:Nat) (rs:List Pg.T) (d:Nat) (num:Bool) (p:Nat) (mk:Value → Nat → Value) (w:World) (e:Ending) (w':World):Prop:=∃ res,Rd rs (.brs d num true) p res ∧ match res with
 | .okB t b q=>∃ v,e = .returned (.tuple #[mk v b,.nilIface]) ∧ Scn P w' rs q ∧ p < q ∧ RowAt w' (fun g=>w.heap.size ≤ g) 4 v t
 | .bad er a=>∃ u v,e = .returned (.tuple #[u,v]) ∧ Flt w.heap.size w' v er a
 | .ok _ _=>False
def selN (n:Pg.T) (a:Nat) (v:Value) (b:Nat):Value:=.iface 296 (.agg #[.string ⟨n.toArray⟩,.int .i64 (a:Nat),v,.int .i64 (b:Nat)])
def pluN (n:Pg.T) (a:Nat) (ord:Bool) (off:Nat) (v:Value) (b:Nat):Value:=.iface 299 (.agg #[.string ⟨n.toArray⟩,.int .i64 (a:Nat),.bool ord,.int .u32 (off:Nat),v,.int .i64 (b:Nat)])
def SelSaidN (P:Nat) (rs:List Pg.T) (d p:Nat) (n:Pg.T) (a:Nat) (w:World) (e:Ending) (w':World):Prop:=Ag P w w' ∧
 ((rs[bl rs p]? ≠ some [44] ∧ ∃ u v,e = .returned (.tuple #[u,v]) ∧ Flt w.heap.size w' v 3 (bl rs p)) ∨ (rs[bl rs p]? = some [44] ∧ Node P rs d false (bl rs (bl rs p + 1)) (selN n a) w e w'))
set_option maxHeartbeats 6400000 in
theorem pselectOf_any (d:Nat) (hd:d ≤ 6) (hM:d < 6 → MsgOk (d + 1)) (P:Nat) (w:World) (rs:List Pg.T) (p:Nat) (n:Pg.T) (a:Nat) (h:Scn P w rs p):
  Calls Tryz.prog 242 #[.pointer (some ⟨P,0,none⟩),.agg #[.string ⟨n.toArray⟩,.int .i64 a],.int .i64 d] w fun e w'=>SelSaidN P rs d p n a w e w':=by
 have hPl:=h.lt
 have hb0:Below w.heap.size w ((w.alloc (.cells #[.pointer (some ⟨P,0,none⟩)] 274)).alloc (.cells #[.string ⟨n.toArray⟩,.int .i64 a] 189)):=(allocB _ _).alloc (by simp) _
 have rs0:Row ((w.alloc (.cells #[.pointer (some ⟨P,0,none⟩)] 274)).alloc (.cells #[.string ⟨n.toArray⟩,.int .i64 a] 189)) w.heap.size #[.pointer (some ⟨P,0,none⟩)]:=(row_at w _ _).alloc _
 have ro0:Row ((w.alloc (.cells #[.pointer (some ⟨P,0,none⟩)] 274)).alloc (.cells #[.string ⟨n.toArray⟩,.int .i64 a] 189)) (w.heap.size + 1) #[.string ⟨n.toArray⟩,.int .i64 a]:=by
  have:=row_at (w.alloc (.cells #[.pointer (some ⟨P,0,none⟩)] 274)) #[.string ⟨n.toArray⟩,.int .i64 a] 189
  rw [World.size_alloc] at this
  exact this
 have kc:=pcomma_any P _ rs p (h.then hb0)
 have hz0:((w.alloc (.cells #[.pointer (some ⟨P,0,none⟩)] 274)).alloc (.cells #[.string ⟨n.toArray⟩,.int .i64 a] 189)).heap.size = w.heap.size + 2:=by simp
 clear h
 go_enter Tryz.func242,Tryz.ntmps242
 go_wp2_with fail
 refine kc.mono ?_
 rintro e w1 ⟨ha,hn⟩
 have HRS:Hid (Row w1 w.heap.size #[.pointer (some ⟨P,0,none⟩)]):=rs0.ag ha (by omega)
 have HRO:Hid (Row w1 (w.heap.size + 1) #[.string ⟨n.toArray⟩,.int .i64 a]):=ro0.ag ha (by omega)
 have HA1:Hid (Ag P w w1):=(Ag.of hb0 (Nat.le_refl _)).trans ha
 have hz1:w.heap.size + 2 ≤ w1.heap.size:=by have:=ha.size;omega
 rw [hz0] at hn
 clear kc rs0 ro0 hb0 hz0 ha
 rcases hn with ⟨hc,rfl,hs1⟩ | ⟨hc,v,rfl,hv⟩
 ·have HC:Hid (rs[bl rs p]? = some [44]):=hc
  have hsl:Slv P rs false w1 (.func (.func 260) #[] #[.pointer (some ⟨w.heap.size,0,none⟩)]):=⟨_,_,_,rfl,enters_byName,fun W q hA hs=>by
   have:=pbyName_any P w.heap.size W rs q hs ((HRS.out.ag hA (by omega)).2.1 0)
   simpa using this⟩
  have kb:=pbranches_any d hd hM P w1 rs (bl rs (bl rs p + 1)) false _ hs1 hsl
  have qs:=HRS.out.2.1
  have qo:=HRO.out.2.1
  clear hc hs1 hsl
  go_wp2_with fail
  refine kb.mono ?_
  rintro e w2 ⟨ha2,res,hrd,hm⟩
  have HRO2:Hid (Row w2 (w.heap.size + 1) #[.string ⟨n.toArray⟩,.int .i64 a]):=HRO.out.ag ha2 (by omega)
  have HA2:Hid (Ag P w w2):=HA1.out.trans ha2
  have HRD:Hid (Rd rs (.brs d false true) (bl rs (bl rs p + 1)) res):=hrd
  have hz2:w1.heap.size ≤ w2.heap.size:=ha2.size
  have hzz:w.heap.size + 1 < w2.heap.size:=by omega
  have q2:=HRO2.out.2.1
  clear kb qs qo hrd HRS HRO
  cases res with
  | ok t q=>obtain ⟨v,_,_,hx⟩:=hm;exact hx.elim
  | bad er x=>
   obtain ⟨u,v,rfl,hv,hu⟩:=hm
   simp only at hu
   subst hu
   have HV:Hid (Flt w1.heap.size w2 v er x):=hv
   clear hv
   go_wp2
   go_ret2
   exact ⟨HA2.out.then (allocB _ _),.inr ⟨HC.out,_,HRD.out,_,_,rfl,(HV.out.keep (allocB _ _)).mono (by omega)⟩⟩
  | okB t b q=>
   obtain ⟨v,rfl,hs,hlt,hrow⟩:=hm
   have HROW:Hid (RowAt w2 (fun g=>w1.heap.size ≤ g) 4 v t):=hrow
   have HS:Hid (Scn P w2 rs q):=hs
   obtain ⟨va,vn,vc,rfl⟩:∃ va vn vc,v = .slice va vn vc:=by
    obtain ⟨us,h1,_⟩:=hrow
    rcases h1 with ⟨_,h1⟩ | ⟨g,n,c,h1,_⟩
    ·exact ⟨_,_,_,h1⟩
    ·exact ⟨_,_,_,h1⟩
   clear hrow hs
   go_wp2
   go_ret2
   exact ⟨HA2.out.then (allocB _ _),.inr ⟨HC.out,_,HRD.out,_,rfl,HS.out.then (allocB _ _),hlt,(HROW.out.keep (allocB _ _)).wide (fun g hg=>by omega)⟩⟩
 ·have HC:Hid (rs[bl rs p]? ≠ some [44]):=hc
  have HV:Hid (Flt (w.heap.size + 2) w1 v 3 (bl rs p)):=hv
  obtain ⟨b,rfl,_⟩:=hv
  clear hc
  go_wp2
  go_ret2
  exact ⟨HA1.out,.inl ⟨HC.out,_,_,rfl,HV.out.mono (by omega)⟩⟩
def PluSaidN (P:Nat) (rs:List Pg.T) (d p:Nat) (n:Pg.T) (a:Nat) (ord:Bool) (w:World) (e:Ending) (w':World):Prop:=Ag P w w' ∧
 ((rs[bl rs p]? ≠ some [44] ∧ ∃ u v,e = .returned (.tuple #[u,v]) ∧ Flt w.heap.size w' v 3 (bl rs p)) ∨ (rs[bl rs p]? = some [44] ∧
  ((∃ x u v,offR rs (bl rs (bl rs p + 1)) = .inl x ∧ e = .returned (.tuple #[u,v]) ∧ Flt w.heap.size w' v 3 x) ∨
  (∃ off i,offR rs (bl rs (bl rs p + 1)) = .inr (off,i) ∧ bl rs p < i ∧ Node P rs d true i (pluN n a ord (Pr.val off)) w e w'))))
set_option maxHeartbeats 6400000 in
theorem ppluralOf_any (d:Nat) (hd:d ≤ 6) (hM:d < 6 → MsgOk (d + 1)) (P:Nat) (w:World) (rs:List Pg.T) (p:Nat) (n:Pg.T) (a:Nat) (ord:Bool) (h:Scn P w rs p):
  Calls Tryz.prog 243 #[.pointer (some ⟨P,0,none⟩),.agg #[.string ⟨n.toArray⟩,.int .i64 a,.bool ord,.int .u32 0,.slice none 0 0,.int .i64 0],.int .i64 d] w fun e w'=>PluSaidN P rs d p n a ord w e w':=by
 have hPl:=h.lt
 have hb0:=allocB w (.cells #[.string ⟨n.toArray⟩,.int .i64 a,.bool ord,.int .u32 0,.slice none 0 0,.int .i64 0] 299)
 have r0:=row_at w #[.string ⟨n.toArray⟩,.int .i64 a,.bool ord,.int .u32 0,.slice none 0 0,.int .i64 0] 299
 have kc:=pcomma_any P _ rs p (h.then hb0)
 have hz0:(w.alloc (.cells #[.string ⟨n.toArray⟩,.int .i64 a,.bool ord,.int .u32 0,.slice none 0 0,.int .i64 0] 299)).heap.size = w.heap.size + 1:=by simp
 clear h
 go_enter Tryz.func243,Tryz.ntmps243
 go_wp2_with fail
 refine kc.mono ?_
 rintro e w1 ⟨ha,hn⟩
 have HR:Hid (Row w1 w.heap.size #[.string ⟨n.toArray⟩,.int .i64 a,.bool ord,.int .u32 0,.slice none 0 0,.int .i64 0]):=r0.ag ha (by omega)
 have HA1:Hid (Ag P w w1):=(Ag.of hb0 (Nat.le_refl _)).trans ha
 have hz1:w.heap.size + 1 ≤ w1.heap.size:=by have:=ha.size;omega
 rw [hz0] at hn
 clear kc r0 hb0 hz0 ha
 rcases hn with ⟨hc,rfl,hs1⟩ | ⟨hc,v,rfl,hv⟩
 ·have HC:Hid (rs[bl rs p]? = some [44]):=hc
  have hle:=hs1.pts.2.2
  have ko:=poffset_any P w1 rs _ hs1
  clear hc hs1
  go_wp2_with fail
  refine ko.mono ?_
  rintro e w2 ⟨ha2,hm⟩
  have HR2:Hid (Row w2 w.heap.size #[.string ⟨n.toArray⟩,.int .i64 a,.bool ord,.int .u32 0,.slice none 0 0,.int .i64 0]):=HR.out.ag ha2 (by omega)
  have HA2:Hid (Ag P w w2):=HA1.out.trans ha2
  have hz2:w1.heap.size ≤ w2.heap.size:=ha2.size
  clear ko HR
  cases ho:offR rs (bl rs (bl rs p + 1)) with
  | inl x=>
   rw [ho] at hm
   obtain ⟨v,rfl,hv⟩:=hm
   have HO:Hid (offR rs (bl rs (bl rs p + 1)) = .inl x):=ho
   have HV:Hid (Flt w1.heap.size w2 v 3 x):=hv
   obtain ⟨b,rfl,_⟩:=hv
   clear ho
   go_wp2
   go_ret2
   exact ⟨HA2.out,.inr ⟨HC.out,.inl ⟨_,_,_,HO.out,rfl,HV.out.mono (by omega)⟩⟩⟩
  | inr x=>
   obtain ⟨off,i⟩:=x
   rw [ho] at hm
   obtain ⟨rfl,hs2⟩:=hm
   have HO:Hid (offR rs (bl rs (bl rs p + 1)) = .inr (off,i)):=ho
   have HI:Hid (bl rs p < i):=by
    show bl rs p < i
    have h1:=((offR_le hle).1 off i ho).1
    have h2:=bl_ge rs (bl rs p + 1)
    omega
   obtain ⟨V,hV⟩:∃ V,Hid (Pr.val off = V):=⟨_,rfl⟩
   rw [hV.out]
   have hs3:=hs2.set (g:=w.heap.size) (j:=3) hPl (.int .u32 V)
   have ha3:=HA2.out.setNew (g:=w.heap.size) (Nat.le_refl _) 3 (.int .u32 V)
   have hr3:=HR2.out.setC 3 (.int .u32 V) (by simp)
   have hsl:Slv P rs true (w2.setCell ⟨w.heap.size,3,none⟩ (.int .u32 V)) (.func (.func 263) #[.pointer (some ⟨P,0,none⟩)] #[]):=⟨_,_,_,rfl,enters_numeral,fun W q hA hs=>by
    have:=pnumeral_any P W rs q hs
    simpa using this⟩
   have kb:=pbranches_any d hd hM P _ rs i true _ hs3 hsl
   have q2:=HR2.out.2.1
   have f2:=HR2.out.2.2
   clear hs2 hs3 hsl ho
   go_wp2_with fail
   refine kb.mono ?_
   rintro e w4 ⟨ha4,res,hrd,hm⟩
   have HR4:Hid (Row w4 w.heap.size #[.string ⟨n.toArray⟩,.int .i64 a,.bool ord,.int .u32 V,.slice none 0 0,.int .i64 0]):=hr3.ag ha4 (by omega)
   have HA4:Hid (Ag P w w4):=ha3.trans ha4
   have HRD:Hid (Rd rs (.brs d true true) i res):=hrd
   have hz4:w2.heap.size ≤ w4.heap.size:=by have:=ha4.size;simpa using this
   have hzz:w.heap.size < w4.heap.size:=by omega
   have q4:=HR4.out.2.1
   have f4:=HR4.out.2.2
   have hsz:(w2.setCell ⟨w.heap.size,3,none⟩ (.int .u32 V)).heap.size = w2.heap.size:=by simp
   rw [hsz] at hm
   clear kb q2 f2 hrd HR2 hr3 ha3 ha4 hsz
   cases res with
   | ok t q=>obtain ⟨v,_,_,hx⟩:=hm;exact hx.elim
   | bad er x=>
    obtain ⟨u,v,rfl,hv,hu⟩:=hm
    simp only at hu
    subst hu
    have HV:Hid (Flt w2.heap.size w4 v er x):=hv
    clear hv
    go_wp2
    go_ret2
    exact ⟨(HA4.out.setNew (Nat.le_refl _) 4 _).setNew (Nat.le_refl _) 5 _,.inr ⟨HC.out,.inr ⟨off,i,HO.out,HI.out,_,HRD.out,_,_,rfl,((HV.out.set (by omega) _).set (by omega) _).mono (by omega)⟩⟩⟩
   | okB t b q=>
    obtain ⟨v,rfl,hs,hlt,hrow⟩:=hm
    have HROW:Hid (RowAt w4 (fun g=>w2.heap.size ≤ g) 4 v t):=hrow
    have HS:Hid (Scn P w4 rs q):=hs
    obtain ⟨va,vn,vc,rfl⟩:∃ va vn vc,v = .slice va vn vc:=by
     obtain ⟨us,h1,_⟩:=hrow
     rcases h1 with ⟨_,h1⟩ | ⟨g,n,c,h1,_⟩
     ·exact ⟨_,_,_,h1⟩
     ·exact ⟨_,_,_,h1⟩
    clear hrow hs
    go_wp2
    go_ret2
    exact ⟨(HA4.out.setNew (Nat.le_refl _) 4 _).setNew (Nat.le_refl _) 5 _,.inr ⟨HC.out,.inr ⟨off,i,HO.out,HI.out,_,HRD.out,.slice va vn vc,by rw [hV.out];rfl,(HS.out.set hPl _).set hPl _,hlt,((HROW.out.set (fun g hg=>by omega) _).set (fun g hg=>by omega) _).wide (fun g hg=>by omega)⟩⟩⟩
 ·have HC:Hid (rs[bl rs p]? ≠ some [44]):=hc
  have HV:Hid (Flt (w.heap.size + 1) w1 v 3 (bl rs p)):=hv
  obtain ⟨b,rfl,_⟩:=hv
  clear hc
  go_wp2
  go_ret2
  exact ⟨HA1.out,.inl ⟨HC.out,_,_,rfl,HV.out.mono (by omega)⟩⟩
end Go.Proofs.YtaepcfidpekflaaGreatDoor
