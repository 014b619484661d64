/-
  Several texts in one (Jc, Ma, Mb, Mc, Md, Me, Mf, Mg). By the verifier.
-/
import Derived.Test.YtaepcfidpekflaaGreatDoorZ15
import Derived.Test.YtaepcfidpekflaaGreatDoorZ03
import Derived.Laws.Cover4
namespace Go.Proofs.YtaepcfidpekflaaGreatDoor.Dk
end Go.Proofs.YtaepcfidpekflaaGreatDoor.Dk
namespace Go.Proofs.YtaepcfidpekflaaGreatDoor.Pg
open Go.Proofs.YtaepcfidpekflaaGreatDoor
def argsT:Tr → List (T × Nat)
 | .nil=>[]
 | .text _ r=>argsT r
 | .sign r=>argsT r
 | .simple n a r=>(n,a) :: argsT r
 | .num n a r=>(n,a) :: argsT r
 | .sel n a bs _ r=>(n,a) :: (argsT bs ++ argsT r)
 | .plu n a _ _ bs _ r=>(n,a) :: (argsT bs ++ argsT r)
 | .br _ _ m r=>argsT m ++ argsT r
def Nm:Tr → Prop
 | .nil=>True
 | .text _ r=>Nm r
 | .sign r=>Nm r
 | .simple n _ r=>n ≠ [] ∧ Nm r
 | .num n _ r=>n ≠ [] ∧ Nm r
 | .sel n _ bs _ r=>n ≠ [] ∧ Nm bs ∧ Nm r
 | .plu n _ _ _ bs _ r=>n ≠ [] ∧ Nm bs ∧ Nm r
 | .br _ _ m r=>Nm m ∧ Nm r
theorem Nm.app {t u:Tr} (h:Nm t) (h2:Nm u):Nm (t.app u):=by
 induction t with
 | nil=>exact h2
 | text _ r ih=>exact ih h
 | sign r ih=>exact ih h
 | simple _ a r ih=>exact ⟨h.1,ih h.2⟩
 | num _ a r ih=>exact ⟨h.1,ih h.2⟩
 | sel _ a bs e r ih1 ih2=>exact ⟨h.1,h.2.1,ih2 h.2.2⟩
 | plu _ a _ _ bs e r ih1 ih2=>exact ⟨h.1,h.2.1,ih2 h.2.2⟩
 | br _ a m r ih1 ih2=>exact ⟨h.1,ih2 h.2⟩
theorem nameR_ne {rs:List T} (hc:Cps rs) {p:Nat} {n:T} {q:Nat} (h:nameR rs p = .inr (n,q)):n ≠ []:=by
 have hl:(word rs p).flatten.length = (word rs p).length:=(tw _ isN_lt _ (hc.drop p)).2
 unfold nameR at h
 split at h
 ·cases h
 split at h
 ·cases h
 rename_i h2
 split at h
 ·cases h
 injection h with h
 injection h with h1 h3
 rw [← h1]
 intro e
 rw [e] at hl
 exact h2 hl.symm
def resT:Res → Tr
 | .ok t _=>t
 | .okB t _ _=>t
 | .bad _ _=>.nil
theorem nm_of {rs:List T} (hc:Cps rs) {mode:Mode} {p:Nat} {res:Res} (h:Rd rs mode p res):Nm (resT res):=by
 induction h with
 | argK h h1 h2 ih1 ih2=>
  rename_i res
  cases res with
  | bad e a=>exact trivial
  | _=>exact Nm.app ih1 ih2
 | sign h h1 ih=>rename_i res;cases res with
  | bad e a=>exact trivial
  | _=>exact ih
 | said h hs h1 ih=>rename_i res;cases res with
  | bad e a=>exact trivial
  | _=>exact ih
 | simple h h1=>exact ⟨nameR_ne hc h,trivial⟩
 | num h h2 hk h3 hj h4=>exact ⟨nameR_ne hc h,trivial⟩
 | sel h h2 hk h3 hj h4 h5 ih=>rename_i res;cases res with
  | bad e a=>exact trivial
  | ok t q=>exact ih
  | okB t e q=>exact ⟨nameR_ne hc h,ih,trivial⟩
 | plu h h2 hk h3 hj h4 h5 h6 ih=>rename_i res;cases res with
  | bad e a=>exact trivial
  | ok t q=>exact ih
  | okB t e q=>exact ⟨nameR_ne hc h,ih,trivial⟩
 | brs h h1 h2 hd h3 h4 h5 ih1 ih2=>rename_i res;cases res with
  | bad e a=>exact trivial
  | _=>exact ⟨ih1,ih2⟩
 | _=>exact trivial
end Go.Proofs.YtaepcfidpekflaaGreatDoor.Pg
namespace Go.Proofs.YtaepcfidpekflaaGreatDoor.Pg
open Go.Proofs.YtaepcfidpekflaaGreatDoor
def rv (c:T):Int:=((Lib.decodeL c).1:Nat)
def Pt (c:T):Prop:=Cp c ∧ ∀ r,Pn.szL (c ++ r) = c.length
theorem Pt.dec {c:T} (h:Pt c):¬ ((Lib.decodeL c).1 = 65533 ∧ (Lib.decodeL c).2 = 1) ∧ (Lib.decodeL c).2 = c.length:=by
 have h1:=h.2 []
 rw [List.append_nil,Pn.szL_dec] at h1
 have h2:=h.1.ne
 have h3:0 < c.length:=List.length_pos_iff.2 h2
 split at h1
 ·omega
 ·rename_i hn
  exact ⟨hn,h1⟩
theorem Pt.enc {c:T} (h:Pt c):Lib.encodeRune (rv c) = c:=by
 obtain ⟨h1,h2⟩:=h.dec
 have:=Lib.encode_decode c h.1.ne h1
 rw [h2,List.take_length] at this
 exact this
theorem rv_lo (c:T):0 ≤ rv c:=Int.natCast_nonneg _
theorem rv_one {b:UInt8} (hb:b.toNat < 128):rv [b] = b.toNat:=by
 unfold rv
 rw [Lib.decodeL_N]
 unfold Lib.decodeN
 rw [if_pos (by simpa using hb)]
 simp
theorem Pt.hi {c:T} (h:Pt c):rv c ≤ 1114111:=by
 rcases Int.lt_or_le 1114111 (rv c) with h1 | h1
 ·have he:=h.enc
  unfold Lib.encodeRune at he
  rw [Lib.encodeRuneZ_bad (by omega)] at he
  have:c = [239,191,189]:=he.symm
  rw [this] at h1
  exact absurd h1 (by decide +kernel)
 ·exact h1
theorem Pt.two {c:T} (h:Pt c) (h2:2 ≤ c.length):128 ≤ rv c:=by
 rcases Int.lt_or_le (rv c) 128 with h1 | h1
 ·have he:=h.enc
  unfold Lib.encodeRune at he
  rw [Lib.encodeRuneZ_one (rv_lo c) (by omega)] at he
  have:=congrArg List.length he
  simp at this
  omega
 ·exact h1
theorem Pt.eq {c:T} (h:Pt c) {b:UInt8} (hb:b.toNat < 128):rv c = b.toNat ↔ c = [b]:=by
 refine ⟨fun h1=>?_,fun h1=>by rw [h1];exact rv_one hb⟩
 rcases h.1 with ⟨d,rfl,hd⟩ | ⟨h2,_⟩
 ·rw [rv_one hd] at h1
  have:d.toNat = b.toNat:=by omega
  rw [UInt8.toNat_inj.1 this]
 ·have:=h.two h2
  omega
theorem Pts.pt {rs:List T} (h:Pts rs) {p:Nat} {c:T} (hc:rs[p]? = some c):Pt c:=h c (List.mem_of_getElem? hc)
def pk (rs:List T) (p:Nat):Int:=match rs[p]? with | some c=>rv c | none=>-1
theorem pk_some {rs:List T} {p:Nat} {c:T} (h:rs[p]? = some c):pk rs p = rv c:=by unfold pk;rw [h]
theorem pk_none {rs:List T} {p:Nat} (h:rs[p]? = none):pk rs p = -1:=by unfold pk;rw [h]
theorem pk_bd {rs:List T} (h:Pts rs) (p:Nat):-1 ≤ pk rs p ∧ pk rs p ≤ 1114111:=by
 cases e:rs[p]? with
 | none=>rw [pk_none e];omega
 | some c=>rw [pk_some e];have:=rv_lo c;have:=(h.pt e).hi;omega
theorem pk_eq {rs:List T} (h:Pts rs) (p:Nat) (b:UInt8) (hb:b.toNat < 128):pk rs p = b.toNat ↔ rs[p]? = some [b]:=by
 cases e:rs[p]? with
 | none=>rw [pk_none e];simp
 | some c=>rw [pk_some e,(h.pt e).eq hb];simp
def blkZ (r:Int):Bool:=r == 32 || r == 9 || r == 10 || r == 13
def digZ (r:Int):Bool:=decide (48 ≤ r) && decide (r ≤ 57)
def nameZ (r:Int):Bool:=decide (97 ≤ r) && decide (r ≤ 122) || decide (65 ≤ r) && decide (r ≤ 90) || r == 95 || digZ r
def specZ (num:Bool) (r:Int):Bool:=r == 123 || r == 125 || (r == 35 && num)
theorem at1_of {rs:List T} (h:Pts rs) (p:Nat) (f:UInt8 → Bool) (z:Int → Bool) (h1:∀ b:UInt8,b.toNat < 128 → z b.toNat = f b) (h2:∀ r:Int,r < 0 ∨ 128 ≤ r → z r = false):z (pk rs p) = at1 rs p f:=by
 unfold at1
 cases e:rs[p]? with
 | none=>rw [pk_none e];exact h2 _ (by omega)
 | some c=>
  rw [pk_some e]
  rcases (h.pt e).1 with ⟨d,rfl,hd⟩ | ⟨h3,_⟩
  ·rw [rv_one hd,h1 d hd];rfl
  ·rw [h2 _ (.inr ((h.pt e).two h3))]
   cases c with
   | nil=>rfl
   | cons a l=>
    cases l with
    | nil=>simp at h3
    | cons _ _=>rfl
theorem byte_beq (b:UInt8) (k:UInt8):((b.toNat:Int) == (k.toNat:Int)) = (b == k):=by
 rw [Bool.eq_iff_iff,beq_iff_eq,beq_iff_eq,← UInt8.toNat_inj]
 omega
theorem blkZ_at {rs:List T} (h:Pts rs) (p:Nat):blkZ (pk rs p) = at1 rs p Dk.isBlk:=by
 refine at1_of h p _ _ (fun b hb=>?_) (fun r hr=>?_)
 ·unfold blkZ Dk.isBlk
  rw [← byte_beq b 32,← byte_beq b 9,← byte_beq b 10,← byte_beq b 13]
  rfl
 ·unfold blkZ
  simp
  omega
theorem digZ_at {rs:List T} (h:Pts rs) (p:Nat):digZ (pk rs p) = at1 rs p Pn.isDig:=by
 refine at1_of h p _ _ (fun b hb=>?_) (fun r hr=>?_)
 ·rw [Bool.eq_iff_iff,Pn.isDig_iff]
  unfold digZ
  simp
  omega
 ·unfold digZ
  simp
  omega
theorem nameZ_at {rs:List T} (h:Pts rs) (p:Nat):nameZ (pk rs p) = at1 rs p isN:=by
 refine at1_of h p _ _ (fun b hb=>?_) (fun r hr=>?_)
 ·have:=byte_beq b 95
  rw [Bool.eq_iff_iff]
  unfold nameZ isN Dk.isAlpha
  rw [Bool.or_eq_true _ (Pn.isDig b),Pn.isDig_iff,← this]
  unfold digZ
  simp
  omega
 ·unfold nameZ digZ
  simp
  omega
theorem specZ_at {rs:List T} (h:Pts rs) (p:Nat) (num:Bool):specZ num (pk rs p) = match rs[p]? with | some c=>spec num c | none=>false:=by
 cases e:rs[p]? with
 | none=>rw [pk_none e];cases num <;> rfl
 | some c=>
  have a:=(h.pt e).eq (b:=123) (by decide)
  have b:=(h.pt e).eq (b:=125) (by decide)
  have d:=(h.pt e).eq (b:=35) (by decide)
  rw [pk_some e,Bool.eq_iff_iff]
  unfold specZ spec
  simp only [Bool.or_eq_true,Bool.and_eq_true,beq_iff_eq]
  rw [← a,← b,← d]
  simp
theorem at_end {rs:List T} (f:UInt8 → Bool) (p:Nat):at1 rs (p + ((rs.drop p).takeWhile (one1 f)).length) f = false:=by
 have h:=tw_stop (one1 f) (rs.drop p) _ rfl
 rw [List.drop_drop] at h
 unfold at1
 cases e:rs[p + ((rs.drop p).takeWhile (one1 f)).length]? with
 | none=>rfl
 | some c=>
  have hd:rs.drop (p + ((rs.drop p).takeWhile (one1 f)).length) = c :: rs.drop (p + ((rs.drop p).takeWhile (one1 f)).length + 1):=by
   have hl:=lt_of_some e
   rw [List.drop_eq_getElem_cons hl]
   rw [List.getElem?_eq_getElem hl] at e
   injection e with e
   rw [e]
  rw [hd,List.takeWhile_cons] at h
  cases hf:one1 f c with
  | false=>exact hf
  | true=>rw [hf] at h;simp at h
theorem tw_lt {rs:List T} (f:UInt8 → Bool) {p n:Nat} (hn:n ≤ ((rs.drop p).takeWhile (one1 f)).length) (h:at1 rs (p + n) f = true):n < ((rs.drop p).takeWhile (one1 f)).length:=by
 rcases Nat.lt_or_ge n ((rs.drop p).takeWhile (one1 f)).length with h1 | h1
 ·exact h1
 ·have:n = ((rs.drop p).takeWhile (one1 f)).length:=by omega
  rw [this,at_end] at h
  cases h
theorem tw_eq {rs:List T} (f:UInt8 → Bool) {p n:Nat} (hn:n ≤ ((rs.drop p).takeWhile (one1 f)).length) (h:at1 rs (p + n) f = false):n = ((rs.drop p).takeWhile (one1 f)).length:=by
 rcases Nat.lt_or_ge n ((rs.drop p).takeWhile (one1 f)).length with h1 | h1
 ·rw [at_tw f p n h1] at h;cases h
 ·omega
end Go.Proofs.YtaepcfidpekflaaGreatDoor.Pg
namespace Go.Proofs.YtaepcfidpekflaaGreatDoor
open Go.RowKit Pg
def Rns (P:Nat) (w:World) (a:Option Addr) (c:Nat) (rs:List Pg.T):Prop:=
 (rs = [] ∧ a = none ∧ c = 0) ∨ ∃ blk,a = some ⟨blk,0,none⟩ ∧ blk < P ∧ blk < w.heap.size ∧ ∀ j,j < rs.length → w.cell? ⟨blk,j,none⟩ = some (.int .i32 (rv (rs.getD j [])))
theorem Rns.ag {P:Nat} {w w':World} {a:Option Addr} {c:Nat} {l:List Pg.T} (h:Rns P w a c l) (ha:Ag P w w'):Rns P w' a c l:=by
 rcases h with h | ⟨blk,h1,h2,h3,h4⟩
 ·exact .inl h
 ·refine .inr ⟨blk,h1,h2,Nat.lt_of_lt_of_le h3 ha.size,fun j hj=>?_⟩
  have:=h4 j hj
  simp only [World.cell?,ha.block blk h3 (by omega)] at this ⊢
  exact this
def Scn (P:Nat) (w:World) (rs:List Pg.T) (p:Nat):Prop:=∃ a c,Row w P #[.slice a rs.length c,.int .i64 p] ∧ Rns P w a c rs ∧ rs.length ≤ c ∧ Hid (Pts rs) ∧ rs.length ≤ 1000 ∧ p ≤ rs.length
theorem Scn.then {P:Nat} {w w':World} {rs:List Pg.T} {p:Nat} (h:Scn P w rs p) (hb:Below w.heap.size w w'):Scn P w' rs p:=by
 obtain ⟨a,c,h1,h2,h3⟩:=h
 exact ⟨a,c,h1.keep hb,h2.ag (.of hb (Nat.le_refl _)),h3⟩
theorem Scn.pts {P:Nat} {w:World} {rs:List Pg.T} {p:Nat} (h:Scn P w rs p):Pts rs ∧ rs.length ≤ 1000 ∧ p ≤ rs.length:=by
 obtain ⟨a,c,h1,h2,h3,h4,h5,h6⟩:=h
 exact ⟨h4.out,h5,h6⟩
theorem Scn.go {P:Nat} {w:World} {rs:List Pg.T} {p:Nat} (h:Scn P w rs p) (q:Nat) (hq:q ≤ rs.length):Scn P (w.setCell ⟨P,1,none⟩ (.int .i64 q)) rs q:=by
 obtain ⟨a,c,h1,h2,h3,h4,h5,h6⟩:=h
 exact ⟨a,c,h1.setC 1 _ (by simp),h2.ag ((Ag.refl P w).setCell 1 _),h3,h4,h5,hq⟩
theorem Scn.set {P g j:Nat} {w:World} {rs:List Pg.T} {p:Nat} (h:Scn P w rs p) (hg:P < g) (u:Value):Scn P (w.setCell ⟨g,j,none⟩ u) rs p:=by
 obtain ⟨a,c,h1,h2,h3⟩:=h
 refine ⟨a,c,h1.setO (by omega) u,?_,h3⟩
 rcases h2 with h2 | ⟨blk,k1,k2,k3,k4⟩
 ·exact .inl h2
 ·refine .inr ⟨blk,k1,k2,by simpa using k3,fun j hj=>?_⟩
  rw [World.cell?_setCell_other (h:=by intro e;injection e with e1;omega)]
  exact k4 j hj
theorem Scn.lt {P:Nat} {w:World} {rs:List Pg.T} {p:Nat} (h:Scn P w rs p):P < w.heap.size:=by
 obtain ⟨a,c,h1,_⟩:=h
 exact h1.1
def Flt (B:Nat) (w:World) (v:Value) (e a:Nat):Prop:=∃ b,v = .iface 113 (.pointer (some ⟨b,0,none⟩)) ∧ B ≤ b ∧ Row w b #[.int .i64 e,.int .i64 a]
theorem Flt.mono {B B':Nat} {w:World} {v:Value} {e a:Nat} (h:Flt B w v e a) (hB:B' ≤ B):Flt B' w v e a:=by
 obtain ⟨b,h1,h2,h3⟩:=h
 exact ⟨b,h1,by omega,h3⟩
theorem Flt.keep {B:Nat} {w w':World} {v:Value} {e a:Nat} (h:Flt B w v e a) (hb:Below w.heap.size w w'):Flt B w' v e a:=by
 obtain ⟨b,h1,h2,h3⟩:=h
 exact ⟨b,h1,h2,h3.keep hb⟩
theorem Flt.set {B g j:Nat} {w:World} {v:Value} {e a:Nat} (h:Flt B w v e a) (hg:g < B) (u:Value):Flt B (w.setCell ⟨g,j,none⟩ u) v e a:=by
 obtain ⟨b,h1,h2,h3⟩:=h
 exact ⟨b,h1,h2,h3.setO (by omega) u⟩
theorem Ag.setNew {P g:Nat} {w w':World} (h:Ag P w w') (hg:w.heap.size ≤ g) (j:Nat) (v:Value):Ag P w (w'.setCell ⟨g,j,none⟩ v):=by
 have hb:=(Below.refl g w').setCell (p:=⟨g,j,none⟩) (Nat.le_refl _) v
 refine ⟨hb.os.trans h.os,hb.tape.trans h.tape,hb.output.trans h.output,Nat.le_trans h.size hb.size,fun k hk hP=>?_⟩
 refine Eq.trans ?_ (h.block k hk hP)
 exact Below.heap_setCell _ _ _ _ (by show k ≠ g;omega)
set_option maxHeartbeats 400000 in
theorem pfault_any (w:World) (e a:Nat):
  Calls Tryz.prog 158 #[.int .i64 e,.int .i64 a] w fun en w'=>(∃ v,en = .returned v ∧ Flt w.heap.size w' v e a) ∧ Below w.heap.size w w':=by
 have r:=row_at w #[.int .i64 e,.int .i64 a] 117
 have hb:=(Below.refl w.heap.size w).alloc (Nat.le_refl _) (.cells #[.int .i64 e,.int .i64 a] 117)
 go_enter Tryz.func158,Tryz.ntmps158
 go_wp2
 go_ret
 exact ⟨⟨_,rfl,_,rfl,Nat.le_refl _,r⟩,hb⟩
set_option maxHeartbeats 400000 in
theorem peek_any (P:Nat) (w:World) (rs:List Pg.T) (p k:Nat) (h:Scn P w rs p) (hk:k ≤ 1):
  Calls Tryz.prog 192 #[.pointer (some ⟨P,0,none⟩),.int .i64 k] w fun e w'=>e = .returned (.int .i32 (pk rs (p + k))) ∧ Below w.heap.size w w':=by
 obtain ⟨a,c,h1,h2,h3,h4,h5,h6⟩:=h
 have q1:=h1.2.1
 have hw:IntKind.i64.wrap ((p:Int) + k) = (p:Int) + k:=by rw [IntKind.wrap_i64];omega
 by_cases hp:p + k < rs.length
 ·rcases h2 with h2 | ⟨blk,rfl,h7,h8,h9⟩
  ·rw [h2.1] at hp;simp at hp
  have hg:=h9 (p + k) hp
  have hF:Hid (pk rs (p + k) = rv rs[p + k]):=pk_some (List.getElem?_eq_getElem hp)
  simp only [List.getD_eq_getElem?_getD,List.getElem?_eq_getElem hp,Option.getD_some] at hg
  have hlt:(((p:Int) + k) < rs.length) = True:=eq_true (by omega)
  have hle:((rs.length:Int) ≤ (p:Int) + k) = False:=eq_false (by omega)
  have ht:((p:Int) + k).toNat = p + k:=by omega
  have h0:(0:Int) ≤ (p:Int) + k:=by omega
  clear h9 h4
  go_enter Tryz.func192,Tryz.ntmps192
  go_wp2
  go_quiet (fail)
  go_wp2
  go_quiet (fail)
  go_wp2
  go_ret
  exact ⟨by rw [hF.out];rfl,below_of (drewB _ _) (drewB _ _)⟩
 ·have hF:Hid (pk rs (p + k) = -1):=pk_none (List.getElem?_eq_none (by omega))
  have hle:((rs.length:Int) ≤ (p:Int) + k) = True:=eq_true (by omega)
  clear h4 h2
  go_enter Tryz.func192,Tryz.ntmps192
  go_wp2
  go_quiet (fail)
  go_wp2
  go_ret
  exact ⟨by rw [hF.out];rfl,drewB _ _⟩
end Go.Proofs.YtaepcfidpekflaaGreatDoor
namespace Go.Proofs.YtaepcfidpekflaaGreatDoor
open Go.RowKit Pg
def selV (t:Pg.T):Pg.T × Nat:=match t with | 61 :: d=>([],Pr.val d) | _=>(t,0)
def SlAt (w:World) (S:Nat → Prop) (k:Nat) (v:Value) (us:List Value):Prop:=
 (us = [] ∧ v = .slice none 0 0) ∨ ∃ g n c,v = .slice (some ⟨g,0,none⟩) n c ∧ S g ∧ g < w.heap.size ∧ us.length = n * k ∧ n ≤ c ∧ n ≤ 1000 ∧ ∀ j u,us[j]? = some u → w.cell? ⟨g,j,none⟩ = some u
inductive Lay (w:World) (S:Nat → Prop):Pg.Tr → List Value → Prop
 | nil:Lay w S .nil []
 | text {t r vs} (h:Lay w S r vs):Lay w S (.text t r) (.iface 285 (.agg #[.string ⟨t.toArray⟩]) :: vs)
 | sign {r vs} (h:Lay w S r vs):Lay w S (.sign r) (.iface 287 (.agg #[]) :: vs)
 | simple {n a r vs} (h:Lay w S r vs):Lay w S (.simple n a r) (.iface 290 (.agg #[.string ⟨n.toArray⟩,.int .i64 (a:Nat)]) :: vs)
 | num {n a r vs} (h:Lay w S r vs):Lay w S (.num n a r) (.iface 291 (.agg #[.string ⟨n.toArray⟩,.int .i64 (a:Nat)]) :: vs)
 | sel {n a bs e r v us vs} (hs:SlAt w S 4 v us) (hb:Lay w S bs us) (h:Lay w S r vs):Lay w S (.sel n a bs e r) (.iface 296 (.agg #[.string ⟨n.toArray⟩,.int .i64 (a:Nat),v,.int .i64 (e:Nat)]) :: vs)
 | plu {n a ord off bs e r v us vs} (hs:SlAt w S 4 v us) (hb:Lay w S bs us) (h:Lay w S r vs):Lay w S (.plu n a ord off bs e r) (.iface 299 (.agg #[.string ⟨n.toArray⟩,.int .i64 (a:Nat),.bool ord,.int .u32 (Pr.val off:Nat),v,.int .i64 (e:Nat)]) :: vs)
 | br {t a m r v us vs} (hs:SlAt w S 1 v us) (hb:Lay w S m us) (h:Lay w S r vs):Lay w S (.br t a m r) (.string ⟨(selV t).1.toArray⟩ :: .int .u32 ((selV t).2:Nat) :: .int .i64 (a:Nat) :: v :: vs)
theorem SlAt.mono {w w':World} {S S':Nat → Prop} {k:Nat} {v:Value} {us:List Value} (h:SlAt w S k v us) (hz:w.heap.size ≤ w'.heap.size) (hS:∀ g,S g → g < w.heap.size → w'.heap[g]? = w.heap[g]? ∧ S' g):SlAt w' S' k v us:=by
 rcases h with h | ⟨g,n,c,h1,h2,h3,h4,h5,h6,h7⟩
 ·exact .inl h
 ·obtain ⟨e,s⟩:=hS g h2 h3
  refine .inr ⟨g,n,c,h1,s,by omega,h4,h5,h6,fun j u hu=>?_⟩
  have:=h7 j u hu
  simp only [World.cell?,e] at this ⊢
  exact this
theorem Lay.mono {w w':World} {S S':Nat → Prop} (hz:w.heap.size ≤ w'.heap.size) (hS:∀ g,S g → g < w.heap.size → w'.heap[g]? = w.heap[g]? ∧ S' g) {t:Pg.Tr} {vs:List Value} (h:Lay w S t vs):Lay w' S' t vs:=by
 induction h with
 | nil=>exact .nil
 | text _ ih=>exact .text ih
 | sign _ ih=>exact .sign ih
 | simple _ ih=>exact .simple ih
 | num _ ih=>exact .num ih
 | sel hs _ _ ih1 ih2=>exact .sel (hs.mono hz hS) ih1 ih2
 | plu hs _ _ ih1 ih2=>exact .plu (hs.mono hz hS) ih1 ih2
 | br hs _ _ ih1 ih2=>exact .br (hs.mono hz hS) ih1 ih2
theorem Lay.app {w:World} {S:Nat → Prop} {t u:Pg.Tr} {vs us:List Value} (h:Lay w S t vs) (h2:Lay w S u us):Lay w S (t.app u) (vs ++ us):=by
 induction h with
 | nil=>exact h2
 | text _ ih=>exact .text ih
 | sign _ ih=>exact .sign ih
 | simple _ ih=>exact .simple ih
 | num _ ih=>exact .num ih
 | sel hs hb _ _ ih2=>exact .sel hs hb ih2
 | plu hs hb _ _ ih2=>exact .plu hs hb ih2
 | br hs hb _ _ ih2=>exact .br hs hb ih2
def RowAt (w:World) (S:Nat → Prop) (k:Nat) (v:Value) (t:Pg.Tr):Prop:=∃ us,SlAt w S k v us ∧ Lay w S t us
theorem RowAt.mono {w w':World} {S S':Nat → Prop} {k:Nat} {v:Value} {t:Pg.Tr} (h:RowAt w S k v t) (hz:w.heap.size ≤ w'.heap.size) (hS:∀ g,S g → g < w.heap.size → w'.heap[g]? = w.heap[g]? ∧ S' g):RowAt w' S' k v t:=by
 obtain ⟨us,h1,h2⟩:=h
 exact ⟨us,h1.mono hz hS,h2.mono hz hS⟩
theorem RowAt.keep {w w':World} {S:Nat → Prop} {k:Nat} {v:Value} {t:Pg.Tr} (h:RowAt w S k v t) (hb:Below w.heap.size w w'):RowAt w' S k v t:=h.mono hb.size fun g hg hl=>⟨hb.block g hl,hg⟩
theorem RowAt.ag {P:Nat} {w w':World} {S:Nat → Prop} {k:Nat} {v:Value} {t:Pg.Tr} (h:RowAt w S k v t) (ha:Ag P w w') (hP:∀ g,S g → g ≠ P):RowAt w' S k v t:=h.mono ha.size fun g hg hl=>⟨ha.block g hl (hP g hg),hg⟩
def Rdn (P:Nat) (rs:List Pg.T) (m:Pg.Mode) (p:Nat) (w:World) (e:Ending) (w':World):Prop:=Ag P w w' ∧ ∃ res,Rd rs m p res ∧ match res with
 | .ok t q=>∃ v,e = .returned (.tuple #[v,.nilIface]) ∧ Scn P w' rs q ∧ match m with
  | .msg _ _=>RowAt w' (fun g=>w.heap.size ≤ g) 1 v t
  | .arg _=>p < q ∧ Lay w' (fun g=>w.heap.size ≤ g) t [v]
  | .brs _ _ _=>False
 | .okB t b q=>∃ v,e = .returned (.tuple #[.agg #[v,.int .i64 (b:Nat)],.nilIface]) ∧ Scn P w' rs q ∧ p < q ∧ RowAt w' (fun g=>w.heap.size ≤ g) 4 v t
 | .bad er a=>∃ u v,e = .returned (.tuple #[u,v]) ∧ Flt w.heap.size w' v er a ∧ match m with
  | .brs _ _ _=>u = .agg #[.slice none 0 0,.int .i64 0]
  | _=>True
end Go.Proofs.YtaepcfidpekflaaGreatDoor
namespace Go.Proofs.YtaepcfidpekflaaGreatDoor
open Go.RowKit Pg
set_option maxHeartbeats 400000 in
theorem pisBlank_any (r:Int) (w:World):Calls Tryz.prog 238 #[.int .i32 r] w fun e w'=>e = .returned (.bool (blkZ r)) ∧ w' = w:=by
 go_enter Tryz.func238,Tryz.ntmps238
 go_wp2
 all_goals
  go_ret
  refine ⟨?_,rfl⟩
  unfold blkZ
  simp_all
set_option maxHeartbeats 400000 in
theorem pisDigit_any (r:Int) (w:World):Calls Tryz.prog 239 #[.int .i32 r] w fun e w'=>e = .returned (.bool (digZ r)) ∧ w' = w:=by
 go_enter Tryz.func239,Tryz.ntmps239
 go_wp2
 all_goals
  go_ret
  refine ⟨?_,rfl⟩
  unfold digZ
  simp_all
  try (intros;omega)
set_option maxHeartbeats 400000 in
theorem pisInName_any (r:Int) (w:World):Calls Tryz.prog 259 #[.int .i32 r] w fun e w'=>e = .returned (.bool (nameZ r)) ∧ w' = w:=by
 obtain ⟨D,hD⟩:∃ D,Hid (digZ r = D):=⟨_,rfl⟩
 have hd:=pisDigit_any r w
 rw [hD.out] at hd
 have hN:Hid (nameZ r = (decide (97 ≤ r) && decide (r ≤ 122) || decide (65 ≤ r) && decide (r ≤ 90) || r == 95 || D)):=by
  show _ = _
  unfold nameZ
  rw [hD.out]
 generalize nameZ r = N at *
 go_enter Tryz.func259,Tryz.ntmps259
 go_wp2_with (go_at_call 239;refine hd.mono ?_;rintro e w' ⟨rfl,rfl⟩)
 all_goals
  go_ret
  refine ⟨?_,rfl⟩
  rw [hN.out]
  first
  | (simp_all;done)
  | (clear hN hd hD;simp_all;cases D <;> first | (simp_all;done) | (rw [Bool.eq_iff_iff];simp only [Bool.or_eq_true,Bool.and_eq_true,decide_eq_true_eq,beq_iff_eq,Bool.or_false];omega))
set_option maxHeartbeats 400000 in
theorem pisSpecial_any (r:Int) (num:Bool) (w:World):Calls Tryz.prog 197 #[.int .i32 r,.bool num] w fun e w'=>e = .returned (.bool (specZ num r)) ∧ w' = w:=by
 go_enter Tryz.func197,Tryz.ntmps197
 go_wp2
 all_goals
  go_ret
  refine ⟨?_,rfl⟩
  unfold specZ
  simp_all
set_option maxHeartbeats 400000 in
theorem ptake_any (P:Nat) (w:World) (rs:List Pg.T) (p:Nat) (b:UInt8) (hb:b.toNat < 128) (h:Scn P w rs p):
  Calls Tryz.prog 220 #[.pointer (some ⟨P,0,none⟩),.int .i32 b.toNat] w fun e w'=>e = .returned (.bool (decide (rs[p]? = some [b]))) ∧ Scn P w' rs (if rs[p]? = some [b] then p + 1 else p) ∧ Ag P w w':=by
 obtain ⟨hp1,hp2,hp3⟩:=h.pts
 have pe:=pk_eq hp1 p b hb
 have kp:=peek_any P w rs p 0 h (by omega)
 rw [Nat.add_zero] at kp
 have bd:=pk_bd hp1 p
 have HS:Hid (Scn P w rs p):=h
 by_cases hc:rs[p]? = some [b]
 ·have hlt:=lt_of_some hc
  have hne:(pk rs p != (b.toNat:Int)) = false:=by rw [pe.2 hc];simp
  have hD:Hid (decide (rs[p]? = some [b]) = true):=decide_eq_true hc
  have hI:Hid ((if rs[p]? = some [b] then p + 1 else p) = p + 1):=if_pos hc
  rw [hD.out,hI.out]
  clear pe hc hD hI h
  generalize pk rs p = K at *
  go_enter Tryz.func220,Tryz.ntmps220
  go_wp2_with fail
  refine kp.mono ?_
  rintro e w1 ⟨rfl,hb1⟩
  have hs1:=HS.out.then hb1
  obtain ⟨a,c,r1,_⟩:=id hs1
  have q1:=r1.2.1
  have f1:=r1.2.2
  have hw:IntKind.i64.wrap ((p:Int) + 1) = ((p + 1:Nat):Int):=by rw [IntKind.wrap_i64];omega
  have HG:Hid (Scn P (w1.setCell ⟨P,1,none⟩ (.int .i64 ((p + 1:Nat):Int))) rs (p + 1) ∧ Ag P w (w1.setCell ⟨P,1,none⟩ (.int .i64 ((p + 1:Nat):Int)))):=⟨hs1.go (p + 1) hlt,(Ag.of hb1 (Nat.le_refl _)).setCell 1 _⟩
  clear hs1 r1
  go_wp2
  go_ret
  exact ⟨rfl,HG.out⟩
 ·have hne:(pk rs p != (b.toNat:Int)) = true:=by rw [bne_iff_ne];exact fun e=>hc (pe.1 e)
  have hD:Hid (decide (rs[p]? = some [b]) = false):=decide_eq_false hc
  have hI:Hid ((if rs[p]? = some [b] then p + 1 else p) = p):=if_neg hc
  rw [hD.out,hI.out]
  clear pe hc hD hI h
  generalize pk rs p = K at *
  go_enter Tryz.func220,Tryz.ntmps220
  go_wp2_with fail
  refine kp.mono ?_
  rintro e w1 ⟨rfl,hb1⟩
  go_wp2
  go_ret
  exact ⟨rfl,HS.out.then hb1,Ag.of hb1 (Nat.le_refl _)⟩
set_option maxHeartbeats 400000 in
theorem pwrong_any (P:Nat) (w:World) (rs:List Pg.T) (p:Nat) (h:Scn P w rs p):
  Calls Tryz.prog 161 #[.pointer (some ⟨P,0,none⟩)] w fun e w'=>(∃ v,e = .returned v ∧ Flt w.heap.size w' v 3 p) ∧ Below w.heap.size w w':=by
 obtain ⟨a,c,r1,_⟩:=id h
 have q1:=r1.2.1
 have kf:=pfault_any w 3 p
 clear r1 h
 go_enter Tryz.func161,Tryz.ntmps161
 go_wp2_with fail
 refine kf.mono ?_
 rintro e w1 ⟨⟨v,rfl,hv⟩,hb1⟩
 go_wp2
 go_ret
 exact ⟨⟨v,rfl,hv⟩,hb1⟩
def Needs (P:Nat) (rs:List Pg.T) (p:Nat) (b:UInt8) (w:World) (e:Ending) (w':World):Prop:=Ag P w w' ∧ ((rs[p]? = some [b] ∧ e = .returned .nilIface ∧ Scn P w' rs (p + 1)) ∨ (rs[p]? ≠ some [b] ∧ ∃ v,e = .returned v ∧ Flt w.heap.size w' v 3 p))
set_option maxHeartbeats 400000 in
theorem pneed_any (P:Nat) (w:World) (rs:List Pg.T) (p:Nat) (b:UInt8) (hb:b.toNat < 128) (h:Scn P w rs p):
  Calls Tryz.prog 241 #[.pointer (some ⟨P,0,none⟩),.int .i32 b.toNat] w fun e w'=>Needs P rs p b w e w':=by
 have kt:=ptake_any P w rs p b hb h
 by_cases hc:rs[p]? = some [b]
 ·have HC:Hid (rs[p]? = some [b]):=hc
  rw [decide_eq_true hc,if_pos hc] at kt
  clear hc
  go_enter Tryz.func241,Tryz.ntmps241
  go_wp2_with fail
  refine kt.mono ?_
  rintro e w1 ⟨rfl,hs1,ha1⟩
  go_wp2
  go_ret
  exact ⟨ha1,.inl ⟨HC.out,rfl,hs1⟩⟩
 ·have HC:Hid (rs[p]? ≠ some [b]):=hc
  rw [decide_eq_false hc,if_neg hc] at kt
  clear hc
  go_enter Tryz.func241,Tryz.ntmps241
  go_wp2_with fail
  refine kt.mono ?_
  rintro e w1 ⟨rfl,hs1,ha1⟩
  have kw:=pwrong_any P w1 rs p hs1
  go_wp2_with fail
  refine kw.mono ?_
  rintro e w2 ⟨⟨v,rfl,hv⟩,hb2⟩
  go_wp2
  go_ret
  exact ⟨ha1.then hb2,.inr ⟨HC.out,v,rfl,hv.mono ha1.size⟩⟩
end Go.Proofs.YtaepcfidpekflaaGreatDoor
namespace Go.Proofs.YtaepcfidpekflaaGreatDoor
open Go.RowKit Pg
def posOf (w:World) (P:Nat):Nat:=match w.cell? ⟨P,1,none⟩ with | some (.int _ n)=>n.toNat | _=>0
theorem Scn.pos {P:Nat} {w:World} {rs:List Pg.T} {p:Nat} (h:Scn P w rs p):posOf w P = p:=by
 obtain ⟨a,c,r1,_⟩:=h
 have:=r1.2.1 1
 unfold posOf
 rw [this]
 simp
theorem Scn.rows {P:Nat} {w:World} {rs:List Pg.T} {p:Nat} (h:Scn P w rs p):∃ a c,(∀ j,w.cell? ⟨P,j,none⟩ = #[.slice a rs.length c,.int .i64 p][j]?) ∧ ∀ j,w.frozen? ⟨P,j,none⟩ = false:=by
 obtain ⟨a,c,r1,_⟩:=h
 exact ⟨a,c,r1.2.1,r1.2.2⟩
theorem Scn.inc {P:Nat} {w w1:World} {rs:List Pg.T} {p:Nat} (h:Scn P w1 rs p) (hp:p < rs.length) (ha:Ag P w w1):Scn P (w1.setCell ⟨P,1,none⟩ (.int .i64 ((p:Int) + 1))) rs (p + 1) ∧ Ag P w (w1.setCell ⟨P,1,none⟩ (.int .i64 ((p:Int) + 1))):=
 ⟨h.go (p + 1) hp,ha.setCell 1 _⟩
def Pg.In1 (f:UInt8 → Bool) (rs:List Pg.T) (p q:Nat):Prop:=p ≤ q ∧ q - p ≤ ((rs.drop p).takeWhile (one1 f)).length
theorem Pg.In1.start (f:UInt8 → Bool) (rs:List Pg.T) (p:Nat):In1 f rs p p:=⟨Nat.le_refl _,by omega⟩
theorem Pg.In1.next {f:UInt8 → Bool} {rs:List Pg.T} {p q:Nat} (h:In1 f rs p q) (ht:at1 rs q f = true) (hp:p ≤ rs.length):In1 f rs p (q + 1) ∧ q < rs.length:=by
 have h2:=tw_lt f (p:=p) (n:=q - p) h.2 (by rw [show p + (q - p) = q by have:=h.1;omega];exact ht)
 have h3:=tw_le (one1 f) rs p hp
 have:=h.1
 exact ⟨⟨by omega,by omega⟩,by omega⟩
theorem Pg.In1.stop {f:UInt8 → Bool} {rs:List Pg.T} {p q:Nat} (h:In1 f rs p q) (ht:at1 rs q f = false):q = p + ((rs.drop p).takeWhile (one1 f)).length:=by
 have h2:=tw_eq f (p:=p) (n:=q - p) h.2 (by rw [show p + (q - p) = q by have:=h.1;omega];exact ht)
 have:=h.1
 omega
set_option maxHeartbeats 800000 in
theorem pblanks_any (P:Nat) (w:World) (rs:List Pg.T) (p:Nat) (h:Scn P w rs p):
  Calls Tryz.prog 218 #[.pointer (some ⟨P,0,none⟩)] w fun e w'=>e = .returned (.tuple #[]) ∧ Scn P w' rs (bl rs p) ∧ Ag P w w':=by
 obtain ⟨hp1,hp2,hp3⟩:=h.pts
 have HP:Hid (Pts rs):=hp1
 have HS:Hid (Scn P w rs p):=h
 clear h hp1
 go_enter Tryz.func218,Tryz.ntmps218
 go_wp2_with fail
 go_loopw [] (fun wr=>∃ q:Nat,Hid (In1 Dk.isBlk rs p q) ∧ Hid (Scn P wr rs q) ∧ Ag P w wr) (fun wr=>rs.length - posOf wr P)
 case atStart=>exact ⟨p,In1.start _ _ _,HS,Ag.refl _ _⟩
 case round=>
  clear HS
  obtain ⟨q,HK,HS,ha⟩:=hrel
  have kp:=peek_any P wr rs q 0 HS.out (by omega)
  rw [Nat.add_zero] at kp
  have bz:=blkZ_at HP.out q
  have hl:=HS.out.pts.2.2
  have hpos:=HS.out.pos
  go_wp2_with fail
  refine kp.mono ?_
  rintro e w1 ⟨rfl,hb1⟩
  have kb:=pisBlank_any (pk rs q) w1
  rw [bz] at kb
  generalize pk rs q = K at *
  cases ht:at1 rs q Dk.isBlk with
  | true=>
   rw [ht] at kb
   obtain ⟨hk2,hl2⟩:=HK.out.next ht hp3
   have HK2:Hid (In1 Dk.isBlk rs p (q + 1)):=hk2
   have hs1:=HS.out.then hb1
   obtain ⟨a,c,q1,f1⟩:=hs1.rows
   have hw:IntKind.i64.wrap ((q:Int) + 1) = (q:Int) + 1:=by rw [IntKind.wrap_i64];omega
   obtain ⟨hs2,ha2⟩:=hs1.inc hl2 (ha.then hb1)
   have hpos2:=hs2.pos
   have HS2:Hid (Scn P (w1.setCell ⟨P,1,none⟩ (.int .i64 ((q:Int) + 1))) rs (q + 1)):=hs2
   clear ht kp hs1 hs2 bz HK hk2
   go_wp2_with (go_at_call 238;refine kb.mono ?_;rintro e w2 ⟨rfl,rfl⟩)
   go_roundw
   case rel=>exact ⟨q + 1,HK2,HS2,ha2⟩
   case measure=>rw [hpos2,hpos];omega
  | false=>
   rw [ht] at kb
   have HE:Hid (bl rs p = q):=(HK.out.stop ht).symm
   have HS1:Hid (Scn P w1 rs q):=HS.out.then hb1
   clear ht kp bz HK
   go_wp2_with (go_at_call 238;refine kb.mono ?_;rintro e w2 ⟨rfl,rfl⟩)
   go_end0
   exact ⟨rfl,by rw [HE.out];exact HS1.out,ha.then hb1⟩
def Comma (P:Nat) (rs:List Pg.T) (p:Nat) (w:World) (e:Ending) (w':World):Prop:=Ag P w w' ∧ ((rs[bl rs p]? = some [44] ∧ e = .returned .nilIface ∧ Scn P w' rs (bl rs (bl rs p + 1))) ∨ (rs[bl rs p]? ≠ some [44] ∧ ∃ v,e = .returned v ∧ Flt w.heap.size w' v 3 (bl rs p)))
set_option maxHeartbeats 800000 in
theorem pcomma_any (P:Nat) (w:World) (rs:List Pg.T) (p:Nat) (h:Scn P w rs p):
  Calls Tryz.prog 221 #[.pointer (some ⟨P,0,none⟩)] w fun e w'=>Comma P rs p w e w':=by
 have k1:=pblanks_any P w rs p h
 go_enter Tryz.func221,Tryz.ntmps221
 go_wp2_with fail
 refine k1.mono ?_
 rintro e w1 ⟨rfl,hs1,ha1⟩
 have k2:=pneed_any P w1 rs (bl rs p) 44 (by decide) hs1
 clear k1
 go_wp2_with fail
 refine k2.mono ?_
 rintro e w2 ⟨ha2,hn⟩
 clear k2
 rcases hn with ⟨hc,rfl,hs2⟩ | ⟨hc,v,rfl,hv⟩
 ·have HC:Hid (rs[bl rs p]? = some [44]):=hc
  have k3:=pblanks_any P w2 rs (bl rs p + 1) hs2
  clear hc
  go_wp2_with (go_at_call 218;refine k3.mono ?_;rintro e w3 ⟨rfl,hs3,ha3⟩)
  go_ret
  exact ⟨(ha1.trans ha2).trans ha3,.inl ⟨HC.out,rfl,hs3⟩⟩
 ·have HC:Hid (rs[bl rs p]? ≠ some [44]):=hc
  have HV:Hid (Flt w.heap.size w2 v 3 (bl rs p)):=hv.mono ha1.size
  obtain ⟨b,rfl,_⟩:=hv
  clear hc
  go_wp2
  go_ret
  exact ⟨ha1.trans ha2,.inr ⟨HC.out,_,rfl,HV.out⟩⟩
end Go.Proofs.YtaepcfidpekflaaGreatDoor
namespace Go.Proofs.YtaepcfidpekflaaGreatDoor
open Go.RowKit Pg
theorem enc_ascii (b:UInt8) (hb:b.toNat < 128):Utf8.encode (b.toNat:Int) = ⟨#[b]⟩:=by
 have hv:Utf8.valid (b.toNat:Int) = true:=by
  unfold Utf8.valid
  simp
  omega
 unfold Utf8.encode
 simp only [hv,if_true]
 rw [if_pos (by simpa using hb)]
 simp
theorem fold_word:∀ (l:List Pg.T) (s:ByteArray),(∀ c ∈ l,∃ b:UInt8,c = [b] ∧ b.toNat < 128) → (l.map rv).foldl (fun r n=>r ++ Utf8.encode n) s = s ++ ⟨l.flatten.toArray⟩:=by
 intro l
 induction l with
 | nil=>intro s _;simp only [List.map_nil,List.foldl_nil,List.flatten_nil];exact ByteArray.append_empty.symm
 | cons c l ih=>
  intro s h
  obtain ⟨b,rfl,hb⟩:=h c (by simp)
  simp only [List.map_cons,List.foldl_cons]
  rw [ih _ (fun c hc=>h c (by simp [hc])),rv_one hb,enc_ascii b hb,ByteArray.append_assoc]
  congr 1
theorem one1_mem {f:UInt8 → Bool} (hf:∀ b,f b = true → b.toNat < 128) {l:List Pg.T}:∀ c ∈ l.takeWhile (one1 f),∃ b:UInt8,c = [b] ∧ b.toNat < 128:=by
 intro c hc
 have h:=List.all_eq_true.1 (List.all_takeWhile (l:=l) (p:=one1 f)) c hc
 unfold one1 at h
 split at h
 ·rename_i b
  exact ⟨b,rfl,hf b h⟩
 ·cases h
theorem runes_word {l:List Pg.T} (h:∀ c ∈ l,∃ b:UInt8,c = [b] ∧ b.toNat < 128):runesBytes (l.map rv) = ⟨l.flatten.toArray⟩:=by
 unfold runesBytes
 rw [fold_word l _ h]
 simp
theorem conv_word {w:World} {rs:List Pg.T} {p q:Nat} (hp:p ≤ rs.length) (blk c:Nat) (hc:∀ j,j < rs.length → w.cell? ⟨blk,j,none⟩ = some (.int .i32 (rv (rs.getD j [])))) (f:UInt8 → Bool) (hf:∀ b,f b = true → b.toNat < 128) (hq:q = p + ((rs.drop p).takeWhile (one1 f)).length):
  (convert 232 9 (.slice (some ⟨blk,p,none⟩) (q - p) c)).run Tryz.prog w = .ok (.string ⟨((rs.drop p).takeWhile (one1 f)).flatten.toArray⟩) w:=by
 have h1:=tw_le (one1 f) rs p hp
 have e:q - p = ((rs.drop p).takeWhile (one1 f)).length:=by omega
 rw [e,run_convert_runes w 232 9 21 ⟨blk,p,none⟩ _ c (((rs.drop p).takeWhile (one1 f)).map rv) (by simp) Tryz.underlying232 Tryz.underlying21 Tryz.underlying9 ?_]
 ·rw [List.take_of_length_le (by simp),runes_word (one1_mem hf)]
 ·intro j hj
  simp only [List.length_map] at hj
  have:=hc (p + j) (by omega)
  have hg:((rs.drop p).takeWhile (one1 f))[j] = rs[p + j]:=by
   have:=(List.takeWhile_prefix (one1 f) (l:=rs.drop p)).getElem hj
   rw [this,List.getElem_drop]
  have e2:(⟨blk,p,none⟩:Addr).add j = ⟨blk,p + j,none⟩:=by
   unfold Addr.add
   split
   ·rename_i h0;rw [h0];rfl
   ·rfl
  rw [e2,this]
  simp [hj,hg,List.getElem?_eq_getElem (show p + j < rs.length by omega)]
theorem conv_none (w:World) (a:Option Addr) (c:Nat):(convert 232 9 (.slice a 0 c)).run Tryz.prog w = .ok (.string ⟨#[]⟩) w:=by
 cases a with
 | none=>exact run_convert_runes_nil w 232 9 21 0 c Tryz.underlying232 Tryz.underlying21 Tryz.underlying9
 | some a=>exact run_convert_runes w 232 9 21 a 0 c [] (by simp) Tryz.underlying232 Tryz.underlying21 Tryz.underlying9 (fun j hj=>by simp at hj)
set_option maxHeartbeats 1600000 in
theorem pword_any (P:Nat) (w:World) (rs:List Pg.T) (p:Nat) (h:Scn P w rs p):
  Calls Tryz.prog 240 #[.pointer (some ⟨P,0,none⟩)] w fun e w'=>e = .returned (.string ⟨(word rs p).flatten.toArray⟩) ∧ Scn P w' rs (p + (word rs p).length) ∧ Ag P w w':=by
 obtain ⟨hp1,hp2,hp3⟩:=h.pts
 have HP:Hid (Pts rs):=hp1
 have HW:Hid (word rs p = (rs.drop p).takeWhile (one1 isN)):=rfl
 have HS:Hid (Scn P w rs p):=h
 obtain ⟨a,c,q0,f0⟩:=h.rows
 clear h hp1
 go_enter Tryz.func240,Tryz.ntmps240
 go_wp2_with fail
 go_loopw [] (fun wr=>∃ q:Nat,Hid (In1 isN rs p q) ∧ Hid (Scn P wr rs q) ∧ Ag P w wr) (fun wr=>rs.length - posOf wr P)
 case atStart=>exact ⟨p,In1.start _ _ _,HS,Ag.refl _ _⟩
 case round=>
  clear HS q0 f0
  obtain ⟨q,HK,HS,ha⟩:=hrel
  have kp:=peek_any P wr rs q 0 HS.out (by omega)
  rw [Nat.add_zero] at kp
  have bz:=nameZ_at HP.out q
  have hl:=HS.out.pts.2.2
  have hpos:=HS.out.pos
  go_wp2_with fail
  refine kp.mono ?_
  rintro e w1 ⟨rfl,hb1⟩
  have kb:=pisInName_any (pk rs q) w1
  rw [bz] at kb
  generalize pk rs q = K at *
  cases ht:at1 rs q isN with
  | true=>
   rw [ht] at kb
   obtain ⟨hk2,hl2⟩:=HK.out.next ht hp3
   have HK2:Hid (In1 isN rs p (q + 1)):=hk2
   have hs1:=HS.out.then hb1
   obtain ⟨a,c,q1,f1⟩:=hs1.rows
   have hw:IntKind.i64.wrap ((q:Int) + 1) = (q:Int) + 1:=by rw [IntKind.wrap_i64];omega
   obtain ⟨hs2,ha2⟩:=hs1.inc hl2 (ha.then hb1)
   have hpos2:=hs2.pos
   have HS2:Hid (Scn P (w1.setCell ⟨P,1,none⟩ (.int .i64 ((q:Int) + 1))) rs (q + 1)):=hs2
   clear ht kp hs1 hs2 bz HK hk2
   go_wp2_with (go_at_call 259;refine kb.mono ?_;rintro e w2 ⟨rfl,rfl⟩)
   go_roundw
   case rel=>exact ⟨q + 1,HK2,HS2,ha2⟩
   case measure=>rw [hpos2,hpos];omega
  | false=>
   rw [ht] at kb
   have hq:=HK.out.stop ht
   have hs1:=HS.out.then hb1
   have HE:Hid (p + (word rs p).length = q):=hq.symm
   have hpq:p ≤ q:=by omega
   have HS1:Hid (Scn P w1 rs q):=hs1
   obtain ⟨a1,c1,r1,hr,hcc,_⟩:=id hs1
   have q1:=r1.2.1
   have f1:=r1.2.2
   have HA:Hid (Ag P w w1):=ha.then hb1
   by_cases hpc:c1 = p
   ·have hwd:word rs p = []:=by
     apply List.length_eq_zero_iff.1
     have:=HE.out
     have:=hs1.pts.2.2
     omega
    have HWD:Hid (word rs p = []):=hwd
    have hqp:q = p:=by
     have:=HE.out
     rw [hwd] at this
     simpa using this.symm
    subst hqp
    subst hpc
    have cv:=fun n a cc=>conv_none (w1.drewN n) a cc
    clear ht kp bz HK r1 hs1 hq hr hwd hpos
    go_wp2_with (go_at_call 259;refine kb.mono ?_;rintro e w2 ⟨rfl,rfl⟩)
    go_quiet (fail)
    go_wp2
    go_ret
    exact ⟨by rw [HWD.out];rfl,by rw [HE.out];exact HS1.out.then (drewB _ _),HA.out.then (drewB _ _)⟩
   ·rcases hr with ⟨rfl,rfl,rfl⟩ | ⟨blk,rfl,hb2,hb3,hcell⟩
    ·simp at hp3
     omega
    have cv:=fun n cc=>conv_word (w:=w1.drewN n) (rs:=rs) (p:=p) (q:=q) hp3 blk cc (fun j hj=>by have:=hcell j hj;simpa using this) isN isN_lt hq
    have hpc2:(c1 = p) = False:=eq_false hpc
    have hpq2:(p:Int) ≤ q:=by omega
    have hqc:(q:Int) ≤ c1:=by omega
    clear ht kp bz HK hcell r1 hs1 hq
    go_wp2_with (go_at_call 259;refine kb.mono ?_;rintro e w2 ⟨rfl,rfl⟩)
    go_quiet (fail)
    go_wp2
    go_ret
    exact ⟨by rw [HW.out];rfl,by rw [HE.out];exact HS1.out.then (drewB _ _),HA.out.then (drewB _ _)⟩
end Go.Proofs.YtaepcfidpekflaaGreatDoor
namespace Go.Proofs.YtaepcfidpekflaaGreatDoor
open Go.RowKit Pg
theorem flat_len {f:UInt8 → Bool} (hf:∀ b,f b = true → b.toNat < 128) (l:List Pg.T):(l.takeWhile (one1 f)).flatten.length = (l.takeWhile (one1 f)).length:=by
 have h:=one1_mem hf (l:=l)
 generalize l.takeWhile (one1 f) = k at *
 induction k with
 | nil=>rfl
 | cons c k ih=>
  obtain ⟨b,rfl,_⟩:=h c (by simp)
  simp only [List.flatten_cons,List.length_append,List.length_cons,List.length_nil]
  rw [ih (fun c hc=>h c (by simp [hc]))]
  omega
theorem word_len (rs:List Pg.T) (p:Nat):(word rs p).flatten.length = (word rs p).length:=flat_len isN_lt _
def NameSaid (P:Nat) (rs:List Pg.T) (p:Nat) (w:World) (e:Ending) (w':World):Prop:=Ag P w w' ∧ match nameR rs p with
 | .inl a=>∃ v,e = .returned (.tuple #[.string ⟨#[]⟩,v]) ∧ Flt w.heap.size w' v 3 a
 | .inr (n,q)=>e = .returned (.tuple #[.string ⟨n.toArray⟩,.nilIface]) ∧ Scn P w' rs q
theorem NameSaid.bad {P:Nat} {rs:List Pg.T} {p a:Nat} {w w':World} {v:Value} (h:nameR rs p = .inl a) (ha:Ag P w w') (hv:Flt w.heap.size w' v 3 a):NameSaid P rs p w (.returned (.tuple #[.string ⟨#[]⟩,v])) w':=by
 refine ⟨ha,?_⟩
 rw [h]
 exact ⟨v,rfl,hv⟩
theorem NameSaid.ok {P:Nat} {rs:List Pg.T} {p q:Nat} {n:Pg.T} {w w':World} (h:nameR rs p = .inr (n,q)) (ha:Ag P w w') (hs:Scn P w' rs q):NameSaid P rs p w (.returned (.tuple #[.string ⟨n.toArray⟩,.nilIface])) w':=by
 refine ⟨ha,?_⟩
 rw [h]
 exact ⟨rfl,hs⟩
set_option maxHeartbeats 1600000 in
theorem pname_any (P:Nat) (w:World) (rs:List Pg.T) (p:Nat) (h:Scn P w rs p):
  Calls Tryz.prog 219 #[.pointer (some ⟨P,0,none⟩)] w fun e w'=>NameSaid P rs p w e w':=by
 obtain ⟨hp1,hp2,hp3⟩:=h.pts
 have HS:Hid (Scn P w rs p):=h
 have kp:=peek_any P w rs p 0 h (by omega)
 rw [Nat.add_zero] at kp
 have dz:=digZ_at hp1 p
 clear h hp1
 go_enter Tryz.func219,Tryz.ntmps219
 go_wp2_with fail
 refine kp.mono ?_
 rintro e w1 ⟨rfl,hb1⟩
 have kd:=pisDigit_any (pk rs p) w1
 rw [dz] at kd
 have HS1:Hid (Scn P w1 rs p):=HS.out.then hb1
 have ha1:Ag P w w1:=Ag.of hb1 (Nat.le_refl _)
 generalize pk rs p = K at *
 clear kp dz
 cases hd:at1 rs p Pn.isDig with
 | true=>
  rw [hd] at kd
  have HN:Hid (nameR rs p = .inl p):=by show _ = _;unfold nameR;rw [if_pos hd]
  have kw:=pwrong_any P w1 rs p HS1.out
  clear hd
  go_wp2_with (go_at_call 239;refine kd.mono ?_;rintro e w2 ⟨rfl,rfl⟩)
  refine kw.mono ?_
  rintro e w3 ⟨⟨v,rfl,hv⟩,hb3⟩
  go_wp2
  go_ret2
  exact NameSaid.bad HN.out (ha1.then hb3) (hv.mono ha1.size)
 | false=>
  rw [hd] at kd
  have kw:=pword_any P w1 rs p HS1.out
  have wl:=word_len rs p
  obtain ⟨a,c,q1,f1⟩:=HS1.out.rows
  go_wp2_with (go_at_call 239;refine kd.mono ?_;rintro e w2 ⟨rfl,rfl⟩)
  refine kw.mono ?_
  rintro e w3 ⟨rfl,hs3,ha3⟩
  clear kw kd q1 f1
  have HS3:Hid (Scn P w3 rs (p + (word rs p).length)):=hs3
  have ha4:=ha1.trans ha3
  by_cases h0:(word rs p).length = 0
  ·have hw0:(word rs p) = []:=List.length_eq_zero_iff.1 h0
   have HN:Hid (nameR rs p = .inl p):=by show _ = _;unfold nameR;rw [if_neg (by rw [hd];simp),if_pos h0]
   rw [hw0] at hs3
   have kw:=pwrong_any P w3 rs p (by simpa using hs3)
   have hF:((word rs p).flatten == ([]:Pg.T)) = true:=by rw [hw0];rfl
   rw [hw0] at hF
   rw [hw0]
   clear hs3 HS3 h0 hd
   go_wp2_with (go_at_call 161;refine kw.mono ?_;rintro e w5 ⟨⟨v,rfl,hv⟩,hb5⟩)
   go_ret2
   exact NameSaid.bad HN.out (ha4.then hb5) (hv.mono ha4.size)
  ·have hF:((word rs p).flatten == ([]:Pg.T)) = false:=by
    rw [beq_eq_false_iff_ne]
    intro e
    rw [e] at wl
    simp at wl
    omega
   by_cases h16:16 < (word rs p).length
   ·have HN:Hid (nameR rs p = .inl (p + 16)):=by show _ = _;unfold nameR;rw [if_neg (by rw [hd];simp),if_neg h0,if_pos h16]
    have kf:=pfault_any w3 3 (p + 16)
    have hlt:(16:Int) < (word rs p).flatten.length:=by omega
    clear hs3 h0 hd
    generalize (word rs p).flatten = F at *
    go_wp2_with (go_at_call 158;refine kf.mono ?_;rintro e w5 ⟨⟨v,rfl,hv⟩,hb5⟩)
    go_ret2
    exact NameSaid.bad HN.out (ha4.then hb5) (hv.mono ha4.size)
   ·have HN:Hid (nameR rs p = .inr ((word rs p).flatten,p + (word rs p).length)):=by show _ = _;unfold nameR;rw [if_neg (by rw [hd];simp),if_neg h0,if_neg h16]
    have hlt:¬ (16:Int) < (word rs p).flatten.length:=by omega
    clear hs3 h0 hd
    obtain ⟨F,hFF⟩:∃ F,Hid ((word rs p).flatten = F):=⟨_,rfl⟩
    rw [hFF.out] at hF hlt HN ⊢
    go_wp2
    go_ret2
    exact NameSaid.ok HN.out ha4 HS3.out
end Go.Proofs.YtaepcfidpekflaaGreatDoor
