/-
  Several texts in one (Sg, Si, Sj, Sk, Sl). By the verifier.
-/
import Derived.Test.YtaepcfidpekflaaGreatDoorZ11
import Derived.Test.YtaepcfidpekflaaGreatDoorZ19
namespace Go.Proofs.YtaepcfidpekflaaGreatDoor
open Go.RowKit
set_option maxHeartbeats 800000 in
set_option maxRecDepth 100000 in
theorem parts_nil (w:World) (t:Pr.T):Calls Tryz.prog 89 #[.slice none 0 0,.string ⟨t.toArray⟩] w fun e w'=>(∃ v,e = .returned v ∧ RowsW w w' v (Pr.partsAt t [])) ∧ Below w.heap.size w w':=by
 obtain ⟨i0,hi0,hz0,hz1,hz2⟩:=info_parts info_rows
 have HI:Hid (Tryz.prog.info? 35 = some i0 ∧ i0.zero = some (.slice none 0 0) ∧ i0.size = 1 ∧ i0.bytes = 24):=⟨hi0,hz0,hz1,hz2⟩
 clear hi0 hz0 hz1 hz2
 go_enter Tryz.func89,Tryz.ntmps89
 go_wp2_with fail
 refine wp_loop_rounds 2 ?_
 rw [rounds_succ]
 go_wp2_with (at_builtin;refine wpList_append_own _ rfl _ _ 167 rfl w.heap.size 35 i0 (.slice none 0 0) 1 24 Tryz.underlying167 HI.out.1 HI.out.2.1 HI.out.2.2.1 HI.out.2.2.2 rfl (by decide) _ _ _ rfl (World.ownsRow.alloc (World.ownsRow_nil w w.heap.size 35 1) _) ⟨w.heap.size,0,none⟩ 1 1 [.slice none 0 0] rfl rfl ?c1 ?c2 ?c3 ?c4 ?c5 ?_)
 case c1=>
  intro j u hj
  match j,hj with
  | 0,hj=>simp at hj;subst hj;simp [Addr.add]
 case c2=>intro u hu;simp at hu;subst hu;rfl
 case c3=>decide
 case c4=>decide
 case c5=>simp
 ·intro v' w2 hown' hgrow _
  have g2:Below w.heap.size w w2:=((Below.refl w.heap.size w).alloc (Nat.le_refl _) _).grown hgrow (by simp) (fun j hj=>by cases hj)
  have g1:RowsW w w2 v' (Pr.partsAt t []):=⟨[.slice none 0 0],rfl,hown',fun j hj=>by
   have:j = 0:=by simpa [Pr.partsAt] using hj
   subst this
   exact .inl ⟨rfl,rfl⟩⟩
  clear hown' hgrow
  go_wp2_with fail
  rw [rounds_succ]
  go_wp2
  go_ret
  exact ⟨⟨_,rfl,g1⟩,g2⟩
theorem parts_any (w:World) (v:Value) (l:List Pr.T) (t:Pr.T) (hl:l.length ≤ 1000) (h:SlV w v l):Calls Tryz.prog 89 #[v,.string ⟨t.toArray⟩] w fun e w'=>(∃ v',e = .returned v' ∧ RowsW w w' v' (Pr.partsAt t l)) ∧ Below w.heap.size w w':=by
 rcases h with ⟨rfl,rfl⟩ | ⟨blk,off,c,rfl,h2,h3,h4⟩
 ·exact parts_nil w t
 ·exact parts_some w blk off c l t hl h2 h3 h4
def mannerS (t u:Pr.T):Bool × Bool × Bool × Nat:=
 if t = [61] ∨ t = [105,110] then (false,false,false,1)
 else if t = [33,61] then (true,false,false,1)
 else if t = [119,105,116,104,105,110] then (false,true,false,1)
 else if t = [105,115] ∧ u = [110,111,116] then (true,false,true,2)
 else if t = [105,115] then (false,false,true,1)
 else if t = [110,111,116] ∧ u = [105,110] then (true,false,false,2)
 else if t = [110,111,116] ∧ u = [119,105,116,104,105,110] then (true,true,false,2)
 else (false,false,false,0)
set_option maxHeartbeats 1600000 in
theorem manner_two (blk off c:Nat) (t:Pr.T) (r:List Pr.T) (w:World) (h0:w.cell? ⟨blk,off,none⟩ = some (.string ⟨t.toArray⟩)) (u:Pr.T) (h1:w.cell? ⟨blk,off + 1,none⟩ = some (.string ⟨u.toArray⟩)) (hr:1 ≤ r.length) (hl:r.length ≤ 1000):
  Calls Tryz.prog 121 #[.slice (some ⟨blk,off,none⟩) (r.length + 1) c] w fun e w'=>e = .returned (.tuple #[.bool (mannerS t u).1,.bool (mannerS t u).2.1,.bool (mannerS t u).2.2.1,.int .i64 (mannerS t u).2.2.2]) ∧ Below w.heap.size w w':=by
 obtain ⟨R,hR⟩:∃ R,Hid (mannerS t u = R):=⟨_,rfl⟩
 rw [hR.out]
 have hg:(1:Int) < r.length + 1:=by omega
 by_cases e_eqt:t = [61]
 ·have hF:Hid (R = (false,false,false,1)):=by show _ = _;rw [← hR.out];simp [mannerS,e_eqt]
  have b_eqt:(t == [61]) = true:=by rw [e_eqt];rfl
  clear hR e_eqt
  go_enter Tryz.func121,Tryz.ntmps121
  go_wp2
  first
   | (refine bodyPost_ret (v:=.tuple #[.bool false,.bool false,.bool false,.int .i64 1]) (by simp [results,Tryz.results121,go_sem]) rfl ⟨by rw [hF.out];rfl,Below.refl _ _⟩)
 by_cases e_int:t = [105,110]
 ·have hF:Hid (R = (false,false,false,1)):=by show _ = _;rw [← hR.out];simp [mannerS,e_int]
  have b_int:(t == [105,110]) = true:=by rw [e_int];rfl
  have b_eqt:(t == [61]) = false:=by rw [beq_eq_false_iff_ne];exact e_eqt
  clear hR e_eqt e_int
  go_enter Tryz.func121,Tryz.ntmps121
  go_wp2
  first
   | (refine bodyPost_ret (v:=.tuple #[.bool false,.bool false,.bool false,.int .i64 1]) (by simp [results,Tryz.results121,go_sem]) rfl ⟨by rw [hF.out];rfl,Below.refl _ _⟩)
 by_cases e_net:t = [33,61]
 ·have hF:Hid (R = (true,false,false,1)):=by show _ = _;rw [← hR.out];simp [mannerS,e_net]
  have b_net:(t == [33,61]) = true:=by rw [e_net];rfl
  have b_eqt:(t == [61]) = false:=by rw [beq_eq_false_iff_ne];exact e_eqt
  have b_int:(t == [105,110]) = false:=by rw [beq_eq_false_iff_ne];exact e_int
  clear hR e_eqt e_int e_net
  go_enter Tryz.func121,Tryz.ntmps121
  go_wp2
  first
   | (refine bodyPost_ret (v:=.tuple #[.bool true,.bool false,.bool false,.int .i64 1]) (by simp [results,Tryz.results121,go_sem]) rfl ⟨by rw [hF.out];rfl,Below.refl _ _⟩)
 by_cases e_withint:t = [119,105,116,104,105,110]
 ·have hF:Hid (R = (false,true,false,1)):=by show _ = _;rw [← hR.out];simp [mannerS,e_withint]
  have b_withint:(t == [119,105,116,104,105,110]) = true:=by rw [e_withint];rfl
  have b_eqt:(t == [61]) = false:=by rw [beq_eq_false_iff_ne];exact e_eqt
  have b_int:(t == [105,110]) = false:=by rw [beq_eq_false_iff_ne];exact e_int
  have b_net:(t == [33,61]) = false:=by rw [beq_eq_false_iff_ne];exact e_net
  clear hR e_eqt e_int e_net e_withint
  go_enter Tryz.func121,Tryz.ntmps121
  go_wp2
  first
   | (refine bodyPost_ret (v:=.tuple #[.bool false,.bool true,.bool false,.int .i64 1]) (by simp [results,Tryz.results121,go_sem]) rfl ⟨by rw [hF.out];rfl,Below.refl _ _⟩)
 by_cases e_ist:t = [105,115]
 ·by_cases e_notu:u = [110,111,116]
  ·have hF:Hid (R = (true,false,true,2)):=by show _ = _;rw [← hR.out];simp [mannerS,e_ist,e_notu]
   have b_eqt:(t == [61]) = false:=by rw [beq_eq_false_iff_ne];exact e_eqt
   have b_int:(t == [105,110]) = false:=by rw [beq_eq_false_iff_ne];exact e_int
   have b_net:(t == [33,61]) = false:=by rw [beq_eq_false_iff_ne];exact e_net
   have b_withint:(t == [119,105,116,104,105,110]) = false:=by rw [beq_eq_false_iff_ne];exact e_withint
   have b_ist:(t == [105,115]) = true:=by rw [e_ist];rfl
   have b_notu:(u == [110,111,116]) = true:=by rw [e_notu];rfl
   clear hR e_eqt e_int e_net e_withint e_ist e_notu
   go_enter Tryz.func121,Tryz.ntmps121
   go_wp2
   first
    | (refine bodyPost_ret (v:=.tuple #[.bool true,.bool false,.bool true,.int .i64 2]) (by simp [results,Tryz.results121,go_sem]) rfl ⟨by rw [hF.out];rfl,Below.refl _ _⟩)
  ·have hF:Hid (R = (false,false,true,1)):=by show _ = _;rw [← hR.out];simp [mannerS,e_ist,e_notu]
   have b_eqt:(t == [61]) = false:=by rw [beq_eq_false_iff_ne];exact e_eqt
   have b_int:(t == [105,110]) = false:=by rw [beq_eq_false_iff_ne];exact e_int
   have b_net:(t == [33,61]) = false:=by rw [beq_eq_false_iff_ne];exact e_net
   have b_withint:(t == [119,105,116,104,105,110]) = false:=by rw [beq_eq_false_iff_ne];exact e_withint
   have b_ist:(t == [105,115]) = true:=by rw [e_ist];rfl
   have b_notu:(u == [110,111,116]) = false:=by rw [beq_eq_false_iff_ne];exact e_notu
   clear hR e_eqt e_int e_net e_withint e_ist e_notu
   go_enter Tryz.func121,Tryz.ntmps121
   go_wp2
   first
    | (refine bodyPost_ret (v:=.tuple #[.bool false,.bool false,.bool true,.int .i64 1]) (by simp [results,Tryz.results121,go_sem]) rfl ⟨by rw [hF.out];rfl,Below.refl _ _⟩)
 by_cases e_nott:t = [110,111,116]
 ·by_cases e_inu:u = [105,110]
  ·have hF:Hid (R = (true,false,false,2)):=by show _ = _;rw [← hR.out];simp [mannerS,e_nott,e_inu]
   have b_eqt:(t == [61]) = false:=by rw [beq_eq_false_iff_ne];exact e_eqt
   have b_int:(t == [105,110]) = false:=by rw [beq_eq_false_iff_ne];exact e_int
   have b_net:(t == [33,61]) = false:=by rw [beq_eq_false_iff_ne];exact e_net
   have b_withint:(t == [119,105,116,104,105,110]) = false:=by rw [beq_eq_false_iff_ne];exact e_withint
   have b_ist:(t == [105,115]) = false:=by rw [beq_eq_false_iff_ne];exact e_ist
   have b_nott:(t == [110,111,116]) = true:=by rw [e_nott];rfl
   have b_inu:(u == [105,110]) = true:=by rw [e_inu];rfl
   clear hR e_eqt e_int e_net e_withint e_ist e_nott e_inu
   go_enter Tryz.func121,Tryz.ntmps121
   go_wp2
   first
    | (refine bodyPost_ret (v:=.tuple #[.bool true,.bool false,.bool false,.int .i64 2]) (by simp [results,Tryz.results121,go_sem]) rfl ⟨by rw [hF.out];rfl,Below.refl _ _⟩)
  by_cases e_withinu:u = [119,105,116,104,105,110]
  ·have hF:Hid (R = (true,true,false,2)):=by show _ = _;rw [← hR.out];simp [mannerS,e_nott,e_withinu]
   have b_eqt:(t == [61]) = false:=by rw [beq_eq_false_iff_ne];exact e_eqt
   have b_int:(t == [105,110]) = false:=by rw [beq_eq_false_iff_ne];exact e_int
   have b_net:(t == [33,61]) = false:=by rw [beq_eq_false_iff_ne];exact e_net
   have b_withint:(t == [119,105,116,104,105,110]) = false:=by rw [beq_eq_false_iff_ne];exact e_withint
   have b_ist:(t == [105,115]) = false:=by rw [beq_eq_false_iff_ne];exact e_ist
   have b_nott:(t == [110,111,116]) = true:=by rw [e_nott];rfl
   have b_inu:(u == [105,110]) = false:=by rw [beq_eq_false_iff_ne];exact e_inu
   have b_withinu:(u == [119,105,116,104,105,110]) = true:=by rw [e_withinu];rfl
   clear hR e_eqt e_int e_net e_withint e_ist e_nott e_inu e_withinu
   go_enter Tryz.func121,Tryz.ntmps121
   go_wp2
   first
    | (refine bodyPost_ret (v:=.tuple #[.bool true,.bool true,.bool false,.int .i64 2]) (by simp [results,Tryz.results121,go_sem]) rfl ⟨by rw [hF.out];rfl,Below.refl _ _⟩)
  ·have hF:Hid (R = (false,false,false,0)):=by show _ = _;rw [← hR.out];simp [mannerS,e_nott,e_inu,e_withinu]
   have b_eqt:(t == [61]) = false:=by rw [beq_eq_false_iff_ne];exact e_eqt
   have b_int:(t == [105,110]) = false:=by rw [beq_eq_false_iff_ne];exact e_int
   have b_net:(t == [33,61]) = false:=by rw [beq_eq_false_iff_ne];exact e_net
   have b_withint:(t == [119,105,116,104,105,110]) = false:=by rw [beq_eq_false_iff_ne];exact e_withint
   have b_ist:(t == [105,115]) = false:=by rw [beq_eq_false_iff_ne];exact e_ist
   have b_nott:(t == [110,111,116]) = true:=by rw [e_nott];rfl
   have b_inu:(u == [105,110]) = false:=by rw [beq_eq_false_iff_ne];exact e_inu
   have b_withinu:(u == [119,105,116,104,105,110]) = false:=by rw [beq_eq_false_iff_ne];exact e_withinu
   clear hR e_eqt e_int e_net e_withint e_ist e_nott e_inu e_withinu
   go_enter Tryz.func121,Tryz.ntmps121
   go_wp2
   first
    | (refine bodyPost_ret (v:=.tuple #[.bool false,.bool false,.bool false,.int .i64 0]) (by simp [results,Tryz.results121,go_sem]) rfl ⟨by rw [hF.out];rfl,Below.refl _ _⟩)
 have hF:Hid (R = (false,false,false,0)):=by show _ = _;rw [← hR.out];simp [mannerS,e_eqt,e_int,e_net,e_withint,e_ist,e_nott]
 have b_eqt:(t == [61]) = false:=by rw [beq_eq_false_iff_ne];exact e_eqt
 have b_int:(t == [105,110]) = false:=by rw [beq_eq_false_iff_ne];exact e_int
 have b_net:(t == [33,61]) = false:=by rw [beq_eq_false_iff_ne];exact e_net
 have b_withint:(t == [119,105,116,104,105,110]) = false:=by rw [beq_eq_false_iff_ne];exact e_withint
 have b_ist:(t == [105,115]) = false:=by rw [beq_eq_false_iff_ne];exact e_ist
 have b_nott:(t == [110,111,116]) = false:=by rw [beq_eq_false_iff_ne];exact e_nott
 clear hR e_eqt e_int e_net e_withint e_ist e_nott
 go_enter Tryz.func121,Tryz.ntmps121
 go_wp2
 first
  | (refine bodyPost_ret (v:=.tuple #[.bool false,.bool false,.bool false,.int .i64 0]) (by simp [results,Tryz.results121,go_sem]) rfl ⟨by rw [hF.out];rfl,Below.refl _ _⟩)
end Go.Proofs.YtaepcfidpekflaaGreatDoor
namespace Go.Proofs.YtaepcfidpekflaaGreatDoor
open Go.RowKit
def inB (A:Nat) (br wi:Bool) (lo hi:Nat):Bool:=decide (lo ≤ A) && (decide (A < hi) || decide (A = hi) && !br) && (wi || !br)
def itemB (A:Nat) (br wi:Bool):List Pr.T → Option Bool
 | [x]=>match Pr.fig x with
  | none=>none
  | some v=>some (inB A br wi v v)
 | [x,d,y]=>if d = [46,46] then match Pr.fig x,Pr.fig y with
   | some lo,some hi=>if hi < lo then none else some (inB A br wi lo hi)
   | _,_=>none
  else none
 | _=>none
def listGo (A:Nat) (br wi:Bool):Bool → List (List Pr.T) → Bool × Bool
 | b,[]=>(b,true)
 | b,p :: ps=>match itemB A br wi p with
  | none=>(false,false)
  | some c=>listGo A br wi (b || c) ps
def oneBad (one:Bool) (ps:List (List Pr.T)):Bool:=one && (decide (ps.length ≠ 1) || decide ((ps.headD []).length ≠ 1))
def listedS (A:Nat) (br wi one:Bool) (ps:List (List Pr.T)):Bool × Bool:=if oneBad one ps then (false,false) else listGo A br wi false ps
theorem inB_span (o:Pr.Opd) (wi:Bool) (lo hi:Nat) (a b:Pr.T):Pr.inS o wi lo hi a b = inB (o a b).1 (o a b).2 wi lo hi:=by
 unfold Pr.inS inB
 cases wi with
 | true=>simp [Pr.stretchS]
 | false=>
  simp only [Pr.spanS,Bool.false_eq_true,if_false]
  cases (o a b).2 with
  | true=>simp
  | false=>
   simp
   by_cases h1:lo ≤ (o a b).1
   ·simp [h1]
    by_cases h2:(o a b).1 ≤ hi
    ·simp [h2];omega
    ·simp [h2];omega
   ·simp [h1]
theorem item_part (o:Pr.Opd) (wi:Bool) (p:List Pr.T) (a b:Pr.T):(Pr.whole (Pr.itemP o wi) p).map (fun f=>f a b) = itemB (o a b).1 (o a b).2 wi p:=by
 cases p with
 | nil=>rfl
 | cons x p=>
  cases hx:Pr.fig x with
  | none=>
   have h1:Pr.itemP o wi (x :: p) = none:=by simp [Pr.itemP,Pr.valueP,Pr.value,hx]
   rw [Pr.whole,h1]
   match p with
   | []=>simp [itemB,hx]
   | [_]=>rfl
   | [d,y]=>simp [itemB,hx]
   | _ :: _ :: _ :: _=>rfl
  | some lo=>
   match p with
   | []=>simp [Pr.whole,Pr.itemP,Pr.valueP,Pr.value,hx,Pr.itemK,itemB,inB_span o wi lo lo]
   | [d]=>
    by_cases hd:d = [46,46]
    ·subst hd
     simp [Pr.whole,Pr.itemP,Pr.valueP,Pr.value,hx,Pr.itemK,itemB]
    ·simp [Pr.whole,Pr.itemP,Pr.valueP,Pr.value,hx,Pr.itemK,itemB,hd]
   | [d,y]=>
    by_cases hd:d = [46,46]
    ·subst hd
     cases hy:Pr.fig y with
     | none=>simp [Pr.whole,Pr.itemP,Pr.valueP,Pr.value,hx,Pr.itemK,itemB,hy]
     | some hi=>
      by_cases hlt:hi < lo
      ·simp [Pr.whole,Pr.itemP,Pr.valueP,Pr.value,hx,Pr.itemK,itemB,hy,hlt]
      ·simp [Pr.whole,Pr.itemP,Pr.valueP,Pr.value,hx,Pr.itemK,itemB,hy,hlt,inB_span o wi lo hi]
    ·simp [Pr.whole,Pr.itemP,Pr.valueP,Pr.value,hx,Pr.itemK,itemB,hd]
   | d :: y :: z :: r=>
    by_cases hd:d = [46,46]
    ·subst hd
     cases hy:Pr.fig y with
     | none=>simp [Pr.whole,Pr.itemP,Pr.valueP,Pr.value,hx,Pr.itemK,itemB,hy]
     | some hi=>
      by_cases hlt:hi < lo
      ·simp [Pr.whole,Pr.itemP,Pr.valueP,Pr.value,hx,Pr.itemK,itemB,hy,hlt]
      ·simp [Pr.whole,Pr.itemP,Pr.valueP,Pr.value,hx,Pr.itemK,itemB,hy,hlt]
    ·simp [Pr.whole,Pr.itemP,Pr.valueP,Pr.value,hx,Pr.itemK,itemB,hd]
theorem list_go (o:Pr.Opd) (wi:Bool) (a b:Pr.T):∀ (ps:List (List Pr.T)) (f:Pr.Sem),(match Pr.foldFrom (Pr.whole (Pr.itemP o wi)) Pr.orS f ps with
  | none=>(false,false)
  | some g=>(g a b,true)) = listGo (o a b).1 (o a b).2 wi (f a b) ps:=by
 intro ps
 induction ps with
 | nil=>intro f;rfl
 | cons p ps ih=>
  intro f
  have hp:=item_part o wi p a b
  cases hw:Pr.whole (Pr.itemP o wi) p with
  | none=>
   rw [hw] at hp
   simp [Pr.foldFrom,hw,listGo,← hp]
  | some g=>
   rw [hw] at hp
   simp only [Option.map_some] at hp
   simp only [Pr.foldFrom,hw,listGo,← hp]
   exact ih (Pr.orS f g)
theorem list_fold (o:Pr.Opd) (wi:Bool) (a b:Pr.T) (ps:List (List Pr.T)) (hne:ps ≠ []):(match Pr.foldB (Pr.whole (Pr.itemP o wi)) Pr.orS ps with
  | none=>(false,false)
  | some g=>(g a b,true)) = listGo (o a b).1 (o a b).2 wi false ps:=by
 cases ps with
 | nil=>exact absurd rfl hne
 | cons p ps=>
  have hp:=item_part o wi p a b
  cases hw:Pr.whole (Pr.itemP o wi) p with
  | none=>
   rw [hw] at hp
   simp [Pr.foldB,hw,listGo,← hp]
  | some g=>
   rw [hw] at hp
   simp only [Option.map_some] at hp
   simp only [Pr.foldB,hw,listGo,← hp,Bool.false_or]
   exact list_go o wi a b ps g
end Go.Proofs.YtaepcfidpekflaaGreatDoor
namespace Go.Proofs.YtaepcfidpekflaaGreatDoor
open Go.RowKit
def itemT (A:Nat) (br wi:Bool):List Pr.T → Option Bool
 | [x,d,y]=>if d = [46,46] then match Pr.fig x,Pr.fig y with
   | some lo,some hi=>if hi < lo then none else some (inB A br wi lo hi)
   | _,_=>none
  else none
 | _=>none
theorem itemT_one (A:Nat) (br wi:Bool) (x:Pr.T):itemB A br wi [x] = itemT A br wi [x,[46,46],x]:=by
 cases h:Pr.fig x <;> simp [itemB,itemT,h]
theorem itemT_not (A:Nat) (br wi:Bool) (p:List Pr.T) (h:p.length ≠ 1):itemB A br wi p = itemT A br wi p:=by
 match p,h with
 | [],_=>rfl
 | [_,_],_=>rfl
 | [_,_,_],_=>rfl
 | _ :: _ :: _ :: _ :: _,_=>rfl
theorem itemT_len (A:Nat) (br wi:Bool) (p:List Pr.T) (h:p.length ≠ 3):itemT A br wi p = none:=by
 match p,h with
 | [],_=>rfl
 | [_],_=>rfl
 | [_,_],_=>rfl
 | _ :: _ :: _ :: _ :: _,_=>rfl
theorem parts_mem (sep:Pr.T):∀ l:List Pr.T,∀ p ∈ Pr.partsAt sep l,∀ t ∈ p,t ∈ l:=by
 intro l
 induction l with
 | nil=>intro p hp t ht;simp [Pr.partsAt] at hp;subst hp;exact ht
 | cons u l ih=>
  intro p hp t ht
  simp only [Pr.partsAt] at hp
  split at hp
  ·rcases List.mem_cons.1 hp with rfl | hp
   ·cases ht
   ·exact List.mem_cons_of_mem _ (ih p hp t ht)
  ·split at hp
   ·rename_i p0 ps0 heq
    rcases List.mem_cons.1 hp with rfl | hp
    ·rcases List.mem_cons.1 ht with rfl | ht
     ·exact List.mem_cons_self
     ·exact List.mem_cons_of_mem _ (ih p0 (by rw [heq];exact List.mem_cons_self) t ht)
    ·exact List.mem_cons_of_mem _ (ih p (by rw [heq];exact List.mem_cons_of_mem _ hp) t ht)
   ·simp at hp
    subst hp
    simp at ht
    subst ht
    exact List.mem_cons_self
theorem three_slv (w:World) (t:Pr.T):SlV (w.alloc (.cells #[.string ⟨t.toArray⟩,.string ⟨#[46,46]⟩,.string ⟨t.toArray⟩] 9)).drew (.slice (some ⟨w.heap.size,0,none⟩) 3 3) [t,[46,46],t]:=by
 refine .inr ⟨w.heap.size,0,3,rfl,Nat.le_refl _,by simp [World.drew],fun j hj=>?_⟩
 have h:=(row_at w #[.string ⟨t.toArray⟩,.string ⟨#[46,46]⟩,.string ⟨t.toArray⟩] 9)
 match j,hj with
 | 0,_=>exact h.2.1 0
 | 1,_=>exact h.2.1 1
 | 2,_=>exact h.2.1 2
theorem three_len {t:Pr.T} (h:t.length ≤ 1000):∀ u ∈ [t,[46,46],t],u.length ≤ 1000:=by
 intro u hu
 simp at hu
 rcases hu with rfl | rfl | rfl
 ·exact h
 ·decide
 ·exact h
theorem cmp3 (x y:Nat):(cmpV x y = -1 ∧ x < y) ∨ (cmpV x y = 0 ∧ x = y) ∨ (cmpV x y = 1 ∧ y < x):=by
 unfold cmpV
 by_cases h:x < y
 ·exact .inl ⟨by simp [h],h⟩
 ·by_cases h2:x = y
  ·exact .inr (.inl ⟨by simp [h2],h2⟩)
  ·exact .inr (.inr ⟨by simp [h,h2],by omega⟩)
theorem ne_one (n:Nat):((n:Int) != 1) = !(n == 1):=by
 by_cases h:n = 1
 ·subst h;rfl
 ·have h1:((n:Int) != 1) = true:=by rw [bne_iff_ne];omega
  have h2:(n == 1) = false:=by rw [beq_eq_false_iff_ne];exact h
  rw [h1,h2];rfl
theorem SlV.form {w:World} {v:Value} {l:List Pr.T} (h:SlV w v l):∃ a c,v = .slice a l.length c:=by
 rcases h with ⟨rfl,rfl⟩ | ⟨blk,off,c,rfl,_⟩
 ·exact ⟨none,0,rfl⟩
 ·exact ⟨_,c,rfl⟩
set_option maxHeartbeats 3200000 in
set_option maxRecDepth 100000 in
theorem listed_any (w:World) (v:Value) (l:List Pr.T) (a f:Pr.T) (wi one:Bool) (hl:l.length ≤ 1000) (hs:∀ t ∈ l,t.length ≤ 1000) (hv:SlV w v l) (ha:Canon a) (hf:f.length ≤ 1000):
  Calls Tryz.prog 122 #[v,.string ⟨a.toArray⟩,.string ⟨f.toArray⟩,.bool wi,.bool one] w fun e w'=>e = .returned (.tuple #[.bool (listedS (Pr.val a) (!Pn.zeroB f) wi one (Pr.partsAt [44] l)).1,.bool (listedS (Pr.val a) (!Pn.zeroB f) wi one (Pr.partsAt [44] l)).2]) ∧ Below w.heap.size w w':=by
 obtain ⟨S,hS⟩:∃ S,Hid (listedS (Pr.val a) (!Pn.zeroB f) wi one (Pr.partsAt [44] l) = S):=⟨_,rfl⟩
 rw [hS.out]
 have cp:=parts_any w v l [44] hl hv
 have hne:=Pr.parts_ne [44] l
 have hpm:Hid (∀ p ∈ Pr.partsAt [44] l,∀ t ∈ p,t.length ≤ 1000):=fun p hp t ht=>hs t (parts_mem [44] l p hp t ht)
 generalize Pr.partsAt [44] l = ps at *
 go_enter Tryz.func122,Tryz.ntmps122
 go_wp2_with fail
 refine cp.mono ?_
 rintro e w1 ⟨⟨va,rfl,vs,hvl,hown,hsl⟩,hb1⟩
 clear cp
 have hlt:=World.ownsRow.lt hown
 have hown2:=hown
 rcases hown.2 with ⟨rfl,h0⟩ | ⟨g,cap,cur,rfl,hgc⟩
 ·exact absurd (List.length_eq_zero_iff.1 h0) hne
 have hrc:Hid (∀ j,j < ps.length → w1.cell? ⟨g,j,none⟩ = vs[j]?):=fun j hj=>hown2.cellAt j (by omega)
 have hcm:ps.length ≤ maxLen:=Nat.le_trans hgc.2.2.1 hgc.2.2.2.1
 unfold maxLen at hcm
 clear hown hown2 hgc
 go_upto_region 2 with fail
 go_cut [38] (fun t wc=>t = .bool (oneBad one ps) ∧ wc = w1)
 case first=>
  have hp0:0 < ps.length:=List.length_pos_iff.2 hne
  cases one with
  | false=>
   go_wp2_with fail
   go_meet
   case rel=>exact ⟨rfl,rfl⟩
  | true=>
   by_cases h1:ps.length = 1
   ·have hs0:=hsl 0 hp0
    have hc0:=hrc.out 0 hp0
    obtain ⟨x0,hx0⟩:∃ x0,vs[0]? = some x0:=⟨_,List.getElem?_eq_getElem (by omega)⟩
    have hgd:vs.getD 0 undef = x0:=by simp [hx0]
    rw [hgd] at hs0
    rw [hx0] at hc0
    have hR:Hid (oneBad true ps = !((ps.getD 0 []).length == 1)):=by
     show _ = _
     obtain ⟨p,rfl⟩:=List.length_eq_one_iff.1 h1
     by_cases e:p.length = 1 <;> simp [oneBad,e]
    obtain ⟨xa,xc,rfl⟩:=hs0.form
    have hg:((ps.length:Int) != 1) = false:=by rw [h1];rfl
    clear hs0 hsl hgd hx0
    go_wp2_with fail
    go_meet
    case rel=>exact ⟨by rw [hR.out,show ps.getD 0 [] = ps[0] by simp [List.getD_eq_getElem?_getD,hp0]];exact congrArg _ (ne_one _),rfl⟩
   ·have hR:Hid (oneBad true ps = true):=by
     show _ = _
     simp [oneBad,h1]
    have hg:((ps.length:Int) != 1) = true:=by
     rw [bne_iff_ne];omega
    go_wp2_with fail
    go_meet
    case rel=>exact ⟨by rw [hR.out],rfl⟩
 case rest=>
  obtain ⟨rfl,rfl⟩:=hcut
  cases hob:oneBad one ps with
  | true=>
   have hF:Hid (S = (false,false)):=by show _ = _;rw [← hS.out];simp [listedS,hob]
   clear hS hsl hob
   go_wp2_with fail
   go_ret2
   exact ⟨by rw [hF.out];rfl,hb1⟩
  | false=>
   have HS2:Hid (listGo (Pr.val a) (!Pn.zeroB f) wi false ps = S):=by show _ = _;rw [← hS.out];simp [listedS,hob]
   have HSl:Hid (∀ j,j < ps.length → SlV w (vs.getD j undef) (ps.getD j [])):=hsl
   clear hS hsl hob
   have cn:=fun W=>nought_any ⟨f.toArray⟩ W (by show f.toArray.size ≤ _;simp;omega)
   simp only [] at cn
   generalize Pn.zeroB f = br at *
   go_wp2_with (go_at_call 51;refine (cn _).mono ?_;rintro e w2 ⟨rfl,rfl⟩)
   go_loopg [13,15] ps.length (fun n x i wr=>∃ (k:Nat) (b:Bool),n + k = ps.length ∧ x = .bool b ∧ i = .int .i64 k ∧ Below w2.heap.size w2 wr ∧ Hid (listGo (Pr.val a) (!br) wi b (ps.drop k) = S))
   case atStart=>exact ⟨0,false,rfl,rfl,rfl,Below.refl _ _,HS2⟩
   case round=>
    obtain ⟨k,b,hnk,rfl,rfl,hbw,HS⟩:=hrel
    by_cases hk:k < ps.length
    ·have hk':(k:Int) < ps.length:=by omega
     have hgl:g < w2.heap.size:=(hlt g rfl).2
     obtain ⟨x,hx⟩:∃ x,vs[k]? = some x:=⟨_,List.getElem?_eq_getElem (by omega)⟩
     have hcx:wr.cell? ⟨g,k,none⟩ = some x:=((hbw.cell (p:=⟨g,k,none⟩) hgl).trans (hrc.out k hk)).trans hx
     have hsx:SlV wr x (ps.getD k []):=by
      have h:=HSl.out k hk
      rw [show vs.getD k undef = x by simp [hx]] at h
      exact h.keep (below_of hb1 hbw)
     have HS3:Hid ((match itemB (Pr.val a) (!br) wi (ps.getD k []) with
       | none=>(false,false)
       | some c=>listGo (Pr.val a) (!br) wi (b || c) (ps.drop (k + 1))) = S):=by
      show _ = _
      rw [← HS.out,List.drop_eq_getElem_cons hk,show ps.getD k [] = ps[k] by simp [List.getD_eq_getElem?_getD,hk]]
      rfl
     have hpl:∀ t ∈ ps.getD k [],t.length ≤ 1000:=by
      rw [show ps.getD k [] = ps[k] by simp [List.getD_eq_getElem?_getD,hk]]
      exact hpm.out _ (List.getElem_mem hk)
     clear HS HS2
     generalize ps.getD k [] = p at *
     have HX:Hid (SlV wr x p):=hsx
     obtain ⟨xa,xc,hxe⟩:=hsx.form
     subst hxe
     clear hsx hx
     have HPl:Hid (∀ t ∈ p,t.length ≤ 1000):=hpl
     clear hpl
     go_upto_if 54 with fail
     go_cut [16] (fun r wd=>∃ q:List Pr.T,SlV wd r q ∧ itemB (Pr.val a) (!br) wi p = itemT (Pr.val a) (!br) wi q ∧ Below wr.heap.size wr wd ∧ ∀ t ∈ q,t.length ≤ 1000)
     case first=>
      by_cases h1:p.length = 1
      ·obtain ⟨t,rfl⟩:=List.length_eq_one_iff.1 h1
       rcases HX.out with ⟨_,h⟩ | ⟨blk,off,c,hre,hc,hbl,hcell⟩
       ·cases h
       ·have c0:=hcell 0 (by simp)
        simp only [Nat.add_zero,strV,List.getD_cons_zero] at c0
        cases hre
        have HZ:Hid (1 ≤ xc ∧ blk < wr.heap.size):=⟨hc,hbl⟩
        clear hcell HX h1 hc hbl
        go_wp2
        go_region_with (fail)
        all_goals go_wp2
        all_goals go_meet
        all_goals exact ⟨_,three_slv wr t,itemT_one _ _ _ _,((Below.refl _ _).alloc (Nat.le_refl _) _).drew,three_len (HPl.out t (by simp))⟩
      ·have h1':((p.length:Int) == 1) = false:=by rw [beq_eq_false_iff_ne];omega
       go_wp2
       go_meet
       case rel=>exact ⟨p,HX,itemT_not _ _ _ _ h1,Below.refl _ _,HPl⟩
     case rest=>
      obtain ⟨q,hq,hit,hbd,hql⟩:=hcut
      have HS4:Hid ((match itemT (Pr.val a) (!br) wi q with
       | none=>(false,false)
       | some c=>listGo (Pr.val a) (!br) wi (b || c) (ps.drop (k + 1))) = S):=by
       show _ = _
       rw [← HS3.out,hit]
      clear hit HS3 HX HPl
      have HQl:Hid (∀ t ∈ q,t.length ≤ 1000):=hql
      clear hql
      by_cases hq3:q.length = 3
      ·obtain ⟨x,d,y,rfl⟩:∃ x d y,q = [x,d,y]:=by
        match q,hq3 with
        | [x,d,y],_=>exact ⟨x,d,y,rfl⟩
       rcases hq with ⟨_,h⟩ | ⟨blk,off,c,hre,hc,hbl,hcell⟩
       ·cases h
       ·have c0:=hcell 0 (by simp)
        have c1:=hcell 1 (by simp)
        have c2:=hcell 2 (by simp)
        simp only [Nat.add_zero,strV,List.getD_cons_zero,List.getD_cons_succ] at c0 c1 c2
        subst hre
        have hlx:x.length ≤ 1000:=HQl.out x (by simp)
        have hly:y.length ≤ 1000:=HQl.out y (by simp)
        clear hcell HQl hc hq3
        by_cases hd:d = [46,46]
        ·subst hd
         go_wp2_with fail
         refine (figure_any x hlx _).mono ?_
         rintro e w3 ⟨rfl,hb3⟩
         have d2:=(hb3.cell (p:=⟨blk,off + 2,none⟩) hbl).trans c2
         clear c0 c1 c2
         go_wp2_with fail
         refine (figure_any y hly _).mono ?_
         rintro e w4 ⟨rfl,hb4⟩
         have hB:Below w.heap.size w w4:=below_of (below_of hb1 (below_of hbw hbd)) (below_of hb3 hb4)
         have hB2:Below w2.heap.size w2 w4:=below_of (below_of hbw hbd) (below_of hb3 hb4)
         clear hb3 hb4 d2
         cases hfx:Pr.fig x with
         | none=>
          have hF:Hid (S = (false,false)):=by
           show _ = _
           rw [← HS4.out]
           simp [itemT,hfx]
          clear HS4 hfx
          go_wp2
          go_ret2
          exact ⟨by rw [hF.out];rfl,hB⟩
         | some lo=>
          cases hfy:Pr.fig y with
          | none=>
           have hF:Hid (S = (false,false)):=by
            show _ = _
            rw [← HS4.out]
            simp [itemT,hfx,hfy]
           clear HS4 hfx hfy
           go_wp2
           go_ret2
           exact ⟨by rw [hF.out];rfl,hB⟩
          | some hi=>
           obtain ⟨kx,vx⟩:=canon_fig hfx
           obtain ⟨ky,vy⟩:=canon_fig hfy
           have e1:=fun W=>compared_any x y kx ky W
           have e2:=fun W=>compared_any a x ha kx W
           have e3:=fun W=>compared_any a y ha ky W
           rw [vx,vy] at e1
           rw [vx] at e2
           rw [vy] at e3
           by_cases hlt2:hi < lo
           ·have hF:Hid (S = (false,false)):=by
             show _ = _
             rw [← HS4.out]
             simp [itemT,hfx,hfy,hlt2]
            have hr:cmpV lo hi = 1:=by unfold cmpV;rw [if_neg (by omega),if_neg (by omega)]
            rw [hr] at e1
            clear HS4 hfx hfy e2 e3
            go_wp2_with (go_at_call 153;refine (e1 _).mono ?_;rintro e w5 ⟨rfl,rfl⟩)
            go_ret2
            exact ⟨by rw [hF.out];rfl,hB⟩
           ·have HS5:Hid (listGo (Pr.val a) (!br) wi (b || inB (Pr.val a) (!br) wi lo hi) (ps.drop (k + 1)) = S):=by
             show _ = _
             rw [← HS4.out]
             simp [itemT,hfx,hfy,hlt2]
            have hr:¬ 0 < cmpV lo hi:=by
             rcases cmp3 lo hi with h | h | h <;> omega
            generalize cmpV lo hi = r at e1 hr
            have hw1:IntKind.i64.wrap ((k:Int) + 1) = k + 1:=by rw [IntKind.wrap_i64];omega
            clear HS4 hfx hfy
            go_wp2_with fail
            refine (e1 _).mono ?_
            rintro e w5 ⟨rfl,rfl⟩
            clear e1
            go_wp2_with fail
            refine (e2 _).mono ?_
            rintro e w6 ⟨rfl,rfl⟩
            clear e2
            go_wp2_with fail
            refine (e3 _).mono ?_
            rintro e w7 ⟨rfl,rfl⟩
            clear e3
            go_upto_region 23 with fail
            go_cut [122] (fun t we=>t = .bool (inB (Pr.val a) (!br) wi lo hi) ∧ Below w2.heap.size w2 we ∧ Below w.heap.size w we)
            case first=>
             clear HS5 hr hw1 hlt2 kx ky vx vy HSl hrc
             have g0:=cmp3 (Pr.val a) lo
             have g1:=cmp3 (Pr.val a) hi
             generalize cmpV (Pr.val a) lo = c0 at *
             generalize cmpV (Pr.val a) hi = c1 at *
             clear hbl hbd hbw hcx hlt hb1 hpm cn
             rcases g0 with ⟨rfl,q0⟩ | g0
             ·have hI:Hid (inB (Pr.val a) (!br) wi lo hi = false):=by
               show _ = _
               unfold inB
               rw [decide_eq_false (by omega:¬ lo ≤ Pr.val a)]
               rfl
              clear q0 g1
              go_wp2
              go_meet
              case rel=>exact ⟨by rw [hI.out],hB2,hB⟩
             ·have hc0:(0:Int) ≤ c0:=by rcases g0 with h | h <;> omega
              have q0:lo ≤ Pr.val a:=by rcases g0 with h | h <;> omega
              have hI:Hid (inB (Pr.val a) (!br) wi lo hi = ((decide (c1 < 0) || (c1 == 0) && br) && (wi || br))):=by
               show _ = _
               unfold inB
               rw [decide_eq_true q0]
               rcases g1 with ⟨rfl,q1⟩ | ⟨rfl,q1⟩ | ⟨rfl,q1⟩
               ·simp [q1]
               ·rw [q1];simp
               ·rw [decide_eq_false (by omega:¬ Pr.val a < hi),decide_eq_false (by omega:¬ Pr.val a = hi)]
                simp
              have g2:c1 = -1 ∨ c1 = 0 ∨ c1 = 1:=by rcases g1 with h | h | h <;> simp [h.1]
              clear g0 q0 g1
              rcases g2 with rfl | rfl | rfl <;> cases br <;> cases wi
              all_goals go_wp2
              all_goals go_meet
              all_goals exact ⟨by rw [hI.out];rfl,hB2,hB⟩
            case rest=>
             obtain ⟨rfl,hB3,hB4⟩:=hcut
             clear hB hB2 hr hlt2 kx ky vx vy HSl hrc hbl hbd hbw hcx hlt hb1 hpm cn
             generalize inB (Pr.val a) (!br) wi lo hi = I at *
             generalize cmpV (Pr.val a) lo = c0 at *
             generalize cmpV (Pr.val a) hi = c1 at *
             cases I with
             | true=>
              rw [Bool.or_true] at HS5
              go_wp2
              go_roundg (gk - 1)
              case measure=>omega
              case rel=>exact ⟨k + 1,true,by omega,rfl,by simp,hB3,HS5⟩
             | false=>
              rw [Bool.or_false] at HS5
              go_wp2
              go_roundg (gk - 1)
              case measure=>omega
              case rel=>exact ⟨k + 1,b,by omega,rfl,by simp,hB3,HS5⟩
        ·have hF:Hid (S = (false,false)):=by
          show _ = _
          rw [← HS4.out]
          simp [itemT,hd]
         have hd':(d == [46,46]) = false:=by rw [beq_eq_false_iff_ne];exact hd
         clear HS4 hd
         go_wp2
         go_ret2
         exact ⟨by rw [hF.out];rfl,below_of hb1 (below_of hbw hbd)⟩
      ·have hF:Hid (S = (false,false)):=by
        show _ = _
        rw [← HS4.out,itemT_len _ _ _ _ hq3]
       obtain ⟨ra,rc,hre⟩:=hq.form
       subst hre
       have h3:((q.length:Int) != 3) = true:=by rw [bne_iff_ne];omega
       clear HS4 hq hq3
       go_wp2
       go_ret2
       exact ⟨by rw [hF.out];rfl,below_of hb1 (below_of hbw hbd)⟩
    ·have hk':¬ (k:Int) < ps.length:=by omega
     have hF:Hid (S = (b,true)):=by show _ = _;rw [← HS.out,List.drop_eq_nil_of_le (by omega)];rfl
     clear HS HS2
     go_wp2
     go_ret2
     exact ⟨by rw [hF.out];rfl,below_of hb1 hbw⟩
end Go.Proofs.YtaepcfidpekflaaGreatDoor
namespace Go.Proofs.YtaepcfidpekflaaGreatDoor
open Go.RowKit
def optB (r:Bool × Bool):Option Bool:=if r.2 then some r.1 else none
theorem list_s (o:Pr.Opd) (n wi:Bool) (l:List Pr.T) (a b:Pr.T):(Pr.whole (Pr.listP o n wi) l).map (fun g=>g a b) = optB ((listedS (o a b).1 (o a b).2 wi false (Pr.partsAt [44] l)).1 != n,(listedS (o a b).1 (o a b).2 wi false (Pr.partsAt [44] l)).2):=by
 have hf:=list_fold o wi a b (Pr.partsAt [44] l) (Pr.parts_ne [44] l)
 have hb:oneBad false (Pr.partsAt [44] l) = false:=rfl
 simp only [listedS,hb,Bool.false_eq_true,if_false]
 rw [← hf,Pr.list_parts]
 cases Pr.foldB (Pr.whole (Pr.itemP o wi)) Pr.orS (Pr.partsAt [44] l) with
 | none=>rfl
 | some g=>rfl
theorem parts_one (sep:Pr.T) (l p:List Pr.T) (h:Pr.partsAt sep l = [p]):p = l:=by
 obtain ⟨q,rest,_,hl,h1 | h1⟩:=Pr.parts_split sep l
 ·obtain ⟨hr,hp⟩:=h1
  rw [hp] at h
  simp at h
  rw [hl,hr,← h];simp
 ·obtain ⟨r',_,hp⟩:=h1
  rw [hp] at h
  simp at h
  exact absurd h.2 (Pr.parts_ne sep r')
theorem is_s (o:Pr.Opd) (n:Bool) (l:List Pr.T) (a b:Pr.T):(Pr.whole (Pr.isP o n) l).map (fun g=>g a b) = optB ((listedS (o a b).1 (o a b).2 false true (Pr.partsAt [44] l)).1 != n,(listedS (o a b).1 (o a b).2 false true (Pr.partsAt [44] l)).2):=by
 by_cases hl:l.length = 1
 ·obtain ⟨v,rfl⟩:=List.length_eq_one_iff.1 hl
  by_cases hv:v = [44]
  ·subst hv;rfl
  ·have hp:Pr.partsAt [44] [v] = [[v]]:=by simp [Pr.partsAt,hv]
   rw [hp]
   cases hf:Pr.fig v with
   | none=>simp [Pr.whole,Pr.isP,Pr.valueP,Pr.value,hf,listedS,oneBad,listGo,itemB,optB]
   | some x=>
    have hs:=inB_span o false x x a b
    simp only [Pr.inS,Bool.false_eq_true,if_false] at hs
    simp [Pr.whole,Pr.isP,Pr.valueP,Pr.value,hf,listedS,oneBad,listGo,itemB,optB,Pr.turnS,hs]
 ·have hb:oneBad true (Pr.partsAt [44] l) = true:=by
   by_cases h1:(Pr.partsAt [44] l).length = 1
   ·obtain ⟨p,hp⟩:=List.length_eq_one_iff.1 h1
    have:=parts_one _ _ _ hp
    subst this
    rw [hp]
    simp [oneBad,hl]
   ·simp [oneBad,h1]
  simp only [listedS,hb,if_true,optB,Bool.false_eq_true,if_false]
  match l,hl with
  | [],_=>rfl
  | v :: x :: r,_=>
   cases hf:Pr.fig v with
   | none=>simp [Pr.whole,Pr.isP,Pr.valueP,Pr.value,hf]
   | some y=>simp [Pr.whole,Pr.isP,Pr.valueP,Pr.value,hf]
def howS (A:Nat) (br:Bool) (t u:Pr.T) (l:List Pr.T):Bool × Bool:=
 if (mannerS t u).2.2.2 = 0 then (false,false)
 else ((listedS A br (mannerS t u).2.1 (mannerS t u).2.2.1 (Pr.partsAt [44] ((t :: u :: l).drop (mannerS t u).2.2.2))).1 != (mannerS t u).1,
  (listedS A br (mannerS t u).2.1 (mannerS t u).2.2.1 (Pr.partsAt [44] ((t :: u :: l).drop (mannerS t u).2.2.2))).2)
theorem how_s (o:Pr.Opd) (t u:Pr.T) (l:List Pr.T) (a b:Pr.T):(Pr.whole (Pr.howP o) (t :: u :: l)).map (fun g=>g a b) = optB (howS (o a b).1 (o a b).2 t u l):=by
 have eqL:∀ (n wi:Bool) (r:List Pr.T),Pr.howP o (t :: u :: l) = Pr.listP o n wi r → Pr.whole (Pr.howP o) (t :: u :: l) = Pr.whole (Pr.listP o n wi) r:=fun n wi r h=>by unfold Pr.whole;rw [h]
 have eqI:∀ (n:Bool) (r:List Pr.T),Pr.howP o (t :: u :: l) = Pr.isP o n r → Pr.whole (Pr.howP o) (t :: u :: l) = Pr.whole (Pr.isP o n) r:=fun n r h=>by unfold Pr.whole;rw [h]
 have eqN:Pr.howP o (t :: u :: l) = none → Pr.whole (Pr.howP o) (t :: u :: l) = none:=fun h=>by unfold Pr.whole;rw [h]
 by_cases e1:t = [61]
 ·rw [eqL false false (u :: l) (by simp [Pr.howP,e1]),list_s]
  simp [howS,mannerS,e1]
 by_cases e2:t = [105,110]
 ·rw [eqL false false (u :: l) (by simp [Pr.howP,Pr.inN,e2]),list_s]
  simp [howS,mannerS,e2]
 by_cases e3:t = [33,61]
 ·rw [eqL true false (u :: l) (by simp [Pr.howP,e3]),list_s]
  simp [howS,mannerS,e3]
 by_cases e4:t = [119,105,116,104,105,110]
 ·rw [eqL false true (u :: l) (by simp [Pr.howP,Pr.inN,e4]),list_s]
  simp [howS,mannerS,e4]
 by_cases e5:t = [105,115]
 ·by_cases e6:u = [110,111,116]
  ·rw [eqI true l (by simp [Pr.howP,Pr.isN,e5,e6]),is_s]
   simp [howS,mannerS,e5,e6]
  ·rw [eqI false (u :: l) (by simp [Pr.howP,Pr.isN,e5,e6]),is_s]
   simp [howS,mannerS,e5,e6]
 by_cases e7:t = [110,111,116]
 ·by_cases e8:u = [105,110]
  ·rw [eqL true false l (by simp [Pr.howP,Pr.inN,e7,e8]),list_s]
   simp [howS,mannerS,e7,e8]
  by_cases e9:u = [119,105,116,104,105,110]
  ·rw [eqL true true l (by simp [Pr.howP,Pr.inN,e7,e9]),list_s]
   simp [howS,mannerS,e7,e9]
  ·rw [eqN (by simp [Pr.howP,Pr.inN,e7,e8,e9])]
   simp [howS,mannerS,e7,e8,e9,optB]
 ·rw [eqN (by simp [Pr.howP,Pr.inN,e1,e2,e3,e4,e5,e7])]
  simp [howS,mannerS,e1,e2,e3,e4,e5,e7,optB]
end Go.Proofs.YtaepcfidpekflaaGreatDoor
namespace Go.Proofs.YtaepcfidpekflaaGreatDoor
open Go.RowKit
theorem short_zero (b:Pr.T):(Pr.shortR b).isEmpty = Pn.zeroB b:=by
 unfold Pr.shortR Pn.zeroB
 rw [List.isEmpty_reverse]
 have h:∀ l:Pr.T,(l.dropWhile (· == 48)).isEmpty = l.all (· == 48):=by
  intro l
  induction l with
  | nil=>rfl
  | cons c l ih=>
   by_cases hc:c = 48
   ·subst hc
    rw [List.dropWhile_cons_of_pos (by rfl),ih];rfl
   ·rw [List.dropWhile_cons_of_neg (by simpa using hc)];simp [hc]
 rw [h,List.all_reverse]
theorem opd_link {t:Pr.T} {o:Pr.Opd} (h:Pr.opd t = some o) (a b:Pr.T) (ha:Canon a) (hb:Digs b):(o a b).1 = Pr.val (opA t a b) ∧ (o a b).2 = (!Pn.zeroB (opF t b)) ∧ Canon (opA t a b):=by
 have hsd:=short_digs b hb
 have hl:=hb.2
 have hl2:=hsd.2
 unfold Pr.opd at h
 unfold opA opF
 by_cases e1:t = [110]
 ·rw [if_pos e1] at h
  cases h
  rw [if_pos e1,if_pos e1]
  exact ⟨rfl,by rw [← short_zero],ha⟩
 rw [if_neg e1] at h ⊢
 rw [if_neg e1]
 by_cases e2:t = [105]
 ·rw [if_pos e2] at h
  cases h
  rw [if_pos e2]
  exact ⟨rfl,rfl,ha⟩
 rw [if_neg e2] at h ⊢
 by_cases e3:t = [118]
 ·rw [if_pos e3] at h
  cases h
  rw [if_pos e3]
  exact ⟨(dec_val _).1.symm,rfl,canon_dec _ (by omega)⟩
 rw [if_neg e3] at h ⊢
 by_cases e4:t = [119]
 ·rw [if_pos e4] at h
  cases h
  rw [if_pos e4]
  exact ⟨(dec_val _).1.symm,rfl,canon_dec _ (by omega)⟩
 rw [if_neg e4] at h ⊢
 by_cases e5:t = [102]
 ·rw [if_pos e5] at h
  cases h
  rw [if_pos e5]
  exact ⟨(canon_plain b hb.1).2.symm,rfl,(canon_plain b hb.1).1⟩
 rw [if_neg e5] at h ⊢
 by_cases e6:t = [116]
 ·rw [if_pos e6] at h
  cases h
  rw [if_pos e6]
  exact ⟨(canon_plain _ hsd.1).2.symm,rfl,(canon_plain _ hsd.1).1⟩
 rw [if_neg e6] at h
 cases h
def relS (a b:Pr.T):List Pr.T → Bool × Bool
 | t :: u :: v :: r=>if opOk t = false then (false,false)
  else if u = [109,111,100] ∨ u = [37] then match Pr.fig v,r with
   | some m,t' :: u' :: r'=>if m = 0 then (false,false) else howS (Pr.val (opA t a b) % m) (!Pn.zeroB (opF t b)) t' u' r'
   | _,_=>(false,false)
  else howS (Pr.val (opA t a b)) (!Pn.zeroB (opF t b)) u v r
 | _=>(false,false)
theorem how_one (o:Pr.Opd) (t:Pr.T):Pr.howP o [t] = none:=by
 have hL:∀ n wi,Pr.listP o n wi [] = none:=fun _ _=>rfl
 unfold Pr.howP
 simp only [hL]
 split
 ·rfl
 split
 ·rfl
 split
 ·rfl
 split
 ·rfl
 ·simp only [Pr.inN,hL]
  split
  ·rfl
  split <;> rfl
theorem rel_s (l:List Pr.T) (a b:Pr.T) (ha:Canon a) (hb:Digs b):(Pr.whole Pr.relP l).map (fun g=>g a b) = optB (relS a b l):=by
 cases l with
 | nil=>rfl
 | cons t l=>
  cases ho:Pr.opd t with
  | none=>
   have h1:Pr.whole Pr.relP (t :: l) = none:=by simp [Pr.whole,Pr.relP,ho]
   rw [h1]
   match l with
   | []=>rfl
   | [_]=>rfl
   | u :: v :: r=>simp [relS,opOk,ho,optB]
  | some o=>
   obtain ⟨hv,hf,_⟩:=opd_link ho a b ha hb
   have hw:Pr.whole Pr.relP (t :: l) = Pr.whole (Pr.modP o) l:=by simp [Pr.whole,Pr.relP,ho]
   rw [hw]
   clear hw
   match l with
   | []=>rfl
   | [u]=>
    have h1:Pr.modP o [u] = none:=by
     by_cases hm:u = [109,111,100] ∨ u = [37]
     ·simp only [Pr.modP,if_pos hm];rfl
     ·simp only [Pr.modP,if_neg hm];exact how_one o u
    simp [Pr.whole,h1,relS,optB]
   | u :: v :: r=>
    by_cases hm:u = [109,111,100] ∨ u = [37]
    ·have hr:relS a b (t :: u :: v :: r) = match Pr.fig v,r with
       | some m,t' :: u' :: r'=>if m = 0 then (false,false) else howS (Pr.val (opA t a b) % m) (!Pn.zeroB (opF t b)) t' u' r'
       | _,_=>(false,false):=by simp only [relS,opOk,ho,if_pos hm];rfl
     rw [hr]
     cases hg:Pr.fig v with
     | none=>
      have h1:Pr.modP o (u :: v :: r) = none:=by simp only [Pr.modP,if_pos hm,Pr.valueP,Pr.value,hg]
      simp [Pr.whole,h1,optB]
     | some m=>
      have h1:Pr.modP o (u :: v :: r) = if m = 0 then none else Pr.howP (Pr.modS o m) r:=by simp only [Pr.modP,if_pos hm,Pr.valueP,Pr.value,hg]
      by_cases hm0:m = 0
      ·rw [if_pos hm0] at h1
       have:Pr.whole (Pr.modP o) (u :: v :: r) = none:=by simp [Pr.whole,h1]
       rw [this]
       match r with
       | []=>rfl
       | [_]=>rfl
       | _ :: _ :: _=>simp [hm0,optB]
      ·rw [if_neg hm0] at h1
       have:Pr.whole (Pr.modP o) (u :: v :: r) = Pr.whole (Pr.howP (Pr.modS o m)) r:=by simp [Pr.whole,h1]
       rw [this]
       match r with
       | []=>rfl
       | [x]=>simp [Pr.whole,how_one,optB]
       | t' :: u' :: r'=>
        rw [how_s]
        simp only [Pr.modS,hv,hf,if_neg hm0]
    ·have h1:Pr.whole (Pr.modP o) (u :: v :: r) = Pr.whole (Pr.howP o) (u :: v :: r):=by simp only [Pr.whole,Pr.modP,if_neg hm]
     rw [h1,how_s,hv,hf]
     have hr:relS a b (t :: u :: v :: r) = howS (Pr.val (opA t a b)) (!Pn.zeroB (opF t b)) u v r:=by simp only [relS,opOk,ho,if_neg hm];rfl
     rw [hr]
end Go.Proofs.YtaepcfidpekflaaGreatDoor
