/-
  Several texts in one (Sx, Sy, Kl, Km, Ss, Kn). By the verifier.
-/
import Derived.Test.YtaepcfidpekflaaGreatDoorZ45
import Derived.Test.YtaepcfidpekflaaGreatDoorZ11
import Derived.Test.YtaepcfidpekflaaGreatDoorZ10
import Derived.Test.YtaepcfidpekflaaGreatDoorZ22
import Derived.Test.YtaepcfidpekflaaGreatDoorZ13
namespace Go.Proofs.YtaepcfidpekflaaGreatDoor
open Go.RowKit
theorem catB_mem (n:Pr.T):n ∈ cats.take 5 ↔ Pr.catB n = true:=by
 unfold cats Pr.catB
 simp
set_option maxHeartbeats 800000 in
theorem rule_any (w:World) (s:Pr.T) (hs:s.length ≤ 1000000):Calls Tryz.prog 59 #[.string ⟨s.toArray⟩] w fun e w'=>e = .returned (.bool (Pr.whenP s).isSome) ∧ Below w.heap.size w w':=by
 have hh:=fun W=>rholds_any W s false [48] [] hs ⟨by simp,by decide,.inl rfl⟩ ⟨by decide,by decide⟩ ⟨by simp,by simp⟩
 rw [holds_ok] at hh
 generalize (holdsS [48] [] s).1 = X at *
 generalize (Pr.whenP s).isSome = Y at *
 go_enter Tryz.func59,Tryz.ntmps59
 go_wp2_with (go_at_call 60;refine (hh _).mono ?_;rintro e w1 ⟨rfl,hb1⟩)
 go_ret
 exact ⟨rfl,hb1⟩
end Go.Proofs.YtaepcfidpekflaaGreatDoor
namespace Go.Proofs.YtaepcfidpekflaaGreatDoor
open Go.RowKit
theorem ruled_bad (ps:List Pr.T) (n s:Pr.T) (r:List (Pr.T × Pr.T)) (h:¬ n ∈ cats.take 5 ∨ n ∈ ps ∨ (Pr.whenP s).isSome = false):(Pr.rulesP ps ((n,s) :: r)).isSome = false:=by
 rw [Pr.rulesP]
 split
 ·rfl
 ·rename_i hn
  rcases h with h | h | h
  ·rw [catB_mem] at h
   exact absurd (.inr (by simpa using h)) hn
  ·exact absurd (.inl h) hn
  ·cases hw:Pr.whenP s with
   | none=>rfl
   | some f=>rw [hw] at h;cases h
theorem ruled_good (ps:List Pr.T) (n s:Pr.T) (r:List (Pr.T × Pr.T)) (h1:n ∈ cats.take 5) (h2:¬ n ∈ ps) (h3:(Pr.whenP s).isSome = true):(Pr.rulesP ps ((n,s) :: r)).isSome = (Pr.rulesP (ps ++ [n]) r).isSome:=by
 rw [catB_mem] at h1
 rw [Pr.rulesP,if_neg (by rintro (h | h);(exact h2 h);(rw [h1] at h;cases h))]
 cases hw:Pr.whenP s with
 | none=>rw [hw] at h3;cases h3
 | some f=>
  simp only
  cases Pr.rulesP (ps ++ [n]) r <;> rfl
set_option maxHeartbeats 3200000 in
set_option maxRecDepth 100000 in
theorem ruled_some (w:World) (blk off c:Nat) (l:List (Pr.T × Pr.T)) (hl:l.length ≤ 100000) (hsm:∀ q ∈ l,q.1.length < 1000000 ∧ q.2.length < 1000000) (hbl:blk < w.heap.size)
  (hcell:∀ j,j < l.length → w.cell? ⟨blk,off + j * 2,none⟩ = some (strV (l.getD j ([],[])).1) ∧ w.cell? ⟨blk,off + j * 2 + 1,none⟩ = some (strV (l.getD j ([],[])).2)):
  Calls Tryz.prog 33 #[.slice (some ⟨blk,off,none⟩) l.length c] w fun e w'=>e = .returned (.bool (Pr.rulesP [] l).isSome) ∧ Below w.heap.size w w':=by
 obtain ⟨i0,hi0,hz0,hz1,hz2⟩:=info_parts info_strQ
 have HI:Hid (Tryz.prog.info? 9 = some i0 ∧ i0.zero = some (.string ⟨#[]⟩) ∧ i0.size = 1 ∧ i0.bytes = 16):=⟨hi0,hz0,hz1,hz2⟩
 have HC:Hid (∀ j,j < l.length → w.cell? ⟨blk,off + j * 2,none⟩ = some (strV (l.getD j ([],[])).1) ∧ w.cell? ⟨blk,off + j * 2 + 1,none⟩ = some (strV (l.getD j ([],[])).2)):=hcell
 have HM:Hid (∀ q ∈ l,q.1.length < 1000000 ∧ q.2.length < 1000000):=hsm
 obtain ⟨S,hS⟩:∃ S,Hid ((Pr.rulesP [] l).isSome = S):=⟨_,rfl⟩
 rw [hS.out]
 clear hi0 hz0 hz1 hz2 hcell hsm
 go_enter Tryz.func33,Tryz.ntmps33
 go_wp2_with fail
 refine (categories_any w).mono ?_
 rintro e w1 ⟨rfl,hb1,hlt1,hcat⟩
 have HK:Hid (SlV w1 (.slice (some ⟨w.heap.size,0,none⟩) 5 6) (cats.take 5)):=by
  refine .inr ⟨w.heap.size,0,6,rfl,by decide,hlt1,fun j hj=>?_⟩
  have hj5:j < 5:=hj
  rw [Nat.zero_add,hcat j (by omega)]
  match j,hj5 with
  | 0,_=>rfl
  | 1,_=>rfl
  | 2,_=>rfl
  | 3,_=>rfl
  | 4,_=>rfl
 clear hcat
 go_wp2_with fail
 go_loopw [3,5] (fun v i wr=>∃ (k:Nat) (ps:List Pr.T),k ≤ l.length ∧ i = .int .i64 k ∧ ps.length ≤ k ∧ Parts wr w1.heap.size v ps ∧ Below w1.heap.size w1 wr ∧ Hid ((Pr.rulesP ps (l.drop k)).isSome = S)) (fun _ i _=>l.length - (intOf i).toNat)
 case atStart=>exact ⟨0,[],Nat.zero_le _,rfl,Nat.le_refl _,World.ownsRow_nil _ _ _ _,Below.refl _ _,hS⟩
 case round=>
  obtain ⟨k,ps,hk,rfl,hpk,hown,hbw,HR⟩:=hrel
  clear hS
  by_cases hlt:k < l.length
  ·have hlt':(k:Int) < l.length:=by omega
   have hbwl:Below w.heap.size w wr:=below_of hb1 hbw
   obtain ⟨d0,d1⟩:=HC.out k hlt
   obtain ⟨m0,m1⟩:=HM.out (l.getD k ([],[])) (by rw [List.getD_eq_getElem?_getD,List.getElem?_eq_getElem hlt];exact List.getElem_mem hlt)
   have HG:Hid ((Pr.rulesP ps (((l.getD k ([],[])).1,(l.getD k ([],[])).2) :: l.drop (k + 1))).isSome = S):=by
    show _ = _
    rw [← HR.out,List.drop_eq_getElem_cons hlt,show l.getD k ([],[]) = l[k] by simp [List.getD_eq_getElem?_getD,List.getElem?_eq_getElem hlt]]
   unfold strV at d0 d1
   generalize (l.getD k ([],[])).1 = n at *
   generalize (l.getD k ([],[])).2 = s at *
   have c0:wr.cell? ⟨blk,off + k * 2,none⟩ = some (.string ⟨n.toArray⟩):=(hbwl.cell (p:=⟨blk,off + k * 2,none⟩) hbl).trans d0
   have c1:wr.cell? ⟨blk,off + k * 2 + 1,none⟩ = some (.string ⟨s.toArray⟩):=(hbwl.cell (p:=⟨blk,off + k * 2 + 1,none⟩) hbl).trans d1
   have p1:=place_any wr _ (cats.take 5) n (by decide) (HK.out.keep hbw)
   have p2:=place_any wr _ ps n (by omega) (parts_slv hown)
   have rl:=rule_any wr s (by omega)
   have hw1:IntKind.i64.wrap ((k:Int) + 1) = k + 1:=by rw [IntKind.wrap_i64];omega
   clear d0 d1 HR m0
   generalize hWh:(Pr.whenP s).isSome = ok at *
   go_wp2_with fail
   refine p1.mono ?_
   rintro e w2 ⟨⟨k1,rfl,hk1⟩,rfl⟩
   clear p1
   go_wp2_with fail
   refine p2.mono ?_
   rintro e w3 ⟨⟨k2,rfl,hk2⟩,rfl⟩
   clear p2
   by_cases hm1:n ∈ cats.take 5
   ·have y1:¬ k1 < 0:=by have:=hk1.2 hm1;omega
    by_cases hm2:n ∈ ps
    ·have y2:0 ≤ k2:=hk2.2 hm2
     have hF:Hid (S = false):=by show _ = _;rw [← HG.out];exact ruled_bad ps n s _ (.inr (.inl hm2))
     clear HG hk1 hk2 hm1 hm2 hWh
     go_wp2_with (go_at_call 59;refine rl.mono ?_;rintro e w4 ⟨rfl,hb4⟩)
     go_ret
     exact ⟨by rw [hF.out];rfl,below_of hbwl hb4⟩
    ·have y2:¬ 0 ≤ k2:=fun h=>hm2 (hk2.1 h)
     cases ok with
     | false=>
      have hF:Hid (S = false):=by show _ = _;rw [← HG.out];exact ruled_bad ps n s _ (.inr (.inr hWh))
      clear HG hk1 hk2 hm1 hm2 hWh
      go_wp2_with (go_at_call 59;refine rl.mono ?_;rintro e w4 ⟨rfl,hb4⟩)
      go_ret
      exact ⟨by rw [hF.out];rfl,below_of hbwl hb4⟩
     | true=>
      have HG2:Hid ((Pr.rulesP (ps ++ [n]) (l.drop (k + 1))).isSome = S):=by show _ = _;rw [← HG.out];exact (ruled_good ps n s _ hm1 hm2 hWh).symm
      clear HG hk1 hk2 hm1 hm2 hWh
      go_wp2_with fail
      refine rl.mono ?_
      rintro e w4 ⟨rfl,hb4⟩
      have hown4:=hown.keep hb4
      have hB4:=below_of hbw hb4
      clear rl hown hb4
      go_wp2_with (first
       | (at_builtin;refine wpList_append_own _ rfl _ _ 35 rfl w1.heap.size 9 i0 (.string ⟨#[]⟩) 1 16 Tryz.underlying35 HI.out.1 HI.out.2.1 HI.out.2.2.1 HI.out.2.2.2 rfl (by decide) _ _ _ rfl (World.ownsRow.alloc hown4 _) ⟨w4.heap.size,0,none⟩ 1 1 [strV n] rfl rfl ?c1 ?c2 ?c3 ?c4 ?c5 ?_)
       | go_in)
      case c1=>
       intro j u hj
       match j,hj with
       | 0,hj=>simp at hj;subst hj;simp [Addr.add,strV]
      case c2=>intro u hu;simp at hu;subst hu;rfl
      case c3=>unfold maxLen;omega
      case c4=>omega
      case c5=>have:=hB4.size;simp;omega
      ·intro v' w5 hown' hgrow _
       obtain ⟨g1,g2⟩:=parts_grow hown4 hB4 (by have:=hB4.size;omega) hown' hgrow
       clear hown' hgrow hown4
       go_wp2
       go_roundw
       case rel=>exact ⟨k + 1,ps ++ [n],by omega,by go_num,by simp;omega,g1,g2,HG2⟩
       case measure=>simp [intOf] <;> omega
   ·have y1:k1 < 0:=by
     rcases Int.lt_or_le k1 0 with h | h
     ·exact h
     ·exact absurd (hk1.1 h) hm1
    have hF:Hid (S = false):=by show _ = _;rw [← HG.out];exact ruled_bad ps n s _ (.inl hm1)
    clear HG hk1 hk2 hm1 hWh
    go_wp2_with (go_at_call 59;refine rl.mono ?_;rintro e w4 ⟨rfl,hb4⟩)
    go_ret
    exact ⟨by rw [hF.out];rfl,below_of hbwl hb4⟩
  ·have hlt':¬ (k:Int) < l.length:=by omega
   have hF:Hid (S = true):=by show _ = _;rw [← HR.out,List.drop_eq_nil_of_le (by omega)];rfl
   clear HR
   go_wp2
   go_ret
   exact ⟨by rw [hF.out];rfl,below_of hb1 hbw⟩
set_option maxHeartbeats 800000 in
theorem ruled_nil (w:World) (a:Option Addr) (c:Nat):Calls Tryz.prog 33 #[.slice a 0 c] w fun e w'=>e = .returned (.bool true) ∧ Below w.heap.size w w':=by
 go_enter Tryz.func33,Tryz.ntmps33
 go_wp2_with fail
 refine (categories_any w).mono ?_
 rintro e w1 ⟨rfl,hb1,hlt1,hcat⟩
 clear hcat
 go_wp2_with fail
 refine wp_loop_rounds 1 ?_
 rw [rounds_succ]
 go_wp2
 go_ret
 exact ⟨rfl,hb1⟩
theorem ruled_any (w:World) (a:Option Addr) (c:Nat) (l:List (Pr.T × Pr.T)) (hR:RulesIn w a l):Calls Tryz.prog 33 #[.slice a l.length c] w fun e w'=>e = .returned (.bool (Pr.rulesP [] l).isSome) ∧ Below w.heap.size w w':=by
 rcases hR.at_ with rfl | ⟨blk,off,rfl,h2,h3⟩
 ·exact ruled_nil w a c
 ·exact ruled_some w blk off c l hR.len hR.small h2 h3
end Go.Proofs.YtaepcfidpekflaaGreatDoor
namespace Go.Proofs.YtaepcfidpekflaaGreatDoor
open Go.RowKit
variable {ms:List (Nat × Array Value)}
theorem name_i (s:Pr.T) (x:Dk.Sc) (hi:x.i ≤ s.length):(x.name s).i ≤ s.length ∧ (x.name s).opens = x.opens ∧ (x.name s).out = x.out:=by
 have h:=(named_le (s.drop x.i)).1
 simp only [List.length_drop] at h
 unfold Dk.Sc.name Dk.Sc.go Dk.Sc.fault
 split
 ·split <;> exact ⟨by simp only;omega,rfl,rfl⟩
 ·exact ⟨by simp only;omega,rfl,rfl⟩
theorem whole_i (s:Pr.T) (x:Dk.Sc) (hi:x.i ≤ s.length):(x.whole s).i ≤ s.length ∧ (x.whole s).opens = x.opens ∧ (x.whole s).out = x.out:=by
 have h:=(whole_le (s.drop x.i)).1
 simp only [List.length_drop] at h
 unfold Dk.Sc.whole Dk.Sc.go Dk.Sc.fault
 split
 ·split <;> exact ⟨by simp only;omega,rfl,rfl⟩
 ·exact ⟨by simp only;omega,rfl,rfl⟩
theorem blanks_i (s:Pr.T) (x:Dk.Sc) (hi:x.i ≤ s.length):(x.blanks s).i ≤ s.length ∧ (x.blanks s).opens = x.opens ∧ (x.blanks s).out = x.out:=by
 have h:((s.drop x.i).takeWhile Dk.isBlk).length ≤ (s.drop x.i).length:=(List.takeWhile_prefix _).length_le
 simp only [List.length_drop] at h
 exact ⟨by simp only [Dk.Sc.blanks,Dk.Sc.go];omega,rfl,rfl⟩
theorem fault_i (x:Dk.Sc) (e p:Nat):(x.fault e p).i = x.i ∧ (x.fault e p).opens = x.opens ∧ (x.fault e p).out = x.out:=by
 unfold Dk.Sc.fault
 split <;> exact ⟨rfl,rfl,rfl⟩
theorem needs_i (s:Pr.T) (x:Dk.Sc) (c:UInt8) (hi:x.i ≤ s.length):(x.needs s c).i ≤ s.length ∧ (x.needs s c).opens = x.opens ∧ (x.needs s c).out = x.out:=by
 unfold Dk.Sc.needs
 split
 ·rename_i h
  have:x.i < s.length:=by
   rcases Nat.lt_or_ge x.i s.length with h' | h'
   ·exact h'
   ·rw [List.getElem?_eq_none h'] at h;cases h
  exact ⟨by simp only [Dk.Sc.go];omega,rfl,rfl⟩
 ·obtain ⟨a,b,c⟩:=fault_i x 3 x.i
  exact ⟨by rw [a];exact hi,b,c⟩
theorem isCat_mem (t:Pr.T):t ∈ cats ↔ Dk.isCat t = true:=by
 unfold cats Dk.isCat Pr.catB
 simp [or_assoc]
theorem ScanAt.cells {w:World} {B b:Nat} {s:Pr.T} {x:Dk.Sc} (h:ScanAt ms w B b s x):∃ a1 n1 c1 a2 c2,(∀ j,w.cell? ⟨b,j,none⟩ = #[.string ⟨s.toArray⟩,.int .i64 x.i,.slice a1 n1 c1,.slice a2 x.opens.length c2,.int .i64 x.err,.int .i64 x.place][j]?) ∧ ∀ j,w.frozen? ⟨b,j,none⟩ = false:=by
 obtain ⟨ov,pv,h1,_,h3,h4,_⟩:=h
 obtain ⟨a1,n1,c1,rfl⟩:=owns_form h3
 have:∃ a2 c2,pv = .slice a2 x.opens.length c2:=by
  rcases h4.2 with ⟨rfl,hz⟩ | ⟨g,cap,cur,rfl,_⟩
  ·exact ⟨none,0,by rw [hz]⟩
  ·exact ⟨_,_,rfl⟩
 obtain ⟨a2,c2,rfl⟩:=this
 exact ⟨a1,n1,c1,a2,c2,h1.2.1,h1.2.2⟩
def brCells (t:Pr.T) (i:Nat):Array Value:=#[.int .u8 91,.string ⟨t.toArray⟩,.string ⟨#[]⟩,.string ⟨#[]⟩,.string ⟨#[]⟩,.int .i64 i]
def BrCut (w wd:World) (B b:Nat) (s:Pr.T) (x:Dk.Sc) (num:Bool) (Y:Dk.Sc):Prop:=∃ (y:Dk.Sc) (t:Pr.T),ScanAt [(w.heap.size,brCells t x.i)] wd B b s y ∧ Below B w wd ∧ y.i ≤ s.length ∧ y.opens = x.opens ∧ y.out = x.out ∧ y.opened s num { kind:=91,text:=t,at_:=x.i } = Y
set_option maxHeartbeats 6400000 in
set_option maxRecDepth 100000 in
theorem kbranch_go (w:World) (B b:Nat) (s:Pr.T) (x:Dk.Sc) (num:Bool) (hx:ScanAt [] w B b s x) (hs:s.length ≤ 100000) (hi:x.i ≤ s.length) (ho:x.out.length ≤ 100000) (hop:x.opens.length ≤ 100000) (he:x.err = 0):
  Calls Tryz.prog 175 #[.pointer (some ⟨b,0,none⟩),.bool num] w fun en w'=>en = .returned (.tuple #[]) ∧ ScanAt [] w' B b s (x.branch s num) ∧ Below B w w':=by
 have hB:=hx.base
 obtain ⟨Y,hY⟩:∃ Y,Hid (x.branch s num = Y):=⟨_,rfl⟩
 rw [hY.out]
 have hx1:=hx.box (brCells [] x.i) 130
 have hw1:=(Below.refl w.heap.size w).alloc (Nat.le_refl _) (.cells (brCells [] x.i) 130)
 obtain ⟨a1,n1,c1,a2,c2,q0,_⟩:=hx.cells
 have he':((x.err:Int) != 0) = false:=by rw [he];rfl
 obtain ⟨E,hE⟩:∃ E:Bool,Hid ((num && (s[x.i]? == some 61)) = E):=⟨_,rfl⟩
 have HY1:Hid (E = true → ((x.go 1).whole s).opened s num { kind:=91,text:=61 :: (x.go 1).wholeT s,at_:=x.i } = Y):=fun h=>by
  rw [h] at hE
  have:=hE.out
  rw [Bool.and_eq_true,beq_iff_eq] at this
  rw [← hY.out,Dk.Sc.branch,if_neg (by simp [he]),if_pos this]
 have HY2:Hid (E = false → (if num = true ∧ Dk.isCat (x.nameT s) = false then (x.name s).fault 3 x.i else x.name s).opened s num { kind:=91,text:=x.nameT s,at_:=x.i } = Y):=fun h=>by
  rw [h] at hE
  have:=hE.out
  have hneg:¬ (num = true ∧ s[x.i]? = some 61):=fun e=>by
   rw [e.1,e.2] at this
   exact absurd this (by decide)
  rw [← hY.out]
  unfold Dk.Sc.branch
  rw [if_neg (show ¬ x.err ≠ 0 by simp [he]),if_neg hneg]
 have HX1:Hid (ScanAt [(w.heap.size,brCells [] x.i)] (w.alloc (.cells (brCells [] x.i) 130)) B b s x):=hx1
 clear hx hx1 hY
 go_enter Tryz.func175,Tryz.ntmps175
 go_upto_region 2 with fail
 go_cut [42] (fun z wd=>z = .bool E ∧ Below w.heap.size w wd ∧ ScanAt [(w.heap.size,brCells [] x.i)] wd B b s x)
 case first=>
  have HF:Hid (∀ n,Below w.heap.size w ((w.alloc (.cells (brCells [] x.i) 130)).drewN n) ∧ ScanAt [(w.heap.size,brCells [] x.i)] ((w.alloc (.cells (brCells [] x.i) 130)).drewN n) B b s x):=fun n=>⟨below_of hw1 (drewB _ _),HX1.out.keep (drewB _ _)⟩
  obtain ⟨a3,n3,c3,a4,c4,qA,_⟩:=HX1.out.cells
  clear HY1 HY2 HX1 hw1 q0
  unfold brCells at qA HF
  cases num with
  | false=>
   have hF:Hid (E = false):=hE.out.symm
   clear hE
   go_wp2
   go_quiet (fail)
   go_wp2
   go_meet
   case rel=>exact ⟨by rw [hF.out],(HF.out _).1,(HF.out _).2⟩
  | true=>
   cases hd:s.drop x.i with
   | nil=>
    have hge:s.length ≤ x.i:=List.drop_eq_nil_iff.1 hd
    have hkn:¬ x.i < s.length:=by omega
    have hk':((x.i:Int) < s.length) = False:=eq_false (by omega)
    have hF:Hid (E = false):=by show _ = _;rw [← hE.out,List.getElem?_eq_none hge];rfl
    clear hE hd
    go_wp2
    go_quiet (fail)
    go_wp2
    go_meet
    case rel=>exact ⟨by rw [hF.out],(HF.out _).1,(HF.out _).2⟩
   | cons c r=>
    obtain ⟨hkl,_,hgc⟩:=at_drop hd
    have hkl':(x.i:Int) < s.length:=by omega
    have hg:s[x.i]? = some c:=by
     have:=congrArg List.head? hd
     rw [List.head?_drop] at this
     simpa using this
    by_cases hc:c = 61
    ·have hc':((c.toNat:Int) == 61) = true:=by rw [hc];rfl
     have hF:Hid (E = true):=by show _ = _;rw [← hE.out,hg,hc];rfl
     clear hE hd hg hc
     go_wp2
     go_quiet (fail)
     go_wp2
     go_meet
     case rel=>exact ⟨by rw [hF.out],(HF.out _).1,(HF.out _).2⟩
    ·have hc':((c.toNat:Int) == 61) = false:=byte_ne (n:=61) (by decide) hc
     have hF:Hid (E = false):=by show _ = _;rw [← hE.out,hg];simpa using hc
     clear hE hd hg hc
     go_wp2
     go_quiet (fail)
     go_wp2
     go_meet
     case rel=>exact ⟨by rw [hF.out],(HF.out _).1,(HF.out _).2⟩
 case rest=>
  obtain ⟨rfl,hbc,hx2⟩:=hcut
  clear HX1 q0
  go_upto_if 42 with fail
  go_cut [4] (fun p wd=>p = .pointer (some ⟨w.heap.size,0,none⟩) ∧ BrCut w wd B b s x num Y)
  case first=>
   obtain ⟨a5,n5,c5,a6,c6,q5,f5⟩:=hx2.cells
   cases E with
   | true=>
    have hlt:x.i < s.length:=by
     have:=hE.out
     rw [Bool.and_eq_true,beq_iff_eq] at this
     rcases Nat.lt_or_ge x.i s.length with h' | h'
     ·exact h'
     ·rw [List.getElem?_eq_none h'] at this;exact absurd this.2 (by simp)
    have hYe:=HY1.out rfl
    have hx3:=hx2.setI (x.i + 1)
    have hb3:Below B w (wc.setCell ⟨b,1,none⟩ (.int .i64 ((x.i + 1:Nat):Int))):=(hbc.mono (by omega)).setCell (p:=⟨b,1,none⟩) hB.1 _
    have kw:=kwhole_any (ms:=[(w.heap.size,brCells [] x.i)]) _ B b s (x.go 1) hx3 (by omega) (by show x.i + 1 ≤ _;omega)
    have hw1:IntKind.i64.wrap ((x.i:Int) + 1) = ((x.i + 1:Nat):Int):=by rw [IntKind.wrap_i64];omega
    obtain ⟨wi1,wi2,wi3⟩:=whole_i s (x.go 1) (by show x.i + 1 ≤ _;omega)
    have HYe:Hid (((x.go 1).whole s).opened s num { kind:=91,text:=61 :: (x.go 1).wholeT s,at_:=x.i } = Y):=hYe
    clear HY1 HY2 hE hYe hx2 hx3
    have hTl:((x.go 1).wholeT s).length ≤ 9:=by
     have:=(whole_le (s.drop (x.go 1).i)).2
     simp only [Dk.Sc.wholeT,Dk.Sc.next,List.length_take]
     omega
    generalize (x.go 1).wholeT s = T at *
    have hcat:(⟨#[61]⟩:ByteArray) ++ ⟨T.toArray⟩ = ⟨(61 :: T).toArray⟩:=by apply ByteArray.ext;simp
    go_wp2_with fail
    refine kw.mono ?_
    rintro e w4 ⟨rfl,hs4,hb4⟩
    clear kw q5 f5
    have r4:=hs4.rowOf
    have m4:=r4.2.1
    have g4:=r4.2.2
    have HB:Hid (BrCut w ((w4.setCell ⟨w.heap.size,1,none⟩ (.string ⟨T.toArray⟩)).setCell ⟨w.heap.size,1,none⟩ (.string ⟨(61 :: T).toArray⟩)) B b s x num Y):=by
     refine ⟨(x.go 1).whole s,61 :: T,?_,?_,wi1,wi2,wi3,HYe.out⟩
     ·have:=(hs4.setBox 1 (.string ⟨T.toArray⟩) (by simp [brCells])).setBox 1 (.string ⟨(61 :: T).toArray⟩) (by simp [brCells])
      simpa [brCells] using this
     ·exact ((hb3.trans hb4).setCell (p:=⟨w.heap.size,1,none⟩) (by have:=hB.2;show B ≤ w.heap.size;omega) _).setCell (p:=⟨w.heap.size,1,none⟩) (by have:=hB.2;show B ≤ w.heap.size;omega) _
    clear r4 hs4 hb4 hb3 HYe wi1 wi2 wi3
    unfold brCells at m4
    go_wp2
    go_meet
    case rel=>exact ⟨rfl,HB.out⟩
   | false=>
    have hYe:=HY2.out rfl
    have kn:=kname_any (ms:=[(w.heap.size,brCells [] x.i)]) _ B b s x hx2 (by omega) hi
    obtain ⟨wi1,wi2,wi3⟩:=name_i s x hi
    have hTl:(x.nameT s).length ≤ 16:=by
     have:=(named_le (s.drop x.i)).2
     simp only [Dk.Sc.nameT,Dk.Sc.next,List.length_take]
     omega
    have HYe:Hid ((if num = true ∧ Dk.isCat (x.nameT s) = false then (x.name s).fault 3 x.i else x.name s).opened s num { kind:=91,text:=x.nameT s,at_:=x.i } = Y):=hYe
    clear HY1 HY2 hE hYe hx2
    generalize x.nameT s = T at *
    go_wp2_with fail
    refine kn.mono ?_
    rintro e w4 ⟨rfl,hs4,hb4⟩
    clear kn q5 f5
    have hb4':Below B w w4:=(hbc.mono (by omega)).trans hb4
    have r4:=hs4.rowOf
    have m4:=r4.2.1
    have g4:=r4.2.2
    have hs5:=hs4.setBox 1 (.string ⟨T.toArray⟩) (by simp [brCells])
    have hb5:Below B w (w4.setCell ⟨w.heap.size,1,none⟩ (.string ⟨T.toArray⟩)):=hb4'.setCell (p:=⟨w.heap.size,1,none⟩) (by have:=hB.2;show B ≤ w.heap.size;omega) _
    clear r4 hs4 hb4 hb4'
    unfold brCells at m4 hs5
    simp only [Array.setIfInBounds,List.size_toArray,List.length_cons,List.length_nil] at hs5
    go_wp2_with fail
    refine (categories_any _).mono ?_
    rintro e w6 ⟨rfl,hb6,hlt6,hcat6⟩
    clear m4 g4
    have hs6:=hs5.keep hb6
    have hz6:=hs5.base.2
    have hb7:Below B w w6:=hb5.trans (hb6.mono (by have:=hs5.base;omega))
    have r6:=hs6.rowOf
    have m6:=r6.2.1
    have hsz:(w4.setCell ⟨w.heap.size,1,none⟩ (.string ⟨T.toArray⟩)).heap.size = w4.heap.size:=by simp
    rw [hsz] at hlt6 hcat6
    have pl:=place_any w6 (.slice (some ⟨w4.heap.size,0,none⟩) 6 6) cats T (by decide) (.inr ⟨_,0,6,rfl,by decide,hlt6,fun j hj=>by rw [Nat.zero_add];exact hcat6 j hj⟩)
    clear hs5 hb5 r6 hb6 hcat6 hsz hz6
    go_wp2_with fail
    refine pl.mono ?_
    rintro e w8 ⟨⟨k,rfl,hk⟩,rfl⟩
    clear pl
    have HB:Hid (∀ y wz,ScanAt [(w.heap.size,brCells T x.i)] wz B b s y → Below B w8 wz → y.i = (x.name s).i → y.opens = (x.name s).opens → y.out = (x.name s).out → y.opened s num { kind:=91,text:=T,at_:=x.i } = Y → BrCut w wz B b s x num Y):=fun y wz h1 h2 h3 h4 h5 h6=>⟨y,T,h1,hb7.trans h2,by rw [h3];exact wi1,by rw [h4];exact wi2,by rw [h5];exact wi3,h6⟩
    cases num with
    | false=>
     have HZ:Hid (BrCut w w8 B b s x false Y):=HB.out (x.name s) w8 hs6 (Below.refl _ _) rfl rfl rfl (by rw [← HYe.out,if_neg (by simp)])
     clear HB HYe hk m6 hs6
     go_wp2
     go_meet
     case rel=>exact ⟨rfl,HZ.out⟩
    | true=>
     cases hc:Dk.isCat T with
     | true=>
      have hk0:¬ k < 0:=by have:=hk.2 ((isCat_mem T).2 hc);omega
      have HZ:Hid (BrCut w w8 B b s x true Y):=HB.out (x.name s) w8 hs6 (Below.refl _ _) rfl rfl rfl (by rw [← HYe.out,if_neg (by simp [hc])])
      clear HB HYe hk m6 hs6 hc
      go_wp2
      go_meet
      case rel=>exact ⟨rfl,HZ.out⟩
     | false=>
      have hk0:k < 0:=by
       rcases Int.lt_or_le k 0 with h | h
       ·exact h
       ·have:=(isCat_mem T).1 (hk.1 h)
        rw [hc] at this
        cases this
      have kf:=kfault_any (ms:=[(w.heap.size,brCells T x.i)]) w8 B b s (x.name s) 3 x.i hs6
      obtain ⟨fi1,fi2,fi3⟩:=fault_i (x.name s) 3 x.i
      have HYf:Hid (((x.name s).fault 3 x.i).opened s true { kind:=91,text:=T,at_:=x.i } = Y):=by show _ = _;rw [← HYe.out,if_pos ⟨rfl,hc⟩]
      clear HYe hk hs6 hc
      go_wp2_with fail
      refine kf.mono ?_
      rintro e w9 ⟨rfl,hs9,hb9⟩
      have HZ:Hid (BrCut w w9 B b s x true Y):=HB.out _ w9 hs9 hb9 fi1 fi2 fi3 HYf.out
      clear HB kf m6 hs9
      go_wp2
      go_meet
      case rel=>exact ⟨rfl,HZ.out⟩
  case rest=>
   obtain ⟨rfl,y,t,hy,hbd,hyi,hyo,hyout,hYe⟩:=hcut
   have HYe:Hid (y.opened s num { kind:=91,text:=t,at_:=x.i } = Y):=hYe
   have kb:=kblanks_any (ms:=[(w.heap.size,brCells t x.i)]) wc B b s y hy (by omega) hyi
   obtain ⟨bi1,bi2,bi3⟩:=blanks_i s y hyi
   clear hYe hy HY1 HY2 hE hx2
   go_wp2_with fail
   refine kb.mono ?_
   rintro e w3 ⟨rfl,hs3,hb3⟩
   clear kb
   obtain ⟨a7,n7,c7,a8,c8,q3,f3⟩:=hs3.cells
   have kn:=kneeds_any (ms:=[(w.heap.size,brCells t x.i)]) w3 B b s (y.blanks s) 123 hs3 (by omega) bi1
   obtain ⟨ni1,ni2,ni3⟩:=needs_i s (y.blanks s) 123 bi1
   clear hs3
   go_wp2_with fail
   refine kn.mono ?_
   rintro e w4 ⟨rfl,hs4,hb4⟩
   clear kn q3 f3
   obtain ⟨a9,n9,c9,a10,c10,q4,f4⟩:=hs4.cells
   have hb4':Below B w w4:=(hbd.trans hb3).trans hb4
   have hno:((y.blanks s).needs s 123).opens.length = x.opens.length:=by rw [ni2,bi2,hyo]
   have hnu:((y.blanks s).needs s 123).out.length = x.out.length:=by rw [ni3,bi3,hyout]
   have HYf:Hid ((if 6 < x.opens.length + 2 then { ((y.blanks s).needs s 123).fault 4 (y.blanks s).i with opens:=(((y.blanks s).needs s 123).fault 4 (y.blanks s).i).opens ++ [num],out:=(((y.blanks s).needs s 123).fault 4 (y.blanks s).i).out ++ [{ kind:=91,text:=t,at_:=x.i }] } else { (y.blanks s).needs s 123 with opens:=((y.blanks s).needs s 123).opens ++ [num],out:=((y.blanks s).needs s 123).out ++ [{ kind:=91,text:=t,at_:=x.i }] }) = Y):=by
    show _ = _
    rw [← HYe.out,← hno]
    unfold Dk.Sc.opened
    simp only
    split <;> rfl
   rw [hno] at q4
   have hwo:IntKind.i64.wrap ((x.opens.length:Int) + 2) = (x.opens.length:Int) + 2:=by rw [IntKind.wrap_i64];omega
   obtain ⟨i1,hi0,hz0,hz1,hz2⟩:=info_parts info_bool
   have HI1:Hid (Tryz.prog.info? 4 = some i1 ∧ i1.zero = some (.bool false) ∧ i1.size = 1 ∧ i1.bytes = 1):=⟨hi0,hz0,hz1,hz2⟩
   obtain ⟨i2,hi0,hz0,hz1,hz2⟩:=info_parts info_mark
   have HI2:Hid (Tryz.prog.info? 130 = some i2 ∧ i2.zero = some (.agg #[.int .u8 0,.string ⟨#[]⟩,.string ⟨#[]⟩,.string ⟨#[]⟩,.string ⟨#[]⟩,.int .i64 0]) ∧ i2.size = 6 ∧ i2.bytes = 80):=⟨hi0,hz0,hz1,hz2⟩
   clear hi0 hz0 hz1 hz2 HYe hb3 hb4 hbd hyo hyout bi1 bi2 bi3 ni1 ni2 ni3
   generalize (y.blanks s).needs s 123 = z at *
   generalize (y.blanks s).i = yi at *
   by_cases hd:6 < x.opens.length + 2
   ·have hd':(6:Int) < (x.opens.length:Int) + 2:=by omega
    have kf:=kfault_any (ms:=[(w.heap.size,brCells t x.i)]) w4 B b s z 4 yi hs4
    obtain ⟨fi1,fi2,fi3⟩:=fault_i z 4 yi
    have HYg:Hid ({ z.fault 4 yi with opens:=(z.fault 4 yi).opens ++ [num],out:=(z.fault 4 yi).out ++ [{ kind:=91,text:=t,at_:=x.i }] } = Y):=by show _ = _;rw [← HYf.out,if_pos hd]
    have hno2:(z.fault 4 yi).opens.length = x.opens.length:=by rw [fi2,hno]
    have hnu2:(z.fault 4 yi).out.length = x.out.length:=by rw [fi3,hnu]
    clear HYf hs4 fi1 fi2 fi3 hno hnu
    go_wp2_with fail
    refine kf.mono ?_
    rintro e w5 ⟨rfl,hs5,hb5⟩
    have hB5:=hs5.base
    have hb5':Below B w w5:=hb4'.trans hb5
    clear kf q4 f4 hb5 hb4'
    generalize z.fault 4 yi = z5 at *
    obtain ⟨ov,pv,h1,h2,h3,h4,h5,h6,h7,h8⟩:=id hs5
    have q5:=h1.2.1
    have f5:=h1.2.2
    obtain ⟨oa,on,oc,rfl⟩:=owns_form h3
    obtain ⟨pa,pn,pc,rfl⟩:=owns_form h4
    have HP:Hid (∀ w2 v' o,w2.ownsRow B 4 1 v' ((z5).opens.length + 1) ((z5).opens.map .bool ++ [.bool num]) → (w5.alloc o).grownBy w2 (Value.slice pa pn pc).ownBlock → (v'.ownBlock = (Value.slice pa pn pc).ownBlock ∨ v'.ownBlock = some (w5.heap.size + 1)) → Row w2 b #[.string ⟨s.toArray⟩,.int .i64 (z5).i,.slice oa on oc,.slice pa pn pc,.int .i64 (z5).err,.int .i64 (z5).place] ∧ ScanAt [(w.heap.size,brCells t x.i)] (w2.setCell ⟨b,3,none⟩ v') B b s { (z5) with opens:=(z5).opens ++ [num] } ∧ Below B w5 (w2.setCell ⟨b,3,none⟩ v')):=fun w2 v' o a1 a2 a3=>⟨(h1.alloc o).grown a2 h6,ScanAt.push h1 h2 h4 h5 h6 h7 h3 h8 a1 a2 (by simpa using a3)⟩
    clear h1 h5 h6 h7 h8 h3 hs5
    go_wp2_with (at_builtin;refine wpList_append_own_at _ rfl _ _ 128 rfl B 4 i1 (.bool false) 1 1 Tryz.underlying128 HI1.out.1 HI1.out.2.1 HI1.out.2.2.1 HI1.out.2.2.2 rfl (by decide) _ (z5).opens.length ((z5).opens.map .bool) rfl (World.ownsRow.alloc h4 _) ⟨w5.heap.size,0,none⟩ 1 1 [.bool num] rfl rfl (by
      intro j u hj
      match j,hj with
      | 0,hj=>simp at hj;subst hj;simp [Addr.add]) (by intro u hu;simp at hu;subst hu;rfl) (by unfold maxLen;omega) (by omega) (by have:=hB5;simp;omega) ?_)
    intro v' w6 hown' hgrow _ hat
    obtain ⟨r6,g1,g2⟩:=HP.out w6 v' _ (by rw [hno2];exact hown') hgrow hat
    obtain ⟨va,vn,vc,rfl⟩:=owns_form hown'
    have q6:=r6.2.1
    have f6:=r6.2.2
    clear hown' hgrow hat HP q5 f5 h4 r6
    have hb7':Below B w _:=hb5'.trans g2
    go_wp2
    generalize w6.setCell ⟨b,3,none⟩ (.slice va vn vc) = w7 at *
    obtain ⟨ov2,pv2,k1,k2,k3,k4,k5,k6,k7,k8⟩:=g1
    have q7:=k1.2.1
    have f7:=k1.2.2
    have m7:=(k8 (w.heap.size,brCells t x.i) (by simp)).1.2.1
    obtain ⟨oa2,on2,oc2,rfl⟩:=owns_form k3
    have hB7:B ≤ w7.heap.size:=by have:=k1.1;omega
    have qA:=fun j=>(World.cell?_alloc_lt w7 (.cells #[.int .u8 91,.string ⟨t.toArray⟩,.string ⟨#[]⟩,.string ⟨#[]⟩,.string ⟨#[]⟩,.int .i64 x.i] 130) ⟨b,j,none⟩ k1.1).trans (q7 j)
    have HP2:Hid (∀ w8 v' o,w8.ownsRow B 130 6 v' (z5.out.length + 1) (marksCells z5.out ++ mCells { kind:=91,text:=t,at_:=x.i }) → (w7.alloc o).grownBy w8 (Value.slice oa2 on2 oc2).ownBlock → (v'.ownBlock = (Value.slice oa2 on2 oc2).ownBlock ∨ v'.ownBlock = some (w7.heap.size + 1)) → Row w8 b #[.string ⟨s.toArray⟩,.int .i64 z5.i,.slice oa2 on2 oc2,pv2,.int .i64 z5.err,.int .i64 z5.place] ∧ ScanAt [] (w8.setCell ⟨b,2,none⟩ v') B b s Y ∧ Below B w (w8.setCell ⟨b,2,none⟩ v')):=by
     intro w8 v' o a1 a2 a3
     obtain ⟨p1,p2⟩:=ScanAt.put (x:={ z5 with opens:=z5.opens ++ [num] }) (m:={ kind:=91,text:=t,at_:=x.i }) k1 k2 k4 k5 k6 k7 k3 k8 a1 a2 (by simpa using a3)
     refine ⟨(k1.alloc o).grown a2 k5,?_,hb7'.trans p2⟩
     rw [← HYg.out]
     exact p1.unbox
    have k3':w7.ownsRow B 130 6 (.slice oa2 on2 oc2) z5.out.length (marksCells z5.out):=k3
    clear k1 k4 k5 k6 k7 k8 k3 q6 f6
    unfold brCells at m7
    go_region_law (refine step_append_at rfl (.tmp 106) (.tmp 108) 92 rfl B 130 i2 (.agg #[.int .u8 0,.string ⟨#[]⟩,.string ⟨#[]⟩,.string ⟨#[]⟩,.string ⟨#[]⟩,.int .i64 0]) 6 80 Tryz.underlying92 HI2.out.1 HI2.out.2.1 HI2.out.2.2.1 HI2.out.2.2.2 rfl (by decide) (.slice oa2 on2 oc2) z5.out.length (marksCells z5.out) (by simp [Act.eval]) (by first | exact World.ownsRow.alloc k3' _ | exact World.ownsRow.alloc (World.ownsRow.drew k3') _) ⟨w7.heap.size,0,none⟩ 1 1 (mCells { kind:=91,text:=t,at_:=x.i }) (by simp [Act.eval]) rfl (by first | exact mcells_at { kind:=91,text:=t,at_:=x.i } w7 _ | exact mcells_at { kind:=91,text:=t,at_:=x.i } w7.drew _) (mcells_one _) (by unfold maxLen;omega) (by omega) (by simp;omega) ?_;intro v8 w8 hown8 hgrow8 hat8;obtain ⟨r8,e8,b8⟩:=HP2.out w8 v8 (.cells #[.int .u8 91,.string ⟨t.toArray⟩,.string ⟨#[]⟩,.string ⟨#[]⟩,.string ⟨#[]⟩,.int .i64 x.i] 130) hown8 ⟨hgrow8.os,hgrow8.tape,hgrow8.output,hgrow8.size,hgrow8.block⟩ (by simpa using hat8);obtain ⟨va8,vn8,vc8,rfl⟩:=owns_form hown8;have q8:=r8.2.1;have f8:=r8.2.2;clear hown8 hgrow8 hat8 r8)
    all_goals go_end0
    all_goals exact ⟨rfl,e8,b8⟩
   ·have hd':¬ (6:Int) < (x.opens.length:Int) + 2:=by omega
    have HYg:Hid ({ z with opens:=z.opens ++ [num],out:=z.out ++ [{ kind:=91,text:=t,at_:=x.i }] } = Y):=by show _ = _;rw [← HYf.out,if_neg hd]
    have hno2:=hno
    have hnu2:=hnu
    have hB5:=hs4.base
    have hb4x:=hb4'
    go_upto_region 16 with fail
    clear HYf q4 f4 hno hnu hb4'
    obtain ⟨ov,pv,h1,h2,h3,h4,h5,h6,h7,h8⟩:=id hs4
    have q5:=h1.2.1
    have f5:=h1.2.2
    obtain ⟨oa,on,oc,rfl⟩:=owns_form h3
    obtain ⟨pa,pn,pc,rfl⟩:=owns_form h4
    have HP:Hid (∀ w2 v' o,w2.ownsRow B 4 1 v' ((z).opens.length + 1) ((z).opens.map .bool ++ [.bool num]) → (w4.alloc o).grownBy w2 (Value.slice pa pn pc).ownBlock → (v'.ownBlock = (Value.slice pa pn pc).ownBlock ∨ v'.ownBlock = some (w4.heap.size + 1)) → Row w2 b #[.string ⟨s.toArray⟩,.int .i64 (z).i,.slice oa on oc,.slice pa pn pc,.int .i64 (z).err,.int .i64 (z).place] ∧ ScanAt [(w.heap.size,brCells t x.i)] (w2.setCell ⟨b,3,none⟩ v') B b s { (z) with opens:=(z).opens ++ [num] } ∧ Below B w4 (w2.setCell ⟨b,3,none⟩ v')):=fun w2 v' o a1 a2 a3=>⟨(h1.alloc o).grown a2 h6,ScanAt.push h1 h2 h4 h5 h6 h7 h3 h8 a1 a2 (by simpa using a3)⟩
    clear h1 h5 h6 h7 h8 h3 hs4
    go_wp2_with (at_builtin;refine wpList_append_own_at _ rfl _ _ 128 rfl B 4 i1 (.bool false) 1 1 Tryz.underlying128 HI1.out.1 HI1.out.2.1 HI1.out.2.2.1 HI1.out.2.2.2 rfl (by decide) _ (z).opens.length ((z).opens.map .bool) rfl (World.ownsRow.alloc h4 _) ⟨w4.heap.size,0,none⟩ 1 1 [.bool num] rfl rfl (by
      intro j u hj
      match j,hj with
      | 0,hj=>simp at hj;subst hj;simp [Addr.add]) (by intro u hu;simp at hu;subst hu;rfl) (by unfold maxLen;omega) (by omega) (by have:=hB5;simp;omega) ?_)
    intro v' w6 hown' hgrow _ hat
    obtain ⟨r6,g1,g2⟩:=HP.out w6 v' _ (by rw [hno2];exact hown') hgrow hat
    obtain ⟨va,vn,vc,rfl⟩:=owns_form hown'
    have q6:=r6.2.1
    have f6:=r6.2.2
    clear hown' hgrow hat HP q5 f5 h4 r6
    have hb7':Below B w _:=hb4x.trans g2
    go_wp2
    generalize w6.setCell ⟨b,3,none⟩ (.slice va vn vc) = w7 at *
    obtain ⟨ov2,pv2,k1,k2,k3,k4,k5,k6,k7,k8⟩:=g1
    have q7:=k1.2.1
    have f7:=k1.2.2
    have m7:=(k8 (w.heap.size,brCells t x.i) (by simp)).1.2.1
    obtain ⟨oa2,on2,oc2,rfl⟩:=owns_form k3
    have hB7:B ≤ w7.heap.size:=by have:=k1.1;omega
    have qA:=fun j=>(World.cell?_alloc_lt w7 (.cells #[.int .u8 91,.string ⟨t.toArray⟩,.string ⟨#[]⟩,.string ⟨#[]⟩,.string ⟨#[]⟩,.int .i64 x.i] 130) ⟨b,j,none⟩ k1.1).trans (q7 j)
    have HP2:Hid (∀ w8 v' o,w8.ownsRow B 130 6 v' (z.out.length + 1) (marksCells z.out ++ mCells { kind:=91,text:=t,at_:=x.i }) → (w7.alloc o).grownBy w8 (Value.slice oa2 on2 oc2).ownBlock → (v'.ownBlock = (Value.slice oa2 on2 oc2).ownBlock ∨ v'.ownBlock = some (w7.heap.size + 1)) → Row w8 b #[.string ⟨s.toArray⟩,.int .i64 z.i,.slice oa2 on2 oc2,pv2,.int .i64 z.err,.int .i64 z.place] ∧ ScanAt [] (w8.setCell ⟨b,2,none⟩ v') B b s Y ∧ Below B w (w8.setCell ⟨b,2,none⟩ v')):=by
     intro w8 v' o a1 a2 a3
     obtain ⟨p1,p2⟩:=ScanAt.put (x:={ z with opens:=z.opens ++ [num] }) (m:={ kind:=91,text:=t,at_:=x.i }) k1 k2 k4 k5 k6 k7 k3 k8 a1 a2 (by simpa using a3)
     refine ⟨(k1.alloc o).grown a2 k5,?_,hb7'.trans p2⟩
     rw [← HYg.out]
     exact p1.unbox
    have k3':w7.ownsRow B 130 6 (.slice oa2 on2 oc2) z.out.length (marksCells z.out):=k3
    clear k1 k4 k5 k6 k7 k8 k3 q6 f6
    unfold brCells at m7
    go_region_law (refine step_append_at rfl (.tmp 106) (.tmp 108) 92 rfl B 130 i2 (.agg #[.int .u8 0,.string ⟨#[]⟩,.string ⟨#[]⟩,.string ⟨#[]⟩,.string ⟨#[]⟩,.int .i64 0]) 6 80 Tryz.underlying92 HI2.out.1 HI2.out.2.1 HI2.out.2.2.1 HI2.out.2.2.2 rfl (by decide) (.slice oa2 on2 oc2) z.out.length (marksCells z.out) (by simp [Act.eval]) (by first | exact World.ownsRow.alloc k3' _ | exact World.ownsRow.alloc (World.ownsRow.drew k3') _) ⟨w7.heap.size,0,none⟩ 1 1 (mCells { kind:=91,text:=t,at_:=x.i }) (by simp [Act.eval]) rfl (by first | exact mcells_at { kind:=91,text:=t,at_:=x.i } w7 _ | exact mcells_at { kind:=91,text:=t,at_:=x.i } w7.drew _) (mcells_one _) (by unfold maxLen;omega) (by omega) (by simp;omega) ?_;intro v8 w8 hown8 hgrow8 hat8;obtain ⟨r8,e8,b8⟩:=HP2.out w8 v8 (.cells #[.int .u8 91,.string ⟨t.toArray⟩,.string ⟨#[]⟩,.string ⟨#[]⟩,.string ⟨#[]⟩,.int .i64 x.i] 130) hown8 ⟨hgrow8.os,hgrow8.tape,hgrow8.output,hgrow8.size,hgrow8.block⟩ (by simpa using hat8);obtain ⟨va8,vn8,vc8,rfl⟩:=owns_form hown8;have q8:=r8.2.1;have f8:=r8.2.2;clear hown8 hgrow8 hat8 r8)
    all_goals go_end0
    all_goals exact ⟨rfl,e8,b8⟩
end Go.Proofs.YtaepcfidpekflaaGreatDoor
namespace Go.Proofs.YtaepcfidpekflaaGreatDoor
open Go.RowKit
set_option maxHeartbeats 400000 in
theorem kbranch_any (w:World) (B b:Nat) (s:Pr.T) (x:Dk.Sc) (num:Bool) (hx:ScanAt [] w B b s x) (hs:s.length ≤ 100000) (hi:x.i ≤ s.length) (ho:x.out.length ≤ 100000) (hop:x.opens.length ≤ 100000):
  Calls Tryz.prog 175 #[.pointer (some ⟨b,0,none⟩),.bool num] w fun en w'=>en = .returned (.tuple #[]) ∧ ScanAt [] w' B b s (x.branch s num) ∧ Below B w w':=by
 by_cases he:x.err = 0
 ·exact kbranch_go w B b s x num hx hs hi ho hop he
 ·have e:x.branch s num = x:=by unfold Dk.Sc.branch;rw [if_pos he]
  rw [e]
  obtain ⟨a1,n1,c1,a2,c2,q0,f0⟩:=hx.cells
  have HX:Hid (ScanAt [] w B b s x):=hx
  have he':((x.err:Int) != 0) = true:=by rw [bne_iff_ne];omega
  clear hx e
  go_enter Tryz.func175,Tryz.ntmps175
  go_wp2
  refine bodyPost_ret (results_none rfl _ _ _) rfl ?_
  exact ⟨rfl,HX.out,Below.refl _ _⟩
theorem ownsRow_pop {w:World} {base g cap n:Nat} {e:TypeId} {xs:List Value} {u:Value} (h:w.ownsRow base e 1 (.slice (some ⟨g,0,none⟩) (n + 1) cap) (n + 1) (xs ++ [u])):w.ownsRow base e 1 (.slice (some ⟨g,0,none⟩) n cap) n xs:=by
 have hl:xs.length = n:=by have:=h.1;simp at this;omega
 rcases h.2 with ⟨h',_⟩ | ⟨g',cap',cur,h',hb,hg,hnc,hcm,hcs,htake⟩
 ·simp at h'
 ·simp only [Value.slice.injEq,Option.some.injEq,Addr.mk.injEq,and_true,true_and] at h'
  obtain ⟨rfl,rfl⟩:=h'
  refine ⟨by simpa using hl,.inr ⟨g,cap,cur,rfl,hb,hg,by omega,hcm,hcs,?_⟩⟩
  have:=congrArg (List.take n) htake
  rw [List.take_take,Nat.min_eq_left (by omega),List.take_left' hl] at this
  rw [Nat.mul_one]
  exact this
theorem ScanAt.pop {w W:World} {B b g cap:Nat} {s:Pr.T} {x:Dk.Sc} {ov:Value} {l:List Bool} {c:Bool} (hW:Below w.heap.size w W) (hx:x.opens = l ++ [c])
  (h1:Row w b #[.string ⟨s.toArray⟩,.int .i64 x.i,ov,.slice (some ⟨g,0,none⟩) (l.length + 1) cap,.int .i64 x.err,.int .i64 x.place]) (h2:B ≤ b) (h3:w.ownsRow B 130 6 ov x.out.length (marksCells x.out)) (h4:w.ownsRow B 4 1 (.slice (some ⟨g,0,none⟩) (l.length + 1) cap) (l.length + 1) (x.opens.map .bool))
  (h5:ov.ownBlock ≠ some b) (h6:g ≠ b) (h7:ov.ownBlock ≠ some g):
  ScanAt [] (W.setCell ⟨b,3,none⟩ (.slice (some ⟨g,0,none⟩) l.length cap)) B b s { x with opens:=l } ∧ Below B w (W.setCell ⟨b,3,none⟩ (.slice (some ⟨g,0,none⟩) l.length cap)):=by
 have kp:∀ {e:TypeId} {z n:Nat} {v:Value} {xs:List Value},w.ownsRow B e z v n xs → W.ownsRow B e z v n xs:=fun {e z n v xs} h=>by
  refine World.ownsRow.kept (row:=none) h ⟨hW.os,hW.tape,hW.output,hW.size,fun k hk _=>hW.block k hk⟩ ?_
  cases e:v.ownBlock with
  | none=>exact .inl rfl
  | some _=>exact .inr (by simp)
 rw [hx,List.map_append] at h4
 have hp:=ownsRow_pop (kp h4)
 have hgb:(Value.slice (some ⟨g,0,none⟩) l.length cap).ownBlock ≠ some b:=by show some g ≠ some b;simpa using h6
 refine ⟨⟨ov,.slice (some ⟨g,0,none⟩) l.length cap,(h1.keep hW).setC 3 _ (by simp),h2,ownsRow_setCell_other (kp h3) h5 _,ownsRow_setCell_other hp hgb _,h5,hgb,?_,fun q hq=>by cases hq⟩,?_⟩
 ·intro g' hg' e
  have:g' = g:=by simpa [Value.ownBlock] using e.symm
  rw [this] at hg'
  exact h7 hg'
 ·exact (hW.mono (by have:=h1.1;omega)).setCell (p:=⟨b,3,none⟩) h2 _
set_option maxHeartbeats 3200000 in
set_option maxRecDepth 100000 in
theorem kbehind_any (w:World) (B b:Nat) (s:Pr.T) (x:Dk.Sc) (l:List Bool) (c:Bool) (hx:ScanAt [] w B b s x) (hs:s.length ≤ 100000) (hi:x.i ≤ s.length) (ho:x.out.length ≤ 90000) (hop:x.opens.length ≤ 100000) (hl:x.opens = l ++ [c]):
  Calls Tryz.prog 138 #[.pointer (some ⟨b,0,none⟩)] w fun en w'=>en = .returned (.tuple #[]) ∧ ScanAt [] w' B b s (x.behind s) ∧ Below B w w':=by
 have hB:=hx.base
 obtain ⟨Y,hY⟩:∃ Y,Hid (x.behind s = Y):=⟨_,rfl⟩
 rw [hY.out]
 have kb:=kbyNumber_any (ms:=[]) w B b s x hx (by omega)
 have hbn:x.byNumber = c:=by rw [Dk.Sc.byNumber,hl];simp
 rw [hbn] at kb
 have hlen:x.opens.length = l.length + 1:=by rw [hl];simp
 obtain ⟨ov,pv,h1,h2,h3,h4,h5,h6,h7,h8⟩:=hx
 obtain ⟨g,cap,rfl⟩:∃ g cap,pv = .slice (some ⟨g,0,none⟩) (l.length + 1) cap:=by
  rcases h4.2 with ⟨_,hz⟩ | ⟨g,cap,cur,rfl,_⟩
  ·omega
  ·exact ⟨g,cap,by rw [hlen]⟩
 rw [hlen] at h4
 obtain ⟨oa,on,oc,rfl⟩:=owns_form h3
 have HP:Hid (∀ W,Below w.heap.size w W → ScanAt [] (W.setCell ⟨b,3,none⟩ (.slice (some ⟨g,0,none⟩) l.length cap)) B b s { x with opens:=l } ∧ Below B w (W.setCell ⟨b,3,none⟩ (.slice (some ⟨g,0,none⟩) l.length cap))):=fun W hW=>ScanAt.pop hW hl h1 h2 h3 h4 h5 (fun e=>h6 (by rw [e];rfl)) (fun e=>h7 g e rfl)
 have R1:Hid (Row w b #[.string ⟨s.toArray⟩,.int .i64 x.i,.slice oa on oc,.slice (some ⟨g,0,none⟩) (l.length + 1) cap,.int .i64 x.err,.int .i64 x.place]):=h1
 have hcl:l.length + 1 ≤ cap:=by
  rcases h4.2 with ⟨h',_⟩ | ⟨g',cap',cur,h',hb,hg,hnc,_⟩
  ·simp at h'
  ·simp only [Value.slice.injEq,Option.some.injEq,Addr.mk.injEq,and_true,true_and] at h'
   obtain ⟨rfl,rfl⟩:=h'
   exact hnc
 have hw2:IntKind.i64.wrap ((l.length:Int) + 1 - 1) = l.length:=by rw [IntKind.wrap_i64];omega
 have hw3:IntKind.i64.wrap (l.length:Int) = l.length:=by rw [IntKind.wrap_i64];omega
 have hlc:(l.length:Int) ≤ cap:=by omega
 clear h1 h2 h3 h4 h5 h6 h7 h8
 go_enter Tryz.func138,Tryz.ntmps138
 go_wp2_with fail
 refine kb.mono ?_
 rintro e w1 ⟨rfl,hb1⟩
 clear kb
 have r1:=R1.out.keep hb1
 have q1:=r1.2.1
 have f1:=r1.2.2
 clear r1
 go_upto_region 1 with fail
 go_cut [2] (fun z wd=>z = .bool c ∧ ScanAt [] wd B b s { x with opens:=l } ∧ Below B w wd)
 case first=>
  go_region_with (fail)
  all_goals go_wp2
  all_goals go_meet
  all_goals
   obtain ⟨z1,z2⟩:=HP.out w1 hb1
   first
   | exact ⟨rfl,z1.keep (Below.refl _ _).drew,z2.drew⟩
   | exact ⟨rfl,z1,z2⟩
 case rest=>
  obtain ⟨rfl,hx2,hb2⟩:=hcut
  have HY:Hid ((if s[(Dk.Sc.blanks s { x with opens:=l }).i]? = some 125 then ((Dk.Sc.blanks s { x with opens:=l }).put { kind:=41,at_:=(Dk.Sc.blanks s { x with opens:=l }).i }).go 1 else (Dk.Sc.blanks s { x with opens:=l }).branch s c) = Y):=by
   show _ = _
   rw [← hY.out]
   unfold Dk.Sc.behind
   rw [hbn,hl]
   simp
  have kl:=kblanks_any (ms:=[]) wc B b s { x with opens:=l } hx2 (by omega) hi
  obtain ⟨bi1,bi2,bi3⟩:=blanks_i s { x with opens:=l } hi
  simp only at bi2 bi3
  clear HP R1 hx2 hY hbn q1 f1
  generalize Dk.Sc.blanks s { x with opens:=l } = y at *
  go_wp2_with fail
  refine kl.mono ?_
  rintro e w3 ⟨rfl,hs3,hb3⟩
  clear kl
  have hb3':Below B w w3:=hb2.trans hb3
  have hB3:=hs3.base
  obtain ⟨a7,n7,c7,a8,c8,q3,f3⟩:=hs3.cells
  have HS3:Hid (ScanAt [] w3 B b s y):=hs3
  clear hs3
  have hbr:=fun W (h:Below w3.heap.size w3 W)=>kbranch_any W B b s y c (HS3.out.keep h) hs bi1 (by rw [bi3];omega) (by rw [bi2];omega)
  cases hd:s.drop y.i with
  | nil=>
   have hge:s.length ≤ y.i:=List.drop_eq_nil_iff.1 hd
   have hkn:¬ y.i < s.length:=by omega
   have hk':((y.i:Int) < s.length) = False:=eq_false (by omega)
   have hF:Hid (y.branch s c = Y):=by show _ = _;rw [← HY.out,if_neg (by rw [List.getElem?_eq_none hge];simp)]
   clear HY hd
   go_wp2
   go_quiet (fail)
   go_wp2_with (go_at_call 175;refine (hbr _ (drewB _ _)).mono ?_;rintro e w4 ⟨rfl,hs4,hb4⟩)
   go_end0
   exact ⟨rfl,by rw [← hF.out];exact hs4,hb3'.trans (below_to hB3.2 (drewB _ _) hb4)⟩
  | cons d r=>
   obtain ⟨hkl,_,hgc⟩:=at_drop hd
   have hkl':(y.i:Int) < s.length:=by omega
   have hg:s[y.i]? = some d:=by
    have:=congrArg List.head? hd
    rw [List.head?_drop] at this
    simpa using this
   by_cases hc:d = 125
   ·have hc':((d.toNat:Int) == 125) = true:=by rw [hc];rfl
    have hF:Hid ((y.put { kind:=41,at_:=y.i }).go 1 = Y):=by show _ = _;rw [← HY.out,if_pos (by rw [hg,hc])]
    clear HY hd hg hc hbr
    go_wp2
    go_quiet (fail)
    go_wp2
    have hs7:=HS3.out.keep (drewB w3 nq)
    have hb7:=hb3'.trans (below_to hB3.2 (drewB w3 nq) (Below.refl _ _))
    generalize w3.drewN nq = w7 at *
    obtain ⟨i2,hi0,hz0,hz1,hz2⟩:=info_parts info_mark
    have HI2:Hid (Tryz.prog.info? 130 = some i2 ∧ i2.zero = some (.agg #[.int .u8 0,.string ⟨#[]⟩,.string ⟨#[]⟩,.string ⟨#[]⟩,.string ⟨#[]⟩,.int .i64 0]) ∧ i2.size = 6 ∧ i2.bytes = 80):=⟨hi0,hz0,hz1,hz2⟩
    clear hi0 hz0 hz1 hz2 q3 f3 HS3
    obtain ⟨ov2,pv2,k1,k2,k3,k4,k5,k6,k7,k8⟩:=hs7
    have q7:=k1.2.1
    have f7:=k1.2.2
    obtain ⟨oa2,on2,oc2,rfl⟩:=owns_form k3
    obtain ⟨pa2,pn2,pc2,rfl⟩:=owns_form k4
    have hB7:B ≤ w7.heap.size:=by have:=k1.1;omega
    have hyo:y.out.length ≤ 90000:=by rw [bi3];omega
    have qA:=fun j=>(World.cell?_alloc_lt w7 (.cells #[.int .u8 41,.string ⟨#[]⟩,.string ⟨#[]⟩,.string ⟨#[]⟩,.string ⟨#[]⟩,.int .i64 y.i] 130) ⟨b,j,none⟩ k1.1).trans (q7 j)
    have HP2:Hid (∀ w8 v' o,w8.ownsRow B 130 6 v' (y.out.length + 1) (marksCells y.out ++ mCells { kind:=41,at_:=y.i }) → (w7.alloc o).grownBy w8 (Value.slice oa2 on2 oc2).ownBlock → (v'.ownBlock = (Value.slice oa2 on2 oc2).ownBlock ∨ v'.ownBlock = some (w7.heap.size + 1)) → Row w8 b #[.string ⟨s.toArray⟩,.int .i64 y.i,.slice oa2 on2 oc2,.slice pa2 pn2 pc2,.int .i64 y.err,.int .i64 y.place] ∧ ScanAt [] (w8.setCell ⟨b,2,none⟩ v') B b s (y.put { kind:=41,at_:=y.i }) ∧ Below B w (w8.setCell ⟨b,2,none⟩ v')):=by
     intro w8 v' o a1 a2 a3
     obtain ⟨p1,p2⟩:=ScanAt.put (m:={ kind:=41,at_:=y.i }) k1 k2 k4 k5 k6 k7 k3 k8 a1 a2 (by simpa using a3)
     exact ⟨(k1.alloc o).grown a2 k5,p1,hb7.trans p2⟩
    have k3':w7.ownsRow B 130 6 (.slice oa2 on2 oc2) y.out.length (marksCells y.out):=k3
    have hwi:IntKind.i64.wrap ((y.i:Int) + 1) = ((y.i + 1:Nat):Int):=by rw [IntKind.wrap_i64];omega
    clear k1 k4 k5 k6 k7 k8 k3
    go_region_law (refine step_append_at rfl (.tmp 47) (.tmp 53) 92 rfl B 130 i2 (.agg #[.int .u8 0,.string ⟨#[]⟩,.string ⟨#[]⟩,.string ⟨#[]⟩,.string ⟨#[]⟩,.int .i64 0]) 6 80 Tryz.underlying92 HI2.out.1 HI2.out.2.1 HI2.out.2.2.1 HI2.out.2.2.2 rfl (by decide) (.slice oa2 on2 oc2) y.out.length (marksCells y.out) (by simp [Act.eval]) (by first | exact World.ownsRow.alloc k3' _ | exact World.ownsRow.alloc (World.ownsRow.drew k3') _) ⟨w7.heap.size,0,none⟩ 1 1 (mCells { kind:=41,at_:=y.i }) (by simp [Act.eval]) rfl (by first | exact mcells_at { kind:=41,at_:=y.i } w7 _ | exact mcells_at { kind:=41,at_:=y.i } w7.drew _) (mcells_one _) (by unfold maxLen;omega) (by omega) (by simp;omega) ?_;intro v8 w8 hown8 hgrow8 hat8;obtain ⟨r8,e8,b8⟩:=HP2.out w8 v8 (.cells #[.int .u8 41,.string ⟨#[]⟩,.string ⟨#[]⟩,.string ⟨#[]⟩,.string ⟨#[]⟩,.int .i64 y.i] 130) hown8 ⟨hgrow8.os,hgrow8.tape,hgrow8.output,hgrow8.size,hgrow8.block⟩ (by simpa using hat8);obtain ⟨va8,vn8,vc8,rfl⟩:=owns_form hown8;have q8:=r8.2.1;have f8:=r8.2.2;clear hown8 hgrow8 hat8 r8)
    all_goals
     generalize w8.setCell ⟨b,2,none⟩ (.slice va8 vn8 vc8) = w9 at *
     obtain ⟨a5,n5,c5,a6,c6,q9,f9⟩:=e8.cells
     have HZ:Hid (ScanAt [] (w9.setCell ⟨b,1,none⟩ (.int .i64 ((y.i + 1:Nat):Int))) B b s Y ∧ Below B w (w9.setCell ⟨b,1,none⟩ (.int .i64 ((y.i + 1:Nat):Int)))):=⟨by rw [← hF.out];exact e8.setI (y.i + 1),b8.setCell (p:=⟨b,1,none⟩) hB3.1 _⟩
     simp only [Dk.Sc.put] at q9
     clear e8 b8 q8 f8 q7 f7 qA HP2
     go_wp2
     refine bodyPost_ret (results_none rfl _ _ _) rfl ?_
     exact ⟨rfl,HZ.out⟩
   ·have hc':((d.toNat:Int) == 125) = false:=byte_ne (n:=125) (by decide) hc
    have hF:Hid (y.branch s c = Y):=by show _ = _;rw [← HY.out,if_neg (by rw [hg];simpa using hc)]
    clear HY hd hg hc
    go_wp2
    go_quiet (fail)
    go_wp2_with (go_at_call 175;refine (hbr _ (drewB _ _)).mono ?_;rintro e w4 ⟨rfl,hs4,hb4⟩)
    go_end0
    exact ⟨rfl,by rw [← hF.out];exact hs4,hb3'.trans (below_to hB3.2 (drewB _ _) hb4)⟩
end Go.Proofs.YtaepcfidpekflaaGreatDoor
namespace Go.Proofs.YtaepcfidpekflaaGreatDoor
open Go.RowKit
theorem ret_cut39 {l a b:List UInt8} {s t:ByteArray} {p q:Bool} (h:Lib.cut l [39] = (a,b,p)) (hs:s = ⟨a.toArray⟩) (ht:t = ⟨b.toArray⟩) (hq:q = p):
  Ending.returned (.tuple #[.string s,.string t,.bool q]) = .returned (.tuple #[.string ⟨(Lib.cut l [39]).1.toArray⟩,.string ⟨(Lib.cut l [39]).2.1.toArray⟩,.bool (Lib.cut l [39]).2.2]):=by
 rw [h,hs,ht,hq]
set_option maxHeartbeats 400000 in
theorem rcut_quote (s:ByteArray) (w:World) (hs:s.size ≤ 1000000):
  Calls Tryz.prog 49 #[.string s,.int .u8 39] w fun e w'=>e = .returned (.tuple #[.string ⟨(Lib.cut s.data.toList [39]).1.toArray⟩,.string ⟨(Lib.cut s.data.toList [39]).2.1.toArray⟩,.bool (Lib.cut s.data.toList [39]).2.2]) ∧ Below w.heap.size w w':=by
 go_enter Tryz.func49,Tryz.ntmps49
 go_wp2
 go_loop [7] (fun t=>∃ k:Nat,k ≤ s.size ∧ t = .int .i64 k ∧ Hid (∀ j (hj:j < s.data.toList.length),j < k → s.data.toList[j] ≠ 39)) (fun t=>s.size - (intOf t).toNat)
 case atStart=>exact ⟨0,Nat.zero_le _,rfl,fun j _ h=>by omega⟩
 case round=>
  obtain ⟨k,hk,rfl,HK⟩:=hrel
  by_cases hlt:k < s.size
  ·have hlt':k < s.data.toList.length:=by rw [← Lib.size_eq];exact hlt
   have hgk:s.data.toList[k] = s[k]:=rfl
   by_cases hc:s[k].toNat = 39
   ·have hc':((s[k].toNat:Int) == 39) = true:=by simp;omega
    have HX:Hid (Lib.cut s.data.toList [39] = (s.data.toList.take k,s.data.toList.drop (k + 1),true)):=cut_at39 _ k hlt' HK.out (by rw [hgk];exact UInt8.toNat_inj.1 hc)
    clear hc hgk
    go_wp2
    go_quiet (fail)
    go_wp2
    go_ret3
    exact ⟨ret_cut39 HX.out (by rw [Lib.extract_upto]) (by rw [Lib.extract_from]) rfl,drewB _ _⟩
   ·have hc':((s[k].toNat:Int) == 39) = false:=by simp;omega
    have HK2:Hid (∀ j (hj:j < s.data.toList.length),j < k + 1 → s.data.toList[j] ≠ 39):=by
     intro j hj h
     by_cases e:j = k
     ·subst e;intro h39;rw [hgk] at h39;exact hc (by rw [h39];rfl)
     ·exact HK.out j hj (by omega)
    clear hc hgk
    go_wp2
    go_round
    case rel=>exact ⟨k + 1,hlt,by go_num,HK2⟩
    case measure=>simp [intOf];omega
  ·have HX:Hid (Lib.cut s.data.toList [39] = (s.data.toList,[],false)):=cut_end39 _ (fun j hj=>HK.out j hj (by rw [← Lib.size_eq] at hj;omega))
   go_wp2
   go_ret3
   exact ⟨ret_cut39 HX.out (by rw [Lib.mk_data]) rfl rfl,Below.refl _ _⟩
end Go.Proofs.YtaepcfidpekflaaGreatDoor
namespace Go.Proofs.YtaepcfidpekflaaGreatDoor
open Go.RowKit
def Sized (n:Nat) (x:Dk.Sc):Prop:=x.out.length ≤ n ∧ ∀ m ∈ x.out,m.text.length ≤ n
theorem Sized.short {n:Nat} {x:Dk.Sc} (h:Sized n x) (hn:n ≤ 100000):Short x:=⟨Nat.le_trans h.1 hn,fun m hm=>by have:=h.2 m hm;omega⟩
theorem Sized.mono {n k:Nat} {x:Dk.Sc} (h:Sized n x) (hn:n ≤ k):Sized k x:=⟨Nat.le_trans h.1 hn,fun m hm=>Nat.le_trans (h.2 m hm) hn⟩
theorem Sized.go {n k:Nat} {x:Dk.Sc} (h:Sized n x):Sized n (x.go k):=h
theorem Sized.say {n:Nat} {x:Dk.Sc} {t:Pr.T} (h:Sized n x):Sized (n + t.length + 1) (x.say t):=by
 unfold Dk.Sc.say
 split
 ·exact h.mono (by omega)
 ·rcases List.eq_nil_or_concat x.out with h0 | ⟨l,m,h0⟩
  ·refine ⟨by simp [Dk.addText,h0],fun q hq=>?_⟩
   simp only [Dk.addText,h0,List.getLast?_nil,List.mem_singleton] at hq
   rw [hq]
   show t.length ≤ _
   omega
  ·simp only [List.concat_eq_append] at h0
   have h1:=h.1
   have h2:=h.2
   rw [h0] at h1 h2
   simp only [List.length_append,List.length_singleton] at h1
   by_cases hk:m.kind = 116
   ·have e:Dk.addText x.out t = l ++ [{ m with text:=m.text ++ t }]:=by rw [h0];simp [Dk.addText,hk]
    refine ⟨by show (Dk.addText x.out t).length ≤ _;rw [e];simp;omega,fun q hq=>?_⟩
    have hq':q ∈ Dk.addText x.out t:=hq
    rw [e] at hq'
    rcases List.mem_append.1 hq' with hq | hq
    ·have:=h2 q (List.mem_append_left _ hq);omega
    ·rw [List.mem_singleton] at hq
     have:=h2 m (by simp)
     rw [hq]
     simp
     omega
   ·have e:Dk.addText x.out t = x.out ++ [{ kind:=116,text:=t }]:=by rw [h0];simp [Dk.addText,hk]
    refine ⟨by show (Dk.addText x.out t).length ≤ _;rw [e,h0];simp;omega,fun q hq=>?_⟩
    have hq':q ∈ Dk.addText x.out t:=hq
    rw [e] at hq'
    rcases List.mem_append.1 hq' with hq | hq
    ·have:=h.2 q hq;omega
    ·rw [List.mem_singleton] at hq
     rw [hq]
     show t.length ≤ _
     omega
end Go.Proofs.YtaepcfidpekflaaGreatDoor
