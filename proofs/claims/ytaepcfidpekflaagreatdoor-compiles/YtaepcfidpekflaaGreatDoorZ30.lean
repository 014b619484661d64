/-
  Several texts in one (Wb, Hr, We). By the verifier.
-/
import Derived.Test.YtaepcfidpekflaaGreatDoorProg
import Derived.Test.YtaepcfidpekflaaGreatDoorZ03
import Derived.WalkKit
import Derived.WalkSpells
import Derived.WalkLawsBesides
import Derived.BigQuiet
import Derived.Test.YtaepcfidpekflaaGreatDoorZ10
import Derived.Test.YtaepcfidpekflaaGreatDoorZ01
namespace Go.Proofs.YtaepcfidpekflaaGreatDoor
open Go.RowKit
variable {u0 u1:Option Addr} {v0 x0 v1 x1:Nat}
theorem ret_two {k l:IntKind} {a b c d:Int} (h:a = b) (h2:c = d):Ending.returned (.tuple #[.int k a,.int l c]) = .returned (.tuple #[.int k b,.int l d]):=by rw [h,h2]
theorem ret_bool2 {a b:Bool} (h:a = b):Ending.returned (.bool a) = .returned (.bool b):=by rw [h]
set_option maxHeartbeats 400000 in
theorem digitsOf_none (w:World):
  Calls Tryz.prog 73 #[.string ⟨#[]⟩] w fun e w'=>e = .returned (.tuple #[.agg #[.int .i32 48,.int .i32 49,.int .i32 50,.int .i32 51,.int .i32 52,.int .i32 53,.int .i32 54,.int .i32 55,.int .i32 56,.int .i32 57],.bool true]) ∧ Below w.heap.size w w':=by
 go_enter Tryz.func73,Tryz.ntmps73
 go_wp2
 exact bodyPost_ret (v:=.tuple #[.agg #[.int .i32 48,.int .i32 49,.int .i32 50,.int .i32 51,.int .i32 52,.int .i32 53,.int .i32 54,.int .i32 55,.int .i32 56,.int .i32 57],.bool true]) (by simp [results,Tryz.results73,go_sem]) rfl ⟨rfl,(Below.refl _ _).alloc (Nat.le_refl _) _⟩
set_option maxHeartbeats 400000 in
theorem groupsOf_any (a0 a1:Option Addr) (n0 c0 n1 c1:Nat) (mi po g:Int) (f n:Nat) (d:ByteArray) (w:World) (hf:f ≤ 9) (hn:n ≤ 9):
  Calls Tryz.prog 75 #[.agg #[.slice a0 n0 c0,.slice a1 n1 c1,.int .i32 mi,.int .i32 po,.int .i32 g,.int .u8 f,.int .u8 n,.string d]] w fun e w'=>e = .returned (.tuple #[.int .i64 (Pn.firstOf g f:Nat),.int .i64 (Pn.nextOf g f n:Nat)]) ∧ Below w.heap.size w w':=by
 by_cases hg:g = 0
 ·subst hg
  go_enter Tryz.func75,Tryz.ntmps75
  go_wp2
  go_ret2
  exact ⟨ret_two (by simp [Pn.firstOf]) (by simp [Pn.nextOf]),(Below.refl _ _).alloc (Nat.le_refl _) _⟩
 ·have hg0:(g == 0) = false:=by simpa using hg
  by_cases h0:f = 0
  ·subst h0
   go_enter Tryz.func75,Tryz.ntmps75
   go_wp2
   go_ret2
   exact ⟨ret_two (by simp [Pn.firstOf]) (by simp [Pn.nextOf]),(Below.refl _ _).alloc (Nat.le_refl _) _⟩
  ·have hb0:((f:Int) == 0) = false:=by simp;omega
   by_cases hn0:n = 0
   ·subst hn0
    go_enter Tryz.func75,Tryz.ntmps75
    go_wp2
    go_quiet (fail)
    go_wp2
    go_ret2
    exact ⟨ret_two (by simp [Pn.firstOf,hg,h0]) (by simp [Pn.nextOf,hg,h0]),Go.below_drewN ((Below.refl _ _).alloc (Nat.le_refl _) _) _⟩
   ·have hc0:((n:Int) == 0) = false:=by simp;omega
    go_enter Tryz.func75,Tryz.ntmps75
    go_wp2
    go_quiet (fail)
    go_wp2
    go_ret2
    exact ⟨ret_two (by simp [Pn.firstOf,hg,h0]) (by simp [Pn.nextOf,hg,h0,hn0]),Go.below_drewN ((Below.refl _ _).alloc (Nat.le_refl _) _) _⟩
end Go.Proofs.YtaepcfidpekflaaGreatDoor
namespace Go.Proofs.YtaepcfidpekflaaGreatDoor
open Go.RowKit
def slotOf (k:Nat):Value → Value
 | .agg cs=>cs.getD k .nilIface
 | v=>v
def RulesOk (w:World) (v:Value):Prop:=∀ k,k < 2 → ∀ W,Below w.heap.size w W → Calls Tryz.prog 62 #[slotOf k v] W fun e w'=>∃ rs,NewSaid W (some rs) e w'
theorem RulesOk.later {w w1:World} {v:Value} (h:RulesOk w v) (hb:Below w.heap.size w w1):RulesOk w1 v:=fun k hk W hW=>h k hk W (below_of hb hW)
theorem rulesV_form {w:World} {v:Value} {rs:List (Pr.T × Pr.Sem)} (h:RulesV w v rs):∃ a n c,v = .slice a n c:=by
 obtain ⟨B,M,g,qs,_,h,_⟩:=h
 rcases h.2 with ⟨rfl,_⟩ | ⟨g,cap,cur,rfl,_⟩
 ·exact ⟨none,0,0,rfl⟩
 ·exact ⟨_,_,_,rfl⟩
theorem RulesOk.one {w:World} {v:Value} (h:RulesOk w v) (k:Nat) (hk:k < 2) (W:World) (hW:Below w.heap.size w W):Calls Tryz.prog 62 #[slotOf k v] W fun e w'=>(∃ a n c,e = .returned (.tuple #[.slice a n c,.nilIface])) ∧ Below W.heap.size W w':=by
 refine (h k hk W hW).mono ?_
 rintro e w' ⟨rs,hb,v,rfl,hr⟩
 obtain ⟨a,n,c,rfl⟩:=rulesV_form hr
 exact ⟨⟨a,n,c,rfl⟩,hb⟩
theorem rules_nil (mi po g:Int) (f n:Nat) (d:ByteArray) (w:World):RulesOk w (.agg #[.slice none 0 0,.slice none 0 0,.int .i32 mi,.int .i32 po,.int .i32 g,.int .u8 f,.int .u8 n,.string d]):=fun k hk W _=>by
 have h:Calls Tryz.prog 62 #[.slice none 0 0] W fun e w'=>∃ rs,NewSaid W (some rs) e w':=(new_nil W none 0).mono fun e w' h=>⟨[],h⟩
 match k,hk with
 | 0,_=>exact h
 | 1,_=>exact h
theorem rules_in (a0 a1:Option Addr) (c0 c1:Nat) (l0 l1:List (Pr.T × Pr.T)) (mi po g:Int) (f n:Nat) (d:ByteArray) (w:World) (hB:Base w) (k0:l0.length ≤ 100000) (k1:l1.length ≤ 100000) (s0:∀ q ∈ l0,q.1.length < 1000000 ∧ q.2.length < 1000000) (s1:∀ q ∈ l1,q.1.length < 1000000 ∧ q.2.length < 1000000) (h0:RIn w a0 l0) (h1:RIn w a1 l1)
  (e0:(Pr.rulesP [] l0).isSome = true) (e1:(Pr.rulesP [] l1).isSome = true):RulesOk w (.agg #[.slice a0 l0.length c0,.slice a1 l1.length c1,.int .i32 mi,.int .i32 po,.int .i32 g,.int .u8 f,.int .u8 n,.string d]):=fun k hk W hW=>by
 obtain ⟨r0,e0⟩:=Option.isSome_iff_exists.1 e0
 obtain ⟨r1,e1⟩:=Option.isSome_iff_exists.1 e1
 match k,hk with
 | 0,_=>exact (new_any W a0 l0 c0 k0 s0 (hB.below hW) (h0.keep hW)).mono fun e w' h=>⟨r0,by rw [e0] at h;exact h⟩
 | 1,_=>exact (new_any W a1 l1 c1 k1 s1 (hB.below hW) (h1.keep hW)).mono fun e w' h=>⟨r1,by rw [e1] at h;exact h⟩
end Go.Proofs.YtaepcfidpekflaaGreatDoor
namespace Go.Proofs.YtaepcfidpekflaaGreatDoor
open Go.RowKit
set_option maxHeartbeats 1000000 in
theorem hasSigns_any (a0 a1:Option Addr) (n0 c0 n1 c1:Nat) (mi po g:Int) (f n:Nat) (d:ByteArray) (w:World):
  Calls Tryz.prog 74 #[.agg #[.slice a0 n0 c0,.slice a1 n1 c1,.int .i32 mi,.int .i32 po,.int .i32 g,.int .u8 f,.int .u8 n,.string d]] w fun e w'=>e = .returned (.bool (Pn.signsB mi po g)) ∧ Below w.heap.size w w':=by
 by_cases h1:mi = 0
 ·have HS:Hid (false = Pn.signsB mi po g):=by show false = Pn.signsB mi po g;simp [Pn.signsB,h1]
  have h1':(mi != 0) = false:=by simp [h1]
  clear h1
  go_enter Tryz.func74,Tryz.ntmps74
  go_wp2_with (go_at_call 106;refine (Tryz.utf8_ValidRune _ _).mono ?_;rintro e w' ⟨rfl,rfl⟩)
  go_ret
  exact ⟨ret_bool2 HS.out,(Below.refl _ _).alloc (Nat.le_refl _) _⟩
 have h1':(mi != 0) = true:=by simp [h1]
 cases h2:Lib.validRune mi with
 | false=>
  have HS:Hid (false = Pn.signsB mi po g):=by show false = Pn.signsB mi po g;simp [Pn.signsB,h2]
  clear h1
  go_enter Tryz.func74,Tryz.ntmps74
  go_wp2_with (go_at_call 106;refine (Tryz.utf8_ValidRune _ _).mono ?_;rintro e w' ⟨rfl,rfl⟩)
  go_ret
  exact ⟨ret_bool2 HS.out,(Below.refl _ _).alloc (Nat.le_refl _) _⟩
 | true=>
  by_cases h3:po = 0
  ·have HS:Hid (false = Pn.signsB mi po g):=by show false = Pn.signsB mi po g;simp [Pn.signsB,h3]
   have h3':(po != 0) = false:=by simp [h3]
   clear h1 h3
   go_enter Tryz.func74,Tryz.ntmps74
   go_wp2_with (go_at_call 106;refine (Tryz.utf8_ValidRune _ _).mono ?_;rintro e w' ⟨rfl,rfl⟩)
   go_ret
   exact ⟨ret_bool2 HS.out,(Below.refl _ _).alloc (Nat.le_refl _) _⟩
  have h3':(po != 0) = true:=by simp [h3]
  cases h4:Lib.validRune po with
  | false=>
   have HS:Hid (false = Pn.signsB mi po g):=by show false = Pn.signsB mi po g;simp [Pn.signsB,h4]
   clear h1 h3
   go_enter Tryz.func74,Tryz.ntmps74
   go_wp2_with (go_at_call 106;refine (Tryz.utf8_ValidRune _ _).mono ?_;rintro e w' ⟨rfl,rfl⟩)
   go_ret
   exact ⟨ret_bool2 HS.out,(Below.refl _ _).alloc (Nat.le_refl _) _⟩
  | true=>
   have HS:Hid (Lib.validRune g = Pn.signsB mi po g):=by show Lib.validRune g = Pn.signsB mi po g;simp [Pn.signsB,h1,h2,h3,h4]
   clear h1 h3
   go_enter Tryz.func74,Tryz.ntmps74
   go_wp2_with (go_at_call 106;refine (Tryz.utf8_ValidRune _ _).mono ?_;rintro e w' ⟨rfl,rfl⟩)
   go_ret
   exact ⟨ret_bool2 HS.out,(Below.refl _ _).alloc (Nat.le_refl _) _⟩
set_option maxHeartbeats 1000000 in
theorem new_yes (a0 a1:Option Addr) (n0 c0 n1 c1:Nat) (mi po g:Int) (f n:Nat) (d:ByteArray) (d0 d1 d2 d3 d4 d5 d6 d7 d8 d9:Int) (w:World)
  (hd:Hid (∀ w,Base w → Calls Tryz.prog 73 #[.string d] w fun e w'=>e = .returned (.tuple #[.agg #[.int .i32 d0,.int .i32 d1,.int .i32 d2,.int .i32 d3,.int .i32 d4,.int .i32 d5,.int .i32 d6,.int .i32 d7,.int .i32 d8,.int .i32 d9],.bool true]) ∧ Below w.heap.size w w'))
  (hr:Hid (RulesOk w (.agg #[.slice a0 n0 c0,.slice a1 n1 c1,.int .i32 mi,.int .i32 po,.int .i32 g,.int .u8 f,.int .u8 n,.string d]))) (hB:Base w) (hs:Pn.signsB mi po g = true) (hf:f ≤ 9) (hn:n ≤ 9):
  Calls Tryz.prog 53 #[.agg #[.slice a0 n0 c0,.slice a1 n1 c1,.int .i32 mi,.int .i32 po,.int .i32 g,.int .u8 f,.int .u8 n,.string d]] w fun e w'=>(∃ u0 v0 x0 u1 v1 x1,e = .returned (.tuple #[.agg #[.int .i32 mi,.int .i32 po,.int .i32 g,.int .i64 (Pn.firstOf g f:Nat),.int .i64 (Pn.nextOf g f n:Nat),.int .i32 d0,.int .i32 d1,.int .i32 d2,.int .i32 d3,.int .i32 d4,.int .i32 d5,.int .i32 d6,.int .i32 d7,.int .i32 d8,.int .i32 d9,.slice u0 v0 x0,.slice u1 v1 x1],.nilIface])) ∧ Below w.heap.size w w':=by
 have HB:Hid (Base w):=hB
 clear hB
 have r0:Row ((w.alloc (.cells #[.slice a0 n0 c0,.slice a1 n1 c1,.int .i32 mi,.int .i32 po,.int .i32 g,.int .u8 f,.int .u8 n,.string d] 25)).alloc (.cells #[.int .i32 0,.int .i32 0,.int .i32 0,.int .i64 0,.int .i64 0,.int .i32 0,.int .i32 0,.int .i32 0,.int .i32 0,.int .i32 0,.int .i32 0,.int .i32 0,.int .i32 0,.int .i32 0,.int .i32 0,.slice none 0 0,.slice none 0 0] 105)) w.heap.size #[.slice a0 n0 c0,.slice a1 n1 c1,.int .i32 mi,.int .i32 po,.int .i32 g,.int .u8 f,.int .u8 n,.string d]:=(row_at w _ _).alloc _
 have r1:Row ((w.alloc (.cells #[.slice a0 n0 c0,.slice a1 n1 c1,.int .i32 mi,.int .i32 po,.int .i32 g,.int .u8 f,.int .u8 n,.string d] 25)).alloc (.cells #[.int .i32 0,.int .i32 0,.int .i32 0,.int .i64 0,.int .i64 0,.int .i32 0,.int .i32 0,.int .i32 0,.int .i32 0,.int .i32 0,.int .i32 0,.int .i32 0,.int .i32 0,.int .i32 0,.int .i32 0,.slice none 0 0,.slice none 0 0] 105)) (w.heap.size + 1) #[.int .i32 0,.int .i32 0,.int .i32 0,.int .i64 0,.int .i64 0,.int .i32 0,.int .i32 0,.int .i32 0,.int .i32 0,.int .i32 0,.int .i32 0,.int .i32 0,.int .i32 0,.int .i32 0,.int .i32 0,.slice none 0 0,.slice none 0 0]:=by simpa using row_at (w.alloc (.cells #[.slice a0 n0 c0,.slice a1 n1 c1,.int .i32 mi,.int .i32 po,.int .i32 g,.int .u8 f,.int .u8 n,.string d] 25)) #[.int .i32 0,.int .i32 0,.int .i32 0,.int .i64 0,.int .i64 0,.int .i32 0,.int .i32 0,.int .i32 0,.int .i32 0,.int .i32 0,.int .i32 0,.int .i32 0,.int .i32 0,.int .i32 0,.int .i32 0,.slice none 0 0,.slice none 0 0] 105
 have hf':¬ (9:Int) < f:=by omega
 have hn':¬ (9:Int) < n:=by omega
 go_enter Tryz.func53,Tryz.ntmps53
 go_wp2_with fail
 refine (hd.out _ ((HB.out.alloc _).alloc _)).mono ?_
 rintro e w1 ⟨rfl,hb1⟩
 replace r0:=r0.keep hb1
 replace r1:=r1.keep hb1
 have hw1:Below w.heap.size w w1:=below_of (((Below.refl _ _).alloc (Nat.le_refl _) _).alloc (by simp) _) hb1
 clear hb1
 have e0:=r0.1
 have e1:=r1.1
 have q0:=fun o=>(r0.alloc o).2.1
 go_wp2_with fail
 refine (hasSigns_any _ _ _ _ _ _ _ _ _ _ _ _ _).mono ?_
 rintro e w2 ⟨rfl,hb2⟩
 clear q0
 replace r0:=(r0.alloc _).keep hb2
 replace r1:=(r1.alloc _).keep hb2
 have r2:=(row_at w1 _ _).keep hb2
 have hw2:Below w.heap.size w w2:=below_of (hw1.alloc hw1.size _) hb2
 clear hb2 hw1
 have q0:=r0.2.1
 go_wp2_with fail
 refine (hr.out.one 0 (by decide) _ hw2).mono ?_
 rintro e w2a ⟨⟨u0,v0,x0,rfl⟩,hb2a⟩
 clear q0
 replace r0:=r0.keep hb2a
 replace r1:=r1.keep hb2a
 replace r2:=r2.keep hb2a
 replace hw2:=below_of hw2 hb2a
 clear hb2a
 have q0:=r0.2.1
 go_wp2_with fail
 refine (hr.out.one 1 (by decide) _ hw2).mono ?_
 rintro e w2b ⟨⟨u1,v1,x1,rfl⟩,hb2b⟩
 clear q0
 replace r0:=r0.keep hb2b
 replace r1:=r1.keep hb2b
 replace r2:=r2.keep hb2b
 replace hw2:=below_of hw2 hb2b
 clear hb2b
 have q0:=r0.2.1
 go_wp2_with fail
 refine (groupsOf_any _ _ _ _ _ _ _ _ _ _ _ _ _ hf hn).mono ?_
 rintro e w3 ⟨rfl,hb3⟩
 clear q0
 replace r0:=r0.keep hb3
 replace r1:=r1.keep hb3
 replace r2:=r2.keep hb3
 have hw3:Below w.heap.size w w3:=below_of hw2 hb3
 clear hb3 hw2
 have q0:=r0.2.1
 have q1:=r1.2.1
 have p1:=r1.2.2
 have q2:=r2.2.1
 clear r0 r1 r2
 go_wp2
 exact bodyPost_ret (v:=.tuple #[.agg #[.int .i32 mi,.int .i32 po,.int .i32 g,.int .i64 (Pn.firstOf g f:Nat),.int .i64 (Pn.nextOf g f n:Nat),.int .i32 d0,.int .i32 d1,.int .i32 d2,.int .i32 d3,.int .i32 d4,.int .i32 d5,.int .i32 d6,.int .i32 d7,.int .i32 d8,.int .i32 d9,.slice u0 v0 x0,.slice u1 v1 x1],.nilIface]) (by simp [results,Tryz.results53,go_sem,q1]) rfl ⟨⟨u0,v0,x0,u1,v1,x1,rfl⟩,(((((((((((((((((hw3.setCell (p:=⟨w.heap.size + 1,0,none⟩) (Nat.le_succ _) _).setCell (p:=⟨w.heap.size + 1,1,none⟩) (Nat.le_succ _) _).setCell (p:=⟨w.heap.size + 1,2,none⟩) (Nat.le_succ _) _).setCell (p:=⟨w.heap.size + 1,3,none⟩) (Nat.le_succ _) _).setCell (p:=⟨w.heap.size + 1,4,none⟩) (Nat.le_succ _) _).setCell (p:=⟨w.heap.size + 1,5,none⟩) (Nat.le_succ _) _).setCell (p:=⟨w.heap.size + 1,6,none⟩) (Nat.le_succ _) _).setCell (p:=⟨w.heap.size + 1,7,none⟩) (Nat.le_succ _) _).setCell (p:=⟨w.heap.size + 1,8,none⟩) (Nat.le_succ _) _).setCell (p:=⟨w.heap.size + 1,9,none⟩) (Nat.le_succ _) _).setCell (p:=⟨w.heap.size + 1,10,none⟩) (Nat.le_succ _) _).setCell (p:=⟨w.heap.size + 1,11,none⟩) (Nat.le_succ _) _).setCell (p:=⟨w.heap.size + 1,12,none⟩) (Nat.le_succ _) _).setCell (p:=⟨w.heap.size + 1,13,none⟩) (Nat.le_succ _) _).setCell (p:=⟨w.heap.size + 1,14,none⟩) (Nat.le_succ _) _).setCell (p:=⟨w.heap.size + 1,15,none⟩) (Nat.le_succ _) _).setCell (p:=⟨w.heap.size + 1,16,none⟩) (Nat.le_succ _) _)⟩
end Go.Proofs.YtaepcfidpekflaaGreatDoor
