/-
  Several texts in one (We). By the verifier.
-/
import Derived.Test.YtaepcfidpekflaaGreatDoorZ29
import Derived.Test.YtaepcfidpekflaaGreatDoorZ01
import Derived.Test.YtaepcfidpekflaaGreatDoorZ03
namespace Go.Proofs.YtaepcfidpekflaaGreatDoor
open Go.RowKit
set_option maxHeartbeats 1000000 in
theorem hasSigns_any (a0 a1:Option Addr) (n0 c0 n1 c1:Nat) (mi po g:Int) (f n:Nat) (d:ByteArray) (w:World):
  Calls Tryz.prog 74 #[.agg #[.slice a0 n0 c0,.slice a1 n1 c1,.int .i32 mi,.int .i32 po,.int .i32 g,.int .u8 f,.int .u8 n,.string d]] w fun e w'=>e = .returned (.bool (Pn.signsB mi po g)) ∧ Below w.heap.size w w':=by
 by_cases h1:mi = 0
 ·have HS:Hid (false = Pn.signsB mi po g):=by show false = Pn.signsB mi po g;simp [Pn.signsB,h1]
  have h1':(mi != 0) = false:=by simp [h1]
  clear h1
  go_enter Tryz.func74,Tryz.ntmps74
  go_wp2_with (go_at_call 106;refine (Tryz.utf8_ValidRune _ _).mono ?_;rintro e w' ⟨rfl,rfl⟩)
  go_ret
  exact ⟨ret_bool2 HS.out,(Below.refl _ _).alloc (Nat.le_refl _) _⟩
 have h1':(mi != 0) = true:=by simp [h1]
 cases h2:Lib.validRune mi with
 | false=>
  have HS:Hid (false = Pn.signsB mi po g):=by show false = Pn.signsB mi po g;simp [Pn.signsB,h2]
  clear h1
  go_enter Tryz.func74,Tryz.ntmps74
  go_wp2_with (go_at_call 106;refine (Tryz.utf8_ValidRune _ _).mono ?_;rintro e w' ⟨rfl,rfl⟩)
  go_ret
  exact ⟨ret_bool2 HS.out,(Below.refl _ _).alloc (Nat.le_refl _) _⟩
 | true=>
  by_cases h3:po = 0
  ·have HS:Hid (false = Pn.signsB mi po g):=by show false = Pn.signsB mi po g;simp [Pn.signsB,h3]
   have h3':(po != 0) = false:=by simp [h3]
   clear h1 h3
   go_enter Tryz.func74,Tryz.ntmps74
   go_wp2_with (go_at_call 106;refine (Tryz.utf8_ValidRune _ _).mono ?_;rintro e w' ⟨rfl,rfl⟩)
   go_ret
   exact ⟨ret_bool2 HS.out,(Below.refl _ _).alloc (Nat.le_refl _) _⟩
  have h3':(po != 0) = true:=by simp [h3]
  cases h4:Lib.validRune po with
  | false=>
   have HS:Hid (false = Pn.signsB mi po g):=by show false = Pn.signsB mi po g;simp [Pn.signsB,h4]
   clear h1 h3
   go_enter Tryz.func74,Tryz.ntmps74
   go_wp2_with (go_at_call 106;refine (Tryz.utf8_ValidRune _ _).mono ?_;rintro e w' ⟨rfl,rfl⟩)
   go_ret
   exact ⟨ret_bool2 HS.out,(Below.refl _ _).alloc (Nat.le_refl _) _⟩
  | true=>
   have HS:Hid (Lib.validRune g = Pn.signsB mi po g):=by show Lib.validRune g = Pn.signsB mi po g;simp [Pn.signsB,h1,h2,h3,h4]
   clear h1 h3
   go_enter Tryz.func74,Tryz.ntmps74
   go_wp2_with (go_at_call 106;refine (Tryz.utf8_ValidRune _ _).mono ?_;rintro e w' ⟨rfl,rfl⟩)
   go_ret
   exact ⟨ret_bool2 HS.out,(Below.refl _ _).alloc (Nat.le_refl _) _⟩
set_option maxHeartbeats 1000000 in
theorem new_yes (a0 a1:Option Addr) (n0 c0 n1 c1:Nat) (mi po g:Int) (f n:Nat) (d:ByteArray) (d0 d1 d2 d3 d4 d5 d6 d7 d8 d9:Int) (w:World)
  (hd:Hid (∀ w,Base w → Calls Tryz.prog 73 #[.string d] w fun e w'=>e = .returned (.tuple #[.agg #[.int .i32 d0,.int .i32 d1,.int .i32 d2,.int .i32 d3,.int .i32 d4,.int .i32 d5,.int .i32 d6,.int .i32 d7,.int .i32 d8,.int .i32 d9],.bool true]) ∧ Below w.heap.size w w'))
  (hr:Hid (RulesOk w (.agg #[.slice a0 n0 c0,.slice a1 n1 c1,.int .i32 mi,.int .i32 po,.int .i32 g,.int .u8 f,.int .u8 n,.string d]))) (hB:Base w) (hs:Pn.signsB mi po g = true) (hf:f ≤ 9) (hn:n ≤ 9):
  Calls Tryz.prog 53 #[.agg #[.slice a0 n0 c0,.slice a1 n1 c1,.int .i32 mi,.int .i32 po,.int .i32 g,.int .u8 f,.int .u8 n,.string d]] w fun e w'=>(∃ u0 v0 x0 u1 v1 x1,e = .returned (.tuple #[.agg #[.int .i32 mi,.int .i32 po,.int .i32 g,.int .i64 (Pn.firstOf g f:Nat),.int .i64 (Pn.nextOf g f n:Nat),.int .i32 d0,.int .i32 d1,.int .i32 d2,.int .i32 d3,.int .i32 d4,.int .i32 d5,.int .i32 d6,.int .i32 d7,.int .i32 d8,.int .i32 d9,.slice u0 v0 x0,.slice u1 v1 x1],.nilIface])) ∧ Below w.heap.size w w':=by
 have HB:Hid (Base w):=hB
 clear hB
 have r0:Row ((w.alloc (.cells #[.slice a0 n0 c0,.slice a1 n1 c1,.int .i32 mi,.int .i32 po,.int .i32 g,.int .u8 f,.int .u8 n,.string d] 25)).alloc (.cells #[.int .i32 0,.int .i32 0,.int .i32 0,.int .i64 0,.int .i64 0,.int .i32 0,.int .i32 0,.int .i32 0,.int .i32 0,.int .i32 0,.int .i32 0,.int .i32 0,.int .i32 0,.int .i32 0,.int .i32 0,.slice none 0 0,.slice none 0 0] 105)) w.heap.size #[.slice a0 n0 c0,.slice a1 n1 c1,.int .i32 mi,.int .i32 po,.int .i32 g,.int .u8 f,.int .u8 n,.string d]:=(row_at w _ _).alloc _
 have r1:Row ((w.alloc (.cells #[.slice a0 n0 c0,.slice a1 n1 c1,.int .i32 mi,.int .i32 po,.int .i32 g,.int .u8 f,.int .u8 n,.string d] 25)).alloc (.cells #[.int .i32 0,.int .i32 0,.int .i32 0,.int .i64 0,.int .i64 0,.int .i32 0,.int .i32 0,.int .i32 0,.int .i32 0,.int .i32 0,.int .i32 0,.int .i32 0,.int .i32 0,.int .i32 0,.int .i32 0,.slice none 0 0,.slice none 0 0] 105)) (w.heap.size + 1) #[.int .i32 0,.int .i32 0,.int .i32 0,.int .i64 0,.int .i64 0,.int .i32 0,.int .i32 0,.int .i32 0,.int .i32 0,.int .i32 0,.int .i32 0,.int .i32 0,.int .i32 0,.int .i32 0,.int .i32 0,.slice none 0 0,.slice none 0 0]:=by simpa using row_at (w.alloc (.cells #[.slice a0 n0 c0,.slice a1 n1 c1,.int .i32 mi,.int .i32 po,.int .i32 g,.int .u8 f,.int .u8 n,.string d] 25)) #[.int .i32 0,.int .i32 0,.int .i32 0,.int .i64 0,.int .i64 0,.int .i32 0,.int .i32 0,.int .i32 0,.int .i32 0,.int .i32 0,.int .i32 0,.int .i32 0,.int .i32 0,.int .i32 0,.int .i32 0,.slice none 0 0,.slice none 0 0] 105
 have hf':¬ (9:Int) < f:=by omega
 have hn':¬ (9:Int) < n:=by omega
 go_enter Tryz.func53,Tryz.ntmps53
 go_wp2_with fail
 refine (hd.out _ ((HB.out.alloc _).alloc _)).mono ?_
 rintro e w1 ⟨rfl,hb1⟩
 replace r0:=r0.keep hb1
 replace r1:=r1.keep hb1
 have hw1:Below w.heap.size w w1:=below_of (((Below.refl _ _).alloc (Nat.le_refl _) _).alloc (by simp) _) hb1
 clear hb1
 have e0:=r0.1
 have e1:=r1.1
 have q0:=fun o=>(r0.alloc o).2.1
 go_wp2_with fail
 refine (hasSigns_any _ _ _ _ _ _ _ _ _ _ _ _ _).mono ?_
 rintro e w2 ⟨rfl,hb2⟩
 clear q0
 replace r0:=(r0.alloc _).keep hb2
 replace r1:=(r1.alloc _).keep hb2
 have r2:=(row_at w1 _ _).keep hb2
 have hw2:Below w.heap.size w w2:=below_of (hw1.alloc hw1.size _) hb2
 clear hb2 hw1
 have q0:=r0.2.1
 go_wp2_with fail
 refine (hr.out.one 0 (by decide) _ hw2).mono ?_
 rintro e w2a ⟨⟨u0,v0,x0,rfl⟩,hb2a⟩
 clear q0
 replace r0:=r0.keep hb2a
 replace r1:=r1.keep hb2a
 replace r2:=r2.keep hb2a
 replace hw2:=below_of hw2 hb2a
 clear hb2a
 have q0:=r0.2.1
 go_wp2_with fail
 refine (hr.out.one 1 (by decide) _ hw2).mono ?_
 rintro e w2b ⟨⟨u1,v1,x1,rfl⟩,hb2b⟩
 clear q0
 replace r0:=r0.keep hb2b
 replace r1:=r1.keep hb2b
 replace r2:=r2.keep hb2b
 replace hw2:=below_of hw2 hb2b
 clear hb2b
 have q0:=r0.2.1
 go_wp2_with fail
 refine (groupsOf_any _ _ _ _ _ _ _ _ _ _ _ _ _ hf hn).mono ?_
 rintro e w3 ⟨rfl,hb3⟩
 clear q0
 replace r0:=r0.keep hb3
 replace r1:=r1.keep hb3
 replace r2:=r2.keep hb3
 have hw3:Below w.heap.size w w3:=below_of hw2 hb3
 clear hb3 hw2
 have q0:=r0.2.1
 have q1:=r1.2.1
 have p1:=r1.2.2
 have q2:=r2.2.1
 clear r0 r1 r2
 go_wp2
 exact bodyPost_ret (v:=.tuple #[.agg #[.int .i32 mi,.int .i32 po,.int .i32 g,.int .i64 (Pn.firstOf g f:Nat),.int .i64 (Pn.nextOf g f n:Nat),.int .i32 d0,.int .i32 d1,.int .i32 d2,.int .i32 d3,.int .i32 d4,.int .i32 d5,.int .i32 d6,.int .i32 d7,.int .i32 d8,.int .i32 d9,.slice u0 v0 x0,.slice u1 v1 x1],.nilIface]) (by simp [results,Tryz.results53,go_sem,q1]) rfl ⟨⟨u0,v0,x0,u1,v1,x1,rfl⟩,(((((((((((((((((hw3.setCell (p:=⟨w.heap.size + 1,0,none⟩) (Nat.le_succ _) _).setCell (p:=⟨w.heap.size + 1,1,none⟩) (Nat.le_succ _) _).setCell (p:=⟨w.heap.size + 1,2,none⟩) (Nat.le_succ _) _).setCell (p:=⟨w.heap.size + 1,3,none⟩) (Nat.le_succ _) _).setCell (p:=⟨w.heap.size + 1,4,none⟩) (Nat.le_succ _) _).setCell (p:=⟨w.heap.size + 1,5,none⟩) (Nat.le_succ _) _).setCell (p:=⟨w.heap.size + 1,6,none⟩) (Nat.le_succ _) _).setCell (p:=⟨w.heap.size + 1,7,none⟩) (Nat.le_succ _) _).setCell (p:=⟨w.heap.size + 1,8,none⟩) (Nat.le_succ _) _).setCell (p:=⟨w.heap.size + 1,9,none⟩) (Nat.le_succ _) _).setCell (p:=⟨w.heap.size + 1,10,none⟩) (Nat.le_succ _) _).setCell (p:=⟨w.heap.size + 1,11,none⟩) (Nat.le_succ _) _).setCell (p:=⟨w.heap.size + 1,12,none⟩) (Nat.le_succ _) _).setCell (p:=⟨w.heap.size + 1,13,none⟩) (Nat.le_succ _) _).setCell (p:=⟨w.heap.size + 1,14,none⟩) (Nat.le_succ _) _).setCell (p:=⟨w.heap.size + 1,15,none⟩) (Nat.le_succ _) _).setCell (p:=⟨w.heap.size + 1,16,none⟩) (Nat.le_succ _) _)⟩
end Go.Proofs.YtaepcfidpekflaaGreatDoor
