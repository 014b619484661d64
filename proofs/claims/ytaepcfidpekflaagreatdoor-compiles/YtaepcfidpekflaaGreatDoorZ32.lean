/-
  Several texts in one (Wk). By the verifier.
-/
import Derived.Test.YtaepcfidpekflaaGreatDoorZ30
import Derived.Test.YtaepcfidpekflaaGreatDoorZ31
namespace Go.Proofs.YtaepcfidpekflaaGreatDoor
open Go.RowKit
set_option maxHeartbeats 1000000 in
theorem new_no1 (a0 a1:Option Addr) (n0 c0 n1 c1:Nat) (mi po g:Int) (f n:Nat) (d:ByteArray) (w:World) (hd:Hid (∀ w,Base w → Calls Tryz.prog 73 #[.string d] w fun e w'=>e = .returned (.tuple #[.agg #[.int .i32 0,.int .i32 0,.int .i32 0,.int .i32 0,.int .i32 0,.int .i32 0,.int .i32 0,.int .i32 0,.int .i32 0,.int .i32 0],.bool false]) ∧ Below w.heap.size w w')) (hB:Base w):
  Calls Tryz.prog 53 #[.agg #[.slice a0 n0 c0,.slice a1 n1 c1,.int .i32 mi,.int .i32 po,.int .i32 g,.int .u8 f,.int .u8 n,.string d]] w fun e w'=>e = .returned (.tuple #[.agg #[.int .i32 0,.int .i32 0,.int .i32 0,.int .i64 0,.int .i64 0,.int .i32 0,.int .i32 0,.int .i32 0,.int .i32 0,.int .i32 0,.int .i32 0,.int .i32 0,.int .i32 0,.int .i32 0,.int .i32 0,.slice none 0 0,.slice none 0 0],.iface 30 (.int .i64 8)]) ∧ Below w.heap.size w w':=by
 have HB:Hid (Base w):=hB
 clear hB
 have r0:Row ((w.alloc (.cells #[.slice a0 n0 c0,.slice a1 n1 c1,.int .i32 mi,.int .i32 po,.int .i32 g,.int .u8 f,.int .u8 n,.string d] 25)).alloc (.cells #[.int .i32 0,.int .i32 0,.int .i32 0,.int .i64 0,.int .i64 0,.int .i32 0,.int .i32 0,.int .i32 0,.int .i32 0,.int .i32 0,.int .i32 0,.int .i32 0,.int .i32 0,.int .i32 0,.int .i32 0,.slice none 0 0,.slice none 0 0] 105)) w.heap.size #[.slice a0 n0 c0,.slice a1 n1 c1,.int .i32 mi,.int .i32 po,.int .i32 g,.int .u8 f,.int .u8 n,.string d]:=(row_at w _ _).alloc _
 have r1:Row ((w.alloc (.cells #[.slice a0 n0 c0,.slice a1 n1 c1,.int .i32 mi,.int .i32 po,.int .i32 g,.int .u8 f,.int .u8 n,.string d] 25)).alloc (.cells #[.int .i32 0,.int .i32 0,.int .i32 0,.int .i64 0,.int .i64 0,.int .i32 0,.int .i32 0,.int .i32 0,.int .i32 0,.int .i32 0,.int .i32 0,.int .i32 0,.int .i32 0,.int .i32 0,.int .i32 0,.slice none 0 0,.slice none 0 0] 105)) (w.heap.size + 1) #[.int .i32 0,.int .i32 0,.int .i32 0,.int .i64 0,.int .i64 0,.int .i32 0,.int .i32 0,.int .i32 0,.int .i32 0,.int .i32 0,.int .i32 0,.int .i32 0,.int .i32 0,.int .i32 0,.int .i32 0,.slice none 0 0,.slice none 0 0]:=by simpa using row_at (w.alloc (.cells #[.slice a0 n0 c0,.slice a1 n1 c1,.int .i32 mi,.int .i32 po,.int .i32 g,.int .u8 f,.int .u8 n,.string d] 25)) #[.int .i32 0,.int .i32 0,.int .i32 0,.int .i64 0,.int .i64 0,.int .i32 0,.int .i32 0,.int .i32 0,.int .i32 0,.int .i32 0,.int .i32 0,.int .i32 0,.int .i32 0,.int .i32 0,.int .i32 0,.slice none 0 0,.slice none 0 0] 105
 go_enter Tryz.func53,Tryz.ntmps53
 go_wp2_with fail
 refine (hd.out _ ((HB.out.alloc _).alloc _)).mono ?_
 rintro e w1 ⟨rfl,hb1⟩
 replace r0:=r0.keep hb1
 replace r1:=r1.keep hb1
 have hw1:Below w.heap.size w w1:=below_of (((Below.refl _ _).alloc (Nat.le_refl _) _).alloc (by simp) _) hb1
 clear hb1
 have e0:=r0.1
 have e1:=r1.1
 have q0:=fun o=>(r0.alloc o).2.1
 have q1:=r1.2.1
 have p1:=r1.2.2
 go_wp2
 exact bodyPost_ret (v:=.tuple #[.agg #[.int .i32 0,.int .i32 0,.int .i32 0,.int .i64 0,.int .i64 0,.int .i32 0,.int .i32 0,.int .i32 0,.int .i32 0,.int .i32 0,.int .i32 0,.int .i32 0,.int .i32 0,.int .i32 0,.int .i32 0,.slice none 0 0,.slice none 0 0],.iface 30 (.int .i64 8)]) (by simp [results,Tryz.results53,go_sem,q1,e1]) rfl ⟨rfl,Below.alloc (((((((((((((((((hw1.setCell (p:=⟨w.heap.size + 1,0,none⟩) (Nat.le_succ _) _).setCell (p:=⟨w.heap.size + 1,1,none⟩) (Nat.le_succ _) _).setCell (p:=⟨w.heap.size + 1,2,none⟩) (Nat.le_succ _) _).setCell (p:=⟨w.heap.size + 1,3,none⟩) (Nat.le_succ _) _).setCell (p:=⟨w.heap.size + 1,4,none⟩) (Nat.le_succ _) _).setCell (p:=⟨w.heap.size + 1,5,none⟩) (Nat.le_succ _) _).setCell (p:=⟨w.heap.size + 1,6,none⟩) (Nat.le_succ _) _).setCell (p:=⟨w.heap.size + 1,7,none⟩) (Nat.le_succ _) _).setCell (p:=⟨w.heap.size + 1,8,none⟩) (Nat.le_succ _) _).setCell (p:=⟨w.heap.size + 1,9,none⟩) (Nat.le_succ _) _).setCell (p:=⟨w.heap.size + 1,10,none⟩) (Nat.le_succ _) _).setCell (p:=⟨w.heap.size + 1,11,none⟩) (Nat.le_succ _) _).setCell (p:=⟨w.heap.size + 1,12,none⟩) (Nat.le_succ _) _).setCell (p:=⟨w.heap.size + 1,13,none⟩) (Nat.le_succ _) _).setCell (p:=⟨w.heap.size + 1,14,none⟩) (Nat.le_succ _) _).setCell (p:=⟨w.heap.size + 1,15,none⟩) (Nat.le_succ _) _).setCell (p:=⟨w.heap.size + 1,16,none⟩) (Nat.le_succ _) _) (by simpa using hw1.size) _⟩
set_option maxHeartbeats 1000000 in
theorem new_no2 (a0 a1:Option Addr) (n0 c0 n1 c1:Nat) (mi po g:Int) (f n:Nat) (d:ByteArray) (d0 d1 d2 d3 d4 d5 d6 d7 d8 d9:Int) (w:World) (hd:Hid (∀ w,Base w → Calls Tryz.prog 73 #[.string d] w fun e w'=>e = .returned (.tuple #[.agg #[.int .i32 d0,.int .i32 d1,.int .i32 d2,.int .i32 d3,.int .i32 d4,.int .i32 d5,.int .i32 d6,.int .i32 d7,.int .i32 d8,.int .i32 d9],.bool true]) ∧ Below w.heap.size w w')) (hB:Base w) (hs:Pn.signsB mi po g = false):
  Calls Tryz.prog 53 #[.agg #[.slice a0 n0 c0,.slice a1 n1 c1,.int .i32 mi,.int .i32 po,.int .i32 g,.int .u8 f,.int .u8 n,.string d]] w fun e w'=>e = .returned (.tuple #[.agg #[.int .i32 0,.int .i32 0,.int .i32 0,.int .i64 0,.int .i64 0,.int .i32 0,.int .i32 0,.int .i32 0,.int .i32 0,.int .i32 0,.int .i32 0,.int .i32 0,.int .i32 0,.int .i32 0,.int .i32 0,.slice none 0 0,.slice none 0 0],.iface 30 (.int .i64 8)]) ∧ Below w.heap.size w w':=by
 have HB:Hid (Base w):=hB
 clear hB
 have r0:Row ((w.alloc (.cells #[.slice a0 n0 c0,.slice a1 n1 c1,.int .i32 mi,.int .i32 po,.int .i32 g,.int .u8 f,.int .u8 n,.string d] 25)).alloc (.cells #[.int .i32 0,.int .i32 0,.int .i32 0,.int .i64 0,.int .i64 0,.int .i32 0,.int .i32 0,.int .i32 0,.int .i32 0,.int .i32 0,.int .i32 0,.int .i32 0,.int .i32 0,.int .i32 0,.int .i32 0,.slice none 0 0,.slice none 0 0] 105)) w.heap.size #[.slice a0 n0 c0,.slice a1 n1 c1,.int .i32 mi,.int .i32 po,.int .i32 g,.int .u8 f,.int .u8 n,.string d]:=(row_at w _ _).alloc _
 have r1:Row ((w.alloc (.cells #[.slice a0 n0 c0,.slice a1 n1 c1,.int .i32 mi,.int .i32 po,.int .i32 g,.int .u8 f,.int .u8 n,.string d] 25)).alloc (.cells #[.int .i32 0,.int .i32 0,.int .i32 0,.int .i64 0,.int .i64 0,.int .i32 0,.int .i32 0,.int .i32 0,.int .i32 0,.int .i32 0,.int .i32 0,.int .i32 0,.int .i32 0,.int .i32 0,.int .i32 0,.slice none 0 0,.slice none 0 0] 105)) (w.heap.size + 1) #[.int .i32 0,.int .i32 0,.int .i32 0,.int .i64 0,.int .i64 0,.int .i32 0,.int .i32 0,.int .i32 0,.int .i32 0,.int .i32 0,.int .i32 0,.int .i32 0,.int .i32 0,.int .i32 0,.int .i32 0,.slice none 0 0,.slice none 0 0]:=by simpa using row_at (w.alloc (.cells #[.slice a0 n0 c0,.slice a1 n1 c1,.int .i32 mi,.int .i32 po,.int .i32 g,.int .u8 f,.int .u8 n,.string d] 25)) #[.int .i32 0,.int .i32 0,.int .i32 0,.int .i64 0,.int .i64 0,.int .i32 0,.int .i32 0,.int .i32 0,.int .i32 0,.int .i32 0,.int .i32 0,.int .i32 0,.int .i32 0,.int .i32 0,.int .i32 0,.slice none 0 0,.slice none 0 0] 105
 go_enter Tryz.func53,Tryz.ntmps53
 go_wp2_with fail
 refine (hd.out _ ((HB.out.alloc _).alloc _)).mono ?_
 rintro e w1 ⟨rfl,hb1⟩
 replace r0:=r0.keep hb1
 replace r1:=r1.keep hb1
 have hw1:Below w.heap.size w w1:=below_of (((Below.refl _ _).alloc (Nat.le_refl _) _).alloc (by simp) _) hb1
 clear hb1
 have e0:=r0.1
 have e1:=r1.1
 have q0:=fun o=>(r0.alloc o).2.1
 go_wp2_with fail
 refine (hasSigns_any _ _ _ _ _ _ _ _ _ _ _ _ _).mono ?_
 rintro e w2 ⟨rfl,hb2⟩
 clear q0
 replace r0:=(r0.alloc _).keep hb2
 replace r1:=(r1.alloc _).keep hb2
 have hw2:Below w.heap.size w w2:=below_of (hw1.alloc hw1.size _) hb2
 clear hb2 hw1
 have q0:=r0.2.1
 have q1:=r1.2.1
 have p1:=r1.2.2
 go_wp2
 exact bodyPost_ret (v:=.tuple #[.agg #[.int .i32 0,.int .i32 0,.int .i32 0,.int .i64 0,.int .i64 0,.int .i32 0,.int .i32 0,.int .i32 0,.int .i32 0,.int .i32 0,.int .i32 0,.int .i32 0,.int .i32 0,.int .i32 0,.int .i32 0,.slice none 0 0,.slice none 0 0],.iface 30 (.int .i64 8)]) (by simp [results,Tryz.results53,go_sem,q1]) rfl ⟨rfl,(((((((((((((((((hw2.setCell (p:=⟨w.heap.size + 1,0,none⟩) (Nat.le_succ _) _).setCell (p:=⟨w.heap.size + 1,1,none⟩) (Nat.le_succ _) _).setCell (p:=⟨w.heap.size + 1,2,none⟩) (Nat.le_succ _) _).setCell (p:=⟨w.heap.size + 1,3,none⟩) (Nat.le_succ _) _).setCell (p:=⟨w.heap.size + 1,4,none⟩) (Nat.le_succ _) _).setCell (p:=⟨w.heap.size + 1,5,none⟩) (Nat.le_succ _) _).setCell (p:=⟨w.heap.size + 1,6,none⟩) (Nat.le_succ _) _).setCell (p:=⟨w.heap.size + 1,7,none⟩) (Nat.le_succ _) _).setCell (p:=⟨w.heap.size + 1,8,none⟩) (Nat.le_succ _) _).setCell (p:=⟨w.heap.size + 1,9,none⟩) (Nat.le_succ _) _).setCell (p:=⟨w.heap.size + 1,10,none⟩) (Nat.le_succ _) _).setCell (p:=⟨w.heap.size + 1,11,none⟩) (Nat.le_succ _) _).setCell (p:=⟨w.heap.size + 1,12,none⟩) (Nat.le_succ _) _).setCell (p:=⟨w.heap.size + 1,13,none⟩) (Nat.le_succ _) _).setCell (p:=⟨w.heap.size + 1,14,none⟩) (Nat.le_succ _) _).setCell (p:=⟨w.heap.size + 1,15,none⟩) (Nat.le_succ _) _).setCell (p:=⟨w.heap.size + 1,16,none⟩) (Nat.le_succ _) _)⟩
set_option maxHeartbeats 1000000 in
theorem new_no3 (a0 a1:Option Addr) (n0 c0 n1 c1:Nat) (mi po g:Int) (f n:Nat) (d:ByteArray) (d0 d1 d2 d3 d4 d5 d6 d7 d8 d9:Int) (w:World) (hd:Hid (∀ w,Base w → Calls Tryz.prog 73 #[.string d] w fun e w'=>e = .returned (.tuple #[.agg #[.int .i32 d0,.int .i32 d1,.int .i32 d2,.int .i32 d3,.int .i32 d4,.int .i32 d5,.int .i32 d6,.int .i32 d7,.int .i32 d8,.int .i32 d9],.bool true]) ∧ Below w.heap.size w w')) (hB:Base w) (hs:Pn.signsB mi po g = true) (hf:(9:Int) < f):
  Calls Tryz.prog 53 #[.agg #[.slice a0 n0 c0,.slice a1 n1 c1,.int .i32 mi,.int .i32 po,.int .i32 g,.int .u8 f,.int .u8 n,.string d]] w fun e w'=>e = .returned (.tuple #[.agg #[.int .i32 0,.int .i32 0,.int .i32 0,.int .i64 0,.int .i64 0,.int .i32 0,.int .i32 0,.int .i32 0,.int .i32 0,.int .i32 0,.int .i32 0,.int .i32 0,.int .i32 0,.int .i32 0,.int .i32 0,.slice none 0 0,.slice none 0 0],.iface 30 (.int .i64 8)]) ∧ Below w.heap.size w w':=by
 have HB:Hid (Base w):=hB
 clear hB
 have r0:Row ((w.alloc (.cells #[.slice a0 n0 c0,.slice a1 n1 c1,.int .i32 mi,.int .i32 po,.int .i32 g,.int .u8 f,.int .u8 n,.string d] 25)).alloc (.cells #[.int .i32 0,.int .i32 0,.int .i32 0,.int .i64 0,.int .i64 0,.int .i32 0,.int .i32 0,.int .i32 0,.int .i32 0,.int .i32 0,.int .i32 0,.int .i32 0,.int .i32 0,.int .i32 0,.int .i32 0,.slice none 0 0,.slice none 0 0] 105)) w.heap.size #[.slice a0 n0 c0,.slice a1 n1 c1,.int .i32 mi,.int .i32 po,.int .i32 g,.int .u8 f,.int .u8 n,.string d]:=(row_at w _ _).alloc _
 have r1:Row ((w.alloc (.cells #[.slice a0 n0 c0,.slice a1 n1 c1,.int .i32 mi,.int .i32 po,.int .i32 g,.int .u8 f,.int .u8 n,.string d] 25)).alloc (.cells #[.int .i32 0,.int .i32 0,.int .i32 0,.int .i64 0,.int .i64 0,.int .i32 0,.int .i32 0,.int .i32 0,.int .i32 0,.int .i32 0,.int .i32 0,.int .i32 0,.int .i32 0,.int .i32 0,.int .i32 0,.slice none 0 0,.slice none 0 0] 105)) (w.heap.size + 1) #[.int .i32 0,.int .i32 0,.int .i32 0,.int .i64 0,.int .i64 0,.int .i32 0,.int .i32 0,.int .i32 0,.int .i32 0,.int .i32 0,.int .i32 0,.int .i32 0,.int .i32 0,.int .i32 0,.int .i32 0,.slice none 0 0,.slice none 0 0]:=by simpa using row_at (w.alloc (.cells #[.slice a0 n0 c0,.slice a1 n1 c1,.int .i32 mi,.int .i32 po,.int .i32 g,.int .u8 f,.int .u8 n,.string d] 25)) #[.int .i32 0,.int .i32 0,.int .i32 0,.int .i64 0,.int .i64 0,.int .i32 0,.int .i32 0,.int .i32 0,.int .i32 0,.int .i32 0,.int .i32 0,.int .i32 0,.int .i32 0,.int .i32 0,.int .i32 0,.slice none 0 0,.slice none 0 0] 105
 go_enter Tryz.func53,Tryz.ntmps53
 go_wp2_with fail
 refine (hd.out _ ((HB.out.alloc _).alloc _)).mono ?_
 rintro e w1 ⟨rfl,hb1⟩
 replace r0:=r0.keep hb1
 replace r1:=r1.keep hb1
 have hw1:Below w.heap.size w w1:=below_of (((Below.refl _ _).alloc (Nat.le_refl _) _).alloc (by simp) _) hb1
 clear hb1
 have e0:=r0.1
 have e1:=r1.1
 have q0:=fun o=>(r0.alloc o).2.1
 go_wp2_with fail
 refine (hasSigns_any _ _ _ _ _ _ _ _ _ _ _ _ _).mono ?_
 rintro e w2 ⟨rfl,hb2⟩
 clear q0
 replace r0:=(r0.alloc _).keep hb2
 replace r1:=(r1.alloc _).keep hb2
 have hw2:Below w.heap.size w w2:=below_of (hw1.alloc hw1.size _) hb2
 clear hb2 hw1
 have q0:=r0.2.1
 have q1:=r1.2.1
 have p1:=r1.2.2
 go_wp2
 exact bodyPost_ret (v:=.tuple #[.agg #[.int .i32 0,.int .i32 0,.int .i32 0,.int .i64 0,.int .i64 0,.int .i32 0,.int .i32 0,.int .i32 0,.int .i32 0,.int .i32 0,.int .i32 0,.int .i32 0,.int .i32 0,.int .i32 0,.int .i32 0,.slice none 0 0,.slice none 0 0],.iface 30 (.int .i64 8)]) (by simp [results,Tryz.results53,go_sem,q1]) rfl ⟨rfl,(((((((((((((((((hw2.setCell (p:=⟨w.heap.size + 1,0,none⟩) (Nat.le_succ _) _).setCell (p:=⟨w.heap.size + 1,1,none⟩) (Nat.le_succ _) _).setCell (p:=⟨w.heap.size + 1,2,none⟩) (Nat.le_succ _) _).setCell (p:=⟨w.heap.size + 1,3,none⟩) (Nat.le_succ _) _).setCell (p:=⟨w.heap.size + 1,4,none⟩) (Nat.le_succ _) _).setCell (p:=⟨w.heap.size + 1,5,none⟩) (Nat.le_succ _) _).setCell (p:=⟨w.heap.size + 1,6,none⟩) (Nat.le_succ _) _).setCell (p:=⟨w.heap.size + 1,7,none⟩) (Nat.le_succ _) _).setCell (p:=⟨w.heap.size + 1,8,none⟩) (Nat.le_succ _) _).setCell (p:=⟨w.heap.size + 1,9,none⟩) (Nat.le_succ _) _).setCell (p:=⟨w.heap.size + 1,10,none⟩) (Nat.le_succ _) _).setCell (p:=⟨w.heap.size + 1,11,none⟩) (Nat.le_succ _) _).setCell (p:=⟨w.heap.size + 1,12,none⟩) (Nat.le_succ _) _).setCell (p:=⟨w.heap.size + 1,13,none⟩) (Nat.le_succ _) _).setCell (p:=⟨w.heap.size + 1,14,none⟩) (Nat.le_succ _) _).setCell (p:=⟨w.heap.size + 1,15,none⟩) (Nat.le_succ _) _).setCell (p:=⟨w.heap.size + 1,16,none⟩) (Nat.le_succ _) _)⟩
set_option maxHeartbeats 1000000 in
theorem new_no4 (a0 a1:Option Addr) (n0 c0 n1 c1:Nat) (mi po g:Int) (f n:Nat) (d:ByteArray) (d0 d1 d2 d3 d4 d5 d6 d7 d8 d9:Int) (w:World) (hd:Hid (∀ w,Base w → Calls Tryz.prog 73 #[.string d] w fun e w'=>e = .returned (.tuple #[.agg #[.int .i32 d0,.int .i32 d1,.int .i32 d2,.int .i32 d3,.int .i32 d4,.int .i32 d5,.int .i32 d6,.int .i32 d7,.int .i32 d8,.int .i32 d9],.bool true]) ∧ Below w.heap.size w w')) (hB:Base w) (hs:Pn.signsB mi po g = true) (hf:¬ (9:Int) < f) (hn:(9:Int) < n):
  Calls Tryz.prog 53 #[.agg #[.slice a0 n0 c0,.slice a1 n1 c1,.int .i32 mi,.int .i32 po,.int .i32 g,.int .u8 f,.int .u8 n,.string d]] w fun e w'=>e = .returned (.tuple #[.agg #[.int .i32 0,.int .i32 0,.int .i32 0,.int .i64 0,.int .i64 0,.int .i32 0,.int .i32 0,.int .i32 0,.int .i32 0,.int .i32 0,.int .i32 0,.int .i32 0,.int .i32 0,.int .i32 0,.int .i32 0,.slice none 0 0,.slice none 0 0],.iface 30 (.int .i64 8)]) ∧ Below w.heap.size w w':=by
 have HB:Hid (Base w):=hB
 clear hB
 have r0:Row ((w.alloc (.cells #[.slice a0 n0 c0,.slice a1 n1 c1,.int .i32 mi,.int .i32 po,.int .i32 g,.int .u8 f,.int .u8 n,.string d] 25)).alloc (.cells #[.int .i32 0,.int .i32 0,.int .i32 0,.int .i64 0,.int .i64 0,.int .i32 0,.int .i32 0,.int .i32 0,.int .i32 0,.int .i32 0,.int .i32 0,.int .i32 0,.int .i32 0,.int .i32 0,.int .i32 0,.slice none 0 0,.slice none 0 0] 105)) w.heap.size #[.slice a0 n0 c0,.slice a1 n1 c1,.int .i32 mi,.int .i32 po,.int .i32 g,.int .u8 f,.int .u8 n,.string d]:=(row_at w _ _).alloc _
 have r1:Row ((w.alloc (.cells #[.slice a0 n0 c0,.slice a1 n1 c1,.int .i32 mi,.int .i32 po,.int .i32 g,.int .u8 f,.int .u8 n,.string d] 25)).alloc (.cells #[.int .i32 0,.int .i32 0,.int .i32 0,.int .i64 0,.int .i64 0,.int .i32 0,.int .i32 0,.int .i32 0,.int .i32 0,.int .i32 0,.int .i32 0,.int .i32 0,.int .i32 0,.int .i32 0,.int .i32 0,.slice none 0 0,.slice none 0 0] 105)) (w.heap.size + 1) #[.int .i32 0,.int .i32 0,.int .i32 0,.int .i64 0,.int .i64 0,.int .i32 0,.int .i32 0,.int .i32 0,.int .i32 0,.int .i32 0,.int .i32 0,.int .i32 0,.int .i32 0,.int .i32 0,.int .i32 0,.slice none 0 0,.slice none 0 0]:=by simpa using row_at (w.alloc (.cells #[.slice a0 n0 c0,.slice a1 n1 c1,.int .i32 mi,.int .i32 po,.int .i32 g,.int .u8 f,.int .u8 n,.string d] 25)) #[.int .i32 0,.int .i32 0,.int .i32 0,.int .i64 0,.int .i64 0,.int .i32 0,.int .i32 0,.int .i32 0,.int .i32 0,.int .i32 0,.int .i32 0,.int .i32 0,.int .i32 0,.int .i32 0,.int .i32 0,.slice none 0 0,.slice none 0 0] 105
 go_enter Tryz.func53,Tryz.ntmps53
 go_wp2_with fail
 refine (hd.out _ ((HB.out.alloc _).alloc _)).mono ?_
 rintro e w1 ⟨rfl,hb1⟩
 replace r0:=r0.keep hb1
 replace r1:=r1.keep hb1
 have hw1:Below w.heap.size w w1:=below_of (((Below.refl _ _).alloc (Nat.le_refl _) _).alloc (by simp) _) hb1
 clear hb1
 have e0:=r0.1
 have e1:=r1.1
 have q0:=fun o=>(r0.alloc o).2.1
 go_wp2_with fail
 refine (hasSigns_any _ _ _ _ _ _ _ _ _ _ _ _ _).mono ?_
 rintro e w2 ⟨rfl,hb2⟩
 clear q0
 replace r0:=(r0.alloc _).keep hb2
 replace r1:=(r1.alloc _).keep hb2
 have hw2:Below w.heap.size w w2:=below_of (hw1.alloc hw1.size _) hb2
 clear hb2 hw1
 have q0:=r0.2.1
 have q1:=r1.2.1
 have p1:=r1.2.2
 go_wp2
 exact bodyPost_ret (v:=.tuple #[.agg #[.int .i32 0,.int .i32 0,.int .i32 0,.int .i64 0,.int .i64 0,.int .i32 0,.int .i32 0,.int .i32 0,.int .i32 0,.int .i32 0,.int .i32 0,.int .i32 0,.int .i32 0,.int .i32 0,.int .i32 0,.slice none 0 0,.slice none 0 0],.iface 30 (.int .i64 8)]) (by simp [results,Tryz.results53,go_sem,q1]) rfl ⟨rfl,(((((((((((((((((hw2.setCell (p:=⟨w.heap.size + 1,0,none⟩) (Nat.le_succ _) _).setCell (p:=⟨w.heap.size + 1,1,none⟩) (Nat.le_succ _) _).setCell (p:=⟨w.heap.size + 1,2,none⟩) (Nat.le_succ _) _).setCell (p:=⟨w.heap.size + 1,3,none⟩) (Nat.le_succ _) _).setCell (p:=⟨w.heap.size + 1,4,none⟩) (Nat.le_succ _) _).setCell (p:=⟨w.heap.size + 1,5,none⟩) (Nat.le_succ _) _).setCell (p:=⟨w.heap.size + 1,6,none⟩) (Nat.le_succ _) _).setCell (p:=⟨w.heap.size + 1,7,none⟩) (Nat.le_succ _) _).setCell (p:=⟨w.heap.size + 1,8,none⟩) (Nat.le_succ _) _).setCell (p:=⟨w.heap.size + 1,9,none⟩) (Nat.le_succ _) _).setCell (p:=⟨w.heap.size + 1,10,none⟩) (Nat.le_succ _) _).setCell (p:=⟨w.heap.size + 1,11,none⟩) (Nat.le_succ _) _).setCell (p:=⟨w.heap.size + 1,12,none⟩) (Nat.le_succ _) _).setCell (p:=⟨w.heap.size + 1,13,none⟩) (Nat.le_succ _) _).setCell (p:=⟨w.heap.size + 1,14,none⟩) (Nat.le_succ _) _).setCell (p:=⟨w.heap.size + 1,15,none⟩) (Nat.le_succ _) _).setCell (p:=⟨w.heap.size + 1,16,none⟩) (Nat.le_succ _) _)⟩
end Go.Proofs.YtaepcfidpekflaaGreatDoor
