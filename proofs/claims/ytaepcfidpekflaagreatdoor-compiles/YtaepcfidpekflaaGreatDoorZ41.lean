/-
  Several texts in one (Rk). By the verifier.
-/
import Derived.Test.YtaepcfidpekflaaGreatDoorZ34
namespace Go.Proofs.YtaepcfidpekflaaGreatDoor
open Go.RowKit
set_option maxHeartbeats 1000000 in
set_option maxRecDepth 100000 in
theorem knownR_1 (a0 a1:Option Addr) (n0 c0 n1 c1:Nat) (mi po g:Int) (f n:Nat) (d:ByteArray) (w:World) (HR0:Hid (∀ W,Below w.heap.size w W → Calls Tryz.prog 33 #[.slice a0 n0 c0] W fun e w'=>e = .returned (.bool true) ∧ Below W.heap.size W w')) (HR1:Hid (∀ W,Below w.heap.size w W → Calls Tryz.prog 33 #[.slice a1 n1 c1] W fun e w'=>e = .returned (.bool true) ∧ Below W.heap.size W w')) (h1:Lib.validRune mi = false):
  Calls Tryz.prog 28 #[.agg #[.slice a0 n0 c0,.slice a1 n1 c1,.int .i32 mi,.int .i32 po,.int .i32 g,.int .u8 f,.int .u8 n,.string d]] w fun e w'=>e = .returned (.bool (Pn.knownB mi po g f n d.data.toList)) ∧ Below w.heap.size w w':=by
 have HK:Hid (false = Pn.knownB mi po g f n d.data.toList):=by show _ = _;simp [Pn.knownB,Pn.signsB,h1]
 have r0:=row_at w #[.slice a0 n0 c0,.slice a1 n1 c1,.int .i32 mi,.int .i32 po,.int .i32 g,.int .u8 f,.int .u8 n,.string d] 25
 have q0:=r0.2.1
 have hw:=(Below.refl w.heap.size w).alloc (Nat.le_refl _) (.cells #[.slice a0 n0 c0,.slice a1 n1 c1,.int .i32 mi,.int .i32 po,.int .i32 g,.int .u8 f,.int .u8 n,.string d] 25)
 go_enter Tryz.func28,Tryz.ntmps28
 go_wp2_with fail
 refine (HR0.out _ hw).mono ?_
 rintro e w2 ⟨rfl,h2⟩
 replace r0:=r0.keep h2
 replace q0:=r0.2.1
 replace hw:=below_of hw h2
 clear h2 HR0
 go_wp2_with fail
 refine (HR1.out _ hw).mono ?_
 rintro e w2 ⟨rfl,h2⟩
 replace r0:=r0.keep h2
 replace q0:=r0.2.1
 replace hw:=below_of hw h2
 clear h2 HR1
 go_wp2_with (go_at_call 47;refine (point_any _ _).mono ?_;rintro e w3 ⟨rfl,rfl⟩)
 go_ret
 exact ⟨rb HK.out,hw⟩
set_option maxHeartbeats 1000000 in
set_option maxRecDepth 100000 in
theorem knownR_2 (a0 a1:Option Addr) (n0 c0 n1 c1:Nat) (mi po g:Int) (f n:Nat) (d:ByteArray) (w:World) (HR0:Hid (∀ W,Below w.heap.size w W → Calls Tryz.prog 33 #[.slice a0 n0 c0] W fun e w'=>e = .returned (.bool true) ∧ Below W.heap.size W w')) (HR1:Hid (∀ W,Below w.heap.size w W → Calls Tryz.prog 33 #[.slice a1 n1 c1] W fun e w'=>e = .returned (.bool true) ∧ Below W.heap.size W w')) (h1:Lib.validRune mi = true) (h2:Lib.validRune po = false):
  Calls Tryz.prog 28 #[.agg #[.slice a0 n0 c0,.slice a1 n1 c1,.int .i32 mi,.int .i32 po,.int .i32 g,.int .u8 f,.int .u8 n,.string d]] w fun e w'=>e = .returned (.bool (Pn.knownB mi po g f n d.data.toList)) ∧ Below w.heap.size w w':=by
 have HK:Hid (false = Pn.knownB mi po g f n d.data.toList):=by show _ = _;simp [Pn.knownB,Pn.signsB,h2]
 have r0:=row_at w #[.slice a0 n0 c0,.slice a1 n1 c1,.int .i32 mi,.int .i32 po,.int .i32 g,.int .u8 f,.int .u8 n,.string d] 25
 have q0:=r0.2.1
 have hw:=(Below.refl w.heap.size w).alloc (Nat.le_refl _) (.cells #[.slice a0 n0 c0,.slice a1 n1 c1,.int .i32 mi,.int .i32 po,.int .i32 g,.int .u8 f,.int .u8 n,.string d] 25)
 go_enter Tryz.func28,Tryz.ntmps28
 go_wp2_with fail
 refine (HR0.out _ hw).mono ?_
 rintro e w2 ⟨rfl,h2⟩
 replace r0:=r0.keep h2
 replace q0:=r0.2.1
 replace hw:=below_of hw h2
 clear h2 HR0
 go_wp2_with fail
 refine (HR1.out _ hw).mono ?_
 rintro e w2 ⟨rfl,h2⟩
 replace r0:=r0.keep h2
 replace q0:=r0.2.1
 replace hw:=below_of hw h2
 clear h2 HR1
 go_wp2_with (go_at_call 47;refine (point_any _ _).mono ?_;rintro e w3 ⟨rfl,rfl⟩)
 go_ret
 exact ⟨rb HK.out,hw⟩
set_option maxHeartbeats 1000000 in
set_option maxRecDepth 100000 in
theorem knownR_3 (a0 a1:Option Addr) (n0 c0 n1 c1:Nat) (mi po g:Int) (f n:Nat) (d:ByteArray) (w:World) (HR0:Hid (∀ W,Below w.heap.size w W → Calls Tryz.prog 33 #[.slice a0 n0 c0] W fun e w'=>e = .returned (.bool true) ∧ Below W.heap.size W w')) (HR1:Hid (∀ W,Below w.heap.size w W → Calls Tryz.prog 33 #[.slice a1 n1 c1] W fun e w'=>e = .returned (.bool true) ∧ Below W.heap.size W w')) (h1:Lib.validRune mi = true) (h2:Lib.validRune po = true) (h3:Lib.validRune g = false):
  Calls Tryz.prog 28 #[.agg #[.slice a0 n0 c0,.slice a1 n1 c1,.int .i32 mi,.int .i32 po,.int .i32 g,.int .u8 f,.int .u8 n,.string d]] w fun e w'=>e = .returned (.bool (Pn.knownB mi po g f n d.data.toList)) ∧ Below w.heap.size w w':=by
 have HK:Hid (false = Pn.knownB mi po g f n d.data.toList):=by show _ = _;simp [Pn.knownB,Pn.signsB,h3]
 have r0:=row_at w #[.slice a0 n0 c0,.slice a1 n1 c1,.int .i32 mi,.int .i32 po,.int .i32 g,.int .u8 f,.int .u8 n,.string d] 25
 have q0:=r0.2.1
 have hw:=(Below.refl w.heap.size w).alloc (Nat.le_refl _) (.cells #[.slice a0 n0 c0,.slice a1 n1 c1,.int .i32 mi,.int .i32 po,.int .i32 g,.int .u8 f,.int .u8 n,.string d] 25)
 go_enter Tryz.func28,Tryz.ntmps28
 go_wp2_with fail
 refine (HR0.out _ hw).mono ?_
 rintro e w2 ⟨rfl,h2⟩
 replace r0:=r0.keep h2
 replace q0:=r0.2.1
 replace hw:=below_of hw h2
 clear h2 HR0
 go_wp2_with fail
 refine (HR1.out _ hw).mono ?_
 rintro e w2 ⟨rfl,h2⟩
 replace r0:=r0.keep h2
 replace q0:=r0.2.1
 replace hw:=below_of hw h2
 clear h2 HR1
 go_wp2_with (go_at_call 47;refine (point_any _ _).mono ?_;rintro e w3 ⟨rfl,rfl⟩)
 go_ret
 exact ⟨rb HK.out,hw⟩
set_option maxHeartbeats 1000000 in
set_option maxRecDepth 100000 in
theorem knownR_4 (a0 a1:Option Addr) (n0 c0 n1 c1:Nat) (mi po g:Int) (f n:Nat) (d:ByteArray) (w:World) (HR0:Hid (∀ W,Below w.heap.size w W → Calls Tryz.prog 33 #[.slice a0 n0 c0] W fun e w'=>e = .returned (.bool true) ∧ Below W.heap.size W w')) (HR1:Hid (∀ W,Below w.heap.size w W → Calls Tryz.prog 33 #[.slice a1 n1 c1] W fun e w'=>e = .returned (.bool true) ∧ Below W.heap.size W w')) (h1:Lib.validRune mi = true) (h2:Lib.validRune po = true) (h3:Lib.validRune g = true) (h4:(mi == 0) = true):
  Calls Tryz.prog 28 #[.agg #[.slice a0 n0 c0,.slice a1 n1 c1,.int .i32 mi,.int .i32 po,.int .i32 g,.int .u8 f,.int .u8 n,.string d]] w fun e w'=>e = .returned (.bool (Pn.knownB mi po g f n d.data.toList)) ∧ Below w.heap.size w w':=by
 have h4':mi = 0:=by simpa using h4
 have HK:Hid (false = Pn.knownB mi po g f n d.data.toList):=by show _ = _;simp [Pn.knownB,Pn.signsB,h4']
 clear h4'
 have r0:=row_at w #[.slice a0 n0 c0,.slice a1 n1 c1,.int .i32 mi,.int .i32 po,.int .i32 g,.int .u8 f,.int .u8 n,.string d] 25
 have q0:=r0.2.1
 have hw:=(Below.refl w.heap.size w).alloc (Nat.le_refl _) (.cells #[.slice a0 n0 c0,.slice a1 n1 c1,.int .i32 mi,.int .i32 po,.int .i32 g,.int .u8 f,.int .u8 n,.string d] 25)
 go_enter Tryz.func28,Tryz.ntmps28
 go_wp2_with fail
 refine (HR0.out _ hw).mono ?_
 rintro e w2 ⟨rfl,h2⟩
 replace r0:=r0.keep h2
 replace q0:=r0.2.1
 replace hw:=below_of hw h2
 clear h2 HR0
 go_wp2_with fail
 refine (HR1.out _ hw).mono ?_
 rintro e w2 ⟨rfl,h2⟩
 replace r0:=r0.keep h2
 replace q0:=r0.2.1
 replace hw:=below_of hw h2
 clear h2 HR1
 go_wp2_with (go_at_call 47;refine (point_any _ _).mono ?_;rintro e w3 ⟨rfl,rfl⟩)
 go_ret
 exact ⟨rb HK.out,hw⟩
set_option maxHeartbeats 1000000 in
set_option maxRecDepth 100000 in
theorem knownR_5 (a0 a1:Option Addr) (n0 c0 n1 c1:Nat) (mi po g:Int) (f n:Nat) (d:ByteArray) (w:World) (HR0:Hid (∀ W,Below w.heap.size w W → Calls Tryz.prog 33 #[.slice a0 n0 c0] W fun e w'=>e = .returned (.bool true) ∧ Below W.heap.size W w')) (HR1:Hid (∀ W,Below w.heap.size w W → Calls Tryz.prog 33 #[.slice a1 n1 c1] W fun e w'=>e = .returned (.bool true) ∧ Below W.heap.size W w')) (h1:Lib.validRune mi = true) (h2:Lib.validRune po = true) (h3:Lib.validRune g = true) (h4:(mi == 0) = false) (h5:(po == 0) = true):
  Calls Tryz.prog 28 #[.agg #[.slice a0 n0 c0,.slice a1 n1 c1,.int .i32 mi,.int .i32 po,.int .i32 g,.int .u8 f,.int .u8 n,.string d]] w fun e w'=>e = .returned (.bool (Pn.knownB mi po g f n d.data.toList)) ∧ Below w.heap.size w w':=by
 have h5':po = 0:=by simpa using h5
 have HK:Hid (false = Pn.knownB mi po g f n d.data.toList):=by show _ = _;simp [Pn.knownB,Pn.signsB,h5']
 clear h5'
 have r0:=row_at w #[.slice a0 n0 c0,.slice a1 n1 c1,.int .i32 mi,.int .i32 po,.int .i32 g,.int .u8 f,.int .u8 n,.string d] 25
 have q0:=r0.2.1
 have hw:=(Below.refl w.heap.size w).alloc (Nat.le_refl _) (.cells #[.slice a0 n0 c0,.slice a1 n1 c1,.int .i32 mi,.int .i32 po,.int .i32 g,.int .u8 f,.int .u8 n,.string d] 25)
 go_enter Tryz.func28,Tryz.ntmps28
 go_wp2_with fail
 refine (HR0.out _ hw).mono ?_
 rintro e w2 ⟨rfl,h2⟩
 replace r0:=r0.keep h2
 replace q0:=r0.2.1
 replace hw:=below_of hw h2
 clear h2 HR0
 go_wp2_with fail
 refine (HR1.out _ hw).mono ?_
 rintro e w2 ⟨rfl,h2⟩
 replace r0:=r0.keep h2
 replace q0:=r0.2.1
 replace hw:=below_of hw h2
 clear h2 HR1
 go_wp2_with (go_at_call 47;refine (point_any _ _).mono ?_;rintro e w3 ⟨rfl,rfl⟩)
 go_ret
 exact ⟨rb HK.out,hw⟩
set_option maxHeartbeats 1000000 in
set_option maxRecDepth 100000 in
theorem knownR_6 (a0 a1:Option Addr) (n0 c0 n1 c1:Nat) (mi po g:Int) (f n:Nat) (d:ByteArray) (w:World) (HR0:Hid (∀ W,Below w.heap.size w W → Calls Tryz.prog 33 #[.slice a0 n0 c0] W fun e w'=>e = .returned (.bool true) ∧ Below W.heap.size W w')) (HR1:Hid (∀ W,Below w.heap.size w W → Calls Tryz.prog 33 #[.slice a1 n1 c1] W fun e w'=>e = .returned (.bool true) ∧ Below W.heap.size W w')) (hd:d.size ≤ 100000) (h1:Lib.validRune mi = true) (h2:Lib.validRune po = true) (h3:Lib.validRune g = true) (h4:(mi == 0) = false) (h5:(po == 0) = false) (h6:¬ Pn.ptsLen d.data.toList = d.data.toList.length):
  Calls Tryz.prog 28 #[.agg #[.slice a0 n0 c0,.slice a1 n1 c1,.int .i32 mi,.int .i32 po,.int .i32 g,.int .u8 f,.int .u8 n,.string d]] w fun e w'=>e = .returned (.bool (Pn.knownB mi po g f n d.data.toList)) ∧ Below w.heap.size w w':=by
 have HK:Hid (false = Pn.knownB mi po g f n d.data.toList):=(Pn.known_no mi po g f n _ (Pn.dok_no1 _ h6)).symm
 rw [← Lib.size_eq] at h6
 have h6':((Pn.ptsLen d.data.toList:Int) != d.size) = true:=by rw [bne_iff_ne];omega
 clear h6
 have r0:=row_at w #[.slice a0 n0 c0,.slice a1 n1 c1,.int .i32 mi,.int .i32 po,.int .i32 g,.int .u8 f,.int .u8 n,.string d] 25
 have q0:=r0.2.1
 have hw:=(Below.refl w.heap.size w).alloc (Nat.le_refl _) (.cells #[.slice a0 n0 c0,.slice a1 n1 c1,.int .i32 mi,.int .i32 po,.int .i32 g,.int .u8 f,.int .u8 n,.string d] 25)
 go_enter Tryz.func28,Tryz.ntmps28
 go_wp2_with fail
 refine (HR0.out _ hw).mono ?_
 rintro e w2 ⟨rfl,h2⟩
 replace r0:=r0.keep h2
 replace q0:=r0.2.1
 replace hw:=below_of hw h2
 clear h2 HR0
 go_wp2_with fail
 refine (HR1.out _ hw).mono ?_
 rintro e w2 ⟨rfl,h2⟩
 replace r0:=r0.keep h2
 replace q0:=r0.2.1
 replace hw:=below_of hw h2
 clear h2 HR1
 go_wp2_with (go_at_call 47;refine (point_any _ _).mono ?_;rintro e w3 ⟨rfl,rfl⟩)
 refine (points_any d _ (by omega)).mono ?_
 rintro e w4 ⟨ao,cv,rfl,hown,h4⟩
 replace r0:=r0.keep h4
 replace q0:=r0.2.1
 replace hw:=below_of hw h4
 clear h4 hown
 go_wp2
 go_ret
 exact ⟨rb HK.out,hw⟩
set_option maxHeartbeats 1000000 in
set_option maxRecDepth 100000 in
theorem knownR_7 (a0 a1:Option Addr) (n0 c0 n1 c1:Nat) (mi po g:Int) (f n:Nat) (d:ByteArray) (w:World) (HR0:Hid (∀ W,Below w.heap.size w W → Calls Tryz.prog 33 #[.slice a0 n0 c0] W fun e w'=>e = .returned (.bool true) ∧ Below W.heap.size W w')) (HR1:Hid (∀ W,Below w.heap.size w W → Calls Tryz.prog 33 #[.slice a1 n1 c1] W fun e w'=>e = .returned (.bool true) ∧ Below W.heap.size W w')) (hd:d.size ≤ 100000) (h1:Lib.validRune mi = true) (h2:Lib.validRune po = true) (h3:Lib.validRune g = true) (h4:(mi == 0) = false) (h5:(po == 0) = false) (h6:Pn.ptsLen d.data.toList = d.data.toList.length) (h7:¬ d.data.toList = []) (h8:¬ (Pn.pts d.data.toList).length = 10):
  Calls Tryz.prog 28 #[.agg #[.slice a0 n0 c0,.slice a1 n1 c1,.int .i32 mi,.int .i32 po,.int .i32 g,.int .u8 f,.int .u8 n,.string d]] w fun e w'=>e = .returned (.bool (Pn.knownB mi po g f n d.data.toList)) ∧ Below w.heap.size w w':=by
 have HK:Hid (false = Pn.knownB mi po g f n d.data.toList):=(Pn.known_no mi po g f n _ (Pn.dok_no2 _ h7 h8)).symm
 have hpos:0 < d.data.toList.length:=List.length_pos_iff.2 h7
 rw [← Lib.size_eq] at h6 hpos
 have h6':((Pn.ptsLen d.data.toList:Int) != d.size) = false:=by rw [bne_eq_false_iff_eq];omega
 have h7':(0:Int) < Pn.ptsLen d.data.toList:=by omega
 have h8':(((Pn.pts d.data.toList).length:Int) != 10) = true:=by rw [bne_iff_ne];omega
 clear h6 h7 h8 hpos
 have r0:=row_at w #[.slice a0 n0 c0,.slice a1 n1 c1,.int .i32 mi,.int .i32 po,.int .i32 g,.int .u8 f,.int .u8 n,.string d] 25
 have q0:=r0.2.1
 have hw:=(Below.refl w.heap.size w).alloc (Nat.le_refl _) (.cells #[.slice a0 n0 c0,.slice a1 n1 c1,.int .i32 mi,.int .i32 po,.int .i32 g,.int .u8 f,.int .u8 n,.string d] 25)
 go_enter Tryz.func28,Tryz.ntmps28
 go_wp2_with fail
 refine (HR0.out _ hw).mono ?_
 rintro e w2 ⟨rfl,h2⟩
 replace r0:=r0.keep h2
 replace q0:=r0.2.1
 replace hw:=below_of hw h2
 clear h2 HR0
 go_wp2_with fail
 refine (HR1.out _ hw).mono ?_
 rintro e w2 ⟨rfl,h2⟩
 replace r0:=r0.keep h2
 replace q0:=r0.2.1
 replace hw:=below_of hw h2
 clear h2 HR1
 go_wp2_with (go_at_call 47;refine (point_any _ _).mono ?_;rintro e w3 ⟨rfl,rfl⟩)
 refine (points_any d _ (by omega)).mono ?_
 rintro e w4 ⟨ao,cv,rfl,hown,h4⟩
 replace r0:=r0.keep h4
 replace q0:=r0.2.1
 replace hw:=below_of hw h4
 clear h4 hown
 go_wp2
 go_ret
 exact ⟨rb HK.out,hw⟩
set_option maxHeartbeats 1000000 in
set_option maxRecDepth 100000 in
theorem knownR_8 (a0 a1:Option Addr) (n0 c0 n1 c1:Nat) (mi po g:Int) (f n:Nat) (d:ByteArray) (w:World) (HR0:Hid (∀ W,Below w.heap.size w W → Calls Tryz.prog 33 #[.slice a0 n0 c0] W fun e w'=>e = .returned (.bool true) ∧ Below W.heap.size W w')) (HR1:Hid (∀ W,Below w.heap.size w W → Calls Tryz.prog 33 #[.slice a1 n1 c1] W fun e w'=>e = .returned (.bool true) ∧ Below W.heap.size W w')) (hd:d.size ≤ 100000) (h1:Lib.validRune mi = true) (h2:Lib.validRune po = true) (h3:Lib.validRune g = true) (h4:(mi == 0) = false) (h5:(po == 0) = false) (h6:Pn.ptsLen d.data.toList = d.data.toList.length) (h7:¬ d.data.toList = []) (h8:(Pn.pts d.data.toList).length = 10) (h9:f ≤ 9):
  Calls Tryz.prog 28 #[.agg #[.slice a0 n0 c0,.slice a1 n1 c1,.int .i32 mi,.int .i32 po,.int .i32 g,.int .u8 f,.int .u8 n,.string d]] w fun e w'=>e = .returned (.bool (Pn.knownB mi po g f n d.data.toList)) ∧ Below w.heap.size w w':=by
 have HS:Hid (Pn.signsB mi po g = true):=by show _ = _;simp [Pn.signsB,h1,h2,h3];exact ⟨by simpa using h4,by simpa using h5⟩
 have HK:Hid (Pn.knownB mi po g f n d.data.toList = (decide (f ≤ 9) && decide (n ≤ 9))):=Pn.known_yes mi po g f n _ HS.out (Pn.dok_yes _ h6 h8)
 have hpos:0 < d.data.toList.length:=List.length_pos_iff.2 h7
 rw [← Lib.size_eq] at h6 hpos
 have h6':((Pn.ptsLen d.data.toList:Int) != d.size) = false:=by rw [bne_eq_false_iff_eq];omega
 have h7':(0:Int) < Pn.ptsLen d.data.toList:=by omega
 have h8':(((Pn.pts d.data.toList).length:Int) != 10) = false:=by rw [bne_eq_false_iff_eq];omega
 have h9':(f:Int) ≤ 9:=by omega
 clear h6 h7 h8 hpos h9
 have r0:=row_at w #[.slice a0 n0 c0,.slice a1 n1 c1,.int .i32 mi,.int .i32 po,.int .i32 g,.int .u8 f,.int .u8 n,.string d] 25
 have q0:=r0.2.1
 have hw:=(Below.refl w.heap.size w).alloc (Nat.le_refl _) (.cells #[.slice a0 n0 c0,.slice a1 n1 c1,.int .i32 mi,.int .i32 po,.int .i32 g,.int .u8 f,.int .u8 n,.string d] 25)
 go_enter Tryz.func28,Tryz.ntmps28
 go_wp2_with fail
 refine (HR0.out _ hw).mono ?_
 rintro e w2 ⟨rfl,h2⟩
 replace r0:=r0.keep h2
 replace q0:=r0.2.1
 replace hw:=below_of hw h2
 clear h2 HR0
 go_wp2_with fail
 refine (HR1.out _ hw).mono ?_
 rintro e w2 ⟨rfl,h2⟩
 replace r0:=r0.keep h2
 replace q0:=r0.2.1
 replace hw:=below_of hw h2
 clear h2 HR1
 go_wp2_with (go_at_call 47;refine (point_any _ _).mono ?_;rintro e w3 ⟨rfl,rfl⟩)
 refine (points_any d _ (by omega)).mono ?_
 rintro e w4 ⟨ao,cv,rfl,hown,h4⟩
 replace r0:=r0.keep h4
 replace q0:=r0.2.1
 replace hw:=below_of hw h4
 clear h4 hown
 go_wp2
 go_ret
 exact ⟨rb (by rw [HK.out];first | (simp;omega) | (rw [Bool.eq_iff_iff,Bool.and_eq_true,decide_eq_true_eq,decide_eq_true_eq,decide_eq_true_eq];omega)),hw⟩
set_option maxHeartbeats 1000000 in
set_option maxRecDepth 100000 in
theorem knownR_9 (a0 a1:Option Addr) (n0 c0 n1 c1:Nat) (mi po g:Int) (f n:Nat) (d:ByteArray) (w:World) (HR0:Hid (∀ W,Below w.heap.size w W → Calls Tryz.prog 33 #[.slice a0 n0 c0] W fun e w'=>e = .returned (.bool true) ∧ Below W.heap.size W w')) (HR1:Hid (∀ W,Below w.heap.size w W → Calls Tryz.prog 33 #[.slice a1 n1 c1] W fun e w'=>e = .returned (.bool true) ∧ Below W.heap.size W w')) (hd:d.size ≤ 100000) (h1:Lib.validRune mi = true) (h2:Lib.validRune po = true) (h3:Lib.validRune g = true) (h4:(mi == 0) = false) (h5:(po == 0) = false) (h6:Pn.ptsLen d.data.toList = d.data.toList.length) (h7:d.data.toList = []) (h9:f ≤ 9):
  Calls Tryz.prog 28 #[.agg #[.slice a0 n0 c0,.slice a1 n1 c1,.int .i32 mi,.int .i32 po,.int .i32 g,.int .u8 f,.int .u8 n,.string d]] w fun e w'=>e = .returned (.bool (Pn.knownB mi po g f n d.data.toList)) ∧ Below w.heap.size w w':=by
 have HS:Hid (Pn.signsB mi po g = true):=by show _ = _;simp [Pn.signsB,h1,h2,h3];exact ⟨by simpa using h4,by simpa using h5⟩
 have HK:Hid (Pn.knownB mi po g f n d.data.toList = (decide (f ≤ 9) && decide (n ≤ 9))):=Pn.known_yes mi po g f n _ HS.out (Pn.dok_nil _ h7)
 rw [← Lib.size_eq] at h6
 have h6':((Pn.ptsLen d.data.toList:Int) != d.size) = false:=by rw [bne_eq_false_iff_eq];omega
 have h7':¬ (0:Int) < Pn.ptsLen d.data.toList:=by rw [h6,Lib.size_eq,h7];decide
 have h9':(f:Int) ≤ 9:=by omega
 clear h6 h7 h9
 have r0:=row_at w #[.slice a0 n0 c0,.slice a1 n1 c1,.int .i32 mi,.int .i32 po,.int .i32 g,.int .u8 f,.int .u8 n,.string d] 25
 have q0:=r0.2.1
 have hw:=(Below.refl w.heap.size w).alloc (Nat.le_refl _) (.cells #[.slice a0 n0 c0,.slice a1 n1 c1,.int .i32 mi,.int .i32 po,.int .i32 g,.int .u8 f,.int .u8 n,.string d] 25)
 go_enter Tryz.func28,Tryz.ntmps28
 go_wp2_with fail
 refine (HR0.out _ hw).mono ?_
 rintro e w2 ⟨rfl,h2⟩
 replace r0:=r0.keep h2
 replace q0:=r0.2.1
 replace hw:=below_of hw h2
 clear h2 HR0
 go_wp2_with fail
 refine (HR1.out _ hw).mono ?_
 rintro e w2 ⟨rfl,h2⟩
 replace r0:=r0.keep h2
 replace q0:=r0.2.1
 replace hw:=below_of hw h2
 clear h2 HR1
 go_wp2_with (go_at_call 47;refine (point_any _ _).mono ?_;rintro e w3 ⟨rfl,rfl⟩)
 refine (points_any d _ (by omega)).mono ?_
 rintro e w4 ⟨ao,cv,rfl,hown,h4⟩
 replace r0:=r0.keep h4
 replace q0:=r0.2.1
 replace hw:=below_of hw h4
 clear h4 hown
 go_wp2
 go_ret
 exact ⟨rb (by rw [HK.out];first | (simp;omega) | (rw [Bool.eq_iff_iff,Bool.and_eq_true,decide_eq_true_eq,decide_eq_true_eq,decide_eq_true_eq];omega)),hw⟩
set_option maxHeartbeats 1000000 in
set_option maxRecDepth 100000 in
theorem knownR_8n (a0 a1:Option Addr) (n0 c0 n1 c1:Nat) (mi po g:Int) (f n:Nat) (d:ByteArray) (w:World) (HR0:Hid (∀ W,Below w.heap.size w W → Calls Tryz.prog 33 #[.slice a0 n0 c0] W fun e w'=>e = .returned (.bool true) ∧ Below W.heap.size W w')) (HR1:Hid (∀ W,Below w.heap.size w W → Calls Tryz.prog 33 #[.slice a1 n1 c1] W fun e w'=>e = .returned (.bool true) ∧ Below W.heap.size W w')) (hd:d.size ≤ 100000) (h1:Lib.validRune mi = true) (h2:Lib.validRune po = true) (h3:Lib.validRune g = true) (h4:(mi == 0) = false) (h5:(po == 0) = false) (h6:Pn.ptsLen d.data.toList = d.data.toList.length) (h7:¬ d.data.toList = []) (h8:(Pn.pts d.data.toList).length = 10) (h9:¬ f ≤ 9):
  Calls Tryz.prog 28 #[.agg #[.slice a0 n0 c0,.slice a1 n1 c1,.int .i32 mi,.int .i32 po,.int .i32 g,.int .u8 f,.int .u8 n,.string d]] w fun e w'=>e = .returned (.bool (Pn.knownB mi po g f n d.data.toList)) ∧ Below w.heap.size w w':=by
 have HS:Hid (Pn.signsB mi po g = true):=by show _ = _;simp [Pn.signsB,h1,h2,h3];exact ⟨by simpa using h4,by simpa using h5⟩
 have HK:Hid (Pn.knownB mi po g f n d.data.toList = (decide (f ≤ 9) && decide (n ≤ 9))):=Pn.known_yes mi po g f n _ HS.out (Pn.dok_yes _ h6 h8)
 have hpos:0 < d.data.toList.length:=List.length_pos_iff.2 h7
 rw [← Lib.size_eq] at h6 hpos
 have h6':((Pn.ptsLen d.data.toList:Int) != d.size) = false:=by rw [bne_eq_false_iff_eq];omega
 have h7':(0:Int) < Pn.ptsLen d.data.toList:=by omega
 have h8':(((Pn.pts d.data.toList).length:Int) != 10) = false:=by rw [bne_eq_false_iff_eq];omega
 have h9':¬ (f:Int) ≤ 9:=by omega
 clear h6 h7 h8 hpos h9
 have r0:=row_at w #[.slice a0 n0 c0,.slice a1 n1 c1,.int .i32 mi,.int .i32 po,.int .i32 g,.int .u8 f,.int .u8 n,.string d] 25
 have q0:=r0.2.1
 have hw:=(Below.refl w.heap.size w).alloc (Nat.le_refl _) (.cells #[.slice a0 n0 c0,.slice a1 n1 c1,.int .i32 mi,.int .i32 po,.int .i32 g,.int .u8 f,.int .u8 n,.string d] 25)
 go_enter Tryz.func28,Tryz.ntmps28
 go_wp2_with fail
 refine (HR0.out _ hw).mono ?_
 rintro e w2 ⟨rfl,h2⟩
 replace r0:=r0.keep h2
 replace q0:=r0.2.1
 replace hw:=below_of hw h2
 clear h2 HR0
 go_wp2_with fail
 refine (HR1.out _ hw).mono ?_
 rintro e w2 ⟨rfl,h2⟩
 replace r0:=r0.keep h2
 replace q0:=r0.2.1
 replace hw:=below_of hw h2
 clear h2 HR1
 go_wp2_with (go_at_call 47;refine (point_any _ _).mono ?_;rintro e w3 ⟨rfl,rfl⟩)
 refine (points_any d _ (by omega)).mono ?_
 rintro e w4 ⟨ao,cv,rfl,hown,h4⟩
 replace r0:=r0.keep h4
 replace q0:=r0.2.1
 replace hw:=below_of hw h4
 clear h4 hown
 go_wp2
 go_ret
 exact ⟨rb (by rw [HK.out];first | (simp;omega) | (rw [Bool.eq_iff_iff,Bool.and_eq_true,decide_eq_true_eq,decide_eq_true_eq,decide_eq_true_eq];omega)),hw⟩
set_option maxHeartbeats 1000000 in
set_option maxRecDepth 100000 in
theorem knownR_9n (a0 a1:Option Addr) (n0 c0 n1 c1:Nat) (mi po g:Int) (f n:Nat) (d:ByteArray) (w:World) (HR0:Hid (∀ W,Below w.heap.size w W → Calls Tryz.prog 33 #[.slice a0 n0 c0] W fun e w'=>e = .returned (.bool true) ∧ Below W.heap.size W w')) (HR1:Hid (∀ W,Below w.heap.size w W → Calls Tryz.prog 33 #[.slice a1 n1 c1] W fun e w'=>e = .returned (.bool true) ∧ Below W.heap.size W w')) (hd:d.size ≤ 100000) (h1:Lib.validRune mi = true) (h2:Lib.validRune po = true) (h3:Lib.validRune g = true) (h4:(mi == 0) = false) (h5:(po == 0) = false) (h6:Pn.ptsLen d.data.toList = d.data.toList.length) (h7:d.data.toList = []) (h9:¬ f ≤ 9):
  Calls Tryz.prog 28 #[.agg #[.slice a0 n0 c0,.slice a1 n1 c1,.int .i32 mi,.int .i32 po,.int .i32 g,.int .u8 f,.int .u8 n,.string d]] w fun e w'=>e = .returned (.bool (Pn.knownB mi po g f n d.data.toList)) ∧ Below w.heap.size w w':=by
 have HS:Hid (Pn.signsB mi po g = true):=by show _ = _;simp [Pn.signsB,h1,h2,h3];exact ⟨by simpa using h4,by simpa using h5⟩
 have HK:Hid (Pn.knownB mi po g f n d.data.toList = (decide (f ≤ 9) && decide (n ≤ 9))):=Pn.known_yes mi po g f n _ HS.out (Pn.dok_nil _ h7)
 rw [← Lib.size_eq] at h6
 have h6':((Pn.ptsLen d.data.toList:Int) != d.size) = false:=by rw [bne_eq_false_iff_eq];omega
 have h7':¬ (0:Int) < Pn.ptsLen d.data.toList:=by rw [h6,Lib.size_eq,h7];decide
 have h9':¬ (f:Int) ≤ 9:=by omega
 clear h6 h7 h9
 have r0:=row_at w #[.slice a0 n0 c0,.slice a1 n1 c1,.int .i32 mi,.int .i32 po,.int .i32 g,.int .u8 f,.int .u8 n,.string d] 25
 have q0:=r0.2.1
 have hw:=(Below.refl w.heap.size w).alloc (Nat.le_refl _) (.cells #[.slice a0 n0 c0,.slice a1 n1 c1,.int .i32 mi,.int .i32 po,.int .i32 g,.int .u8 f,.int .u8 n,.string d] 25)
 go_enter Tryz.func28,Tryz.ntmps28
 go_wp2_with fail
 refine (HR0.out _ hw).mono ?_
 rintro e w2 ⟨rfl,h2⟩
 replace r0:=r0.keep h2
 replace q0:=r0.2.1
 replace hw:=below_of hw h2
 clear h2 HR0
 go_wp2_with fail
 refine (HR1.out _ hw).mono ?_
 rintro e w2 ⟨rfl,h2⟩
 replace r0:=r0.keep h2
 replace q0:=r0.2.1
 replace hw:=below_of hw h2
 clear h2 HR1
 go_wp2_with (go_at_call 47;refine (point_any _ _).mono ?_;rintro e w3 ⟨rfl,rfl⟩)
 refine (points_any d _ (by omega)).mono ?_
 rintro e w4 ⟨ao,cv,rfl,hown,h4⟩
 replace r0:=r0.keep h4
 replace q0:=r0.2.1
 replace hw:=below_of hw h4
 clear h4 hown
 go_wp2
 go_ret
 exact ⟨rb (by rw [HK.out];first | (simp;omega) | (rw [Bool.eq_iff_iff,Bool.and_eq_true,decide_eq_true_eq,decide_eq_true_eq,decide_eq_true_eq];omega)),hw⟩
set_option maxHeartbeats 1000000 in
set_option maxRecDepth 100000 in
theorem knownR_a (a0 a1:Option Addr) (n0 c0 n1 c1:Nat) (mi po g:Int) (f n:Nat) (d:ByteArray) (w:World) (rb:Bool) (HR0:Hid (∀ W,Below w.heap.size w W → Calls Tryz.prog 33 #[.slice a0 n0 c0] W fun e w'=>e = .returned (.bool false) ∧ Below W.heap.size W w')) (HR1:Hid (∀ W,Below w.heap.size w W → Calls Tryz.prog 33 #[.slice a1 n1 c1] W fun e w'=>e = .returned (.bool rb) ∧ Below W.heap.size W w')):
  Calls Tryz.prog 28 #[.agg #[.slice a0 n0 c0,.slice a1 n1 c1,.int .i32 mi,.int .i32 po,.int .i32 g,.int .u8 f,.int .u8 n,.string d]] w fun e w'=>e = .returned (.bool (false)) ∧ Below w.heap.size w w':=by
 have r0:=row_at w #[.slice a0 n0 c0,.slice a1 n1 c1,.int .i32 mi,.int .i32 po,.int .i32 g,.int .u8 f,.int .u8 n,.string d] 25
 have q0:=r0.2.1
 have hw:=(Below.refl w.heap.size w).alloc (Nat.le_refl _) (.cells #[.slice a0 n0 c0,.slice a1 n1 c1,.int .i32 mi,.int .i32 po,.int .i32 g,.int .u8 f,.int .u8 n,.string d] 25)
 go_enter Tryz.func28,Tryz.ntmps28
 go_wp2_with fail
 refine (HR0.out _ hw).mono ?_
 rintro e w2 ⟨rfl,h2⟩
 replace r0:=r0.keep h2
 replace q0:=r0.2.1
 replace hw:=below_of hw h2
 clear h2 HR0
 go_wp2_with fail
 refine (HR1.out _ hw).mono ?_
 rintro e w2 ⟨rfl,h2⟩
 replace r0:=r0.keep h2
 replace q0:=r0.2.1
 replace hw:=below_of hw h2
 clear h2 HR1
 go_wp2_with (go_at_call 47;refine (point_any _ _).mono ?_;rintro e w3 ⟨rfl,rfl⟩)
 go_ret
 exact ⟨rfl,hw⟩
set_option maxHeartbeats 1000000 in
set_option maxRecDepth 100000 in
theorem knownR_b (a0 a1:Option Addr) (n0 c0 n1 c1:Nat) (mi po g:Int) (f n:Nat) (d:ByteArray) (w:World) (HR0:Hid (∀ W,Below w.heap.size w W → Calls Tryz.prog 33 #[.slice a0 n0 c0] W fun e w'=>e = .returned (.bool true) ∧ Below W.heap.size W w')) (HR1:Hid (∀ W,Below w.heap.size w W → Calls Tryz.prog 33 #[.slice a1 n1 c1] W fun e w'=>e = .returned (.bool false) ∧ Below W.heap.size W w')):
  Calls Tryz.prog 28 #[.agg #[.slice a0 n0 c0,.slice a1 n1 c1,.int .i32 mi,.int .i32 po,.int .i32 g,.int .u8 f,.int .u8 n,.string d]] w fun e w'=>e = .returned (.bool (false)) ∧ Below w.heap.size w w':=by
 have r0:=row_at w #[.slice a0 n0 c0,.slice a1 n1 c1,.int .i32 mi,.int .i32 po,.int .i32 g,.int .u8 f,.int .u8 n,.string d] 25
 have q0:=r0.2.1
 have hw:=(Below.refl w.heap.size w).alloc (Nat.le_refl _) (.cells #[.slice a0 n0 c0,.slice a1 n1 c1,.int .i32 mi,.int .i32 po,.int .i32 g,.int .u8 f,.int .u8 n,.string d] 25)
 go_enter Tryz.func28,Tryz.ntmps28
 go_wp2_with fail
 refine (HR0.out _ hw).mono ?_
 rintro e w2 ⟨rfl,h2⟩
 replace r0:=r0.keep h2
 replace q0:=r0.2.1
 replace hw:=below_of hw h2
 clear h2 HR0
 go_wp2_with fail
 refine (HR1.out _ hw).mono ?_
 rintro e w2 ⟨rfl,h2⟩
 replace r0:=r0.keep h2
 replace q0:=r0.2.1
 replace hw:=below_of hw h2
 clear h2 HR1
 go_wp2_with (go_at_call 47;refine (point_any _ _).mono ?_;rintro e w3 ⟨rfl,rfl⟩)
 go_ret
 exact ⟨rfl,hw⟩
theorem knownR_yes (a0 a1:Option Addr) (n0 c0 n1 c1:Nat) (mi po g:Int) (f n:Nat) (d:ByteArray) (w:World) (HR0:Hid (∀ W,Below w.heap.size w W → Calls Tryz.prog 33 #[.slice a0 n0 c0] W fun e w'=>e = .returned (.bool true) ∧ Below W.heap.size W w')) (HR1:Hid (∀ W,Below w.heap.size w W → Calls Tryz.prog 33 #[.slice a1 n1 c1] W fun e w'=>e = .returned (.bool true) ∧ Below W.heap.size W w')) (hd:d.size ≤ 100000):
  Calls Tryz.prog 28 #[.agg #[.slice a0 n0 c0,.slice a1 n1 c1,.int .i32 mi,.int .i32 po,.int .i32 g,.int .u8 f,.int .u8 n,.string d]] w fun e w'=>e = .returned (.bool (Pn.knownB mi po g f n d.data.toList)) ∧ Below w.heap.size w w':=by
 cases h1:Lib.validRune mi with
 | false=>exact knownR_1 a0 a1 n0 c0 n1 c1 mi po g f n d w HR0 HR1 h1
 | true=>
 cases h2:Lib.validRune po with
 | false=>exact knownR_2 a0 a1 n0 c0 n1 c1 mi po g f n d w HR0 HR1 h1 h2
 | true=>
 cases h3:Lib.validRune g with
 | false=>exact knownR_3 a0 a1 n0 c0 n1 c1 mi po g f n d w HR0 HR1 h1 h2 h3
 | true=>
 cases h4:(mi == 0) with
 | true=>exact knownR_4 a0 a1 n0 c0 n1 c1 mi po g f n d w HR0 HR1 h1 h2 h3 h4
 | false=>
 cases h5:(po == 0) with
 | true=>exact knownR_5 a0 a1 n0 c0 n1 c1 mi po g f n d w HR0 HR1 h1 h2 h3 h4 h5
 | false=>
 by_cases h6:Pn.ptsLen d.data.toList = d.data.toList.length
 ·by_cases h7:d.data.toList = []
  ·by_cases h9:f ≤ 9
   ·exact knownR_9 a0 a1 n0 c0 n1 c1 mi po g f n d w HR0 HR1 hd h1 h2 h3 h4 h5 h6 h7 h9
   ·exact knownR_9n a0 a1 n0 c0 n1 c1 mi po g f n d w HR0 HR1 hd h1 h2 h3 h4 h5 h6 h7 h9
  ·by_cases h8:(Pn.pts d.data.toList).length = 10
   ·by_cases h9:f ≤ 9
    ·exact knownR_8 a0 a1 n0 c0 n1 c1 mi po g f n d w HR0 HR1 hd h1 h2 h3 h4 h5 h6 h7 h8 h9
    ·exact knownR_8n a0 a1 n0 c0 n1 c1 mi po g f n d w HR0 HR1 hd h1 h2 h3 h4 h5 h6 h7 h8 h9
   ·exact knownR_7 a0 a1 n0 c0 n1 c1 mi po g f n d w HR0 HR1 hd h1 h2 h3 h4 h5 h6 h7 h8
 ·exact knownR_6 a0 a1 n0 c0 n1 c1 mi po g f n d w HR0 HR1 hd h1 h2 h3 h4 h5 h6
theorem knownR_any (a0 a1:Option Addr) (n0 c0 n1 c1:Nat) (mi po g:Int) (f n:Nat) (d:ByteArray) (w:World) (x0 x1:Bool) (HR0:Hid (∀ W,Below w.heap.size w W → Calls Tryz.prog 33 #[.slice a0 n0 c0] W fun e w'=>e = .returned (.bool x0) ∧ Below W.heap.size W w')) (HR1:Hid (∀ W,Below w.heap.size w W → Calls Tryz.prog 33 #[.slice a1 n1 c1] W fun e w'=>e = .returned (.bool x1) ∧ Below W.heap.size W w')) (hd:d.size ≤ 100000):
  Calls Tryz.prog 28 #[.agg #[.slice a0 n0 c0,.slice a1 n1 c1,.int .i32 mi,.int .i32 po,.int .i32 g,.int .u8 f,.int .u8 n,.string d]] w fun e w'=>e = .returned (.bool (x0 && x1 && Pn.knownB mi po g f n d.data.toList)) ∧ Below w.heap.size w w':=by
 cases x0 with
 | false=>exact knownR_a a0 a1 n0 c0 n1 c1 mi po g f n d w x1 HR0 HR1
 | true=>
  cases x1 with
  | false=>exact knownR_b a0 a1 n0 c0 n1 c1 mi po g f n d w HR0 HR1
  | true=>exact knownR_yes a0 a1 n0 c0 n1 c1 mi po g f n d w HR0 HR1 hd
end Go.Proofs.YtaepcfidpekflaaGreatDoor
