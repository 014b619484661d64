/-
  Several texts in one (Qg). By the verifier.
-/
import Derived.Test.YtaepcfidpekflaaGreatDoorZ04
import Derived.Test.YtaepcfidpekflaaGreatDoorZ05
namespace Go.Proofs.YtaepcfidpekflaaGreatDoor
open Go.RowKit
theorem enters_mod1:Enters 255:=enters_of Tryz.func255 (by kernel_rfl) rfl
theorem enters_span1:Enters 297:=enters_of Tryz.func297 (by kernel_rfl) rfl
theorem enters_stretch1:Enters 305:=enters_of Tryz.func305 (by kernel_rfl) rfl
def CallsO (g:Nat) (lb:Array Value) (m:Bool) (a b:Pr.T) (W:World) (x:Nat × Bool):Prop:=
 ∀ W',Below W.heap.size W W' → Calls Tryz.prog g (#[numV m a b] ++ lb) W' fun e w'=>(∃ d,e = .returned (.agg #[.string ⟨d.toArray⟩,.bool x.2]) ∧ Digs d ∧ Pr.val d = x.1) ∧ Below W'.heap.size W' w'
theorem ret_b {a b:Bool} (h:a = b):Ending.returned (.bool b) = .returned (.bool a):=by rw [h]
theorem cutW_le (v lo:Nat) (h:lo ≤ 999999999):(lo ≤ cutW v ↔ lo ≤ v) ∧ (cutW v ≤ lo ↔ v ≤ lo) ∧ (cutW v < lo ↔ v < lo) ∧ (cutW v = lo ↔ v = lo):=by
 unfold cutW
 split <;> omega
set_option maxHeartbeats 400000 in
theorem span1_any (m:Bool) (a b:Pr.T) (A B C:Nat) (g1:Nat) (l1:Array Value) (W:World) (v:Nat) (br:Bool) (lo hi:Nat) (hA:Row W A #[.func (.func g1) #[] l1]) (hB:Row W B #[.int .u64 lo]) (hC:Row W C #[.int .u64 hi]) (e1:Enters g1)
  (c1:CallsO g1 l1 m a b W (v,br)) (h1:lo ≤ 999999999) (h2:hi ≤ 999999999):
  Calls Tryz.prog 297 #[numV m a b,.pointer (some ⟨A,0,none⟩),.pointer (some ⟨B,0,none⟩),.pointer (some ⟨C,0,none⟩)] W fun e w'=>e = .returned (.bool (!br && decide (lo ≤ v) && decide (v ≤ hi))) ∧ Below W.heap.size W w':=by
 obtain ⟨R,HR⟩:∃ R,Hid (R = (!br && decide (lo ≤ v) && decide (v ≤ hi))):=⟨_,rfl⟩
 rw [← HR.out]
 have q1:=fun o=>(hA.alloc o).2.1
 unfold Enters at e1
 have hw:=(Below.refl W.heap.size W).alloc (Nat.le_refl _) (.cells #[.bool m,.string ⟨a.toArray⟩,.string ⟨b.toArray⟩] 109)
 go_enter Tryz.func297,Tryz.ntmps297
 simp only [numV]
 go_wp2_with fail
 refine (c1 _ hw).mono ?_
 rintro e w1 ⟨⟨d,rfl,hd,hv⟩,hb1⟩
 replace hw:=below_of hw hb1
 clear q1 hb1
 have hwh:=fun W=>whole_any d br hd W
 simp only [hv] at hwh
 go_wp2_with fail
 refine (hwh _).mono ?_
 rintro e w2 ⟨rfl,hb2⟩
 have r2:=(row_at w1 #[.string ⟨d.toArray⟩,.bool br] 384).keep hb2
 replace hw:=below_of (hw.alloc hw.size _) hb2
 have q2:=r2.2.1
 have q3:=(hB.keep hw).2.1
 have q4:=(hC.keep hw).2.1
 obtain ⟨k1,_,_,_⟩:=cutW_le v lo h1
 obtain ⟨_,k2,k3,k4⟩:=cutW_le v hi h2
 clear hb2 r2 hwh
 generalize cutW v = cv at *
 cases br with
 | true=>
  go_wp2
  go_ret
  exact ⟨ret_b (by rw [HR.out];first | (simp [z1,z2,z3] <;> omega) | (simp [z1,z2] <;> omega) | (simp [z1] <;> omega) | (simp <;> omega)),hw⟩
 | false=>
  by_cases x1:lo ≤ v
  ·have y1:(lo:Int) ≤ cv:=by have:=k1.2 x1;omega
   have z1:decide (lo ≤ v) = true:=decide_eq_true x1
   by_cases x2:v ≤ hi
   ·have y2:(cv:Int) ≤ hi:=by have:=k2.2 x2;omega
    have z2:decide (v ≤ hi) = true:=decide_eq_true x2
    clear k1 k2 k3 k4
    go_wp2
    go_ret
    exact ⟨ret_b (by rw [HR.out];first | (simp [z1,z2,z3] <;> omega) | (simp [z1,z2] <;> omega) | (simp [z1] <;> omega) | (simp <;> omega)),hw⟩
   ·have y2:¬ (cv:Int) ≤ hi:=by have:=mt k2.1 x2;omega
    have z2:decide (v ≤ hi) = false:=decide_eq_false x2
    clear k1 k2 k3 k4
    go_wp2
    go_ret
    exact ⟨ret_b (by rw [HR.out];first | (simp [z1,z2,z3] <;> omega) | (simp [z1,z2] <;> omega) | (simp [z1] <;> omega) | (simp <;> omega)),hw⟩
  ·have y1:¬ (lo:Int) ≤ cv:=by have:=mt k1.1 x1;omega
   have z1:decide (lo ≤ v) = false:=decide_eq_false x1
   clear k1 k2 k3 k4
   go_wp2
   go_ret
   exact ⟨ret_b (by rw [HR.out];first | (simp [z1,z2,z3] <;> omega) | (simp [z1,z2] <;> omega) | (simp [z1] <;> omega) | (simp <;> omega)),hw⟩
set_option maxHeartbeats 400000 in
theorem stretch1_any (m:Bool) (a b:Pr.T) (A B C:Nat) (g1:Nat) (l1:Array Value) (W:World) (v:Nat) (br:Bool) (lo hi:Nat) (hA:Row W A #[.func (.func g1) #[] l1]) (hB:Row W B #[.int .u64 lo]) (hC:Row W C #[.int .u64 hi]) (e1:Enters g1)
  (c1:CallsO g1 l1 m a b W (v,br)) (h1:lo ≤ 999999999) (h2:hi ≤ 999999999):
  Calls Tryz.prog 305 #[numV m a b,.pointer (some ⟨A,0,none⟩),.pointer (some ⟨B,0,none⟩),.pointer (some ⟨C,0,none⟩)] W fun e w'=>e = .returned (.bool (decide (lo ≤ v) && (decide (v < hi) || decide (v = hi) && !br))) ∧ Below W.heap.size W w':=by
 obtain ⟨R,HR⟩:∃ R,Hid (R = (decide (lo ≤ v) && (decide (v < hi) || decide (v = hi) && !br))):=⟨_,rfl⟩
 rw [← HR.out]
 have q1:=fun o=>(hA.alloc o).2.1
 unfold Enters at e1
 have hw:=(Below.refl W.heap.size W).alloc (Nat.le_refl _) (.cells #[.bool m,.string ⟨a.toArray⟩,.string ⟨b.toArray⟩] 109)
 go_enter Tryz.func305,Tryz.ntmps305
 simp only [numV]
 go_wp2_with fail
 refine (c1 _ hw).mono ?_
 rintro e w1 ⟨⟨d,rfl,hd,hv⟩,hb1⟩
 replace hw:=below_of hw hb1
 clear q1 hb1
 have hwh:=fun W=>whole_any d br hd W
 simp only [hv] at hwh
 go_wp2_with fail
 refine (hwh _).mono ?_
 rintro e w2 ⟨rfl,hb2⟩
 have r2:=(row_at w1 #[.string ⟨d.toArray⟩,.bool br] 384).keep hb2
 replace hw:=below_of (hw.alloc hw.size _) hb2
 have q2:=r2.2.1
 have q3:=(hB.keep hw).2.1
 have q4:=(hC.keep hw).2.1
 obtain ⟨k1,_,_,_⟩:=cutW_le v lo h1
 obtain ⟨_,k2,k3,k4⟩:=cutW_le v hi h2
 clear hb2 r2 hwh
 generalize cutW v = cv at *
 by_cases x1:lo ≤ v
 ·have y1:(lo:Int) ≤ cv:=by have:=k1.2 x1;omega
  have z1:decide (lo ≤ v) = true:=decide_eq_true x1
  by_cases x2:v < hi
  ·have y2:(cv:Int) < hi:=by have:=k3.2 x2;omega
   have z2:decide (v < hi) = true:=decide_eq_true x2
   clear k1 k2 k3 k4
   go_wp2
   go_ret
   exact ⟨ret_b (by rw [HR.out];first | (simp [z1,z2,z3] <;> omega) | (simp [z1,z2] <;> omega) | (simp [z1] <;> omega) | (simp <;> omega)),hw⟩
  ·have y2:¬ (cv:Int) < hi:=by have:=mt k3.1 x2;omega
   have z2:decide (v < hi) = false:=decide_eq_false x2
   by_cases x3:v = hi
   ·have y3:((cv:Int) == (hi:Int)) = true:=by have:=k4.2 x3;rw [beq_iff_eq];omega
    have z3:decide (v = hi) = true:=decide_eq_true x3
    clear k1 k2 k3 k4
    cases br <;> go_wp2 <;> go_ret <;> exact ⟨ret_b (by rw [HR.out];first | (simp [z1,z2,z3] <;> omega) | (simp [z1,z2] <;> omega) | (simp [z1] <;> omega) | (simp <;> omega)),hw⟩
   ·have y3:((cv:Int) == (hi:Int)) = false:=by have:=mt k4.1 x3;rw [beq_eq_false_iff_ne];omega
    have z3:decide (v = hi) = false:=decide_eq_false x3
    clear k1 k2 k3 k4
    go_wp2
    go_ret
    exact ⟨ret_b (by rw [HR.out];first | (simp [z1,z2,z3] <;> omega) | (simp [z1,z2] <;> omega) | (simp [z1] <;> omega) | (simp <;> omega)),hw⟩
 ·have y1:¬ (lo:Int) ≤ cv:=by have:=mt k1.1 x1;omega
  have z1:decide (lo ≤ v) = false:=decide_eq_false x1
  clear k1 k2 k3 k4
  go_wp2
  go_ret
  exact ⟨ret_b (by rw [HR.out];first | (simp [z1,z2,z3] <;> omega) | (simp [z1,z2] <;> omega) | (simp [z1] <;> omega) | (simp <;> omega)),hw⟩
set_option maxHeartbeats 4000000 in
theorem mod1_any (m:Bool) (a b:Pr.T) (A B:Nat) (g1:Nat) (l1:Array Value) (W:World) (v:Nat) (br:Bool) (mm:Nat) (hA:Row W A #[.func (.func g1) #[] l1]) (hB:Row W B #[.int .u64 mm]) (e1:Enters g1)
  (c1:CallsO g1 l1 m a b W (v,br)) (hW:Base W) (h1:1 ≤ mm) (h2:mm ≤ 999999999):
  Calls Tryz.prog 255 #[numV m a b,.pointer (some ⟨A,0,none⟩),.pointer (some ⟨B,0,none⟩)] W fun e w'=>e = .returned (.agg #[.string ⟨(Lib.decDigits (v % mm)).toArray⟩,.bool br]) ∧ Below W.heap.size W w':=by
 have q1:=fun o p=>((hA.alloc o).alloc p).2.1
 unfold Enters at e1
 have hw:=(Below.refl W.heap.size W).alloc (Nat.le_refl _) (.cells #[.bool m,.string ⟨a.toArray⟩,.string ⟨b.toArray⟩] 109)
 replace hw:=hw.alloc hw.size (.cells #[.string ⟨#[]⟩,.bool false] 384)
 have r0:=row_at (W.alloc (.cells #[.bool m,.string ⟨a.toArray⟩,.string ⟨b.toArray⟩] 109)) #[.string ⟨#[]⟩,.bool false] 384
 simp only [World.size_alloc] at r0
 go_enter Tryz.func255,Tryz.ntmps255
 simp only [numV]
 go_wp2_with fail
 refine (c1 _ hw).mono ?_
 rintro e w1 ⟨⟨d,rfl,hd,hv⟩,hb1⟩
 replace hw:=below_of hw hb1
 replace r0:=r0.keep hb1
 clear q1 hb1
 have r2:=(row_at w1 #[.string ⟨d.toArray⟩,.bool br] 384).keep (Below.refl _ _).drew
 replace hw:=(hw.alloc hw.size (.cells #[.string ⟨d.toArray⟩,.bool br] 384)).drew
 replace r0:=(r0.alloc (.cells #[.string ⟨d.toArray⟩,.bool br] 384)).keep (Below.refl _ _).drew
 have q2:=r2.2.1
 have q3:=(hB.keep hw).2.1
 have hlt:v % mm ≤ 1000000000:=by have:=Nat.mod_lt v h1;omega
 go_wp2_with fail
 go_region_with (first
  | (go_at_call 256;refine (rest_any d mm hd h1 (by omega) _).mono ?_;rintro e w3 ⟨rfl,hb3⟩;rw [hv];have q4:=(r2.keep hb3).2.1)
  | (go_at_call 227;refine (format_any (v % mm) hlt _ (hW.below (below_of hw hb3))).mono ?_;rintro e w4 ⟨rfl,hb4⟩;have q5:=((r2.keep hb3).keep hb4).2.1;have q6:=((r0.keep hb3).keep hb4).2.1;have q7:=((r0.keep hb3).keep hb4).2.2))
 all_goals go_wp2
 all_goals exact bodyPost_ret (v:=.agg #[.string ⟨(Lib.decDigits (v % mm)).toArray⟩,.bool br]) (by simp [results,Tryz.results255,go_sem,q6]) rfl ⟨rfl,((below_of (below_of hw hb3) hb4).setCell (p:=⟨W.heap.size + 1,0,none⟩) (Nat.le_succ _) _).setCell (p:=⟨W.heap.size + 1,1,none⟩) (Nat.le_succ _) _⟩
end Go.Proofs.YtaepcfidpekflaaGreatDoor
