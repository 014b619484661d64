/-
  Several texts in one (Qb). By the verifier.
-/
import Derived.Test.YtaepcfidpekflaaGreatDoorZ03
import Derived.Deep.DeepCutAuto
import Derived.Deep.CutBlock
import Derived.Deep.RegionWith
import Derived.Outline
namespace Go.Proofs.YtaepcfidpekflaaGreatDoor
open Go.RowKit
theorem enters_either:Enters 190:=enters_of Tryz.func190 (by kernel_rfl) rfl
theorem enters_both:Enters 216:=enters_of Tryz.func216 (by kernel_rfl) rfl
theorem enters_either1:Enters 217:=enters_of Tryz.func217 (by kernel_rfl) rfl
theorem enters_both1:Enters 237:=enters_of Tryz.func237 (by kernel_rfl) rfl
theorem enters_turned1:Enters 296:=enters_of Tryz.func296 (by kernel_rfl) rfl
def CallsB (g:Nat) (lb:Array Value) (m:Bool) (a b:Pr.T) (W:World) (x:Bool):Prop:=
 ∀ W',Below W.heap.size W W' → Calls Tryz.prog g (#[numV m a b] ++ lb) W' fun e w'=>e = .returned (.bool x) ∧ Below W'.heap.size W' w'
set_option maxHeartbeats 400000 in
theorem either1_any (m:Bool) (a b:Pr.T) (A B:Nat) (g1 g2:Nat) (l1 l2:Array Value) (W:World) (x y:Bool) (hA:Row W A #[.func (.func g1) #[] l1]) (hB:Row W B #[.func (.func g2) #[] l2]) (e1:Enters g1) (e2:Enters g2)
  (c1:CallsB g1 l1 m a b W x) (c2:CallsB g2 l2 m a b W y):
  Calls Tryz.prog 217 #[numV m a b,.pointer (some ⟨A,0,none⟩),.pointer (some ⟨B,0,none⟩)] W fun e w'=>e = .returned (.bool (x || y)) ∧ Below W.heap.size W w':=by
 have q1:=fun o=>(hA.alloc o).2.1
 unfold Enters at e1 e2
 have hw:=(Below.refl W.heap.size W).alloc (Nat.le_refl _) (.cells #[.bool m,.string ⟨a.toArray⟩,.string ⟨b.toArray⟩] 109)
 have r0:=row_at W #[.bool m,.string ⟨a.toArray⟩,.string ⟨b.toArray⟩] 109
 go_enter Tryz.func217,Tryz.ntmps217
 simp only [numV]
 go_wp2_with fail
 refine (c1 _ hw).mono ?_
 rintro e w1 ⟨rfl,hb1⟩
 replace r0:=r0.keep hb1
 replace hw:=below_of hw hb1
 clear q1 hb1
 cases x with
 | true=>
  go_wp2
  go_ret
  exact ⟨rfl,hw⟩
 | false=>
  have q0:=r0.2.1
  have q2:=(hB.keep hw).2.1
  go_wp2_with fail
  refine (c2 _ hw).mono ?_
  rintro e w2 ⟨rfl,hb2⟩
  replace hw:=below_of hw hb2
  clear q0 q2 r0 hb2
  go_wp2
  go_ret
  exact ⟨rfl,hw⟩
set_option maxHeartbeats 400000 in
theorem both1_any (m:Bool) (a b:Pr.T) (A B:Nat) (g1 g2:Nat) (l1 l2:Array Value) (W:World) (x y:Bool) (hA:Row W A #[.func (.func g1) #[] l1]) (hB:Row W B #[.func (.func g2) #[] l2]) (e1:Enters g1) (e2:Enters g2)
  (c1:CallsB g1 l1 m a b W x) (c2:CallsB g2 l2 m a b W y):
  Calls Tryz.prog 237 #[numV m a b,.pointer (some ⟨A,0,none⟩),.pointer (some ⟨B,0,none⟩)] W fun e w'=>e = .returned (.bool (x && y)) ∧ Below W.heap.size W w':=by
 have q1:=fun o=>(hA.alloc o).2.1
 unfold Enters at e1 e2
 have hw:=(Below.refl W.heap.size W).alloc (Nat.le_refl _) (.cells #[.bool m,.string ⟨a.toArray⟩,.string ⟨b.toArray⟩] 109)
 have r0:=row_at W #[.bool m,.string ⟨a.toArray⟩,.string ⟨b.toArray⟩] 109
 go_enter Tryz.func237,Tryz.ntmps237
 simp only [numV]
 go_wp2_with fail
 refine (c1 _ hw).mono ?_
 rintro e w1 ⟨rfl,hb1⟩
 replace r0:=r0.keep hb1
 replace hw:=below_of hw hb1
 clear q1 hb1
 cases x with
 | false=>
  go_wp2
  go_ret
  exact ⟨rfl,hw⟩
 | true=>
  have q0:=r0.2.1
  have q2:=(hB.keep hw).2.1
  go_wp2_with fail
  refine (c2 _ hw).mono ?_
  rintro e w2 ⟨rfl,hb2⟩
  replace hw:=below_of hw hb2
  clear q0 q2 r0 hb2
  go_wp2
  go_ret
  exact ⟨rfl,hw⟩
set_option maxHeartbeats 400000 in
theorem turned1_any (m:Bool) (a b:Pr.T) (A B:Nat) (g1:Nat) (l1:Array Value) (W:World) (x y:Bool) (hA:Row W A #[.func (.func g1) #[] l1]) (hB:Row W B #[.bool y]) (e1:Enters g1)
  (c1:CallsB g1 l1 m a b W x):
  Calls Tryz.prog 296 #[numV m a b,.pointer (some ⟨A,0,none⟩),.pointer (some ⟨B,0,none⟩)] W fun e w'=>e = .returned (.bool (x != y)) ∧ Below W.heap.size W w':=by
 have q1:=fun o=>(hA.alloc o).2.1
 have q3:=fun o=>(hB.alloc o).2.1
 unfold Enters at e1
 have hw:=(Below.refl W.heap.size W).alloc (Nat.le_refl _) (.cells #[.bool m,.string ⟨a.toArray⟩,.string ⟨b.toArray⟩] 109)
 go_enter Tryz.func296,Tryz.ntmps296
 simp only [numV]
 go_wp2_with fail
 go_region_with (go_at_fn g1;refine (c1 _ hw.drew).mono ?_;rintro e w1 ⟨rfl,hb1⟩;have q2:=(hB.keep (below_of hw.drew hb1)).2.1)
 all_goals (go_wp2;go_ret;exact ⟨rfl,below_of hw.drew hb1⟩)
theorem two_rows (w:World) (x y:Value) (t u:TypeId):Row ((w.alloc (.cells #[x] t)).alloc (.cells #[y] u)) w.heap.size #[x] ∧ Row ((w.alloc (.cells #[x] t)).alloc (.cells #[y] u)) (w.heap.size + 1) #[y]:=
 ⟨(row_at w #[x] t).alloc _,by have:=row_at (w.alloc (.cells #[x] t)) #[y] u;simpa using this⟩
theorem two_below (w:World) (o p:Obj):Below w.heap.size w ((w.alloc o).alloc p):=((Below.refl w.heap.size w).alloc (Nat.le_refl _) o).alloc (by simp) p
set_option maxHeartbeats 400000 in
theorem either_any (P:Nat) (w:World) (a b:Value) (f g:Pr.Sem) (hP:P < w.heap.size) (ha:Cnd P w a f) (hb:Cnd P w b g):
  Calls Tryz.prog 190 #[a,b] w fun e w'=>(∃ v,e = .returned v ∧ Cnd P w' v (Pr.orS f g)) ∧ Below w.heap.size w w':=by
 obtain ⟨g1,l1,rfl,e1,c1⟩:=ha
 obtain ⟨g2,l2,rfl,e2,c2⟩:=hb
 go_enter Tryz.func190,Tryz.ntmps190
 go_wp2
 go_ret
 refine ⟨⟨_,rfl,_,_,rfl,enters_either1,fun W hW hA m x y dx dy=>?_⟩,two_below _ _ _⟩
 obtain ⟨r1,r2⟩:=two_rows w (.func (.func g1) #[] l1) (.func (.func g2) #[] l2) 175 175
 have h0:=Up.after (two_below w (.cells #[.func (.func g1) #[] l1] 175) (.cells #[.func (.func g2) #[] l2] 175)) hA
 exact either1_any m x y _ _ g1 g2 l1 l2 W _ _ (r1.up hA (by omega)) (r2.up hA (by omega)) e1 e2 (fun W' hW'=>c1 W' (hW.below hW') (h0.then hW') m x y dx dy) (fun W' hW'=>c2 W' (hW.below hW') (h0.then hW') m x y dx dy)
set_option maxHeartbeats 400000 in
theorem both_any (P:Nat) (w:World) (a b:Value) (f g:Pr.Sem) (hP:P < w.heap.size) (ha:Cnd P w a f) (hb:Cnd P w b g):
  Calls Tryz.prog 216 #[a,b] w fun e w'=>(∃ v,e = .returned v ∧ Cnd P w' v (Pr.andS f g)) ∧ Below w.heap.size w w':=by
 obtain ⟨g1,l1,rfl,e1,c1⟩:=ha
 obtain ⟨g2,l2,rfl,e2,c2⟩:=hb
 go_enter Tryz.func216,Tryz.ntmps216
 go_wp2
 go_ret
 refine ⟨⟨_,rfl,_,_,rfl,enters_both1,fun W hW hA m x y dx dy=>?_⟩,two_below _ _ _⟩
 obtain ⟨r1,r2⟩:=two_rows w (.func (.func g1) #[] l1) (.func (.func g2) #[] l2) 175 175
 have h0:=Up.after (two_below w (.cells #[.func (.func g1) #[] l1] 175) (.cells #[.func (.func g2) #[] l2] 175)) hA
 exact both1_any m x y _ _ g1 g2 l1 l2 W _ _ (r1.up hA (by omega)) (r2.up hA (by omega)) e1 e2 (fun W' hW'=>c1 W' (hW.below hW') (h0.then hW') m x y dx dy) (fun W' hW'=>c2 W' (hW.below hW') (h0.then hW') m x y dx dy)
set_option maxHeartbeats 400000 in
theorem turned_any (P:Nat) (w:World) (a:Value) (n:Bool) (f:Pr.Sem) (hP:P < w.heap.size) (ha:Cnd P w a f):
  Calls Tryz.prog 277 #[a,.bool n] w fun e w'=>(∃ v,e = .returned v ∧ Cnd P w' v (Pr.turnS f n)) ∧ Below w.heap.size w w':=by
 obtain ⟨g1,l1,rfl,e1,c1⟩:=ha
 go_enter Tryz.func277,Tryz.ntmps277
 go_wp2
 go_ret
 refine ⟨⟨_,rfl,_,_,rfl,enters_turned1,fun W hW hA m x y dx dy=>?_⟩,two_below _ _ _⟩
 obtain ⟨r1,r2⟩:=two_rows w (.func (.func g1) #[] l1) (.bool n) 175 4
 have h0:=Up.after (two_below w (.cells #[.func (.func g1) #[] l1] 175) (.cells #[.bool n] 4)) hA
 exact turned1_any m x y _ _ g1 l1 W _ _ (r1.up hA (by omega)) (r2.up hA (by omega)) e1 (fun W' hW'=>c1 W' (hW.below hW') (h0.then hW') m x y dx dy)
end Go.Proofs.YtaepcfidpekflaaGreatDoor
