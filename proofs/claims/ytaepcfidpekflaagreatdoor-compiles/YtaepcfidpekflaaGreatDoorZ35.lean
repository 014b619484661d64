/-
  Several texts in one (Wj). By the verifier.
-/
import Derived.Test.YtaepcfidpekflaaGreatDoorZ32
import Derived.Test.YtaepcfidpekflaaGreatDoorZ34
import Derived.Test.YtaepcfidpekflaaGreatDoorZ10
namespace Go.Proofs.YtaepcfidpekflaaGreatDoor
open Go.RowKit
set_option maxHeartbeats 1000000 in
theorem new_no5 (a0 a1:Option Addr) (n0 c0 n1 c1:Nat) (mi po g:Int) (f n:Nat) (d:ByteArray) (d0 d1 d2 d3 d4 d5 d6 d7 d8 d9:Int) (w:World) (hd:Hid (∀ w,Base w → Calls Tryz.prog 73 #[.string d] w fun e w'=>e = .returned (.tuple #[.agg #[.int .i32 d0,.int .i32 d1,.int .i32 d2,.int .i32 d3,.int .i32 d4,.int .i32 d5,.int .i32 d6,.int .i32 d7,.int .i32 d8,.int .i32 d9],.bool true]) ∧ Below w.heap.size w w')) (hr0:Hid (∀ W,Below w.heap.size w W → Calls Tryz.prog 62 #[.slice a0 n0 c0] W fun e w'=>e = .returned (.tuple #[.slice none 0 0,.iface 30 (.int .i64 9)]) ∧ Below W.heap.size W w')) (hB:Base w) (hs:Pn.signsB mi po g = true) (hf:f ≤ 9) (hn:n ≤ 9):
  Calls Tryz.prog 53 #[.agg #[.slice a0 n0 c0,.slice a1 n1 c1,.int .i32 mi,.int .i32 po,.int .i32 g,.int .u8 f,.int .u8 n,.string d]] w fun e w'=>e = .returned (.tuple #[.agg #[.int .i32 0,.int .i32 0,.int .i32 0,.int .i64 0,.int .i64 0,.int .i32 0,.int .i32 0,.int .i32 0,.int .i32 0,.int .i32 0,.int .i32 0,.int .i32 0,.int .i32 0,.int .i32 0,.int .i32 0,.slice none 0 0,.slice none 0 0],.iface 30 (.int .i64 8)]) ∧ Below w.heap.size w w':=by
 have hf':¬ (9:Int) < f:=by omega
 have hn':¬ (9:Int) < n:=by omega
 have HB:Hid (Base w):=hB
 clear hB
 have r0:Row ((w.alloc (.cells #[.slice a0 n0 c0,.slice a1 n1 c1,.int .i32 mi,.int .i32 po,.int .i32 g,.int .u8 f,.int .u8 n,.string d] 25)).alloc (.cells #[.int .i32 0,.int .i32 0,.int .i32 0,.int .i64 0,.int .i64 0,.int .i32 0,.int .i32 0,.int .i32 0,.int .i32 0,.int .i32 0,.int .i32 0,.int .i32 0,.int .i32 0,.int .i32 0,.int .i32 0,.slice none 0 0,.slice none 0 0] 105)) w.heap.size #[.slice a0 n0 c0,.slice a1 n1 c1,.int .i32 mi,.int .i32 po,.int .i32 g,.int .u8 f,.int .u8 n,.string d]:=(row_at w _ _).alloc _
 have r1:Row ((w.alloc (.cells #[.slice a0 n0 c0,.slice a1 n1 c1,.int .i32 mi,.int .i32 po,.int .i32 g,.int .u8 f,.int .u8 n,.string d] 25)).alloc (.cells #[.int .i32 0,.int .i32 0,.int .i32 0,.int .i64 0,.int .i64 0,.int .i32 0,.int .i32 0,.int .i32 0,.int .i32 0,.int .i32 0,.int .i32 0,.int .i32 0,.int .i32 0,.int .i32 0,.int .i32 0,.slice none 0 0,.slice none 0 0] 105)) (w.heap.size + 1) #[.int .i32 0,.int .i32 0,.int .i32 0,.int .i64 0,.int .i64 0,.int .i32 0,.int .i32 0,.int .i32 0,.int .i32 0,.int .i32 0,.int .i32 0,.int .i32 0,.int .i32 0,.int .i32 0,.int .i32 0,.slice none 0 0,.slice none 0 0]:=by simpa using row_at (w.alloc (.cells #[.slice a0 n0 c0,.slice a1 n1 c1,.int .i32 mi,.int .i32 po,.int .i32 g,.int .u8 f,.int .u8 n,.string d] 25)) #[.int .i32 0,.int .i32 0,.int .i32 0,.int .i64 0,.int .i64 0,.int .i32 0,.int .i32 0,.int .i32 0,.int .i32 0,.int .i32 0,.int .i32 0,.int .i32 0,.int .i32 0,.int .i32 0,.int .i32 0,.slice none 0 0,.slice none 0 0] 105
 go_enter Tryz.func53,Tryz.ntmps53
 go_wp2_with fail
 refine (hd.out _ ((HB.out.alloc _).alloc _)).mono ?_
 rintro e w1 ⟨rfl,hb1⟩
 replace r0:=r0.keep hb1
 replace r1:=r1.keep hb1
 have hw1:Below w.heap.size w w1:=below_of (((Below.refl _ _).alloc (Nat.le_refl _) _).alloc (by simp) _) hb1
 clear hb1
 have e0:=r0.1
 have e1:=r1.1
 have q0:=fun o=>(r0.alloc o).2.1
 go_wp2_with fail
 refine (hasSigns_any _ _ _ _ _ _ _ _ _ _ _ _ _).mono ?_
 rintro e w2 ⟨rfl,hb2⟩
 clear q0
 replace r0:=(r0.alloc _).keep hb2
 replace r1:=(r1.alloc _).keep hb2
 have hw2:Below w.heap.size w w2:=below_of (hw1.alloc hw1.size _) hb2
 clear hb2 hw1
 have q0:=r0.2.1
 have q1:=r1.2.1
 have p1:=r1.2.2
 go_wp2_with fail
 refine (hr0.out _ hw2).mono ?_
 rintro e w2a ⟨rfl,hb2b⟩
 clear q0 q1 p1
 replace r0:=r0.keep hb2b
 replace r1:=r1.keep hb2b
 replace hw2:=below_of hw2 hb2b
 clear hb2b
 have q0:=r0.2.1
 have q1:=r1.2.1
 have p1:=r1.2.2
 go_wp2
 exact bodyPost_ret (v:=.tuple #[.agg #[.int .i32 0,.int .i32 0,.int .i32 0,.int .i64 0,.int .i64 0,.int .i32 0,.int .i32 0,.int .i32 0,.int .i32 0,.int .i32 0,.int .i32 0,.int .i32 0,.int .i32 0,.int .i32 0,.int .i32 0,.slice none 0 0,.slice none 0 0],.iface 30 (.int .i64 8)]) (by simp [results,Tryz.results53,go_sem,q1]) rfl ⟨rfl,(((((((((((((((((hw2.setCell (p:=⟨w.heap.size + 1,0,none⟩) (Nat.le_succ _) _).setCell (p:=⟨w.heap.size + 1,1,none⟩) (Nat.le_succ _) _).setCell (p:=⟨w.heap.size + 1,2,none⟩) (Nat.le_succ _) _).setCell (p:=⟨w.heap.size + 1,3,none⟩) (Nat.le_succ _) _).setCell (p:=⟨w.heap.size + 1,4,none⟩) (Nat.le_succ _) _).setCell (p:=⟨w.heap.size + 1,5,none⟩) (Nat.le_succ _) _).setCell (p:=⟨w.heap.size + 1,6,none⟩) (Nat.le_succ _) _).setCell (p:=⟨w.heap.size + 1,7,none⟩) (Nat.le_succ _) _).setCell (p:=⟨w.heap.size + 1,8,none⟩) (Nat.le_succ _) _).setCell (p:=⟨w.heap.size + 1,9,none⟩) (Nat.le_succ _) _).setCell (p:=⟨w.heap.size + 1,10,none⟩) (Nat.le_succ _) _).setCell (p:=⟨w.heap.size + 1,11,none⟩) (Nat.le_succ _) _).setCell (p:=⟨w.heap.size + 1,12,none⟩) (Nat.le_succ _) _).setCell (p:=⟨w.heap.size + 1,13,none⟩) (Nat.le_succ _) _).setCell (p:=⟨w.heap.size + 1,14,none⟩) (Nat.le_succ _) _).setCell (p:=⟨w.heap.size + 1,15,none⟩) (Nat.le_succ _) _).setCell (p:=⟨w.heap.size + 1,16,none⟩) (Nat.le_succ _) _)⟩
set_option maxHeartbeats 1000000 in
theorem new_no6 (a0 a1:Option Addr) (n0 c0 n1 c1:Nat) (mi po g:Int) (f n:Nat) (d:ByteArray) (d0 d1 d2 d3 d4 d5 d6 d7 d8 d9:Int) (w:World) (hd:Hid (∀ w,Base w → Calls Tryz.prog 73 #[.string d] w fun e w'=>e = .returned (.tuple #[.agg #[.int .i32 d0,.int .i32 d1,.int .i32 d2,.int .i32 d3,.int .i32 d4,.int .i32 d5,.int .i32 d6,.int .i32 d7,.int .i32 d8,.int .i32 d9],.bool true]) ∧ Below w.heap.size w w')) (hr0:Hid (∀ W,Below w.heap.size w W → Calls Tryz.prog 62 #[.slice a0 n0 c0] W fun e w'=>(∃ u v x,e = .returned (.tuple #[.slice u v x,.nilIface])) ∧ Below W.heap.size W w')) (hr1:Hid (∀ W,Below w.heap.size w W → Calls Tryz.prog 62 #[.slice a1 n1 c1] W fun e w'=>e = .returned (.tuple #[.slice none 0 0,.iface 30 (.int .i64 9)]) ∧ Below W.heap.size W w')) (hB:Base w) (hs:Pn.signsB mi po g = true) (hf:f ≤ 9) (hn:n ≤ 9):
  Calls Tryz.prog 53 #[.agg #[.slice a0 n0 c0,.slice a1 n1 c1,.int .i32 mi,.int .i32 po,.int .i32 g,.int .u8 f,.int .u8 n,.string d]] w fun e w'=>e = .returned (.tuple #[.agg #[.int .i32 0,.int .i32 0,.int .i32 0,.int .i64 0,.int .i64 0,.int .i32 0,.int .i32 0,.int .i32 0,.int .i32 0,.int .i32 0,.int .i32 0,.int .i32 0,.int .i32 0,.int .i32 0,.int .i32 0,.slice none 0 0,.slice none 0 0],.iface 30 (.int .i64 8)]) ∧ Below w.heap.size w w':=by
 have hf':¬ (9:Int) < f:=by omega
 have hn':¬ (9:Int) < n:=by omega
 have HB:Hid (Base w):=hB
 clear hB
 have r0:Row ((w.alloc (.cells #[.slice a0 n0 c0,.slice a1 n1 c1,.int .i32 mi,.int .i32 po,.int .i32 g,.int .u8 f,.int .u8 n,.string d] 25)).alloc (.cells #[.int .i32 0,.int .i32 0,.int .i32 0,.int .i64 0,.int .i64 0,.int .i32 0,.int .i32 0,.int .i32 0,.int .i32 0,.int .i32 0,.int .i32 0,.int .i32 0,.int .i32 0,.int .i32 0,.int .i32 0,.slice none 0 0,.slice none 0 0] 105)) w.heap.size #[.slice a0 n0 c0,.slice a1 n1 c1,.int .i32 mi,.int .i32 po,.int .i32 g,.int .u8 f,.int .u8 n,.string d]:=(row_at w _ _).alloc _
 have r1:Row ((w.alloc (.cells #[.slice a0 n0 c0,.slice a1 n1 c1,.int .i32 mi,.int .i32 po,.int .i32 g,.int .u8 f,.int .u8 n,.string d] 25)).alloc (.cells #[.int .i32 0,.int .i32 0,.int .i32 0,.int .i64 0,.int .i64 0,.int .i32 0,.int .i32 0,.int .i32 0,.int .i32 0,.int .i32 0,.int .i32 0,.int .i32 0,.int .i32 0,.int .i32 0,.int .i32 0,.slice none 0 0,.slice none 0 0] 105)) (w.heap.size + 1) #[.int .i32 0,.int .i32 0,.int .i32 0,.int .i64 0,.int .i64 0,.int .i32 0,.int .i32 0,.int .i32 0,.int .i32 0,.int .i32 0,.int .i32 0,.int .i32 0,.int .i32 0,.int .i32 0,.int .i32 0,.slice none 0 0,.slice none 0 0]:=by simpa using row_at (w.alloc (.cells #[.slice a0 n0 c0,.slice a1 n1 c1,.int .i32 mi,.int .i32 po,.int .i32 g,.int .u8 f,.int .u8 n,.string d] 25)) #[.int .i32 0,.int .i32 0,.int .i32 0,.int .i64 0,.int .i64 0,.int .i32 0,.int .i32 0,.int .i32 0,.int .i32 0,.int .i32 0,.int .i32 0,.int .i32 0,.int .i32 0,.int .i32 0,.int .i32 0,.slice none 0 0,.slice none 0 0] 105
 go_enter Tryz.func53,Tryz.ntmps53
 go_wp2_with fail
 refine (hd.out _ ((HB.out.alloc _).alloc _)).mono ?_
 rintro e w1 ⟨rfl,hb1⟩
 replace r0:=r0.keep hb1
 replace r1:=r1.keep hb1
 have hw1:Below w.heap.size w w1:=below_of (((Below.refl _ _).alloc (Nat.le_refl _) _).alloc (by simp) _) hb1
 clear hb1
 have e0:=r0.1
 have e1:=r1.1
 have q0:=fun o=>(r0.alloc o).2.1
 go_wp2_with fail
 refine (hasSigns_any _ _ _ _ _ _ _ _ _ _ _ _ _).mono ?_
 rintro e w2 ⟨rfl,hb2⟩
 clear q0
 replace r0:=(r0.alloc _).keep hb2
 replace r1:=(r1.alloc _).keep hb2
 have hw2:Below w.heap.size w w2:=below_of (hw1.alloc hw1.size _) hb2
 clear hb2 hw1
 have q0:=r0.2.1
 have q1:=r1.2.1
 have p1:=r1.2.2
 go_wp2_with fail
 refine (hr0.out _ hw2).mono ?_
 rintro e w2a ⟨⟨u0,v0,x0,rfl⟩,hb2b⟩
 clear q0 q1 p1
 replace r0:=r0.keep hb2b
 replace r1:=r1.keep hb2b
 replace hw2:=below_of hw2 hb2b
 clear hb2b
 have q0:=r0.2.1
 have q1:=r1.2.1
 have p1:=r1.2.2
 go_wp2_with fail
 refine (hr1.out _ hw2).mono ?_
 rintro e w2b ⟨rfl,hb2b⟩
 clear q0 q1 p1
 replace r0:=r0.keep hb2b
 replace r1:=r1.keep hb2b
 replace hw2:=below_of hw2 hb2b
 clear hb2b
 have q0:=r0.2.1
 have q1:=r1.2.1
 have p1:=r1.2.2
 go_wp2
 exact bodyPost_ret (v:=.tuple #[.agg #[.int .i32 0,.int .i32 0,.int .i32 0,.int .i64 0,.int .i64 0,.int .i32 0,.int .i32 0,.int .i32 0,.int .i32 0,.int .i32 0,.int .i32 0,.int .i32 0,.int .i32 0,.int .i32 0,.int .i32 0,.slice none 0 0,.slice none 0 0],.iface 30 (.int .i64 8)]) (by simp [results,Tryz.results53,go_sem,q1]) rfl ⟨rfl,(((((((((((((((((hw2.setCell (p:=⟨w.heap.size + 1,0,none⟩) (Nat.le_succ _) _).setCell (p:=⟨w.heap.size + 1,1,none⟩) (Nat.le_succ _) _).setCell (p:=⟨w.heap.size + 1,2,none⟩) (Nat.le_succ _) _).setCell (p:=⟨w.heap.size + 1,3,none⟩) (Nat.le_succ _) _).setCell (p:=⟨w.heap.size + 1,4,none⟩) (Nat.le_succ _) _).setCell (p:=⟨w.heap.size + 1,5,none⟩) (Nat.le_succ _) _).setCell (p:=⟨w.heap.size + 1,6,none⟩) (Nat.le_succ _) _).setCell (p:=⟨w.heap.size + 1,7,none⟩) (Nat.le_succ _) _).setCell (p:=⟨w.heap.size + 1,8,none⟩) (Nat.le_succ _) _).setCell (p:=⟨w.heap.size + 1,9,none⟩) (Nat.le_succ _) _).setCell (p:=⟨w.heap.size + 1,10,none⟩) (Nat.le_succ _) _).setCell (p:=⟨w.heap.size + 1,11,none⟩) (Nat.le_succ _) _).setCell (p:=⟨w.heap.size + 1,12,none⟩) (Nat.le_succ _) _).setCell (p:=⟨w.heap.size + 1,13,none⟩) (Nat.le_succ _) _).setCell (p:=⟨w.heap.size + 1,14,none⟩) (Nat.le_succ _) _).setCell (p:=⟨w.heap.size + 1,15,none⟩) (Nat.le_succ _) _).setCell (p:=⟨w.heap.size + 1,16,none⟩) (Nat.le_succ _) _)⟩
theorem ten10 (R:List Int) (h:R.length = 10):∃ d0 d1 d2 d3 d4 d5 d6 d7 d8 d9,R = [d0,d1,d2,d3,d4,d5,d6,d7,d8,d9]:=by
 match R,h with
 | [d0,d1,d2,d3,d4,d5,d6,d7,d8,d9],_=>exact ⟨d0,d1,d2,d3,d4,d5,d6,d7,d8,d9,rfl⟩
theorem digitsR_yes (d:ByteArray) (hd:d.size ≤ 100000) (h:Pn.digitsOkB d.data.toList = true):
  ∃ d0 d1 d2 d3 d4 d5 d6 d7 d8 d9:Int,Hid (∀ w,Base w → Calls Tryz.prog 73 #[.string d] w fun e w'=>e = .returned (.tuple #[.agg #[.int .i32 d0,.int .i32 d1,.int .i32 d2,.int .i32 d3,.int .i32 d4,.int .i32 d5,.int .i32 d6,.int .i32 d7,.int .i32 d8,.int .i32 d9],.bool true]) ∧ Below w.heap.size w w'):=by
 by_cases h0:0 < d.size
 ·have hne:d.data.toList.isEmpty = false:=by have:=ne_nil d h0;rw [Lib.toList_data] at this;exact this
  rw [Pn.digitsOkB,hne,Bool.false_or,Bool.and_eq_true,beq_iff_eq,beq_iff_eq] at h
  have hv:=(Pn.valid_len d.data.toList).2 h.1
  have hp:=Pn.valid_runes d.data.toList hv
  have hl:(Pn.runes d.data.toList).length = 10:=by
   have:=h.2
   rw [hp,List.length_map] at this
   exact this
  obtain ⟨d0,d1,d2,d3,d4,d5,d6,d7,d8,d9,hR⟩:=ten10 _ hl
  refine ⟨d0,d1,d2,d3,d4,d5,d6,d7,d8,d9,?_⟩
  show ∀ w,_
  intro w hB
  exact digitsOf_ok d w d0 d1 d2 d3 d4 d5 d6 d7 d8 d9 hd h0 hB hv hR
 ·have he:d = ⟨#[]⟩:=by
   apply ByteArray.ext
   apply Array.eq_empty_of_size_eq_zero
   have:d.data.size = d.size:=rfl
   omega
  subst he
  refine ⟨48,49,50,51,52,53,54,55,56,57,?_⟩
  show ∀ w,_
  intro w _
  exact digitsOf_none w
theorem digitsR_wrong (d:ByteArray) (hd:d.size ≤ 100000) (h:Pn.digitsOkB d.data.toList = false) (w:World) (hB:Base w):
  Calls Tryz.prog 73 #[.string d] w fun e w'=>e = .returned (.tuple #[.agg #[.int .i32 0,.int .i32 0,.int .i32 0,.int .i32 0,.int .i32 0,.int .i32 0,.int .i32 0,.int .i32 0,.int .i32 0,.int .i32 0],.bool false]) ∧ Below w.heap.size w w':=by
 have h0:0 < d.size:=by
  rcases Nat.eq_zero_or_pos d.size with h0 | h0
  ·exfalso
   rw [Lib.size_eq] at h0
   have:=List.length_eq_zero_iff.1 h0
   rw [this] at h
   exact absurd h (by decide)
  ·exact h0
 have hne:d.data.toList.isEmpty = false:=by have:=ne_nil d h0;rw [Lib.toList_data] at this;exact this
 cases hv:Lib.validD d.data.toList with
 | false=>exact digitsOf_bad d w hd h0 hB hv
 | true=>
  refine digitsOf_count d w hd h0 hB hv ?_
  have hlen:=(Pn.valid_len d.data.toList).1 hv
  rw [Pn.digitsOkB,hne,Bool.false_or,beq_iff_eq.2 hlen,Bool.true_and,beq_eq_false_iff_ne,Pn.valid_runes _ hv,List.length_map,← Pn.count_eq] at h
  rw [bne_iff_ne]
  omega
def locB (l0 l1:List (Pr.T × Pr.T)) (mi po g:Int) (f n:Nat) (d:List UInt8):Bool:=(Pr.rulesP [] l0).isSome && (Pr.rulesP [] l1).isSome && Pn.knownB mi po g f n d
theorem known_parts0 (mi po g:Int) (f n:Nat) (l:List UInt8) (h:Pn.knownB mi po g f n l = true):Pn.signsB mi po g = true ∧ Pn.digitsOkB l = true ∧ f ≤ 9 ∧ n ≤ 9:=by
 simp only [Pn.knownB,Bool.and_eq_true,decide_eq_true_eq] at h
 exact ⟨h.1.1.1,h.1.1.2,h.1.2,h.2⟩
theorem rules_yes {a:Option Addr} {c:Nat} {l:List (Pr.T × Pr.T)} {w:World} (hB:Base w) (h:RulesIn w a l) (hk:(Pr.rulesP [] l).isSome = true):∀ W,Below w.heap.size w W → Calls Tryz.prog 62 #[.slice a l.length c] W fun e w'=>(∃ u v x,e = .returned (.tuple #[.slice u v x,.nilIface])) ∧ Below W.heap.size W w':=by
 intro W hW
 have h':=h.keep hW
 refine (new_any W a l c h'.len h'.small (hB.below hW) h'.at_).mono ?_
 rintro e w' ⟨hb,hs⟩
 obtain ⟨rs,hr⟩:=Option.isSome_iff_exists.1 hk
 rw [hr] at hs
 obtain ⟨v,rfl,hv⟩:=hs
 obtain ⟨u,v,x,rfl⟩:=rulesV_form hv
 exact ⟨⟨u,v,x,rfl⟩,hb⟩
theorem rules_not {a:Option Addr} {c:Nat} {l:List (Pr.T × Pr.T)} {w:World} (hB:Base w) (h:RulesIn w a l) (hk:(Pr.rulesP [] l).isSome = false):∀ W,Below w.heap.size w W → Calls Tryz.prog 62 #[.slice a l.length c] W fun e w'=>e = .returned (.tuple #[.slice none 0 0,.iface 30 (.int .i64 9)]) ∧ Below W.heap.size W w':=by
 intro W hW
 have h':=h.keep hW
 refine (new_any W a l c h'.len h'.small (hB.below hW) h'.at_).mono ?_
 rintro e w' ⟨hb,hs⟩
 rw [Option.isSome_eq_false_iff,Option.isNone_iff_eq_none] at hk
 rw [hk] at hs
 exact ⟨hs,hb⟩
theorem lnew_no (a0 a1:Option Addr) (c0 c1:Nat) (l0 l1:List (Pr.T × Pr.T)) (mi po g:Int) (f n:Nat) (d:ByteArray) (w:World) (hd:d.size ≤ 100000) (h0:RulesIn w a0 l0) (h1:RulesIn w a1 l1) (hB:Base w) (hk:locB l0 l1 mi po g f n d.data.toList = false):
  Calls Tryz.prog 53 #[.agg #[.slice a0 l0.length c0,.slice a1 l1.length c1,.int .i32 mi,.int .i32 po,.int .i32 g,.int .u8 f,.int .u8 n,.string d]] w fun e w'=>e = .returned (.tuple #[.agg #[.int .i32 0,.int .i32 0,.int .i32 0,.int .i64 0,.int .i64 0,.int .i32 0,.int .i32 0,.int .i32 0,.int .i32 0,.int .i32 0,.int .i32 0,.int .i32 0,.int .i32 0,.int .i32 0,.int .i32 0,.slice none 0 0,.slice none 0 0],.iface 30 (.int .i64 8)]) ∧ Below w.heap.size w w':=by
 cases hg:Pn.digitsOkB d.data.toList with
 | false=>exact new_no1 _ _ _ _ _ _ _ _ _ _ _ _ w (show Hid _ from fun w hB=>digitsR_wrong d hd hg w hB) hB
 | true=>
  obtain ⟨d0,d1,d2,d3,d4,d5,d6,d7,d8,d9,hdig⟩:=digitsR_yes d hd hg
  cases hs:Pn.signsB mi po g with
  | false=>exact new_no2 _ _ _ _ _ _ _ _ _ _ _ _ d0 d1 d2 d3 d4 d5 d6 d7 d8 d9 w hdig hB hs
  | true=>
   by_cases hf:f ≤ 9
   ·by_cases hn:n ≤ 9
    ·cases hr0:(Pr.rulesP [] l0).isSome with
     | false=>exact new_no5 _ _ _ _ _ _ _ _ _ _ _ _ d0 d1 d2 d3 d4 d5 d6 d7 d8 d9 w hdig (show Hid _ from rules_not hB h0 hr0) hB hs hf hn
     | true=>
      cases hr1:(Pr.rulesP [] l1).isSome with
      | false=>exact new_no6 _ _ _ _ _ _ _ _ _ _ _ _ d0 d1 d2 d3 d4 d5 d6 d7 d8 d9 w hdig (show Hid _ from rules_yes hB h0 hr0) (show Hid _ from rules_not hB h1 hr1) hB hs hf hn
      | true=>
       exfalso
       rw [locB,hr0,hr1,Pn.known_yes mi po g f n _ hs hg] at hk
       simp at hk
       omega
    ·exact new_no4 _ _ _ _ _ _ _ _ _ _ _ _ d0 d1 d2 d3 d4 d5 d6 d7 d8 d9 w hdig hB hs (by omega) (by omega)
   ·exact new_no3 _ _ _ _ _ _ _ _ _ _ _ _ d0 d1 d2 d3 d4 d5 d6 d7 d8 d9 w hdig hB hs (by omega)
theorem lnew_yes (a0 a1:Option Addr) (c0 c1:Nat) (l0 l1:List (Pr.T × Pr.T)) (mi po g:Int) (f n:Nat) (d:ByteArray) (w:World) (hd:d.size ≤ 100000) (h0:RulesIn w a0 l0) (h1:RulesIn w a1 l1) (hB:Base w) (hk:locB l0 l1 mi po g f n d.data.toList = true):
  Calls Tryz.prog 53 #[.agg #[.slice a0 l0.length c0,.slice a1 l1.length c1,.int .i32 mi,.int .i32 po,.int .i32 g,.int .u8 f,.int .u8 n,.string d]] w fun e w'=>(∃ (d0 d1 d2 d3 d4 d5 d6 d7 d8 d9:Int) (k0 k1:Nat) (u0:Option Addr) (v0 x0:Nat) (u1:Option Addr) (v1 x1:Nat),e = .returned (.tuple #[.agg #[.int .i32 mi,.int .i32 po,.int .i32 g,.int .i64 k0,.int .i64 k1,.int .i32 d0,.int .i32 d1,.int .i32 d2,.int .i32 d3,.int .i32 d4,.int .i32 d5,.int .i32 d6,.int .i32 d7,.int .i32 d8,.int .i32 d9,.slice u0 v0 x0,.slice u1 v1 x1],.nilIface])) ∧ Below w.heap.size w w':=by
 simp only [locB,Bool.and_eq_true] at hk
 obtain ⟨⟨r0,r1⟩,hk⟩:=hk
 obtain ⟨k1,k2,k3,k4⟩:=known_parts0 mi po g f n _ hk
 obtain ⟨d0,d1,d2,d3,d4,d5,d6,d7,d8,d9,hdig⟩:=digitsR_yes d hd k2
 refine (new_yes a0 a1 l0.length c0 l1.length c1 mi po g f n d d0 d1 d2 d3 d4 d5 d6 d7 d8 d9 w hdig (show Hid _ from rules_in a0 a1 c0 c1 l0 l1 mi po g f n d w hB h0.len h1.len h0.small h1.small h0.at_ h1.at_ r0 r1) hB k1 k3 k4).mono ?_
 rintro e w' ⟨⟨u0,v0,x0,u1,v1,x1,rfl⟩,hb⟩
 exact ⟨⟨d0,d1,d2,d3,d4,d5,d6,d7,d8,d9,_,_,u0,v0,x0,u1,v1,x1,rfl⟩,hb⟩
end Go.Proofs.YtaepcfidpekflaaGreatDoor
