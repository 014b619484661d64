/-
  Several texts in one (Wh). By the verifier.
-/
import Derived.Test.YtaepcfidpekflaaGreatDoorZ30
import Derived.Test.YtaepcfidpekflaaGreatDoorZ01
import Derived.Test.YtaepcfidpekflaaGreatDoorZ15
import Derived.Lib.OthersKept
namespace Go.Proofs.YtaepcfidpekflaaGreatDoor
open Go.RowKit
theorem ne_nil (s:ByteArray) (h:0 < s.size):s.toList.isEmpty = false:=by
 rw [Lib.toList_data]
 cases hl:s.data.toList with
 | nil=>rw [Lib.size_eq,hl] at h;exact absurd h (by simp)
 | cons c r=>rfl
theorem row_it {w:World} {b:Nat} {cs:Array Value} (h:Row w b cs) {k:Nat} (hk:b < k) (s:ByteArray) (pos:Nat):Row (w.iterAt k s pos) b cs:=
 h.below (Lib.below_iterAt (Below.refl k w) (Nat.le_refl _) s pos) hk
theorem set_heap (w:World) (b k:Nat) (v:Value) (i:Nat) (h:b ≠ i):(w.setCell ⟨b,k,none⟩ v).heap[i]? = w.heap[i]?:=by
 simp [World.setCell,Array.getElem?_modify,h]
def dcs (R:List Int) (k:Nat):Array Value:=((R.take k).map (Value.int .i32) ++ List.replicate (10 - k) (Value.int .i32 0)).toArray
theorem dcs_zero (R:List Int):dcs R 0 = #[.int .i32 0,.int .i32 0,.int .i32 0,.int .i32 0,.int .i32 0,.int .i32 0,.int .i32 0,.int .i32 0,.int .i32 0,.int .i32 0]:=by simp [dcs,List.replicate]
theorem dcs_size (R:List Int) (hR:R.length = 10) (k:Nat) (hk:k ≤ 10):(dcs R k).size = 10:=by simp [dcs];omega
theorem dcs_at (R:List Int) (hR:R.length = 10) (k:Nat) (hk:k < 10):(dcs R k)[k]? = some (.int .i32 0):=by
 unfold dcs
 rw [List.getElem?_toArray,List.getElem?_append_right (by simp;omega),List.getElem?_replicate]
 simp
 omega
theorem dcs_set (R:List Int) (hR:R.length = 10) (k:Nat) (x:Int) (r:List Int) (h:R.drop k = x :: r):(dcs R k).setIfInBounds k (.int .i32 x) = dcs R (k + 1):=by
 have hk:k < 10:=by
  rcases Nat.lt_or_ge k 10 with h1 | h1
  ·exact h1
  ·rw [List.drop_eq_nil_of_le (by omega)] at h;cases h
 have hx:R[k]? = some x:=by
  have:=congrArg (·[0]?) h
  simpa using this
 apply Array.ext_getElem?
 intro j
 unfold dcs
 rw [List.setIfInBounds_toArray,List.getElem?_toArray,List.getElem?_toArray]
 rw [List.getElem?_set]
 by_cases e:k = j
 ·subst e
  rw [if_pos rfl,if_pos (by simp;omega),List.getElem?_append_left (by simp;omega),List.getElem?_map,List.getElem?_take,if_pos (by omega),hx];rfl
 ·rw [if_neg e]
  rcases Nat.lt_or_ge j k with hj | hj
  ·rw [List.getElem?_append_left (by simp;omega),List.getElem?_append_left (by simp;omega),List.getElem?_map,List.getElem?_map,List.getElem?_take,List.getElem?_take,if_pos hj,if_pos (by omega)]
  ·rw [List.getElem?_append_right (by simp;omega),List.getElem?_append_right (by simp;omega),List.getElem?_replicate,List.getElem?_replicate]
   simp only [List.length_map,List.length_take]
   have e1:min k R.length = k:=by omega
   have e2:min (k + 1) R.length = k + 1:=by omega
   rw [e1,e2]
   by_cases hl:j < 10
   ·rw [if_pos (by omega),if_pos (by omega)]
   ·rw [if_neg (by omega),if_neg (by omega)]
set_option maxHeartbeats 1000000 in
theorem digitsOf_bad (s:ByteArray) (w:World) (hs:s.size ≤ 100000) (h0:0 < s.size) (hB:Base w) (hv:Lib.validD s.data.toList = false):
  Calls Tryz.prog 73 #[.string s] w fun e w'=>e = .returned (.tuple #[.agg #[.int .i32 0,.int .i32 0,.int .i32 0,.int .i32 0,.int .i32 0,.int .i32 0,.int .i32 0,.int .i32 0,.int .i32 0,.int .i32 0],.bool false]) ∧ Below w.heap.size w w':=by
 have hem:s.toList.isEmpty = false:=ne_nil s h0
 have HB:Hid (Base w):=hB
 clear hB
 have r0:Row ((w.alloc (.cells #[.int .i32 0,.int .i32 0,.int .i32 0,.int .i32 0,.int .i32 0,.int .i32 0,.int .i32 0,.int .i32 0,.int .i32 0,.int .i32 0] 101)).alloc (.cells #[.int .i32 0,.int .i32 0,.int .i32 0,.int .i32 0,.int .i32 0,.int .i32 0,.int .i32 0,.int .i32 0,.int .i32 0,.int .i32 0] 101)) w.heap.size #[.int .i32 0,.int .i32 0,.int .i32 0,.int .i32 0,.int .i32 0,.int .i32 0,.int .i32 0,.int .i32 0,.int .i32 0,.int .i32 0]:=(row_at w _ _).alloc _
 have r1:Row ((w.alloc (.cells #[.int .i32 0,.int .i32 0,.int .i32 0,.int .i32 0,.int .i32 0,.int .i32 0,.int .i32 0,.int .i32 0,.int .i32 0,.int .i32 0] 101)).alloc (.cells #[.int .i32 0,.int .i32 0,.int .i32 0,.int .i32 0,.int .i32 0,.int .i32 0,.int .i32 0,.int .i32 0,.int .i32 0,.int .i32 0] 101)) (w.heap.size + 1) #[.int .i32 0,.int .i32 0,.int .i32 0,.int .i32 0,.int .i32 0,.int .i32 0,.int .i32 0,.int .i32 0,.int .i32 0,.int .i32 0]:=by simpa using row_at (w.alloc (.cells #[.int .i32 0,.int .i32 0,.int .i32 0,.int .i32 0,.int .i32 0,.int .i32 0,.int .i32 0,.int .i32 0,.int .i32 0,.int .i32 0] 101)) #[.int .i32 0,.int .i32 0,.int .i32 0,.int .i32 0,.int .i32 0,.int .i32 0,.int .i32 0,.int .i32 0,.int .i32 0,.int .i32 0] 101
 have hw:Below w.heap.size w ((w.alloc (.cells #[.int .i32 0,.int .i32 0,.int .i32 0,.int .i32 0,.int .i32 0,.int .i32 0,.int .i32 0,.int .i32 0,.int .i32 0,.int .i32 0] 101)).alloc (.cells #[.int .i32 0,.int .i32 0,.int .i32 0,.int .i32 0,.int .i32 0,.int .i32 0,.int .i32 0,.int .i32 0,.int .i32 0,.int .i32 0] 101)):=((Below.refl _ _).alloc (Nat.le_refl _) _).alloc (by simp) _
 go_enter Tryz.func73,Tryz.ntmps73
 go_wp2_with fail
 refine (Tryz.utf8_ValidString s _ (by omega) ((HB.out.alloc _).alloc _).2.2.1).mono ?_
 rintro e w1 ⟨rfl,hb⟩
 rw [hv]
 replace r0:=r0.keep hb
 replace r1:=r1.keep hb
 replace hw:=below_of hw hb
 clear hb
 have q0:=r0.2.1
 have p0:=r0.2.2
 have q1:=r1.2.1
 have p1:=r1.2.2
 go_wp2
 exact bodyPost_ret (v:=.tuple #[.agg #[.int .i32 0,.int .i32 0,.int .i32 0,.int .i32 0,.int .i32 0,.int .i32 0,.int .i32 0,.int .i32 0,.int .i32 0,.int .i32 0],.bool false]) (by simp [results,Tryz.results73,go_sem,q0]) rfl ⟨rfl,((((((((((hw.setCell (p:=⟨w.heap.size,0,none⟩) (Nat.le_refl _) _).setCell (p:=⟨w.heap.size,1,none⟩) (Nat.le_refl _) _).setCell (p:=⟨w.heap.size,2,none⟩) (Nat.le_refl _) _).setCell (p:=⟨w.heap.size,3,none⟩) (Nat.le_refl _) _).setCell (p:=⟨w.heap.size,4,none⟩) (Nat.le_refl _) _).setCell (p:=⟨w.heap.size,5,none⟩) (Nat.le_refl _) _).setCell (p:=⟨w.heap.size,6,none⟩) (Nat.le_refl _) _).setCell (p:=⟨w.heap.size,7,none⟩) (Nat.le_refl _) _).setCell (p:=⟨w.heap.size,8,none⟩) (Nat.le_refl _) _).setCell (p:=⟨w.heap.size,9,none⟩) (Nat.le_refl _) _)⟩
set_option maxHeartbeats 1000000 in
theorem digitsOf_count (s:ByteArray) (w:World) (hs:s.size ≤ 100000) (h0:0 < s.size) (hB:Base w) (hv:Lib.validD s.data.toList = true) (hc:((Lib.runeCount s:Int) != 10) = true):
  Calls Tryz.prog 73 #[.string s] w fun e w'=>e = .returned (.tuple #[.agg #[.int .i32 0,.int .i32 0,.int .i32 0,.int .i32 0,.int .i32 0,.int .i32 0,.int .i32 0,.int .i32 0,.int .i32 0,.int .i32 0],.bool false]) ∧ Below w.heap.size w w':=by
 have hem:s.toList.isEmpty = false:=ne_nil s h0
 have HB:Hid (Base w):=hB
 clear hB
 have r0:Row ((w.alloc (.cells #[.int .i32 0,.int .i32 0,.int .i32 0,.int .i32 0,.int .i32 0,.int .i32 0,.int .i32 0,.int .i32 0,.int .i32 0,.int .i32 0] 101)).alloc (.cells #[.int .i32 0,.int .i32 0,.int .i32 0,.int .i32 0,.int .i32 0,.int .i32 0,.int .i32 0,.int .i32 0,.int .i32 0,.int .i32 0] 101)) w.heap.size #[.int .i32 0,.int .i32 0,.int .i32 0,.int .i32 0,.int .i32 0,.int .i32 0,.int .i32 0,.int .i32 0,.int .i32 0,.int .i32 0]:=(row_at w _ _).alloc _
 have r1:Row ((w.alloc (.cells #[.int .i32 0,.int .i32 0,.int .i32 0,.int .i32 0,.int .i32 0,.int .i32 0,.int .i32 0,.int .i32 0,.int .i32 0,.int .i32 0] 101)).alloc (.cells #[.int .i32 0,.int .i32 0,.int .i32 0,.int .i32 0,.int .i32 0,.int .i32 0,.int .i32 0,.int .i32 0,.int .i32 0,.int .i32 0] 101)) (w.heap.size + 1) #[.int .i32 0,.int .i32 0,.int .i32 0,.int .i32 0,.int .i32 0,.int .i32 0,.int .i32 0,.int .i32 0,.int .i32 0,.int .i32 0]:=by simpa using row_at (w.alloc (.cells #[.int .i32 0,.int .i32 0,.int .i32 0,.int .i32 0,.int .i32 0,.int .i32 0,.int .i32 0,.int .i32 0,.int .i32 0,.int .i32 0] 101)) #[.int .i32 0,.int .i32 0,.int .i32 0,.int .i32 0,.int .i32 0,.int .i32 0,.int .i32 0,.int .i32 0,.int .i32 0,.int .i32 0] 101
 have hw:Below w.heap.size w ((w.alloc (.cells #[.int .i32 0,.int .i32 0,.int .i32 0,.int .i32 0,.int .i32 0,.int .i32 0,.int .i32 0,.int .i32 0,.int .i32 0,.int .i32 0] 101)).alloc (.cells #[.int .i32 0,.int .i32 0,.int .i32 0,.int .i32 0,.int .i32 0,.int .i32 0,.int .i32 0,.int .i32 0,.int .i32 0,.int .i32 0] 101)):=((Below.refl _ _).alloc (Nat.le_refl _) _).alloc (by simp) _
 go_enter Tryz.func73,Tryz.ntmps73
 go_wp2_with fail
 refine (Tryz.utf8_ValidString s _ (by omega) ((HB.out.alloc _).alloc _).2.2.1).mono ?_
 rintro e w1 ⟨rfl,hb⟩
 rw [hv]
 replace r0:=r0.keep hb
 replace r1:=r1.keep hb
 replace hw:=below_of hw hb
 clear hb
 go_wp2_with fail
 refine (Tryz.utf8_RuneCountInString s _ (by omega)).mono ?_
 rintro e w2 ⟨rfl,pos,rfl⟩
 replace r0:=r0.alloc (.stringIter s pos)
 replace r1:=r1.alloc (.stringIter s pos)
 replace hw:Below w.heap.size w (w1.iter s pos):=hw.alloc hw.size _
 change Row (w1.iter s pos) _ _ at r0
 change Row (w1.iter s pos) _ _ at r1
 generalize w1.iter s pos = w2 at *
 have q0:=r0.2.1
 have p0:=r0.2.2
 have q1:=r1.2.1
 have p1:=r1.2.2
 go_wp2
 exact bodyPost_ret (v:=.tuple #[.agg #[.int .i32 0,.int .i32 0,.int .i32 0,.int .i32 0,.int .i32 0,.int .i32 0,.int .i32 0,.int .i32 0,.int .i32 0,.int .i32 0],.bool false]) (by simp [results,Tryz.results73,go_sem,q0]) rfl ⟨rfl,((((((((((hw.setCell (p:=⟨w.heap.size,0,none⟩) (Nat.le_refl _) _).setCell (p:=⟨w.heap.size,1,none⟩) (Nat.le_refl _) _).setCell (p:=⟨w.heap.size,2,none⟩) (Nat.le_refl _) _).setCell (p:=⟨w.heap.size,3,none⟩) (Nat.le_refl _) _).setCell (p:=⟨w.heap.size,4,none⟩) (Nat.le_refl _) _).setCell (p:=⟨w.heap.size,5,none⟩) (Nat.le_refl _) _).setCell (p:=⟨w.heap.size,6,none⟩) (Nat.le_refl _) _).setCell (p:=⟨w.heap.size,7,none⟩) (Nat.le_refl _) _).setCell (p:=⟨w.heap.size,8,none⟩) (Nat.le_refl _) _).setCell (p:=⟨w.heap.size,9,none⟩) (Nat.le_refl _) _)⟩
set_option maxHeartbeats 2000000 in
theorem digitsOf_ok (s:ByteArray) (w:World) (d0 d1 d2 d3 d4 d5 d6 d7 d8 d9:Int) (hs:s.size ≤ 100000) (h0:0 < s.size) (hB:Base w) (hv:Lib.validD s.data.toList = true) (hR:Pn.runes s.data.toList = [d0,d1,d2,d3,d4,d5,d6,d7,d8,d9]):
  Calls Tryz.prog 73 #[.string s] w fun e w'=>e = .returned (.tuple #[.agg #[.int .i32 d0,.int .i32 d1,.int .i32 d2,.int .i32 d3,.int .i32 d4,.int .i32 d5,.int .i32 d6,.int .i32 d7,.int .i32 d8,.int .i32 d9],.bool true]) ∧ Below w.heap.size w w':=by
 have hc:((Lib.runeCount s:Int) != 10) = false:=by rw [Pn.count_eq,hR];rfl
 have HR:Hid (Pn.runes s.data.toList = [d0,d1,d2,d3,d4,d5,d6,d7,d8,d9]):=hR
 clear hR
 have hem:s.toList.isEmpty = false:=ne_nil s h0
 have HB:Hid (Base w):=hB
 clear hB
 have r0:Row ((w.alloc (.cells #[.int .i32 0,.int .i32 0,.int .i32 0,.int .i32 0,.int .i32 0,.int .i32 0,.int .i32 0,.int .i32 0,.int .i32 0,.int .i32 0] 101)).alloc (.cells #[.int .i32 0,.int .i32 0,.int .i32 0,.int .i32 0,.int .i32 0,.int .i32 0,.int .i32 0,.int .i32 0,.int .i32 0,.int .i32 0] 101)) w.heap.size #[.int .i32 0,.int .i32 0,.int .i32 0,.int .i32 0,.int .i32 0,.int .i32 0,.int .i32 0,.int .i32 0,.int .i32 0,.int .i32 0]:=(row_at w _ _).alloc _
 have r1:Row ((w.alloc (.cells #[.int .i32 0,.int .i32 0,.int .i32 0,.int .i32 0,.int .i32 0,.int .i32 0,.int .i32 0,.int .i32 0,.int .i32 0,.int .i32 0] 101)).alloc (.cells #[.int .i32 0,.int .i32 0,.int .i32 0,.int .i32 0,.int .i32 0,.int .i32 0,.int .i32 0,.int .i32 0,.int .i32 0,.int .i32 0] 101)) (w.heap.size + 1) #[.int .i32 0,.int .i32 0,.int .i32 0,.int .i32 0,.int .i32 0,.int .i32 0,.int .i32 0,.int .i32 0,.int .i32 0,.int .i32 0]:=by simpa using row_at (w.alloc (.cells #[.int .i32 0,.int .i32 0,.int .i32 0,.int .i32 0,.int .i32 0,.int .i32 0,.int .i32 0,.int .i32 0,.int .i32 0,.int .i32 0] 101)) #[.int .i32 0,.int .i32 0,.int .i32 0,.int .i32 0,.int .i32 0,.int .i32 0,.int .i32 0,.int .i32 0,.int .i32 0,.int .i32 0] 101
 have hw:Below w.heap.size w ((w.alloc (.cells #[.int .i32 0,.int .i32 0,.int .i32 0,.int .i32 0,.int .i32 0,.int .i32 0,.int .i32 0,.int .i32 0,.int .i32 0,.int .i32 0] 101)).alloc (.cells #[.int .i32 0,.int .i32 0,.int .i32 0,.int .i32 0,.int .i32 0,.int .i32 0,.int .i32 0,.int .i32 0,.int .i32 0,.int .i32 0] 101)):=((Below.refl _ _).alloc (Nat.le_refl _) _).alloc (by simp) _
 go_enter Tryz.func73,Tryz.ntmps73
 go_wp2_with fail
 refine (Tryz.utf8_ValidString s _ (by omega) ((HB.out.alloc _).alloc _).2.2.1).mono ?_
 rintro e w1 ⟨rfl,hb⟩
 rw [hv]
 replace r0:=r0.keep hb
 replace r1:=r1.keep hb
 replace hw:=below_of hw hb
 clear hb
 go_wp2_with fail
 refine (Tryz.utf8_RuneCountInString s _ (by omega)).mono ?_
 rintro e w2 ⟨rfl,pos,rfl⟩
 replace r0:=r0.alloc (.stringIter s pos)
 replace r1:=r1.alloc (.stringIter s pos)
 replace hw:Below w.heap.size w (w1.iter s pos):=hw.alloc hw.size _
 change Row (w1.iter s pos) _ _ at r0
 change Row (w1.iter s pos) _ _ at r1
 generalize w1.iter s pos = w2 at *
 go_wp2_with fail
 go_loopw [5] (fun t wr=>∃ (pos k n:Nat),t = .int .i64 k ∧ wr.heap[w2.heap.size]? = some (.stringIter s pos) ∧ s.size ≤ pos + n ∧ Hid (([d0,d1,d2,d3,d4,d5,d6,d7,d8,d9]:List Int).drop k = Pn.runesN n (s.data.toList.drop pos)) ∧ k ≤ 10 ∧ Row wr w.heap.size #[.int .i32 0,.int .i32 0,.int .i32 0,.int .i32 0,.int .i32 0,.int .i32 0,.int .i32 0,.int .i32 0,.int .i32 0,.int .i32 0] ∧ Row wr (w.heap.size + 1) (dcs [d0,d1,d2,d3,d4,d5,d6,d7,d8,d9] k) ∧ Below w.heap.size w wr) (fun _ wr=>s.size - wr.iterPos w2.heap.size)
 case atStart=>
  exact ⟨0,0,s.size,rfl,World.iter_heap w2 s 0,by omega,by show _ = _;rw [← HR.out,Pn.runes,Lib.size_eq];rfl,by omega,r0.alloc _,by rw [dcs_zero];exact r1.alloc _,hw.alloc hw.size _⟩
 case round=>
  have hB2:w.heap.size + 2 ≤ w2.heap.size:=by have:=r1.1;omega
  clear r0 r1 hw
  obtain ⟨pos,k,n,rfl,hit,hn,HD,hk,x0,x1,hbw⟩:=hrel
  by_cases hp:pos < s.size
  ·have hnx:∀ ty,(Instr.next (.pointer (some ⟨w2.heap.size,0,none⟩)) true ty).run Tryz.prog wr = _:=fun ty=>Lib.run_next_any_at wr w2.heap.size s pos ty hit hp
   have hd1:=decode_le s pos
   obtain ⟨n,rfl⟩:∃ m,n = m + 1:=⟨n - 1,by omega⟩
   have hdl:=Lib.decodeL_width (s.data.toList.drop pos)
   have HD2:Hid (([d0,d1,d2,d3,d4,d5,d6,d7,d8,d9]:List Int).drop k = ((Utf8.decode s pos).1:Int) :: Pn.runesN n (s.data.toList.drop (pos + (Utf8.decode s pos).2))):=by
    show _ = _
    have hne:s.data.toList.drop pos ≠ []:=by
     intro e
     have:=congrArg List.length e
     rw [List.length_drop,← Lib.size_eq] at this
     simp at this
     omega
    rw [HD.out,Pn.runesN,if_neg hne,Lib.decodeL_drop,List.drop_drop]
   have hw1:1 ≤ (Utf8.decode s pos).2:=by rw [Lib.decodeL_drop] at hdl;exact hdl
   have hk10:k < 10:=by
    rcases Nat.lt_or_ge k 10 with h1 | h1
    ·exact h1
    ·have h:=HD2.out
     rw [List.drop_eq_nil_of_le (by simp;omega)] at h
     cases h
   have HS:Hid ((dcs [d0,d1,d2,d3,d4,d5,d6,d7,d8,d9] k).setIfInBounds k (.int .i32 ((Utf8.decode s pos).1:Int)) = dcs [d0,d1,d2,d3,d4,d5,d6,d7,d8,d9] (k + 1)):=dcs_set _ rfl k _ _ HD2.out
   have HD3:Hid (([d0,d1,d2,d3,d4,d5,d6,d7,d8,d9]:List Int).drop (k + 1) = Pn.runesN n (s.data.toList.drop (pos + (Utf8.decode s pos).2))):=by
    show _ = _
    rw [← List.drop_drop,HD2.out];rfl
   clear HD HD2 hdl
   have hk':(k:Int) < 10:=by omega
   have it2:=Lib.iterAt_heap wr w2.heap.size s pos (pos + (Utf8.decode s pos).2) hit
   have y0:=row_it x0 (k:=w2.heap.size) (by omega) s (pos + (Utf8.decode s pos).2)
   have y1:=row_it x1 (k:=w2.heap.size) (by omega) s (pos + (Utf8.decode s pos).2)
   have hbw2:=Lib.below_iterAt hbw (k:=w2.heap.size) (by omega) s (pos + (Utf8.decode s pos).2)
   have q1:=(y1.2.1 k).trans (dcs_at _ rfl k hk10)
   have p1:=y1.2.2 k
   clear x0 x1
   go_wp2
   go_roundw
   case rel=>exact ⟨pos + (Utf8.decode s pos).2,k + 1,n,by rw [Int.natCast_add];rfl,(set_heap _ _ _ _ _ (by omega)).trans it2,by omega,HD3,by omega,y0.setO (by omega) _,HS.out ▸ y1.setC k _ (by rw [dcs_size _ rfl k (by omega)];exact hk10),hbw2.setCell (p:=⟨w.heap.size + 1,k,none⟩) (Nat.le_succ _) _⟩
   case measure=>
    have it3:=(set_heap (wr.iterAt w2.heap.size s (pos + (Utf8.decode s pos).2)) (w.heap.size + 1) k (.int .i32 ((Utf8.decode s pos).1:Int)) w2.heap.size (by omega)).trans it2
    simp only [World.iterPos,it3,hit]
    omega
  ·have hnx:∀ ty,(Instr.next (.pointer (some ⟨w2.heap.size,0,none⟩)) true ty).run Tryz.prog wr = _:=fun ty=>Lib.run_next_end_at wr w2.heap.size s pos ty hit hp
   have hkk:k = 10:=by
    have h:=HD.out
    rw [show s.data.toList.drop pos = [] from List.drop_eq_nil_of_le (by rw [← Lib.size_eq];omega)] at h
    have hz:Pn.runesN n [] = []:=by cases n <;> rfl
    rw [hz] at h
    have:=congrArg List.length h
    simp at this
    omega
   subst hkk
   have x1':Row wr (w.heap.size + 1) #[.int .i32 d0,.int .i32 d1,.int .i32 d2,.int .i32 d3,.int .i32 d4,.int .i32 d5,.int .i32 d6,.int .i32 d7,.int .i32 d8,.int .i32 d9]:=x1
   have q0:=x0.2.1
   have p0:=x0.2.2
   have q1:=x1'.2.1
   have p1:=x1'.2.2
   clear HD x0 x1 x1'
   go_wp2
   exact bodyPost_ret (v:=.tuple #[.agg #[.int .i32 d0,.int .i32 d1,.int .i32 d2,.int .i32 d3,.int .i32 d4,.int .i32 d5,.int .i32 d6,.int .i32 d7,.int .i32 d8,.int .i32 d9],.bool true]) (by simp [results,Tryz.results73,go_sem,q0]) rfl ⟨rfl,((((((((((hbw.setCell (p:=⟨w.heap.size,0,none⟩) (Nat.le_refl _) _).setCell (p:=⟨w.heap.size,1,none⟩) (Nat.le_refl _) _).setCell (p:=⟨w.heap.size,2,none⟩) (Nat.le_refl _) _).setCell (p:=⟨w.heap.size,3,none⟩) (Nat.le_refl _) _).setCell (p:=⟨w.heap.size,4,none⟩) (Nat.le_refl _) _).setCell (p:=⟨w.heap.size,5,none⟩) (Nat.le_refl _) _).setCell (p:=⟨w.heap.size,6,none⟩) (Nat.le_refl _) _).setCell (p:=⟨w.heap.size,7,none⟩) (Nat.le_refl _) _).setCell (p:=⟨w.heap.size,8,none⟩) (Nat.le_refl _) _).setCell (p:=⟨w.heap.size,9,none⟩) (Nat.le_refl _) _)⟩
end Go.Proofs.YtaepcfidpekflaaGreatDoor
