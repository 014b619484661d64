/-
  Several texts in one (Rd, Rm, Re, Rj). By the verifier.
-/
import Derived.Test.YtaepcfidpekflaaGreatDoorZ33
import Derived.BigCall
import Derived.Maps.AppendAt
import Derived.Test.YtaepcfidpekflaaGreatDoorZ03
import Derived.Laws.OwnMore
namespace Go.Proofs.YtaepcfidpekflaaGreatDoor
open Go.RowKit
theorem info_str:(Tryz.prog.info? 9).map (fun i=>(i.zero,i.size,i.bytes)) = some (some (.string ByteArray.empty),1,16):=by kernel_rfl
def strs (ps:List (List UInt8)):List Value:=ps.map fun p=>Value.string ⟨p.toArray⟩
theorem strs_cat (ps:List (List UInt8)) (p:List UInt8):strs (ps ++ [p]) = strs ps ++ [Value.string ⟨p.toArray⟩]:=by simp [strs]
theorem ext_drop (s:ByteArray) (k:Nat):(s.extract k s.size).data.toList = s.data.toList.drop k:=by rw [Lib.extract_from]
theorem ext_take (s:ByteArray) (pos z:Nat):s.extract pos (pos + z) = ⟨((s.data.toList.drop pos).take z).toArray⟩:=by
 rw [Lib.extract_eq,show pos + z - pos = z by omega]
set_option maxHeartbeats 2000000 in
theorem points_any (s:ByteArray) (w:World) (hs:s.size ≤ 100000):
  Calls Tryz.prog 48 #[.string s] w fun e w'=>∃ ao cv,e = .returned (.tuple #[.slice ao (Pn.pts s.data.toList).length cv,.int .i64 (Pn.ptsLen s.data.toList:Nat)]) ∧ w'.ownsRow w.heap.size 9 1 (.slice ao (Pn.pts s.data.toList).length cv) (Pn.pts s.data.toList).length (strs (Pn.pts s.data.toList)) ∧ Below w.heap.size w w':=by
 obtain ⟨i0,hi,hz0,hz1,hz2⟩:=info_parts info_str
 go_enter Tryz.func48,Tryz.ntmps48
 go_wp2
 go_loopw [4,5] (fun v i wr=>∃ (pos fuel:Nat) (ps:List (List UInt8)) (ao:Option Addr) (cv:Nat),pos ≤ s.size ∧ i = .int .i64 pos ∧ v = .slice ao ps.length cv ∧ wr.ownsRow w.heap.size 9 1 v ps.length (strs ps) ∧ Below w.heap.size w wr ∧ Hid (ps ++ Pn.ptsN fuel (s.data.toList.drop pos) = Pn.pts s.data.toList) ∧ Hid (pos + Pn.lenN fuel (s.data.toList.drop pos) = Pn.ptsLen s.data.toList) ∧ s.size ≤ pos + fuel ∧ ps.length ≤ pos)
  (fun _ i _=>s.size - (intOf i).toNat)
 case atStart=>exact ⟨0,s.size,[],none,0,Nat.zero_le _,rfl,rfl,World.ownsRow_nil _ _ _ _,Below.refl _ _,by show _ = _;rw [Lib.size_eq];rfl,by show _ = _;rw [Lib.size_eq];simp [Pn.ptsLen],by omega,by simp⟩
 case round=>
  obtain ⟨pos,fuel,ps,ao,cv,hpos,rfl,rfl,hown,hnx,HP,HL,hfu,hpl⟩:=hrel
  have hsize:=hnx.size
  by_cases hlt:pos < s.size
  ·have hne:s.data.toList.drop pos ≠ []:=by
    intro e
    have:=congrArg List.length e
    rw [List.length_drop,← Lib.size_eq] at this
    simp at this
    omega
   have hzl:=Pn.szL_le (s.data.toList.drop pos) hne
   rw [List.length_drop,← Lib.size_eq] at hzl
   obtain ⟨f,rfl⟩:∃ f,fuel = f + 1:=⟨fuel - 1,by omega⟩
   have HN:Hid (s.data.toList.drop pos ≠ []):=hne
   clear hne
   go_wp2_with fail
   refine (size_any _ _ (by simp;omega) (by simp;omega)).mono ?_
   rintro e w' ⟨rfl,rfl⟩
   rw [ext_drop]
   by_cases hz:Pn.szL (s.data.toList.drop pos) = 0
   ·have HP2:Hid (ps = Pn.pts s.data.toList):=by
     show _ = _
     rw [← HP.out,Pn.ptsN,if_neg HN.out,if_pos hz,List.append_nil]
    have HL2:Hid (pos = Pn.ptsLen s.data.toList):=by
     show _ = _
     rw [← HL.out,Pn.lenN,if_neg HN.out,if_pos hz];rfl
    rw [hz]
    clear hz HP HL hzl
    go_wp2
    go_ret2
    refine ⟨ao,cv,?_,?_,hnx⟩
    ·rw [← HP2.out,← HL2.out];rfl
    ·rw [← HP2.out];exact hown
   ·have hz1':1 ≤ Pn.szL (s.data.toList.drop pos):=by omega
    have HP2:Hid ((ps ++ [(s.data.toList.drop pos).take (Pn.szL (s.data.toList.drop pos))]) ++ Pn.ptsN f (s.data.toList.drop (pos + Pn.szL (s.data.toList.drop pos))) = Pn.pts s.data.toList):=by
     show _ = _
     rw [← HP.out,Pn.ptsN,if_neg HN.out,if_neg hz,List.drop_drop]
     simp
    have HL2:Hid ((pos + Pn.szL (s.data.toList.drop pos)) + Pn.lenN f (s.data.toList.drop (pos + Pn.szL (s.data.toList.drop pos))) = Pn.ptsLen s.data.toList):=by
     show _ = _
     rw [← HL.out,Pn.lenN,if_neg HN.out,if_neg hz,List.drop_drop]
     omega
    have HX:Hid (s.extract pos (pos + Pn.szL (s.data.toList.drop pos)) = ⟨((s.data.toList.drop pos).take (Pn.szL (s.data.toList.drop pos))).toArray⟩):=by
     exact ext_take s pos _
    clear hz HP HL HN
    generalize Pn.szL (s.data.toList.drop pos) = z at hzl hz1' HP2 HL2 HX ⊢
    have hzb:((z:Int) == 0) = false:=by simp;omega
    go_wp2_with (first | (at_builtin;refine wpList_append_own _ rfl _ _ 35 rfl w.heap.size 9 i0 (.string ByteArray.empty) 1 16 Tryz.underlying35 hi hz0 hz1 hz2 rfl (by decide) _ _ _ rfl (hown.alloc _) ⟨w'.heap.size,0,none⟩ 1 1 [.string (s.extract pos (pos + z))] rfl rfl (cell_one_new _ _ _) (fun x hx=>by simp at hx;subst hx;rfl) (by unfold maxLen;omega) (by omega) (by simp;omega) ?_;intro v' w3 hown' hgrow3 hnil3))
    go_wp2
    go_roundw
    case rel=>
     obtain ⟨g3,cap3,hv3⟩:∃ g3 cap3,v' = .slice (some ⟨g3,0,none⟩) (ps.length + 1) cap3:=by
      rcases hown'.2 with ⟨_,h⟩ | ⟨g3,cap3,_,h,_⟩
      ·omega
      ·exact ⟨g3,cap3,h⟩
     have R:pos + z ≤ s.size ∧ Value.int .i64 ((pos:Int) + z) = .int .i64 ((pos + z:Nat):Int) ∧ v' = .slice (some ⟨g3,0,none⟩) (ps ++ [(s.data.toList.drop pos).take z]).length cap3 ∧ w3.ownsRow w.heap.size 9 1 v' (ps ++ [(s.data.toList.drop pos).take z]).length (strs (ps ++ [(s.data.toList.drop pos).take z])) ∧ Below w.heap.size w w3 ∧ Hid ((ps ++ [(s.data.toList.drop pos).take z]) ++ Pn.ptsN f (s.data.toList.drop (pos + z)) = Pn.pts s.data.toList) ∧ Hid ((pos + z) + Pn.lenN f (s.data.toList.drop (pos + z)) = Pn.ptsLen s.data.toList) ∧ s.size ≤ (pos + z) + f ∧ (ps ++ [(s.data.toList.drop pos).take z]).length ≤ pos + z:=
      ⟨by omega,by go_num,by rw [hv3];simp,by rw [strs_cat,List.length_append,← HX.out];exact hown',(hnx.alloc hsize _).grown hgrow3 (by simp;omega) (fun q hq=>(hown.lt q hq).1),HP2,HL2,by omega,by simp;omega⟩
     first
      | exact ⟨pos + z,f,_,some ⟨g3,0,none⟩,cap3,R⟩
      | ((repeat apply Exists.intro);exact ⟨⟨pos + z,f,_,some ⟨g3,0,none⟩,cap3,R⟩,rfl⟩)
    case measure=>simp [intOf];omega
  ·have hd:s.data.toList.drop pos = []:=List.drop_eq_nil_of_le (by rw [← Lib.size_eq];omega)
   have HP2:Hid (ps = Pn.pts s.data.toList):=by
    show _ = _
    rw [← HP.out,hd]
    cases fuel <;> simp [Pn.ptsN]
   have HL2:Hid (pos = Pn.ptsLen s.data.toList):=by
    show _ = _
    rw [← HL.out,hd]
    cases fuel <;> simp [Pn.lenN]
   clear hd HP HL
   go_wp2
   go_ret2
   refine ⟨ao,cv,?_,?_,hnx⟩
   ·rw [← HP2.out,← HL2.out];rfl
   ·rw [← HP2.out];exact hown
end Go.Proofs.YtaepcfidpekflaaGreatDoor
namespace Go.Proofs.YtaepcfidpekflaaGreatDoor.Pn
end Go.Proofs.YtaepcfidpekflaaGreatDoor.Pn
namespace Go.Proofs.YtaepcfidpekflaaGreatDoor
open Go.RowKit
end Go.Proofs.YtaepcfidpekflaaGreatDoor
namespace Go.Proofs.YtaepcfidpekflaaGreatDoor.Pn
def digitsOkB (l:List UInt8):Bool:=ptsLen l == l.length && (l.isEmpty || (pts l).length == 10)
theorem dok_no1 (l:List UInt8) (h:¬ ptsLen l = l.length):digitsOkB l = false:=by
 rw [digitsOkB,beq_eq_false_iff_ne.2 h,Bool.false_and]
theorem dok_no2 (l:List UInt8) (h7:¬ l = []) (h8:¬ (pts l).length = 10):digitsOkB l = false:=by
 have:l.isEmpty = false:=by simpa using h7
 rw [digitsOkB,this,Bool.false_or,beq_eq_false_iff_ne.2 h8,Bool.and_false]
theorem dok_yes (l:List UInt8) (h6:ptsLen l = l.length) (h8:(pts l).length = 10):digitsOkB l = true:=by
 rw [digitsOkB,beq_iff_eq.2 h6,beq_iff_eq.2 h8,Bool.or_true];rfl
theorem dok_nil (l:List UInt8) (h7:l = []):digitsOkB l = true:=by subst h7;rfl
def knownB (mi po g:Int) (f n:Nat) (l:List UInt8):Bool:=signsB mi po g && digitsOkB l && decide (f ≤ 9) && decide (n ≤ 9)
theorem known_no (mi po g:Int) (f n:Nat) (l:List UInt8) (h:digitsOkB l = false):knownB mi po g f n l = false:=by
 rw [knownB,h,Bool.and_false,Bool.false_and,Bool.false_and]
theorem known_yes (mi po g:Int) (f n:Nat) (l:List UInt8) (hs:signsB mi po g = true) (h:digitsOkB l = true):knownB mi po g f n l = (decide (f ≤ 9) && decide (n ≤ 9)):=by
 rw [knownB,hs,h,Bool.and_true,Bool.true_and]
end Go.Proofs.YtaepcfidpekflaaGreatDoor.Pn
