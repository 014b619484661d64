/-
  Several texts in one (Kc, Kd, Ke, Kf, Kg, Kh, Ki, Kj). By the verifier.
-/
import Derived.Test.YtaepcfidpekflaaGreatDoorZ19
import Derived.Test.YtaepcfidpekflaaGreatDoorZ20
import Derived.Laws.OwnMore
import Derived.Maps.AppendAt
namespace Go.Proofs.YtaepcfidpekflaaGreatDoor
open Go.RowKit
variable {ms:List (Nat × Array Value)}
theorem below_to {w w1 w2:World} {B b:Nat} (hb:b < w.heap.size) (h1:Below w.heap.size w w1) (h2:Below B w1 w2) (hB:B ≤ b:=by omega):Below B w w2:=(h1.mono (by omega)).trans h2
set_option maxHeartbeats 800000 in
theorem kbyNumber_any (w:World) (B b:Nat) (s:Pr.T) (x:Dk.Sc) (hx:ScanAt ms w B b s x) (ho:x.opens.length ≤ 1000000):
  Calls Tryz.prog 135 #[.pointer (some ⟨b,0,none⟩)] w fun en w'=>en = .returned (.bool x.byNumber) ∧ Below w.heap.size w w':=by
 obtain ⟨ov,pv,h1,_,_,h4,_⟩:=id hx
 have q0:=h1.2.1
 rcases List.eq_nil_or_concat x.opens with h0 | ⟨l,c,h0⟩
 ·have hF:Hid (x.byNumber = false):=by show _ = _;rw [Dk.Sc.byNumber,h0];rfl
  rw [h0] at h4
  obtain ⟨a,cc,rfl⟩:∃ a cc,pv = .slice a 0 cc:=by
   rcases h4.2 with ⟨rfl,_⟩ | ⟨g,cap,cur,rfl,_⟩
   ·exact ⟨_,_,rfl⟩
   ·exact ⟨_,_,rfl⟩
  clear h4 h1 hx
  go_enter Tryz.func135,Tryz.ntmps135
  go_wp2
  go_quiet (fail)
  go_wp2
  go_ret
  exact ⟨by rw [hF.out];rfl,drewB _ _⟩
 ·simp only [List.concat_eq_append] at h0
  have hF:Hid (x.byNumber = c):=by show _ = _;rw [Dk.Sc.byNumber,h0];simp
  rw [h0] at h4 ho
  simp only [List.length_append,List.length_singleton] at h4 ho
  rcases h4.2 with ⟨_,hz⟩ | ⟨g,cap,cur,rfl,_⟩
  ·omega
  have ck:=h4.cellAt l.length (by omega)
  have ck2:w.cell? ⟨g,l.length,none⟩ = some (.bool c):=by rw [ck];simp
  have hw2:IntKind.i64.wrap ((l.length:Int) + 1 - 1) = l.length:=by rw [IntKind.wrap_i64];omega
  have hw3:IntKind.i64.wrap (l.length:Int) = l.length:=by rw [IntKind.wrap_i64];omega
  have hlt3:(l.length:Int) < l.length + 1:=by omega
  clear h4 h1 hx ck
  go_enter Tryz.func135,Tryz.ntmps135
  go_wp2
  go_quiet (fail)
  go_wp2
  go_ret
  exact ⟨by rw [hF.out];rfl,drewB _ _⟩
set_option maxHeartbeats 800000 in
theorem kneeds_any (w:World) (B b:Nat) (s:Pr.T) (x:Dk.Sc) (c:UInt8) (hx:ScanAt ms w B b s x) (hs:s.length ≤ 1000000) (hi:x.i ≤ s.length):
  Calls Tryz.prog 173 #[.pointer (some ⟨b,0,none⟩),.int .u8 c.toNat] w fun en w'=>en = .returned (.tuple #[]) ∧ ScanAt ms w' B b s (x.needs s c) ∧ Below B w w':=by
 have hB:=hx.base
 obtain ⟨ov,pv,h1,_⟩:=id hx
 have q0:=h1.2.1
 have q1:=h1.2.2
 have kf:=fun W (h:Below w.heap.size w W)=>kfault_any W B b s x 3 x.i (hx.keep h)
 cases hd:s.drop x.i with
 | nil=>
  have hle:s.length ≤ x.i:=List.drop_eq_nil_iff.1 hd
  have hle':((s.length:Nat):Int) ≤ x.i:=by omega
  have hF:Hid (x.needs s c = x.fault 3 x.i):=by show _ = _;rw [Dk.Sc.needs,if_neg];rw [List.getElem?_eq_none hle];simp
  clear hx h1 hd hle
  go_enter Tryz.func173,Tryz.ntmps173
  go_wp2
  go_quiet (fail)
  go_wp2_with (go_at_call 100;refine (kf _ (drewB _ _)).mono ?_;rintro e w2 ⟨rfl,hs2,hb2⟩)
  refine bodyPost_ret (results_none rfl _ _ _) rfl ?_
  exact ⟨rfl,by rw [hF.out];exact hs2,below_to hB.2 (drewB _ _) hb2⟩
 | cons d r=>
  obtain ⟨hlt,_,hgd⟩:=at_drop hd
  have hlt':¬ ((s.length:Nat):Int) ≤ x.i:=by omega
  have hg:s[x.i]? = some d:=by
   have:=congrArg List.head? hd
   rw [List.head?_drop] at this
   simpa using this
  by_cases hc:d = c
  ·have hc':((d.toNat:Int) != c.toNat) = false:=by rw [hc];simp
   have hw1:IntKind.i64.wrap ((x.i:Int) + 1) = ((x.i + 1:Nat):Int):=by rw [IntKind.wrap_i64];omega
   have HF:Hid (∀ W,Below w.heap.size w W → ScanAt ms (W.setCell ⟨b,1,none⟩ (.int .i64 ((x.i + 1:Nat):Int))) B b s (x.needs s c) ∧ Below B w (W.setCell ⟨b,1,none⟩ (.int .i64 ((x.i + 1:Nat):Int)))):=by
    intro W h
    refine ⟨?_,(below_to hB.2 h (Below.refl _ _)).setCell (p:=⟨b,1,none⟩) hB.1 _⟩
    rw [Dk.Sc.needs,if_pos (by rw [hg,hc])]
    exact (hx.keep h).setI (x.i + 1)
   clear hx h1 hd hg hc kf
   go_enter Tryz.func173,Tryz.ntmps173
   go_wp2
   go_quiet (fail)
   go_wp2
   go_end0
   exact ⟨rfl,HF.out _ (drewB _ _)⟩
  ·have hc':((d.toNat:Int) != c.toNat) = true:=by
    rw [bne_iff_ne]
    intro e
    exact hc (UInt8.toNat_inj.1 (by omega))
   have hF:Hid (x.needs s c = x.fault 3 x.i):=by show _ = _;rw [Dk.Sc.needs,if_neg];rw [hg];simpa using hc
   clear hx h1 hd hg hc
   go_enter Tryz.func173,Tryz.ntmps173
   go_wp2
   go_quiet (fail)
   go_wp2_with (go_at_call 100;refine (kf _ (drewB _ _)).mono ?_;rintro e w2 ⟨rfl,hs2,hb2⟩)
   refine bodyPost_ret (results_none rfl _ _ _) rfl ?_
   exact ⟨rfl,by rw [hF.out];exact hs2,below_to hB.2 (drewB _ _) hb2⟩
end Go.Proofs.YtaepcfidpekflaaGreatDoor
namespace Go.Proofs.YtaepcfidpekflaaGreatDoor
open Go.RowKit
variable {ms:List (Nat × Array Value)}
theorem blanks_go (s:Pr.T) (x:Dk.Sc) (k:Nat) (c:UInt8) (r:Pr.T) (hd:s.drop k = c :: r) (hc:Dk.isBlk c = true):({ x with i:=k }:Dk.Sc).blanks s = ({ x with i:=k + 1 }:Dk.Sc).blanks s:=by
 have hr:s.drop (k + 1) = r:=(at_drop hd).2.1
 simp only [Dk.Sc.blanks,Dk.Sc.go,hd,hr,List.takeWhile_cons_of_pos hc,List.length_cons]
 congr 1
 omega
theorem blanks_stop (s:Pr.T) (x:Dk.Sc) (k:Nat) (c:UInt8) (r:Pr.T) (hd:s.drop k = c :: r) (hc:Dk.isBlk c = false):({ x with i:=k }:Dk.Sc).blanks s = { x with i:=k }:=by
 simp only [Dk.Sc.blanks,Dk.Sc.go,hd]
 rw [List.takeWhile_cons_of_neg (by simp [hc])]
 rfl
theorem blanks_end (s:Pr.T) (x:Dk.Sc) (k:Nat) (hd:s.drop k = []):({ x with i:=k }:Dk.Sc).blanks s = { x with i:=k }:=by
 simp only [Dk.Sc.blanks,Dk.Sc.go,hd]
 rfl
theorem ScanAt.step {w W:World} {B b:Nat} {s:Pr.T} {x:Dk.Sc} {k:Nat} (h:ScanAt ms w B b s { x with i:=k }) (hb:Below w.heap.size w W):ScanAt ms (W.setCell ⟨b,1,none⟩ (.int .i64 ((k + 1:Nat):Int))) B b s { x with i:=k + 1 }:=(h.keep hb).setI (k + 1)
set_option maxHeartbeats 3200000 in
set_option maxRecDepth 100000 in
theorem kblanks_any (w:World) (B b:Nat) (s:Pr.T) (x:Dk.Sc) (hx:ScanAt ms w B b s x) (hs:s.length ≤ 1000000) (hi:x.i ≤ s.length):
  Calls Tryz.prog 171 #[.pointer (some ⟨b,0,none⟩)] w fun en w'=>en = .returned (.tuple #[]) ∧ ScanAt ms w' B b s (x.blanks s) ∧ Below B w w':=by
 have hB:=hx.base
 obtain ⟨Y,hY⟩:∃ Y,Hid (x.blanks s = Y):=⟨_,rfl⟩
 rw [hY.out]
 have HX:Hid (ScanAt ms w B b s { x with i:=x.i }):=hx
 clear hx
 go_enter Tryz.func171,Tryz.ntmps171
 go_wp2_with fail
 go_loopg [] (s.length - x.i) (fun n wr=>∃ k:Nat,n + k = s.length ∧ Hid (ScanAt ms wr B b s { x with i:=k }) ∧ Below B w wr ∧ Hid (({ x with i:=k }:Dk.Sc).blanks s = Y))
 case atStart=>exact ⟨x.i,by omega,HX,Below.refl _ _,hY⟩
 case round=>
  obtain ⟨k,hnk,HR,hbw,HG⟩:=hrel
  clear HX hY
  obtain ⟨ov,pv,h1,_⟩:=HR.out
  have q0:=h1.2.1
  have q1:=h1.2.2
  have hbr:=h1.1
  clear h1
  simp only at q0
  cases hd:s.drop k with
  | nil=>
   have hkn:¬ k < s.length:=by
    have:s.length ≤ k:=List.drop_eq_nil_iff.1 hd
    omega
   have hk':¬ (k:Int) < s.length:=by omega
   have HF:Hid (∀ W,Below wr.heap.size wr W → ScanAt ms W B b s Y ∧ Below B w W):=by
    intro W h
    refine ⟨?_,hbw.trans (below_to hbr h (Below.refl _ _))⟩
    rw [← HG.out,blanks_end s x k hd]
    exact HR.out.keep h
   clear HG HR hd
   go_wp2
   go_quiet (fail)
   go_wp2
   go_end0
   exact ⟨rfl,HF.out _ (drewB _ _)⟩
  | cons c r=>
   obtain ⟨hkl,_,hgc⟩:=at_drop hd
   have hkl':(k:Int) < s.length:=by omega
   have hw1:IntKind.i64.wrap ((k:Int) + 1) = ((k + 1:Nat):Int):=by rw [IntKind.wrap_i64];omega
   cases hc:Dk.isBlk c with
   | true=>
    have HF:Hid (∀ W,Below wr.heap.size wr W → ScanAt ms (W.setCell ⟨b,1,none⟩ (.int .i64 ((k + 1:Nat):Int))) B b s { x with i:=k + 1 } ∧ Below B w (W.setCell ⟨b,1,none⟩ (.int .i64 ((k + 1:Nat):Int)))):=by
     intro W h
     exact ⟨HR.out.step h,(hbw.trans (below_to hbr h (Below.refl _ _))).setCell (p:=⟨b,1,none⟩) hB.1 _⟩
    have HG2:Hid (({ x with i:=k + 1 }:Dk.Sc).blanks s = Y):=by show _ = _;rw [← HG.out,blanks_go s x k c r hd hc]
    clear HG HR hd
    unfold Dk.isBlk at hc
    by_cases e32:c = 32
    ·have b32:((c.toNat:Int) == 32) = true:=by rw [e32];rfl
     clear e32 hc
     go_wp2
     go_quiet (fail)
     go_wp2
     go_roundg (gk - 1)
     case measure=>omega
     case rel=>exact ⟨k + 1,by omega,(HF.out _ (drewB _ _)).1,(HF.out _ (drewB _ _)).2,HG2⟩
    have b32:((c.toNat:Int) == 32) = false:=byte_ne (n:=32) (by decide) e32
    by_cases e9:c = 9
    ·have b9:((c.toNat:Int) == 9) = true:=by rw [e9];rfl
     clear e9 hc
     go_wp2
     go_quiet (fail)
     go_wp2
     go_roundg (gk - 1)
     case measure=>omega
     case rel=>exact ⟨k + 1,by omega,(HF.out _ (drewB _ _)).1,(HF.out _ (drewB _ _)).2,HG2⟩
    have b9:((c.toNat:Int) == 9) = false:=byte_ne (n:=9) (by decide) e9
    by_cases e10:c = 10
    ·have b10:((c.toNat:Int) == 10) = true:=by rw [e10];rfl
     clear e10 hc
     go_wp2
     go_quiet (fail)
     go_wp2
     go_roundg (gk - 1)
     case measure=>omega
     case rel=>exact ⟨k + 1,by omega,(HF.out _ (drewB _ _)).1,(HF.out _ (drewB _ _)).2,HG2⟩
    have b10:((c.toNat:Int) == 10) = false:=byte_ne (n:=10) (by decide) e10
    by_cases e13:c = 13
    ·have b13:((c.toNat:Int) == 13) = true:=by rw [e13];rfl
     clear e13 hc
     go_wp2
     go_quiet (fail)
     go_wp2
     go_roundg (gk - 1)
     case measure=>omega
     case rel=>exact ⟨k + 1,by omega,(HF.out _ (drewB _ _)).1,(HF.out _ (drewB _ _)).2,HG2⟩
    have b13:((c.toNat:Int) == 13) = false:=byte_ne (n:=13) (by decide) e13
    simp [e32,e9,e10,e13] at hc
   | false=>
    have HF:Hid (∀ W,Below wr.heap.size wr W → ScanAt ms W B b s Y ∧ Below B w W):=by
     intro W h
     refine ⟨?_,hbw.trans (below_to hbr h (Below.refl _ _))⟩
     rw [← HG.out,blanks_stop s x k c r hd hc]
     exact HR.out.keep h
    have hcs:¬ c = 32 ∧ ¬ c = 9 ∧ ¬ c = 10 ∧ ¬ c = 13:=by simpa [Dk.isBlk,and_assoc] using hc
    have b32:((c.toNat:Int) == 32) = false:=byte_ne (n:=32) (by decide) hcs.1
    have b9:((c.toNat:Int) == 9) = false:=byte_ne (n:=9) (by decide) hcs.2.1
    have b10:((c.toNat:Int) == 10) = false:=byte_ne (n:=10) (by decide) hcs.2.2.1
    have b13:((c.toNat:Int) == 13) = false:=byte_ne (n:=13) (by decide) hcs.2.2.2
    clear HG HR hd hc hcs
    go_wp2
    go_quiet (fail)
    go_wp2
    go_end0
    exact ⟨rfl,HF.out _ (drewB _ _)⟩
end Go.Proofs.YtaepcfidpekflaaGreatDoor
namespace Go.Proofs.YtaepcfidpekflaaGreatDoor
open Go.RowKit
variable {ms:List (Nat × Array Value)}
theorem namedGo_step (n:Nat) (c:UInt8) (r:Pr.T) (hn:n < 16) (h:Dk.isAlpha c = true ∨ n ≠ 0 ∧ Pn.isDig c = true):Dk.namedGo n (c :: r) = Dk.namedGo (n + 1) r:=by
 rw [Dk.namedGo,if_pos ⟨hn,h⟩]
theorem namedGo_stop (n:Nat) (c:UInt8) (r:Pr.T) (h:¬ (n < 16 ∧ (Dk.isAlpha c = true ∨ n ≠ 0 ∧ Pn.isDig c = true))):Dk.namedGo n (c :: r) = n:=by
 rw [Dk.namedGo,if_neg h]
theorem namedGo_16 (l:Pr.T):Dk.namedGo 16 l = 16:=by
 cases l with
 | nil=>rfl
 | cons c r=>exact namedGo_stop 16 c r (by omega)
theorem namedGo_le:∀ (l:Pr.T) (n:Nat),n ≤ 16 → n ≤ Dk.namedGo n l ∧ Dk.namedGo n l ≤ n + l.length ∧ Dk.namedGo n l ≤ 16:=by
 intro l
 induction l with
 | nil=>intro n h;simp [Dk.namedGo];exact h
 | cons c r ih=>
  intro n h
  rw [Dk.namedGo]
  split
  ·rename_i hc
   have:=ih (n + 1) (by omega)
   simp only [List.length_cons]
   omega
  ·simp only [List.length_cons];omega
theorem named_le (l:Pr.T):Dk.named l ≤ l.length ∧ Dk.named l ≤ 16:=by
 have:=namedGo_le l 0 (by omega)
 unfold Dk.named
 omega
set_option maxHeartbeats 3200000 in
set_option maxRecDepth 100000 in
theorem knamed_any (w:World) (l:Pr.T):
  Calls Tryz.prog 208 #[.string ⟨l.toArray⟩] w fun en w'=>en = .returned (.int .i64 (Dk.named l)) ∧ w' = w:=by
 obtain ⟨S,hS⟩:∃ S,Hid (Dk.named l = S):=⟨_,rfl⟩
 rw [hS.out]
 have HS:Hid (Dk.namedGo 0 (l.drop 0) = S):=hS
 clear hS
 go_enter Tryz.func208,Tryz.ntmps208
 go_wp2_with fail
 go_loopg [3] l.length (fun g n wr=>∃ k:Nat,g + k = l.length ∧ n = .int .i64 k ∧ k ≤ 16 ∧ wr = w ∧ Hid (Dk.namedGo k (l.drop k) = S))
 case atStart=>exact ⟨0,by omega,rfl,by omega,rfl,HS⟩
 case round=>
  obtain ⟨k,hgk,rfl,hk16,rfl,HG⟩:=hrel
  clear HS
  cases hd:l.drop k with
  | nil=>
   have hkn:¬ k < l.length:=by
    have:l.length ≤ k:=List.drop_eq_nil_iff.1 hd
    omega
   have hk':¬ (k:Int) < l.length:=by omega
   have hF:Hid (S = k):=by show _ = _;rw [← HG.out,hd];rfl
   clear HG hd
   go_wp2
   go_ret
   exact ⟨by rw [hF.out];rfl,rfl⟩
  | cons c r=>
   obtain ⟨hkl,hr,hgc⟩:=at_drop hd
   have hkl':(k:Int) < l.length:=by omega
   by_cases h16:k < 16
   ·have h16':(k:Int) < 16:=by omega
    have h256:=UInt8.toNat_lt c
    have hw1:IntKind.i64.wrap ((k:Int) + 1) = ((k + 1:Nat):Int):=by rw [IntKind.wrap_i64];omega
    have HA:Hid (Dk.isAlpha c = true ∨ k ≠ 0 ∧ Pn.isDig c = true → Dk.namedGo (k + 1) (l.drop (k + 1)) = S):=fun h=>by rw [← HG.out,hd,namedGo_step k c r h16 h,hr]
    have HZ:Hid (¬ (Dk.isAlpha c = true ∨ k ≠ 0 ∧ Pn.isDig c = true) → S = k):=fun h=>by rw [← HG.out,hd,namedGo_stop k c r (fun x=>h x.2)]
    clear HG hd hr
    obtain ⟨A,hA⟩:∃ A,Hid (Dk.isAlpha c = A):=⟨_,rfl⟩
    go_upto_region 4 with fail
    go_cut [5] (fun z wd=>z = .bool A ∧ wd = wr)
    case first=>
     clear HA HZ
     by_cases a1:97 ≤ c.toNat
     ·have a1':(97:Int) ≤ c.toNat:=by omega
      by_cases a2:c.toNat ≤ 122
      ·have a2':(c.toNat:Int) ≤ 122:=by omega
       have hF:Hid (A = true):=by show _ = _;rw [← hA.out];simp [Dk.isAlpha,a1,a2]
       clear hA
       go_wp2
       go_meet
       case rel=>exact ⟨by rw [hF.out],rfl⟩
      ·have a2':¬ (c.toNat:Int) ≤ 122:=by omega
       have a3:(65:Int) ≤ c.toNat:=by omega
       have a4:¬ (c.toNat:Int) ≤ 90:=by omega
       have a5:((c.toNat:Int) == 95) = false:=by rw [beq_eq_false_iff_ne];omega
       have hF:Hid (A = false):=by
        show _ = _
        rw [← hA.out]
        have e:¬ c = 95:=fun e=>by rw [e] at a1;exact absurd a1 (by decide)
        simp [Dk.isAlpha,a2,e]
        omega
       clear hA
       go_wp2
       go_meet
       case rel=>exact ⟨by rw [hF.out],rfl⟩
     ·have a1':¬ (97:Int) ≤ c.toNat:=by omega
      by_cases a3:65 ≤ c.toNat
      ·have a3':(65:Int) ≤ c.toNat:=by omega
       by_cases a4:c.toNat ≤ 90
       ·have a4':(c.toNat:Int) ≤ 90:=by omega
        have hF:Hid (A = true):=by show _ = _;rw [← hA.out];simp [Dk.isAlpha,a3,a4]
        clear hA
        go_wp2
        go_meet
        case rel=>exact ⟨by rw [hF.out],rfl⟩
       ·have a4':¬ (c.toNat:Int) ≤ 90:=by omega
        have hF:Hid (A = ((c.toNat:Int) == 95)):=by
         show _ = _
         rw [← hA.out]
         have e:(c == 95) = ((c.toNat:Int) == 95):=by
          by_cases e:c = 95
          ·rw [e];rfl
          ·rw [show ((c.toNat:Int) == 95) = false from byte_ne (n:=95) (by decide) e];simpa using e
         simp only [Dk.isAlpha,e]
         simp [a1,a4]
        clear hA
        go_wp2
        go_meet
        case rel=>exact ⟨by rw [hF.out],rfl⟩
      ·have a3':¬ (65:Int) ≤ c.toNat:=by omega
       have a5:((c.toNat:Int) == 95) = false:=by rw [beq_eq_false_iff_ne];omega
       have hF:Hid (A = false):=by
        show _ = _
        rw [← hA.out]
        have e:¬ c = 95:=fun e=>by rw [e] at a3;exact absurd (by decide) a3
        simp [Dk.isAlpha,a1,a3,e]
       clear hA
       go_wp2
       go_meet
       case rel=>exact ⟨by rw [hF.out],rfl⟩
    case rest=>
     obtain ⟨rfl,rfl⟩:=hcut
     cases A with
     | true=>
      have HG2:Hid (Dk.namedGo (k + 1) (l.drop (k + 1)) = S):=HA.out (.inl hA.out)
      clear HA HZ hA
      go_wp2
      go_roundg (gk - 1)
      case measure=>omega
      case rel=>exact ⟨k + 1,by omega,by go_num,by omega,rfl,HG2⟩
     | false=>
      have hna:¬ Dk.isAlpha c = true:=by rw [hA.out];decide
      by_cases k0:k = 0
      ·have k0':((k:Int) == 0) = true:=by rw [k0];rfl
       have hF:Hid (S = k):=HZ.out (by rintro (h | h);(exact hna h);(exact h.1 k0))
       clear HA HZ hA hna k0
       go_wp2
       go_ret
       exact ⟨by rw [hF.out];rfl,rfl⟩
      ·have k0':((k:Int) == 0) = false:=by rw [beq_eq_false_iff_ne];omega
       by_cases d1:c.toNat < 48
       ·have d1':(c.toNat:Int) < 48:=by omega
        have hF:Hid (S = k):=HZ.out (by rintro (h | h);(exact hna h);(have:=(Pn.isDig_iff c).1 h.2;omega))
        clear HA HZ hA hna
        go_wp2
        go_ret
        exact ⟨by rw [hF.out];rfl,rfl⟩
       ·have d1':¬ (c.toNat:Int) < 48:=by omega
        by_cases d2:57 < c.toNat
        ·have d2':(57:Int) < c.toNat:=by omega
         have hF:Hid (S = k):=HZ.out (by rintro (h | h);(exact hna h);(have:=(Pn.isDig_iff c).1 h.2;omega))
         clear HA HZ hA hna
         go_wp2
         go_ret
         exact ⟨by rw [hF.out];rfl,rfl⟩
        ·have d2':¬ (57:Int) < c.toNat:=by omega
         have HG2:Hid (Dk.namedGo (k + 1) (l.drop (k + 1)) = S):=HA.out (.inr ⟨k0,(Pn.isDig_iff c).2 (by omega)⟩)
         clear HA HZ hA hna
         go_wp2
         go_roundg (gk - 1)
         case measure=>omega
         case rel=>exact ⟨k + 1,by omega,by go_num,by omega,rfl,HG2⟩
   ·have h16':¬ (k:Int) < 16:=by omega
    have hF:Hid (S = k):=by
     show _ = _
     rw [← HG.out,show k = 16 by omega,namedGo_16]
    clear HG hd
    go_wp2
    go_ret
    exact ⟨by rw [hF.out];rfl,rfl⟩
end Go.Proofs.YtaepcfidpekflaaGreatDoor
namespace Go.Proofs.YtaepcfidpekflaaGreatDoor
open Go.RowKit
variable {ms:List (Nat × Array Value)}
theorem ex_seg (s:Pr.T) (i n:Nat):(⟨s.toArray⟩:ByteArray).extract i (i + n) = ⟨((s.drop i).take n).toArray⟩:=by
 apply ByteArray.ext
 simp [ByteArray.data_extract,List.extract_toArray]
theorem setI_go {w W:World} {B b:Nat} {s:Pr.T} {x:Dk.Sc} (h:ScanAt ms w B b s x) (hb:Below w.heap.size w W) (n:Nat):ScanAt ms (W.setCell ⟨b,1,none⟩ (.int .i64 ((x.i + n:Nat):Int))) B b s (x.go n):=(h.keep hb).setI (x.i + n)
set_option maxHeartbeats 3200000 in
set_option maxRecDepth 100000 in
theorem kname_any (w:World) (B b:Nat) (s:Pr.T) (x:Dk.Sc) (hx:ScanAt ms w B b s x) (hs:s.length ≤ 1000000) (hi:x.i ≤ s.length):
  Calls Tryz.prog 172 #[.pointer (some ⟨b,0,none⟩)] w fun en w'=>en = .returned (.string ⟨(x.nameT s).toArray⟩) ∧ ScanAt ms w' B b s (x.name s) ∧ Below B w w':=by
 have hB:=hx.base
 have kn:=fun W=>knamed_any W (s.drop x.i)
 have hnl:=(named_le (s.drop x.i)).1
 have ex0:=ex_drop s x.i
 have ex1:=ex_seg s x.i (Dk.named (s.drop x.i))
 obtain ⟨N,hN⟩:∃ N,Hid (x.nameT s = N):=⟨_,rfl⟩
 obtain ⟨Y,hY⟩:∃ Y,Hid (x.name s = Y):=⟨_,rfl⟩
 rw [hN.out,hY.out]
 have HN:Hid (((s.drop x.i).take (Dk.named (s.drop x.i))) = N):=hN
 have HY:Hid ((if Dk.named (s.drop x.i) = 0 then x.fault 3 x.i else x).go (Dk.named (s.drop x.i)) = Y):=hY
 rw [HN.out] at ex1
 clear hN hY
 generalize Dk.named (s.drop x.i) = n at *
 simp only [List.length_drop] at hnl
 obtain ⟨ov,pv,h1,_⟩:=id hx
 have q0:=h1.2.1
 have q1:=h1.2.2
 clear h1
 have hle':(x.i:Int) ≤ s.length:=by omega
 have hw1:IntKind.i64.wrap ((x.i:Int) + n) = ((x.i + n:Nat):Int):=by rw [IntKind.wrap_i64];omega
 have hw2:IntKind.i64.wrap (((x.i + n:Nat):Int) - n) = x.i:=by rw [IntKind.wrap_i64];omega
 have hw3:IntKind.i64.wrap ((x.i:Int) + n - n) = x.i:=by rw [IntKind.wrap_i64];omega
 have hw4:IntKind.i64.wrap (x.i:Int) = x.i:=by rw [IntKind.wrap_i64];omega
 have hl1:x.i ≤ x.i + n:=by omega
 have hl2:x.i + n ≤ s.length:=by omega
 have hl3:(x.i:Int) + n ≤ s.length:=by omega
 have hl4:(x.i:Int) ≤ (x.i:Int) + n:=by omega
 by_cases hn:n = 0
 ·have hn':((n:Int) == 0) = true:=by rw [hn];rfl
  have kf:=fun W (h:Below w.heap.size w W)=>kfault_any W B b s x 3 x.i (hx.keep h)
  have hfi:(x.fault 3 x.i).i = x.i:=by unfold Dk.Sc.fault;split <;> rfl
  have HF:Hid (∀ w2 W,ScanAt ms w2 B b s (x.fault 3 x.i) → Below B w w2 → Below w2.heap.size w2 W → ScanAt ms (W.setCell ⟨b,1,none⟩ (.int .i64 ((x.i + n:Nat):Int))) B b s Y ∧ Below B w (W.setCell ⟨b,1,none⟩ (.int .i64 ((x.i + n:Nat):Int)))):=by
   intro w2 W h2 hb2 h
   refine ⟨?_,(hb2.trans (below_to h2.base.2 h (Below.refl _ _))).setCell (p:=⟨b,1,none⟩) hB.1 _⟩
   rw [← HY.out,if_pos hn]
   have:=setI_go h2 h n
   rw [hfi] at this
   exact this
  clear hx HY HN hn
  go_enter Tryz.func172,Tryz.ntmps172
  go_wp2
  go_quiet (first | (go_at_call 208;exact Calls.quiet_of_same (kn _)))
  go_wp2_with fail
  refine (kf _ (drewB _ _)).mono ?_
  rintro e w2 ⟨rfl,hs2,hb2⟩
  clear kf kn q0 q1
  obtain ⟨ov2,pv2,k1,_⟩:=id hs2
  have q2:=k1.2.1
  have q3:=k1.2.2
  rw [hfi] at q2
  have hb3:=below_to hB.2 (drewB _ _) hb2
  clear k1 hfi
  go_wp2
  go_quiet (fail)
  go_wp2
  go_ret
  obtain ⟨z1,z2⟩:=HF.out _ _ hs2 hb3 (Below.refl _ _)
  exact ⟨by rw [← ex1];rfl,z1.keep (drewB _ _),z2.trans (below_to z1.base.2 (drewB _ _) (Below.refl _ _))⟩
 ·have hn':((n:Int) == 0) = false:=by rw [beq_eq_false_iff_ne];omega
  have HF:Hid (∀ W,Below w.heap.size w W → ScanAt ms (W.setCell ⟨b,1,none⟩ (.int .i64 ((x.i + n:Nat):Int))) B b s Y ∧ Below B w (W.setCell ⟨b,1,none⟩ (.int .i64 ((x.i + n:Nat):Int)))):=by
   intro W h
   refine ⟨?_,(below_to hB.2 h (Below.refl _ _)).setCell (p:=⟨b,1,none⟩) hB.1 _⟩
   rw [← HY.out,if_neg hn]
   exact setI_go hx h n
  clear hx HY HN
  go_enter Tryz.func172,Tryz.ntmps172
  go_wp2
  go_quiet (first | (go_at_call 208;exact Calls.quiet_of_same (kn _)))
  go_wp2
  go_quiet (fail)
  go_wp2
  go_ret
  obtain ⟨z1,z2⟩:=HF.out _ (drewB _ _)
  exact ⟨by rw [← ex1];rfl,z1.keep (drewB _ _),z2.trans (below_to z1.base.2 (drewB _ _) (Below.refl _ _))⟩
end Go.Proofs.YtaepcfidpekflaaGreatDoor
namespace Go.Proofs.YtaepcfidpekflaaGreatDoor
open Go.RowKit
variable {ms:List (Nat × Array Value)}
theorem wholeGo_step (z:Bool) (n:Nat) (c:UInt8) (r:Pr.T) (h:n < 9 ∧ Pn.isDig c = true ∧ ¬ (n = 1 ∧ z = true)):Dk.wholeGo z n (c :: r) = Dk.wholeGo z (n + 1) r:=by
 rw [Dk.wholeGo,if_pos h]
theorem wholeGo_stop (z:Bool) (n:Nat) (c:UInt8) (r:Pr.T) (h:¬ (n < 9 ∧ Pn.isDig c = true ∧ ¬ (n = 1 ∧ z = true))):Dk.wholeGo z n (c :: r) = n:=by
 rw [Dk.wholeGo,if_neg h]
theorem wholeGo_le (z:Bool):∀ (l:Pr.T) (n:Nat),n ≤ 9 → n ≤ Dk.wholeGo z n l ∧ Dk.wholeGo z n l ≤ n + l.length ∧ Dk.wholeGo z n l ≤ 9:=by
 intro l
 induction l with
 | nil=>intro n h;simp [Dk.wholeGo];exact h
 | cons c r ih=>
  intro n h
  rw [Dk.wholeGo]
  split
  ·rename_i hc
   have:=ih (n + 1) (by omega)
   simp only [List.length_cons]
   omega
  ·simp only [List.length_cons];omega
theorem whole_le (l:Pr.T):Dk.wholeN l ≤ l.length ∧ Dk.wholeN l ≤ 9:=by
 have:=wholeGo_le (l.head? == some 48) l 0 (by omega)
 unfold Dk.wholeN
 omega
set_option maxHeartbeats 3200000 in
set_option maxRecDepth 100000 in
theorem kwhole_any (w:World) (B b:Nat) (s:Pr.T) (x:Dk.Sc) (hx:ScanAt ms w B b s x) (hs:s.length ≤ 1000000) (hi:x.i ≤ s.length):
  Calls Tryz.prog 174 #[.pointer (some ⟨b,0,none⟩)] w fun en w'=>en = .returned (.string ⟨(x.wholeT s).toArray⟩) ∧ ScanAt ms w' B b s (x.whole s) ∧ Below B w w':=by
 have hB:=hx.base
 have hnl:=(whole_le (s.drop x.i)).1
 have ex1:=ex_seg s x.i (Dk.wholeN (s.drop x.i))
 obtain ⟨N,hN⟩:∃ N,Hid (x.wholeT s = N):=⟨_,rfl⟩
 obtain ⟨Y,hY⟩:∃ Y,Hid (x.whole s = Y):=⟨_,rfl⟩
 rw [hN.out,hY.out]
 have HN:Hid (((s.drop x.i).take (Dk.wholeN (s.drop x.i))) = N):=hN
 have HY:Hid ((if Dk.wholeN (s.drop x.i) = 0 then x.fault 3 x.i else x).go (Dk.wholeN (s.drop x.i)) = Y):=hY
 rw [HN.out] at ex1
 clear hN hY HN
 obtain ⟨n,hn0⟩:∃ n,Hid (Dk.wholeN (s.drop x.i) = n):=⟨_,rfl⟩
 rw [hn0.out] at ex1 HY hnl
 have HG0:Hid (Dk.wholeGo ((s.drop x.i).head? == some 48) 0 (s.drop (x.i + 0)) = n):=hn0
 clear hn0
 simp only [List.length_drop] at hnl
 have HX:Hid (ScanAt ms w B b s x):=hx
 clear hx
 have hle':(x.i:Int) ≤ s.length:=by omega
 have hw1:IntKind.i64.wrap ((x.i:Int) + n) = ((x.i + n:Nat):Int):=by rw [IntKind.wrap_i64];omega
 have hw2:IntKind.i64.wrap (((x.i + n:Nat):Int) - n) = x.i:=by rw [IntKind.wrap_i64];omega
 have hw3:IntKind.i64.wrap ((x.i:Int) + n - n) = x.i:=by rw [IntKind.wrap_i64];omega
 have hw4:IntKind.i64.wrap (x.i:Int) = x.i:=by rw [IntKind.wrap_i64];omega
 have hl1:x.i ≤ x.i + n:=by omega
 have hl2:x.i + n ≤ s.length:=by omega
 have hl3:(x.i:Int) + n ≤ s.length:=by omega
 have hl4:(x.i:Int) ≤ (x.i:Int) + n:=by omega
 go_enter Tryz.func174,Tryz.ntmps174
 go_upto_block 0 with fail
 go_cut [3] (fun v wd=>v = .int .i64 n ∧ Below w.heap.size w wd)
 case first=>
  clear HY ex1 hw1 hw2 hw3 hl1 hl2 hl3 hl4 hnl
  go_wp2_with fail
  go_loopg [3] (s.length - x.i) (fun g v wr=>∃ k:Nat,g + k = s.length - x.i ∧ v = .int .i64 k ∧ k ≤ 9 ∧ Below w.heap.size w wr ∧ Hid (Dk.wholeGo ((s.drop x.i).head? == some 48) k (s.drop (x.i + k)) = n))
  case atStart=>exact ⟨0,by omega,rfl,by omega,Below.refl _ _,HG0⟩
  case round=>
   obtain ⟨k,hgk,rfl,hk9,hbw,HG⟩:=hrel
   clear HG0
   obtain ⟨ov,pv,h1,_⟩:=HX.out.keep hbw
   have q0:=h1.2.1
   clear h1
   have hw5:IntKind.i64.wrap ((x.i:Int) + k) = ((x.i + k:Nat):Int):=by rw [IntKind.wrap_i64];omega
   cases hd:s.drop (x.i + k) with
   | nil=>
    have hge:s.length ≤ x.i + k:=List.drop_eq_nil_iff.1 hd
    have hk1:¬ x.i + k < s.length:=by omega
    have hk2:¬ (x.i:Int) + k < s.length:=by omega
    have hk3:decide ((x.i:Int) + k < s.length) = false:=decide_eq_false hk2
    have hk4:((x.i:Int) + k < s.length) = False:=eq_false hk2
    have hF:Hid (n = k):=by show _ = _;rw [← HG.out,hd];rfl
    clear HG hd
    go_wp2
    go_quiet (fail)
    go_wp2
    go_meet
    case rel=>exact ⟨by rw [hF.out],below_of hbw (drewB _ _)⟩
   | cons c r=>
    obtain ⟨hkl,hr,hgc⟩:=at_drop hd
    have hk1:x.i + k < s.length:=by omega
    have hk2:(x.i:Int) + k < s.length:=by omega
    by_cases h9:k < 9
    ·have h9':(k:Int) < 9:=by omega
     have hw6:IntKind.i64.wrap ((k:Int) + 1) = ((k + 1:Nat):Int):=by rw [IntKind.wrap_i64];omega
     have h256:=UInt8.toNat_lt c
     have HA:Hid (Pn.isDig c = true ∧ ¬ (k = 1 ∧ ((s.drop x.i).head? == some 48) = true) → Dk.wholeGo ((s.drop x.i).head? == some 48) (k + 1) (s.drop (x.i + (k + 1))) = n):=fun h=>by rw [← HG.out,hd,wholeGo_step _ k c r ⟨h9,h⟩,← hr];rfl
     have HZ:Hid (¬ (Pn.isDig c = true ∧ ¬ (k = 1 ∧ ((s.drop x.i).head? == some 48) = true)) → n = k):=fun h=>by rw [← HG.out,hd,wholeGo_stop _ k c r (fun x=>h x.2)]
     clear HG hd hr
     have hzf:∀ h:x.i < (⟨s.toArray⟩:ByteArray).size,(s.drop x.i).head? = some ((⟨s.toArray⟩:ByteArray)[x.i]'h):=fun h=>by
      rw [List.head?_drop]
      exact List.getElem?_eq_getElem (by exact h)
     have hxl:x.i < s.length:=by omega
     have ht:((x.i:Int) + k).toNat = x.i + k:=by omega
     have h0:(0:Int) ≤ (x.i:Int) + k:=by omega
     have hxl':(x.i:Int) < s.length:=by omega
     obtain ⟨f,hf⟩:∃ f:UInt8,∀ h,((⟨s.toArray⟩:ByteArray)[x.i]'h) = f:=⟨s[x.i],fun _=>rfl⟩
     have HH:Hid ((s.drop x.i).head? = some f):=by show _ = _;rw [hzf (by show x.i < s.toArray.size;simpa using hxl),hf]
     clear hzf
     by_cases d1:c.toNat < 48
     ·have d1':(c.toNat:Int) < 48:=by omega
      have hF:Hid (n = k):=HZ.out (fun h=>by have:=(Pn.isDig_iff c).1 h.1;omega)
      clear HA HZ
      go_wp2
      go_quiet (fail)
      go_wp2
      go_quiet (fail)
      go_wp2
      go_quiet (fail)
      go_wp2
      go_meet
      case rel=>exact ⟨by rw [hF.out],below_of hbw (below_of (drewB _ _) (below_of (drewB _ _) (drewB _ _)))⟩
     have d1':¬ (c.toNat:Int) < 48:=by omega
     have d1'':((c.toNat:Int) < 48) = False:=eq_false d1'
     by_cases d2:57 < c.toNat
     ·have d2':(57:Int) < c.toNat:=by omega
      have hF:Hid (n = k):=HZ.out (fun h=>by have:=(Pn.isDig_iff c).1 h.1;omega)
      clear HA HZ
      go_wp2
      go_quiet (fail)
      go_wp2
      go_quiet (fail)
      go_wp2
      go_quiet (fail)
      go_wp2
      go_meet
      case rel=>exact ⟨by rw [hF.out],below_of hbw (below_of (drewB _ _) (below_of (drewB _ _) (drewB _ _)))⟩
     have d2':¬ (57:Int) < c.toNat:=by omega
     have d2'':((57:Int) < c.toNat) = False:=eq_false d2'
     have hdg:Pn.isDig c = true:=(Pn.isDig_iff c).2 (by omega)
     by_cases k1:k = 1
     ·have k1':((k:Int) == 1) = true:=by rw [k1];rfl
      by_cases f48:f = 48
      ·have f48':((f.toNat:Int) == 48) = true:=by rw [f48];rfl
       have hF:Hid (n = k):=HZ.out (fun h=>h.2 ⟨k1,by rw [HH.out,f48];rfl⟩)
       clear HA HZ f48 k1 hdg
       go_wp2
       go_quiet (fail)
       go_wp2
       go_quiet (fail)
       go_wp2
       go_quiet (fail)
       go_wp2
       go_meet
       case rel=>exact ⟨by rw [hF.out],below_of hbw (below_of (drewB _ _) (below_of (drewB _ _) (drewB _ _)))⟩
      ·have f48':((f.toNat:Int) == 48) = false:=byte_ne (n:=48) (by decide) f48
       have HG2:Hid (Dk.wholeGo ((s.drop x.i).head? == some 48) (k + 1) (s.drop (x.i + (k + 1))) = n):=HA.out ⟨hdg,fun h=>by have:=h.2;rw [HH.out] at this;exact f48 (by simpa using this)⟩
       clear HA HZ f48 k1 hdg
       go_wp2
       go_quiet (fail)
       go_wp2
       go_quiet (fail)
       go_wp2
       go_quiet (fail)
       go_wp2
       go_roundg (gk - 1)
       case measure=>omega
       case rel=>exact ⟨k + 1,by omega,by go_num,by omega,below_of hbw (drewB _ _),HG2⟩
     ·have k1':((k:Int) == 1) = false:=by rw [beq_eq_false_iff_ne];omega
      have HG2:Hid (Dk.wholeGo ((s.drop x.i).head? == some 48) (k + 1) (s.drop (x.i + (k + 1))) = n):=HA.out ⟨hdg,fun h=>k1 h.1⟩
      clear HA HZ k1 hdg
      go_wp2
      go_quiet (fail)
      go_wp2
      go_quiet (fail)
      go_wp2
      go_quiet (fail)
      go_wp2
      go_roundg (gk - 1)
      case measure=>omega
      case rel=>exact ⟨k + 1,by omega,by go_num,by omega,below_of hbw (drewB _ _),HG2⟩
    ·have h9':¬ (k:Int) < 9:=by omega
     have hF:Hid (n = k):=by show _ = _;rw [← HG.out,hd,wholeGo_stop _ k c r (fun x=>h9 x.1)]
     clear HG hd
     go_wp2
     go_quiet (fail)
     go_wp2
     go_meet
     case rel=>exact ⟨by rw [hF.out],below_of hbw (drewB _ _)⟩
 case rest=>
  obtain ⟨rfl,hbc⟩:=hcut
  have hx:=HX.out.keep hbc
  clear HX HG0
  obtain ⟨ov,pv,h1,_⟩:=id hx
  have q0:=h1.2.1
  have q1:=h1.2.2
  clear h1
  by_cases hn:n = 0
  ·have hn':((n:Int) == 0) = true:=by rw [hn];rfl
   have kf:=kfault_any wc B b s x 3 x.i hx
   have hfi:(x.fault 3 x.i).i = x.i:=by unfold Dk.Sc.fault;split <;> rfl
   have HF:Hid (∀ w2,ScanAt ms w2 B b s (x.fault 3 x.i) → Below B w w2 → ScanAt ms (w2.setCell ⟨b,1,none⟩ (.int .i64 ((x.i + n:Nat):Int))) B b s Y ∧ Below B w (w2.setCell ⟨b,1,none⟩ (.int .i64 ((x.i + n:Nat):Int)))):=by
    intro w2 h2 hb2
    refine ⟨?_,hb2.setCell (p:=⟨b,1,none⟩) hB.1 _⟩
    rw [← HY.out,if_pos hn]
    have:=setI_go h2 (Below.refl _ _) n
    rw [hfi] at this
    exact this
   clear hx HY hn
   go_wp2_with fail
   refine kf.mono ?_
   rintro e w2 ⟨rfl,hs2,hb2⟩
   clear kf q0 q1
   obtain ⟨ov2,pv2,k1,_⟩:=id hs2
   have q2:=k1.2.1
   have q3:=k1.2.2
   rw [hfi] at q2
   have hb3:=below_to hB.2 hbc hb2
   clear k1 hfi
   go_wp2
   go_quiet (fail)
   go_wp2
   go_ret
   obtain ⟨z1,z2⟩:=HF.out _ hs2 hb3
   exact ⟨by rw [← ex1];rfl,z1.keep (drewB _ _),z2.trans (below_to z1.base.2 (drewB _ _) (Below.refl _ _))⟩
  ·have hn':((n:Int) == 0) = false:=by rw [beq_eq_false_iff_ne];omega
   have HF:Hid (ScanAt ms (wc.setCell ⟨b,1,none⟩ (.int .i64 ((x.i + n:Nat):Int))) B b s Y ∧ Below B w (wc.setCell ⟨b,1,none⟩ (.int .i64 ((x.i + n:Nat):Int)))):=by
    refine ⟨?_,(below_to hB.2 hbc (Below.refl _ _)).setCell (p:=⟨b,1,none⟩) hB.1 _⟩
    rw [← HY.out,if_neg hn]
    exact setI_go hx (Below.refl _ _) n
   clear hx HY
   go_wp2
   go_quiet (fail)
   go_wp2
   go_ret
   obtain ⟨z1,z2⟩:=HF.out
   exact ⟨by rw [← ex1];rfl,z1.keep (drewB _ _),z2.trans (below_to z1.base.2 (drewB _ _) (Below.refl _ _))⟩
end Go.Proofs.YtaepcfidpekflaaGreatDoor
namespace Go.Proofs.YtaepcfidpekflaaGreatDoor
open Go.RowKit
variable {ms:List (Nat × Array Value)}
theorem marksCells_len (l:List Dk.Mark):(marksCells l).length = l.length * 6:=by
 induction l with
 | nil=>rfl
 | cons m r ih=>simp [marksCells,mCells,ih];omega
theorem marksCells_app (l r:List Dk.Mark):marksCells (l ++ r) = marksCells l ++ marksCells r:=by
 induction l with
 | nil=>rfl
 | cons m l ih=>simp [marksCells,ih]
theorem marksCells_snoc (l:List Dk.Mark) (m:Dk.Mark):marksCells (l ++ [m]) = marksCells l ++ mCells m:=by
 rw [marksCells_app]
 simp [marksCells]
theorem marksCells_last (l:List Dk.Mark) (m:Dk.Mark) (j:Nat) (hj:j < 6):(marksCells (l ++ [m]))[l.length * 6 + j]? = (mCells m)[j]?:=by
 rw [marksCells_snoc,List.getElem?_append_right (by rw [marksCells_len];omega),marksCells_len]
 congr 1
 omega
theorem info_mark:(Tryz.prog.info? 130).map (fun i=>(i.zero,i.size,i.bytes)) = some (some (.agg #[.int .u8 0,.string ⟨#[]⟩,.string ⟨#[]⟩,.string ⟨#[]⟩,.string ⟨#[]⟩,.int .i64 0]),6,80):=by kernel_rfl
theorem Row.grown {w w2:World} {b:Nat} {cs:Array Value} {row:Option Nat} (h:Row w b cs) (hg:w.grownBy w2 row) (hne:row ≠ some b):Row w2 b cs:=by
 have hb:=hg.block b h.1 (fun e=>hne e.symm)
 exact ⟨Nat.lt_of_lt_of_le h.1 hg.size,fun j=>(World.cell?_of_block (w:=w) (a:=⟨b,j,none⟩) hb).trans (h.2.1 j),fun j=>(World.frozen?_of_block (w:=w) (a:=⟨b,j,none⟩) hb).trans (h.2.2 j)⟩
theorem ScanAt.put {w w2:World} {B b:Nat} {s:Pr.T} {x:Dk.Sc} {ov pv v':Value} {m:Dk.Mark} {o:Obj}
  (h1:Row w b #[.string ⟨s.toArray⟩,.int .i64 x.i,ov,pv,.int .i64 x.err,.int .i64 x.place]) (h2:B ≤ b) (h4:w.ownsRow B 4 1 pv x.opens.length (x.opens.map .bool))
  (h5:ov.ownBlock ≠ some b) (h6:pv.ownBlock ≠ some b) (h7:∀ g,ov.ownBlock = some g → pv.ownBlock ≠ some g) (h3:w.ownsRow B 130 6 ov x.out.length (marksCells x.out)) (h8:∀ q ∈ ms,Row w q.1 q.2 ∧ q.1 ≠ b ∧ ov.ownBlock ≠ some q.1 ∧ pv.ownBlock ≠ some q.1)
  (hown:w2.ownsRow B 130 6 v' (x.out.length + 1) (marksCells x.out ++ mCells m)) (hg:(w.alloc o).grownBy w2 ov.ownBlock) (hat:v'.ownBlock = ov.ownBlock ∨ v'.ownBlock = some (w.alloc o).heap.size):
  ScanAt ms (w2.setCell ⟨b,2,none⟩ v') B b s (x.put m) ∧ Below B w (w2.setCell ⟨b,2,none⟩ v'):=by
 have hbl:=h1.1
 have hB:B ≤ w.heap.size:=by omega
 have hr:Row w2 b #[.string ⟨s.toArray⟩,.int .i64 x.i,ov,pv,.int .i64 x.err,.int .i64 x.place]:=(h1.alloc o).grown hg h5
 have hv:v'.ownBlock ≠ some b:=by
  rcases hat with h | h
  ·rw [h];exact h5
  ·rw [h];simp;omega
 have hp:w2.ownsRow B 4 1 pv x.opens.length (x.opens.map .bool):=by
  refine World.ownsRow.kept (h4.alloc o) hg ?_
  cases e:pv.ownBlock with
  | none=>exact .inl rfl
  | some g=>exact .inr (fun e2=>h7 g e2.symm e)
 refine ⟨⟨v',pv,hr.setC 2 _ (by simp),h2,?_,ownsRow_setCell_other hp h6 _,hv,h6,fun g hg2=>?_,fun q hq=>?_⟩,?_⟩
 ·have:=ownsRow_setCell_other hown (a:=⟨b,2,none⟩) hv v'
  simp only [Dk.Sc.put,List.length_append,List.length_singleton,marksCells_snoc]
  exact this
 ·rcases hat with h | h
  ·exact h7 g (by rw [← h];exact hg2)
  ·rw [h] at hg2
   simp at hg2
   intro e
   have:=(World.ownsRow.lt h4 g e).2
   omega
 ·obtain ⟨r1,r2,r3,r4⟩:=h8 q hq
  refine ⟨((r1.alloc o).grown hg r3).other r2 _,r2,?_,r4⟩
  rcases hat with h | h
  ·rw [h];exact r3
  ·rw [h]
   have:=r1.1
   simp
   omega
 ·refine Below.setCell (((Below.refl B w).alloc hB o).grown hg (by simp;omega) fun k hk=>(World.ownsRow.lt h3 k hk).1) (p:=⟨b,2,none⟩) h2 _
end Go.Proofs.YtaepcfidpekflaaGreatDoor
namespace Go.Proofs.YtaepcfidpekflaaGreatDoor
open Go.RowKit
variable {ms:List (Nat × Array Value)}
theorem owns_form {w:World} {B:Nat} {e:TypeId} {z n:Nat} {v:Value} {xs:List Value} (h:w.ownsRow B e z v n xs):∃ a n c,v = .slice a n c:=by
 rcases h.2 with ⟨rfl,_⟩ | ⟨g,cap,cur,rfl,_⟩
 ·exact ⟨_,_,_,rfl⟩
 ·exact ⟨_,_,_,rfl⟩
theorem mcells_at (m:Dk.Mark) (w:World) (T:TypeId):∀ j u,(mCells m)[j]? = some u → (w.alloc (.cells #[.int .u8 m.kind.toNat,strV m.text,strV m.name,strV m.how,strV m.offset,.int .i64 m.at_] T)).cell? ((⟨w.heap.size,0,none⟩:Addr).add j) = some u:=by
 intro j u hj
 match j,hj with
 | 0,hj=>simp [mCells] at hj;subst hj;simp [Addr.add]
 | 1,hj=>simp [mCells] at hj;subst hj;simp [Addr.add]
 | 2,hj=>simp [mCells] at hj;subst hj;simp [Addr.add]
 | 3,hj=>simp [mCells] at hj;subst hj;simp [Addr.add]
 | 4,hj=>simp [mCells] at hj;subst hj;simp [Addr.add]
 | 5,hj=>simp [mCells] at hj;subst hj;simp [Addr.add]
 | j + 6,hj=>simp [mCells] at hj
theorem mcells_one (m:Dk.Mark):∀ u ∈ mCells m,u.oneCell' = true:=by
 intro u hu
 simp only [mCells,List.mem_cons,List.not_mem_nil,or_false] at hu
 rcases hu with rfl | rfl | rfl | rfl | rfl | rfl <;> rfl
set_option maxHeartbeats 3200000 in
set_option maxRecDepth 100000 in
theorem ksay_new (w:World) (B b:Nat) (s:Pr.T) (x:Dk.Sc) (t:Pr.T) (hx:ScanAt ms w B b s x) (ho:x.out.length ≤ 100000) (ht:t ≠ []) (hk:∀ l m,x.out = l ++ [m] → m.kind ≠ 116):
  Calls Tryz.prog 139 #[.pointer (some ⟨b,0,none⟩),.string ⟨t.toArray⟩] w fun en w'=>en = .returned (.tuple #[]) ∧ ScanAt ms w' B b s (x.put { kind:=116,text:=t }) ∧ Below B w w':=by
 obtain ⟨i0,hi0,hz0,hz1,hz2⟩:=info_parts info_mark
 have HI:Hid (Tryz.prog.info? 130 = some i0 ∧ i0.zero = some (.agg #[.int .u8 0,.string ⟨#[]⟩,.string ⟨#[]⟩,.string ⟨#[]⟩,.string ⟨#[]⟩,.int .i64 0]) ∧ i0.size = 6 ∧ i0.bytes = 80):=⟨hi0,hz0,hz1,hz2⟩
 clear hi0 hz0 hz1 hz2
 have hB:=hx.base
 obtain ⟨ov,pv,h1,h2,h3,h4,h5,h6,h7,h8⟩:=hx
 have q0:=h1.2.1
 have q1:=h1.2.2
 have HP:Hid (∀ w2 v' o,w2.ownsRow B 130 6 v' (x.out.length + 1) (marksCells x.out ++ mCells { kind:=116,text:=t }) → (w.alloc o).grownBy w2 ov.ownBlock → (v'.ownBlock = ov.ownBlock ∨ v'.ownBlock = some (w.heap.size + 1)) → (Row w2 b #[.string ⟨s.toArray⟩,.int .i64 x.i,ov,pv,.int .i64 x.err,.int .i64 x.place]) ∧ ScanAt ms (w2.setCell ⟨b,2,none⟩ v') B b s (x.put { kind:=116,text:=t }) ∧ Below B w (w2.setCell ⟨b,2,none⟩ v')):=fun w2 v' o a1 a2 a3=>⟨(h1.alloc o).grown a2 h5,ScanAt.put h1 h2 h4 h5 h6 h7 h3 h8 a1 a2 (by simpa using a3)⟩
 have ht':(t == []) = false:=by rw [beq_eq_false_iff_ne];exact ht
 have hcells:=mcells_at { kind:=116,text:=t } w 130
 have hone:=mcells_one { kind:=116,text:=t }
 clear h1 h4 h5 h6 h7 h8 ht
 rcases List.eq_nil_or_concat x.out with h0 | ⟨l,m,h0⟩
 ·have hform:∃ a cc,ov = .slice a 0 cc:=by
   rw [h0] at h3
   rcases h3.2 with ⟨rfl,_⟩ | ⟨g,cap,cur,rfl,_⟩
   ·exact ⟨_,_,rfl⟩
   ·exact ⟨_,_,rfl⟩
  obtain ⟨a,cc,rfl⟩:=hform
  clear hk h0
  go_enter Tryz.func139,Tryz.ntmps139
  go_wp2_with (at_builtin;refine wpList_append_own_at _ rfl _ _ 92 rfl B 130 i0 (.agg #[.int .u8 0,.string ⟨#[]⟩,.string ⟨#[]⟩,.string ⟨#[]⟩,.string ⟨#[]⟩,.int .i64 0]) 6 80 Tryz.underlying92 HI.out.1 HI.out.2.1 HI.out.2.2.1 HI.out.2.2.2 rfl (by decide) _ x.out.length (marksCells x.out) rfl (World.ownsRow.alloc h3 _) ⟨w.heap.size,0,none⟩ 1 1 (mCells { kind:=116,text:=t }) rfl rfl hcells hone (by unfold maxLen;omega) (by omega) (by simp;omega) ?_)
  ·intro v' w2 hown' hgrow _ hat
   obtain ⟨r2,g1,g2⟩:=HP.out w2 v' _ hown' hgrow hat
   obtain ⟨a2,n2,c2,rfl⟩:=owns_form hown'
   have q2:=r2.2.1
   have q3:=r2.2.2
   clear hown' hgrow hat h3 q0 q1 hcells
   go_wp2
   go_end0
   exact ⟨rfl,g1,g2⟩
 ·simp only [List.concat_eq_append] at h0
  have hkm:=hk l m h0
  have hm116:((m.kind.toNat:Int) == 116) = false:=byte_ne (n:=116) (by decide) hkm
  have hlen:x.out.length = l.length + 1:=by rw [h0];simp
  rcases h3.2 with ⟨_,hz⟩ | ⟨g,cap,cur,rfl,_⟩
  ·omega
  have ck:=h3.cellAt (l.length * 6) (by omega)
  have ck2:w.cell? ⟨g,l.length * 6,none⟩ = some (.int .u8 m.kind.toNat):=by
   rw [ck,h0]
   have:=marksCells_last l m 0 (by omega)
   rw [Nat.add_zero] at this
   rw [this];rfl
  have hw2:IntKind.i64.wrap ((l.length:Int) + 1 - 1) = l.length:=by rw [IntKind.wrap_i64];omega
  have hw3:IntKind.i64.wrap (l.length:Int) = l.length:=by rw [IntKind.wrap_i64];omega
  have hlt3:(l.length:Int) < l.length + 1:=by omega
  rw [hlen] at q0 h3 HP ho
  clear hk ck hkm h0
  go_enter Tryz.func139,Tryz.ntmps139
  go_wp2_with (at_builtin;refine wpList_append_own_at _ rfl _ _ 92 rfl B 130 i0 (.agg #[.int .u8 0,.string ⟨#[]⟩,.string ⟨#[]⟩,.string ⟨#[]⟩,.string ⟨#[]⟩,.int .i64 0]) 6 80 Tryz.underlying92 HI.out.1 HI.out.2.1 HI.out.2.2.1 HI.out.2.2.2 rfl (by decide) _ (l.length + 1) (marksCells x.out) rfl (World.ownsRow.alloc h3 _) ⟨w.heap.size,0,none⟩ 1 1 (mCells { kind:=116,text:=t }) rfl rfl hcells hone (by unfold maxLen;omega) (by omega) (by simp;omega) ?_)
  ·intro v' w2 hown' hgrow _ hat
   obtain ⟨r2,g1,g2⟩:=HP.out w2 v' _ hown' hgrow hat
   obtain ⟨a2,n2,c2,rfl⟩:=owns_form hown'
   have q2:=r2.2.1
   have q3:=r2.2.2
   clear hown' hgrow hat h3 q0 q1 hcells
   go_wp2
   go_end0
   exact ⟨rfl,g1,g2⟩
end Go.Proofs.YtaepcfidpekflaaGreatDoor
namespace Go.Proofs.YtaepcfidpekflaaGreatDoor
open Go.RowKit
variable {ms:List (Nat × Array Value)}
theorem set_text (l:List Dk.Mark) (m:Dk.Mark) (t:Pr.T):(marksCells (l ++ [m])).set (l.length * 6 + 1) (strV t) = marksCells (l ++ [{ m with text:=t }]):=by
 rw [marksCells_snoc,marksCells_snoc,List.set_append_right _ _ (by rw [marksCells_len];omega),marksCells_len]
 congr 1
 rw [show l.length * 6 + 1 - l.length * 6 = 1 by omega]
 rfl
theorem ScanAt.join {w W:World} {B b g cap:Nat} {s:Pr.T} {x:Dk.Sc} {pv:Value} {l:List Dk.Mark} {m:Dk.Mark} (t:Pr.T) (hW:Below w.heap.size w W) (hx:x.out = l ++ [m])
  (h1:Row w b #[.string ⟨s.toArray⟩,.int .i64 x.i,.slice (some ⟨g,0,none⟩) x.out.length cap,pv,.int .i64 x.err,.int .i64 x.place]) (h2:B ≤ b) (h3:w.ownsRow B 130 6 (.slice (some ⟨g,0,none⟩) x.out.length cap) x.out.length (marksCells x.out)) (h4:w.ownsRow B 4 1 pv x.opens.length (x.opens.map .bool))
  (h5:g ≠ b) (h6:pv.ownBlock ≠ some b) (h7:pv.ownBlock ≠ some g) (h8:∀ q ∈ ms,Row w q.1 q.2 ∧ q.1 ≠ b ∧ (Value.slice (some ⟨g,0,none⟩) x.out.length cap).ownBlock ≠ some q.1 ∧ pv.ownBlock ≠ some q.1):
  ScanAt ms (W.setCell ⟨g,l.length * 6 + 1,none⟩ (strV t)) B b s { x with out:=l ++ [{ m with text:=t }] } ∧ Below B w (W.setCell ⟨g,l.length * 6 + 1,none⟩ (strV t)):=by
 have kp:∀ {e:TypeId} {z n:Nat} {v:Value} {xs:List Value},w.ownsRow B e z v n xs → W.ownsRow B e z v n xs:=fun {e z n v xs} h=>by
  refine World.ownsRow.kept (row:=none) h ⟨hW.os,hW.tape,hW.output,hW.size,fun k hk _=>hW.block k hk⟩ ?_
  cases e:v.ownBlock with
  | none=>exact .inl rfl
  | some _=>exact .inr (by simp)
 have hlen:x.out.length = l.length + 1:=by rw [hx];simp
 obtain ⟨s1,_⟩:=(kp h3).stored (l.length * 6 + 1) (strV t)
 rw [hx,set_text] at s1
 have hBg:=(World.ownsRow.lt h3 g rfl).1
 refine ⟨⟨.slice (some ⟨g,0,none⟩) x.out.length cap,pv,(h1.keep hW).other (fun e=>h5 e.symm) _,h2,?_,ownsRow_setCell_other (kp h4) h7 _,?_,h6,?_,fun q hq=>⟨((h8 q hq).1.keep hW).other (fun e=>(h8 q hq).2.2.1 (by rw [e];rfl)) _,(h8 q hq).2⟩⟩,?_⟩
 ·rw [hlen]
  simpa using s1
 ·show some g ≠ some b
  simpa using h5
 ·intro g' hg'
  have:g' = g:=by simpa [Value.ownBlock] using hg'.symm
  rw [this]
  exact h7
 ·exact (hW.mono (by have:=h1.1;omega)).setCell (p:=⟨g,l.length * 6 + 1,none⟩) hBg _
set_option maxHeartbeats 3200000 in
set_option maxRecDepth 100000 in
theorem ksay_join (w:World) (B b:Nat) (s:Pr.T) (x:Dk.Sc) (t:Pr.T) (hx:ScanAt ms w B b s x) (ho:x.out.length ≤ 100000) (ht:t ≠ []) (l:List Dk.Mark) (m:Dk.Mark) (hl:x.out = l ++ [m]) (hk:m.kind = 116) (hml:m.text.length ≤ 1000000) (htl:t.length ≤ 1000000):
  Calls Tryz.prog 139 #[.pointer (some ⟨b,0,none⟩),.string ⟨t.toArray⟩] w fun en w'=>en = .returned (.tuple #[]) ∧ ScanAt ms w' B b s { x with out:=l ++ [{ m with text:=m.text ++ t }] } ∧ Below B w w':=by
 obtain ⟨ov,pv,h1,h2,h3,h4,h5,h6,h7,h8⟩:=hx
 have hm116:((m.kind.toNat:Int) == 116) = true:=by rw [hk];rfl
 have ht':(t == []) = false:=by rw [beq_eq_false_iff_ne];exact ht
 have hlen:x.out.length = l.length + 1:=by rw [hl];simp
 rcases h3.2 with ⟨_,hz⟩ | ⟨g,cap,cur,rfl,_⟩
 ·omega
 have hgb:g ≠ b:=fun e=>h5 (by rw [e];rfl)
 have HJ:Hid (∀ W,Below w.heap.size w W → ScanAt ms (W.setCell ⟨g,l.length * 6 + 1,none⟩ (strV (m.text ++ t))) B b s { x with out:=l ++ [{ m with text:=m.text ++ t }] } ∧ Below B w (W.setCell ⟨g,l.length * 6 + 1,none⟩ (strV (m.text ++ t)))):=fun W h=>ScanAt.join (m.text ++ t) h hl h1 h2 h3 h4 hgb h6 (h7 g rfl) h8
 have q0:=h1.2.1
 have q1:=h1.2.2
 rw [hlen] at q0
 have ck:w.cell? ⟨g,l.length * 6,none⟩ = some (.int .u8 m.kind.toNat):=by
  rw [h3.cellAt (l.length * 6) (by omega),hl]
  have:=marksCells_last l m 0 (by omega)
  rw [Nat.add_zero] at this
  rw [this];rfl
 have ck1:w.cell? ⟨g,l.length * 6 + 1,none⟩ = some (.string ⟨m.text.toArray⟩):=by
  rw [h3.cellAt (l.length * 6 + 1) (by omega),hl,marksCells_last l m 1 (by omega)];rfl
 have fz:=h3.frozenAt (l.length * 6 + 1)
 have hcat:(⟨m.text.toArray⟩:ByteArray) ++ ⟨t.toArray⟩ = ⟨(m.text ++ t).toArray⟩:=by apply ByteArray.ext;simp
 have hw2:IntKind.i64.wrap ((l.length:Int) + 1 - 1) = l.length:=by rw [IntKind.wrap_i64];omega
 have hw3:IntKind.i64.wrap (l.length:Int) = l.length:=by rw [IntKind.wrap_i64];omega
 have hlt3:(l.length:Int) < l.length + 1:=by omega
 clear h1 h3 h4 h5 h6 h7 h8 ht hl
 go_enter Tryz.func139,Tryz.ntmps139
 go_wp2
 go_region_with (fail)
 all_goals go_wp2
 all_goals refine bodyPost_ret (results_none rfl _ _ _) rfl ?_
 all_goals
  obtain ⟨z1,z2⟩:=HJ.out w (Below.refl _ _)
  first
  | exact ⟨rfl,z1.keep (Below.refl _ _).drew,z2.drew⟩
  | exact ⟨rfl,z1,z2⟩
set_option maxHeartbeats 400000 in
theorem ksay_nil (w:World) (B b:Nat) (s:Pr.T) (x:Dk.Sc) (hx:ScanAt ms w B b s x):
  Calls Tryz.prog 139 #[.pointer (some ⟨b,0,none⟩),.string ⟨#[]⟩] w fun en w'=>en = .returned (.tuple #[]) ∧ ScanAt ms w' B b s x ∧ Below B w w':=by
 have HX:Hid (ScanAt ms w B b s x):=hx
 obtain ⟨ov,pv,h1,h2,h3,_⟩:=hx
 have q0:=h1.2.1
 obtain ⟨a,n,c,rfl⟩:=owns_form h3
 clear h1 h3
 go_enter Tryz.func139,Tryz.ntmps139
 go_wp2
 refine bodyPost_ret (results_none rfl _ _ _) rfl ?_
 exact ⟨rfl,HX.out,Below.refl _ _⟩
def Short (x:Dk.Sc):Prop:=x.out.length ≤ 100000 ∧ ∀ m ∈ x.out,m.text.length ≤ 1000000
theorem ksay_any (w:World) (B b:Nat) (s:Pr.T) (x:Dk.Sc) (t:Pr.T) (hx:ScanAt ms w B b s x) (hsh:Short x) (htl:t.length ≤ 1000000):
  Calls Tryz.prog 139 #[.pointer (some ⟨b,0,none⟩),.string ⟨t.toArray⟩] w fun en w'=>en = .returned (.tuple #[]) ∧ ScanAt ms w' B b s (x.say t) ∧ Below B w w':=by
 by_cases ht:t = []
 ·subst ht
  rw [show x.say [] = x from rfl]
  exact ksay_nil w B b s x hx
 ·rw [Dk.Sc.say,if_neg ht]
  rcases List.eq_nil_or_concat x.out with h0 | ⟨l,m,h0⟩
  ·have e:Dk.addText x.out t = x.out ++ [{ kind:=116,text:=t }]:=by rw [h0];rfl
   rw [e]
   exact ksay_new w B b s x t hx hsh.1 ht (fun l m h=>by rw [h0] at h;simp at h)
  ·simp only [List.concat_eq_append] at h0
   by_cases hk:m.kind = 116
   ·have e:Dk.addText x.out t = l ++ [{ m with text:=m.text ++ t }]:=by rw [h0];simp [Dk.addText,hk]
    rw [e]
    exact ksay_join w B b s x t hx hsh.1 ht l m h0 hk (hsh.2 m (by rw [h0];simp)) htl
   ·have e:Dk.addText x.out t = x.out ++ [{ kind:=116,text:=t }]:=by rw [h0];simp [Dk.addText,hk]
    rw [e]
    refine ksay_new w B b s x t hx hsh.1 ht (fun l' m' h=>?_)
    rw [h0] at h
    have:=(List.append_inj' h rfl).2
    simp at this
    rw [← this]
    exact hk
end Go.Proofs.YtaepcfidpekflaaGreatDoor
