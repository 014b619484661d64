/-
  Several texts in one (Rc). By the verifier.
-/
import Derived.Test.YtaepcfidpekflaaGreatDoorZ10
import Derived.Test.YtaepcfidpekflaaGreatDoorZ15
namespace Go.Proofs.YtaepcfidpekflaaGreatDoor
open Go.RowKit
theorem ri {a b:Int} (h:a = b):Ending.returned (.int .i64 a) = .returned (.int .i64 b):=by rw [h]
theorem vr_small (n:Nat) (h:(n:Int) < 128):Lib.validRune n = true:=by simp [Lib.validRune];omega
theorem vr_true (v:Int) (h:Lib.validRune v = true):(0 ≤ v ∧ v < 55296) ∨ (57343 < v ∧ v ≤ 1114111):=by simpa [Lib.validRune] using h
theorem vr_false (v:Int) (h:Lib.validRune v = false):¬ ((0 ≤ v ∧ v < 55296) ∨ (57343 < v ∧ v ≤ 1114111)):=by
 intro h2
 have:Lib.validRune v = true:=by simpa [Lib.validRune] using h2
 rw [this] at h;cases h
set_option maxRecDepth 100000 in
set_option maxHeartbeats 400000 in
theorem size_one (s:ByteArray) (w:World) (b1 b2 b3:Nat) (hs:s.size ≤ 100000) (h0:0 < s.size) (hc:s[0].toNat < 128):
  Calls Tryz.prog 72 #[.string s] w fun e w'=>e = .returned (.int .i64 (Pn.szN s.size s[0].toNat b1 b2 b3:Nat)) ∧ w' = w:=by
 have HZ:Hid ((1:Int) = (Pn.szN s.size s[0].toNat b1 b2 b3:Nat)):=by show _ = _;unfold Pn.szN;rw [if_pos hc];rfl
 have h1:(s[0].toNat:Int) < 128:=by omega
 clear hc
 go_enter Tryz.func72,Tryz.ntmps72
 go_wp2_with fail
 go_loop [5,7] (fun v i=>v = .int .i64 s[0].toNat ∧ i = .int .i64 1) (fun _ _=>0)
 case atStart=>exact ⟨rfl,rfl⟩
 case round=>
  obtain ⟨rfl,rfl⟩:=hrel
  go_wp2_with (go_at_call 47;refine (point_any _ _).mono ?_;rintro e w' ⟨rfl,rfl⟩;rw [vr_small _ h1])
  go_ret
  exact ⟨ri HZ.out,rfl⟩
set_option maxRecDepth 100000 in
set_option maxHeartbeats 400000 in
theorem size_bad (s:ByteArray) (w:World) (b1 b2 b3:Nat) (_hs:s.size ≤ 100000) (h0:0 < s.size) (hc:(128 ≤ s[0].toNat ∧ s[0].toNat < 192) ∨ 248 ≤ s[0].toNat):
  Calls Tryz.prog 72 #[.string s] w fun e w'=>e = .returned (.int .i64 (Pn.szN s.size s[0].toNat b1 b2 b3:Nat)) ∧ w' = w:=by
 have HZ:Hid ((0:Int) = (Pn.szN s.size s[0].toNat b1 b2 b3:Nat)):=by show _ = _;rw [Pn.sz_bad _ _ _ _ _ hc];rfl
 rcases hc with hc | hc
 ·have h1:(s[0].toNat:Int) < 192:=by omega
  have h2:(128:Int) ≤ s[0].toNat:=by omega
  clear hc
  go_enter Tryz.func72,Tryz.ntmps72
  go_wp2
  go_ret
  exact ⟨ri HZ.out,rfl⟩
 ·have h1:(248:Int) ≤ s[0].toNat:=by omega
  have h2:(s[0].toNat:Int) ≤ 255:=by have:=s[0].toNat_lt;omega
  clear hc
  go_enter Tryz.func72,Tryz.ntmps72
  go_wp2
  go_ret
  exact ⟨ri HZ.out,rfl⟩
set_option maxRecDepth 100000 in
set_option maxHeartbeats 1000000 in
theorem size_2s (s:ByteArray) (w:World) (b1 b2 b3:Nat) (hs:s.size ≤ 100000) (h0:0 < s.size) (hn:s.size < 2) (hc:192 ≤ s[0].toNat ∧ s[0].toNat < 224):
  Calls Tryz.prog 72 #[.string s] w fun e w'=>e = .returned (.int .i64 (Pn.szN s.size s[0].toNat b1 b2 b3:Nat)) ∧ w' = w:=by
 have HZ:Hid ((0:Int) = (Pn.szN s.size s[0].toNat b1 b2 b3:Nat)):=by show _ = _;rw [Pn.sz2_no _ _ _ _ _ hc (by omega)];rfl
 have h1:(192:Int) ≤ s[0].toNat:=by omega
 have h2:(s[0].toNat:Int) < 224:=by omega
 have h3:(s.size:Int) < 2:=by omega
 clear hc hn
 go_enter Tryz.func72,Tryz.ntmps72
 go_wp2
 go_ret
 exact ⟨ri HZ.out,rfl⟩
set_option maxRecDepth 100000 in
set_option maxHeartbeats 2000000 in
theorem size_2 (s:ByteArray) (w:World) (b2 b3:Nat) (hs:s.size ≤ 100000) (hn:2 ≤ s.size) (hc:192 ≤ s[0].toNat ∧ s[0].toNat < 224):
  Calls Tryz.prog 72 #[.string s] w fun e w'=>e = .returned (.int .i64 (Pn.szN s.size s[0].toNat s[1].toNat b2 b3:Nat)) ∧ w' = w:=by
 have h1:(192:Int) ≤ s[0].toNat:=by omega
 have h2:(s[0].toNat:Int) < 224:=by omega
 have h3:(2:Int) ≤ s.size:=by omega
 have HC:Hid (192 ≤ s[0].toNat ∧ s[0].toNat < 224):=hc
 clear hc
 go_enter Tryz.func72,Tryz.ntmps72
 go_wp2_with fail
 go_loop [5,7] (fun v i=>(i = .int .i64 1 ∧ v = .int .i64 ((s[0].toNat:Int) - (192:Int))) ∨ (i = .int .i64 2 ∧ v = .int .i64 ((64:Int) * ((s[0].toNat:Int) - (192:Int)) + (s[1].toNat:Int) - (128:Int)) ∧ (128:Int) ≤ s[1].toNat ∧ (s[1].toNat:Int) ≤ 191)) (fun _ i=>2 - (intOf i).toNat)
 case atStart=>exact Or.inl ⟨rfl,rfl⟩
 case round=>
  rcases hrel with ⟨rfl,rfl⟩ | ⟨rfl,rfl,p1,q1⟩
  ·by_cases ha:(s[1].toNat:Int) < 128
   ·have hc:=HC.out
    have HZ:Hid ((0:Int) = (Pn.szN s.size s[0].toNat s[1].toNat b2 b3:Nat)):=by show _ = _;rw [Pn.sz2_no _ _ _ _ _ hc (by unfold Pn.contP Pn.okP Pn.v2;omega)];rfl
    clear hc
    go_wp2
    go_ret
    exact ⟨ri HZ.out,rfl⟩
   ·by_cases hb:(191:Int) < s[1].toNat
    ·have hc:=HC.out
     have HZ:Hid ((0:Int) = (Pn.szN s.size s[0].toNat s[1].toNat b2 b3:Nat)):=by show _ = _;rw [Pn.sz2_no _ _ _ _ _ hc (by unfold Pn.contP Pn.okP Pn.v2;omega)];rfl
     clear hc
     go_wp2
     go_ret
     exact ⟨ri HZ.out,rfl⟩
    ·go_wp2
     go_round
     case rel=>exact Or.inr (⟨rfl,rfl,by omega,by omega⟩)
     case measure=>simp [intOf]
  ·by_cases ha:((64:Int) * ((s[0].toNat:Int) - (192:Int)) + (s[1].toNat:Int) - (128:Int)) < 128
   ·have hc:=HC.out
    have HZ:Hid ((0:Int) = (Pn.szN s.size s[0].toNat s[1].toNat b2 b3:Nat)):=by show _ = _;rw [Pn.sz2_no _ _ _ _ _ hc (by unfold Pn.contP Pn.okP Pn.v2;omega)];rfl
    clear hc
    go_wp2_with (go_at_call 47;refine (point_any _ _).mono ?_;rintro e w' ⟨rfl,rfl⟩)
    go_ret
    exact ⟨ri HZ.out,rfl⟩
   ·cases hv:Lib.validRune ((64:Int) * ((s[0].toNat:Int) - (192:Int)) + (s[1].toNat:Int) - (128:Int)) with
    | false=>
     have hv':=vr_false _ hv
     have hc:=HC.out
     have HZ:Hid ((0:Int) = (Pn.szN s.size s[0].toNat s[1].toNat b2 b3:Nat)):=by show _ = _;rw [Pn.sz2_no _ _ _ _ _ hc (by unfold Pn.contP Pn.okP Pn.v2;omega)];rfl
     clear hc hv'
     go_wp2_with (go_at_call 47;refine (point_any _ _).mono ?_;rintro e w' ⟨rfl,rfl⟩)
     go_ret
     exact ⟨ri HZ.out,rfl⟩
    | true=>
     have hv':=vr_true _ hv
     have hc:=HC.out
     have HZ:Hid ((2:Int) = (Pn.szN s.size s[0].toNat s[1].toNat b2 b3:Nat)):=by show _ = _;rw [Pn.sz2_yes _ _ _ _ _ hc (by unfold Pn.contP Pn.okP Pn.v2;omega)];rfl
     clear hc hv'
     go_wp2_with (go_at_call 47;refine (point_any _ _).mono ?_;rintro e w' ⟨rfl,rfl⟩)
     go_ret
     exact ⟨ri HZ.out,rfl⟩
set_option maxRecDepth 100000 in
set_option maxHeartbeats 1000000 in
theorem size_3s (s:ByteArray) (w:World) (b1 b2 b3:Nat) (hs:s.size ≤ 100000) (h0:0 < s.size) (hn:s.size < 3) (hc:224 ≤ s[0].toNat ∧ s[0].toNat < 240):
  Calls Tryz.prog 72 #[.string s] w fun e w'=>e = .returned (.int .i64 (Pn.szN s.size s[0].toNat b1 b2 b3:Nat)) ∧ w' = w:=by
 have HZ:Hid ((0:Int) = (Pn.szN s.size s[0].toNat b1 b2 b3:Nat)):=by show _ = _;rw [Pn.sz3_no _ _ _ _ _ hc (by omega)];rfl
 have h1:(224:Int) ≤ s[0].toNat:=by omega
 have h2:(s[0].toNat:Int) < 240:=by omega
 have h3:(s.size:Int) < 3:=by omega
 clear hc hn
 go_enter Tryz.func72,Tryz.ntmps72
 go_wp2
 go_ret
 exact ⟨ri HZ.out,rfl⟩
set_option maxRecDepth 100000 in
set_option maxHeartbeats 2000000 in
theorem size_3 (s:ByteArray) (w:World) (b3:Nat) (hs:s.size ≤ 100000) (hn:3 ≤ s.size) (hc:224 ≤ s[0].toNat ∧ s[0].toNat < 240):
  Calls Tryz.prog 72 #[.string s] w fun e w'=>e = .returned (.int .i64 (Pn.szN s.size s[0].toNat s[1].toNat s[2].toNat b3:Nat)) ∧ w' = w:=by
 have h1:(224:Int) ≤ s[0].toNat:=by omega
 have h2:(s[0].toNat:Int) < 240:=by omega
 have h3:(3:Int) ≤ s.size:=by omega
 have HC:Hid (224 ≤ s[0].toNat ∧ s[0].toNat < 240):=hc
 clear hc
 go_enter Tryz.func72,Tryz.ntmps72
 go_wp2_with fail
 go_loop [5,7] (fun v i=>(i = .int .i64 1 ∧ v = .int .i64 ((s[0].toNat:Int) - (224:Int))) ∨ (i = .int .i64 2 ∧ v = .int .i64 ((64:Int) * ((s[0].toNat:Int) - (224:Int)) + (s[1].toNat:Int) - (128:Int)) ∧ (128:Int) ≤ s[1].toNat ∧ (s[1].toNat:Int) ≤ 191) ∨ (i = .int .i64 3 ∧ v = .int .i64 ((64:Int) * ((64:Int) * ((s[0].toNat:Int) - (224:Int)) + (s[1].toNat:Int) - (128:Int)) + (s[2].toNat:Int) - (128:Int)) ∧ (128:Int) ≤ s[1].toNat ∧ (s[1].toNat:Int) ≤ 191 ∧ (128:Int) ≤ s[2].toNat ∧ (s[2].toNat:Int) ≤ 191)) (fun _ i=>3 - (intOf i).toNat)
 case atStart=>exact Or.inl ⟨rfl,rfl⟩
 case round=>
  rcases hrel with ⟨rfl,rfl⟩ | ⟨rfl,rfl,p1,q1⟩ | ⟨rfl,rfl,p1,q1,p2,q2⟩
  ·by_cases ha:(s[1].toNat:Int) < 128
   ·have hc:=HC.out
    have HZ:Hid ((0:Int) = (Pn.szN s.size s[0].toNat s[1].toNat s[2].toNat b3:Nat)):=by show _ = _;rw [Pn.sz3_no _ _ _ _ _ hc (by unfold Pn.contP Pn.okP Pn.v3;omega)];rfl
    clear hc
    go_wp2
    go_ret
    exact ⟨ri HZ.out,rfl⟩
   ·by_cases hb:(191:Int) < s[1].toNat
    ·have hc:=HC.out
     have HZ:Hid ((0:Int) = (Pn.szN s.size s[0].toNat s[1].toNat s[2].toNat b3:Nat)):=by show _ = _;rw [Pn.sz3_no _ _ _ _ _ hc (by unfold Pn.contP Pn.okP Pn.v3;omega)];rfl
     clear hc
     go_wp2
     go_ret
     exact ⟨ri HZ.out,rfl⟩
    ·go_wp2
     go_round
     case rel=>exact Or.inr (Or.inl ⟨rfl,rfl,by omega,by omega⟩)
     case measure=>simp [intOf]
  ·by_cases ha:(s[2].toNat:Int) < 128
   ·have hc:=HC.out
    have HZ:Hid ((0:Int) = (Pn.szN s.size s[0].toNat s[1].toNat s[2].toNat b3:Nat)):=by show _ = _;rw [Pn.sz3_no _ _ _ _ _ hc (by unfold Pn.contP Pn.okP Pn.v3;omega)];rfl
    clear hc
    go_wp2
    go_ret
    exact ⟨ri HZ.out,rfl⟩
   ·by_cases hb:(191:Int) < s[2].toNat
    ·have hc:=HC.out
     have HZ:Hid ((0:Int) = (Pn.szN s.size s[0].toNat s[1].toNat s[2].toNat b3:Nat)):=by show _ = _;rw [Pn.sz3_no _ _ _ _ _ hc (by unfold Pn.contP Pn.okP Pn.v3;omega)];rfl
     clear hc
     go_wp2
     go_ret
     exact ⟨ri HZ.out,rfl⟩
    ·go_wp2
     go_round
     case rel=>exact Or.inr (Or.inr (⟨rfl,rfl,p1,q1,by omega,by omega⟩))
     case measure=>simp [intOf]
  ·by_cases ha:((64:Int) * ((64:Int) * ((s[0].toNat:Int) - (224:Int)) + (s[1].toNat:Int) - (128:Int)) + (s[2].toNat:Int) - (128:Int)) < 2048
   ·have hc:=HC.out
    have HZ:Hid ((0:Int) = (Pn.szN s.size s[0].toNat s[1].toNat s[2].toNat b3:Nat)):=by show _ = _;rw [Pn.sz3_no _ _ _ _ _ hc (by unfold Pn.contP Pn.okP Pn.v3;omega)];rfl
    clear hc
    go_wp2_with (go_at_call 47;refine (point_any _ _).mono ?_;rintro e w' ⟨rfl,rfl⟩)
    go_ret
    exact ⟨ri HZ.out,rfl⟩
   ·cases hv:Lib.validRune ((64:Int) * ((64:Int) * ((s[0].toNat:Int) - (224:Int)) + (s[1].toNat:Int) - (128:Int)) + (s[2].toNat:Int) - (128:Int)) with
    | false=>
     have hv':=vr_false _ hv
     have hc:=HC.out
     have HZ:Hid ((0:Int) = (Pn.szN s.size s[0].toNat s[1].toNat s[2].toNat b3:Nat)):=by show _ = _;rw [Pn.sz3_no _ _ _ _ _ hc (by unfold Pn.contP Pn.okP Pn.v3;omega)];rfl
     clear hc hv'
     go_wp2_with (go_at_call 47;refine (point_any _ _).mono ?_;rintro e w' ⟨rfl,rfl⟩)
     go_ret
     exact ⟨ri HZ.out,rfl⟩
    | true=>
     have hv':=vr_true _ hv
     have hc:=HC.out
     have HZ:Hid ((3:Int) = (Pn.szN s.size s[0].toNat s[1].toNat s[2].toNat b3:Nat)):=by show _ = _;rw [Pn.sz3_yes _ _ _ _ _ hc (by unfold Pn.contP Pn.okP Pn.v3;omega)];rfl
     clear hc hv'
     go_wp2_with (go_at_call 47;refine (point_any _ _).mono ?_;rintro e w' ⟨rfl,rfl⟩)
     go_ret
     exact ⟨ri HZ.out,rfl⟩
set_option maxRecDepth 100000 in
set_option maxHeartbeats 1000000 in
theorem size_4s (s:ByteArray) (w:World) (b1 b2 b3:Nat) (hs:s.size ≤ 100000) (h0:0 < s.size) (hn:s.size < 4) (hc:240 ≤ s[0].toNat ∧ s[0].toNat < 248):
  Calls Tryz.prog 72 #[.string s] w fun e w'=>e = .returned (.int .i64 (Pn.szN s.size s[0].toNat b1 b2 b3:Nat)) ∧ w' = w:=by
 have HZ:Hid ((0:Int) = (Pn.szN s.size s[0].toNat b1 b2 b3:Nat)):=by show _ = _;rw [Pn.sz4_no _ _ _ _ _ hc (by omega)];rfl
 have h1:(240:Int) ≤ s[0].toNat:=by omega
 have h2:(s[0].toNat:Int) < 248:=by omega
 have h3:(s.size:Int) < 4:=by omega
 clear hc hn
 go_enter Tryz.func72,Tryz.ntmps72
 go_wp2
 go_ret
 exact ⟨ri HZ.out,rfl⟩
set_option maxRecDepth 100000 in
set_option maxHeartbeats 2000000 in
theorem size_4 (s:ByteArray) (w:World) (hs:s.size ≤ 100000) (hn:4 ≤ s.size) (hc:240 ≤ s[0].toNat ∧ s[0].toNat < 248):
  Calls Tryz.prog 72 #[.string s] w fun e w'=>e = .returned (.int .i64 (Pn.szN s.size s[0].toNat s[1].toNat s[2].toNat s[3].toNat:Nat)) ∧ w' = w:=by
 have h1:(240:Int) ≤ s[0].toNat:=by omega
 have h2:(s[0].toNat:Int) < 248:=by omega
 have h3:(4:Int) ≤ s.size:=by omega
 have HC:Hid (240 ≤ s[0].toNat ∧ s[0].toNat < 248):=hc
 clear hc
 go_enter Tryz.func72,Tryz.ntmps72
 go_wp2_with fail
 go_loop [5,7] (fun v i=>(i = .int .i64 1 ∧ v = .int .i64 ((s[0].toNat:Int) - (240:Int))) ∨ (i = .int .i64 2 ∧ v = .int .i64 ((64:Int) * ((s[0].toNat:Int) - (240:Int)) + (s[1].toNat:Int) - (128:Int)) ∧ (128:Int) ≤ s[1].toNat ∧ (s[1].toNat:Int) ≤ 191) ∨ (i = .int .i64 3 ∧ v = .int .i64 ((64:Int) * ((64:Int) * ((s[0].toNat:Int) - (240:Int)) + (s[1].toNat:Int) - (128:Int)) + (s[2].toNat:Int) - (128:Int)) ∧ (128:Int) ≤ s[1].toNat ∧ (s[1].toNat:Int) ≤ 191 ∧ (128:Int) ≤ s[2].toNat ∧ (s[2].toNat:Int) ≤ 191) ∨ (i = .int .i64 4 ∧ v = .int .i64 ((64:Int) * ((64:Int) * ((64:Int) * ((s[0].toNat:Int) - (240:Int)) + (s[1].toNat:Int) - (128:Int)) + (s[2].toNat:Int) - (128:Int)) + (s[3].toNat:Int) - (128:Int)) ∧ (128:Int) ≤ s[1].toNat ∧ (s[1].toNat:Int) ≤ 191 ∧ (128:Int) ≤ s[2].toNat ∧ (s[2].toNat:Int) ≤ 191 ∧ (128:Int) ≤ s[3].toNat ∧ (s[3].toNat:Int) ≤ 191)) (fun _ i=>4 - (intOf i).toNat)
 case atStart=>exact Or.inl ⟨rfl,rfl⟩
 case round=>
  rcases hrel with ⟨rfl,rfl⟩ | ⟨rfl,rfl,p1,q1⟩ | ⟨rfl,rfl,p1,q1,p2,q2⟩ | ⟨rfl,rfl,p1,q1,p2,q2,p3,q3⟩
  ·by_cases ha:(s[1].toNat:Int) < 128
   ·have hc:=HC.out
    have HZ:Hid ((0:Int) = (Pn.szN s.size s[0].toNat s[1].toNat s[2].toNat s[3].toNat:Nat)):=by show _ = _;rw [Pn.sz4_no _ _ _ _ _ hc (by unfold Pn.contP Pn.okP Pn.v4;omega)];rfl
    clear hc
    go_wp2
    go_ret
    exact ⟨ri HZ.out,rfl⟩
   ·by_cases hb:(191:Int) < s[1].toNat
    ·have hc:=HC.out
     have HZ:Hid ((0:Int) = (Pn.szN s.size s[0].toNat s[1].toNat s[2].toNat s[3].toNat:Nat)):=by show _ = _;rw [Pn.sz4_no _ _ _ _ _ hc (by unfold Pn.contP Pn.okP Pn.v4;omega)];rfl
     clear hc
     go_wp2
     go_ret
     exact ⟨ri HZ.out,rfl⟩
    ·go_wp2
     go_round
     case rel=>exact Or.inr (Or.inl ⟨rfl,rfl,by omega,by omega⟩)
     case measure=>simp [intOf]
  ·by_cases ha:(s[2].toNat:Int) < 128
   ·have hc:=HC.out
    have HZ:Hid ((0:Int) = (Pn.szN s.size s[0].toNat s[1].toNat s[2].toNat s[3].toNat:Nat)):=by show _ = _;rw [Pn.sz4_no _ _ _ _ _ hc (by unfold Pn.contP Pn.okP Pn.v4;omega)];rfl
    clear hc
    go_wp2
    go_ret
    exact ⟨ri HZ.out,rfl⟩
   ·by_cases hb:(191:Int) < s[2].toNat
    ·have hc:=HC.out
     have HZ:Hid ((0:Int) = (Pn.szN s.size s[0].toNat s[1].toNat s[2].toNat s[3].toNat:Nat)):=by show _ = _;rw [Pn.sz4_no _ _ _ _ _ hc (by unfold Pn.contP Pn.okP Pn.v4;omega)];rfl
     clear hc
     go_wp2
     go_ret
     exact ⟨ri HZ.out,rfl⟩
    ·go_wp2
     go_round
     case rel=>exact Or.inr (Or.inr (Or.inl ⟨rfl,rfl,p1,q1,by omega,by omega⟩))
     case measure=>simp [intOf]
  ·by_cases ha:(s[3].toNat:Int) < 128
   ·have hc:=HC.out
    have HZ:Hid ((0:Int) = (Pn.szN s.size s[0].toNat s[1].toNat s[2].toNat s[3].toNat:Nat)):=by show _ = _;rw [Pn.sz4_no _ _ _ _ _ hc (by unfold Pn.contP Pn.okP Pn.v4;omega)];rfl
    clear hc
    go_wp2
    go_ret
    exact ⟨ri HZ.out,rfl⟩
   ·by_cases hb:(191:Int) < s[3].toNat
    ·have hc:=HC.out
     have HZ:Hid ((0:Int) = (Pn.szN s.size s[0].toNat s[1].toNat s[2].toNat s[3].toNat:Nat)):=by show _ = _;rw [Pn.sz4_no _ _ _ _ _ hc (by unfold Pn.contP Pn.okP Pn.v4;omega)];rfl
     clear hc
     go_wp2
     go_ret
     exact ⟨ri HZ.out,rfl⟩
    ·go_wp2
     go_round
     case rel=>exact Or.inr (Or.inr (Or.inr (⟨rfl,rfl,p1,q1,p2,q2,by omega,by omega⟩)))
     case measure=>simp [intOf]
  ·by_cases ha:((64:Int) * ((64:Int) * ((64:Int) * ((s[0].toNat:Int) - (240:Int)) + (s[1].toNat:Int) - (128:Int)) + (s[2].toNat:Int) - (128:Int)) + (s[3].toNat:Int) - (128:Int)) < 65536
   ·have hc:=HC.out
    have HZ:Hid ((0:Int) = (Pn.szN s.size s[0].toNat s[1].toNat s[2].toNat s[3].toNat:Nat)):=by show _ = _;rw [Pn.sz4_no _ _ _ _ _ hc (by unfold Pn.contP Pn.okP Pn.v4;omega)];rfl
    clear hc
    go_wp2_with (go_at_call 47;refine (point_any _ _).mono ?_;rintro e w' ⟨rfl,rfl⟩)
    go_ret
    exact ⟨ri HZ.out,rfl⟩
   ·cases hv:Lib.validRune ((64:Int) * ((64:Int) * ((64:Int) * ((s[0].toNat:Int) - (240:Int)) + (s[1].toNat:Int) - (128:Int)) + (s[2].toNat:Int) - (128:Int)) + (s[3].toNat:Int) - (128:Int)) with
    | false=>
     have hv':=vr_false _ hv
     have hc:=HC.out
     have HZ:Hid ((0:Int) = (Pn.szN s.size s[0].toNat s[1].toNat s[2].toNat s[3].toNat:Nat)):=by show _ = _;rw [Pn.sz4_no _ _ _ _ _ hc (by unfold Pn.contP Pn.okP Pn.v4;omega)];rfl
     clear hc hv'
     go_wp2_with (go_at_call 47;refine (point_any _ _).mono ?_;rintro e w' ⟨rfl,rfl⟩)
     go_ret
     exact ⟨ri HZ.out,rfl⟩
    | true=>
     have hv':=vr_true _ hv
     have hc:=HC.out
     have HZ:Hid ((4:Int) = (Pn.szN s.size s[0].toNat s[1].toNat s[2].toNat s[3].toNat:Nat)):=by show _ = _;rw [Pn.sz4_yes _ _ _ _ _ hc (by unfold Pn.contP Pn.okP Pn.v4;omega)];rfl
     clear hc hv'
     go_wp2_with (go_at_call 47;refine (point_any _ _).mono ?_;rintro e w' ⟨rfl,rfl⟩)
     go_ret
     exact ⟨ri HZ.out,rfl⟩
theorem getD_at (s:ByteArray) (k:Nat) (h:k < s.size):s[k].toNat = (s.data.toList.getD k 0).toNat:=by
 rw [List.getD_eq_getElem?_getD,List.getElem?_eq_getElem (by rw [← Lib.size_eq];exact h)]
 rfl
theorem size_any (s:ByteArray) (w:World) (hs:s.size ≤ 100000) (h0:0 < s.size):
  Calls Tryz.prog 72 #[.string s] w fun e w'=>e = .returned (.int .i64 (Pn.szL s.data.toList:Nat)) ∧ w' = w:=by
 have e0:=getD_at s 0 h0
 unfold Pn.szL
 rw [← Lib.size_eq,← e0]
 by_cases c1:s[0].toNat < 128
 ·exact size_one s w _ _ _ hs h0 c1
 by_cases c2:s[0].toNat < 192 ∨ 248 ≤ s[0].toNat
 ·exact size_bad s w _ _ _ hs h0 (by omega)
 by_cases c3:s[0].toNat < 224
 ·by_cases hn:s.size < 2
  ·exact size_2s s w _ _ _ hs h0 hn (by omega)
  ·rw [← getD_at s 1 (by omega)]
   exact size_2 s w _ _ hs (by omega) (by omega)
 by_cases c4:s[0].toNat < 240
 ·by_cases hn:s.size < 3
  ·exact size_3s s w _ _ _ hs h0 hn (by omega)
  ·rw [← getD_at s 1 (by omega),← getD_at s 2 (by omega)]
   exact size_3 s w _ hs (by omega) (by omega)
 ·by_cases hn:s.size < 4
  ·exact size_4s s w _ _ _ hs h0 hn (by omega)
  ·rw [← getD_at s 1 (by omega),← getD_at s 2 (by omega),← getD_at s 3 (by omega)]
   exact size_4 s w hs (by omega) (by omega)
end Go.Proofs.YtaepcfidpekflaaGreatDoor
