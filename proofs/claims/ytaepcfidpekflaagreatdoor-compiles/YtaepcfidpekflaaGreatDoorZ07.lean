/-
  Several texts in one (Qh, Qc, Qd, Qi, Qj, Ps). By the verifier.
-/
import Derived.Test.YtaepcfidpekflaaGreatDoorZ06
import Derived.Test.YtaepcfidpekflaaGreatDoorZ03
import Derived.Test.YtaepcfidpekflaaGreatDoorZ04
import Derived.Test.YtaepcfidpekflaaGreatDoorZ05
namespace Go.Proofs.YtaepcfidpekflaaGreatDoor
open Go.RowKit
theorem three_rows (w:World) (x y z:Value) (t u s:TypeId):Row (((w.alloc (.cells #[x] t)).alloc (.cells #[y] u)).alloc (.cells #[z] s)) w.heap.size #[x] ∧ Row (((w.alloc (.cells #[x] t)).alloc (.cells #[y] u)).alloc (.cells #[z] s)) (w.heap.size + 1) #[y] ∧ Row (((w.alloc (.cells #[x] t)).alloc (.cells #[y] u)).alloc (.cells #[z] s)) (w.heap.size + 2) #[z]:=by
 obtain ⟨h1,h2⟩:=two_rows w x y t u
 refine ⟨h1.alloc _,h2.alloc _,?_⟩
 have:=row_at ((w.alloc (.cells #[x] t)).alloc (.cells #[y] u)) #[z] s
 simpa using this
theorem three_below (w:World) (o p q:Obj):Below w.heap.size w (((w.alloc o).alloc p).alloc q):=(two_below w o p).alloc (by simp;omega) q
set_option maxHeartbeats 400000 in
theorem span_any (P:Nat) (w:World) (x:Value) (o:Pr.Opd) (lo hi:Nat) (h1:lo ≤ 999999999) (h2:hi ≤ 999999999) (hP:P < w.heap.size) (hx:Opv P w x o):
  Calls Tryz.prog 278 #[x,.int .u64 lo,.int .u64 hi] w fun e w'=>(∃ v,e = .returned v ∧ Cnd P w' v (Pr.spanS o lo hi)) ∧ Below w.heap.size w w':=by
 obtain ⟨g1,l1,rfl,e1,c1⟩:=hx
 go_enter Tryz.func278,Tryz.ntmps278
 go_wp2
 go_ret
 refine ⟨⟨_,rfl,_,_,rfl,enters_span1,fun W hW hA m a b da db=>?_⟩,three_below _ _ _ _⟩
 obtain ⟨r1,r2,r3⟩:=three_rows w (.func (.func g1) #[] l1) (.int .u64 lo) (.int .u64 hi) 372 314 314
 have h0:=Up.after (three_below w (.cells #[.func (.func g1) #[] l1] 372) (.cells #[.int .u64 lo] 314) (.cells #[.int .u64 hi] 314)) hA
 exact span1_any m a b _ _ _ g1 l1 W _ _ lo hi (r1.up hA (by omega)) (r2.up hA (by omega)) (r3.up hA (by omega)) e1 (fun W' hW'=>c1 W' (hW.below hW') (h0.then hW') m a b da db) h1 h2
set_option maxHeartbeats 400000 in
theorem stretch_any (P:Nat) (w:World) (x:Value) (o:Pr.Opd) (lo hi:Nat) (h1:lo ≤ 999999999) (h2:hi ≤ 999999999) (hP:P < w.heap.size) (hx:Opv P w x o):
  Calls Tryz.prog 295 #[x,.int .u64 lo,.int .u64 hi] w fun e w'=>(∃ v,e = .returned v ∧ Cnd P w' v (Pr.stretchS o lo hi)) ∧ Below w.heap.size w w':=by
 obtain ⟨g1,l1,rfl,e1,c1⟩:=hx
 go_enter Tryz.func295,Tryz.ntmps295
 go_wp2
 go_ret
 refine ⟨⟨_,rfl,_,_,rfl,enters_stretch1,fun W hW hA m a b da db=>?_⟩,three_below _ _ _ _⟩
 obtain ⟨r1,r2,r3⟩:=three_rows w (.func (.func g1) #[] l1) (.int .u64 lo) (.int .u64 hi) 372 314 314
 have h0:=Up.after (three_below w (.cells #[.func (.func g1) #[] l1] 372) (.cells #[.int .u64 lo] 314) (.cells #[.int .u64 hi] 314)) hA
 exact stretch1_any m a b _ _ _ g1 l1 W _ _ lo hi (r1.up hA (by omega)) (r2.up hA (by omega)) (r3.up hA (by omega)) e1 (fun W' hW'=>c1 W' (hW.below hW') (h0.then hW') m a b da db) h1 h2
set_option maxHeartbeats 400000 in
theorem modulo_any (P:Nat) (w:World) (x:Value) (o:Pr.Opd) (mm:Nat) (h1:1 ≤ mm) (h2:mm ≤ 999999999) (hP:P < w.heap.size) (hx:Opv P w x o):
  Calls Tryz.prog 235 #[x,.int .u64 mm] w fun e w'=>(∃ v,e = .returned v ∧ Opv P w' v (Pr.modS o mm)) ∧ Below w.heap.size w w':=by
 obtain ⟨g1,l1,rfl,e1,c1⟩:=hx
 go_enter Tryz.func235,Tryz.ntmps235
 go_wp2
 go_ret
 refine ⟨⟨_,rfl,_,_,rfl,enters_mod1,fun W hW hA m a b da db=>?_⟩,two_below _ _ _⟩
 obtain ⟨r1,r2⟩:=two_rows w (.func (.func g1) #[] l1) (.int .u64 mm) 372 314
 have h0:=Up.after (two_below w (.cells #[.func (.func g1) #[] l1] 372) (.cells #[.int .u64 mm] 314)) hA
 refine (mod1_any m a b _ _ g1 l1 W (o a b).1 (o a b).2 mm (r1.up hA (by omega)) (r2.up hA (by omega)) e1 (fun W' hW'=>c1 W' (hW.below hW') (h0.then hW') m a b da db) hW h1 h2).mono fun e w' hh=>⟨⟨_,hh.1,?_,(dec_val _).1⟩,hh.2⟩
 exact dec_digs _ (by have:=Nat.mod_lt (o a b).1 h1;omega)
end Go.Proofs.YtaepcfidpekflaaGreatDoor
namespace Go.Proofs.YtaepcfidpekflaaGreatDoor
open Go.RowKit
theorem cont_one (x t:Pr.T):Lib.containsS [⟨x.toArray⟩] ⟨t.toArray⟩ = decide (t = x):=by
 by_cases h:t = x
 ·rw [decide_eq_true h];rw [Lib.containsS_iff];simp [h]
 ·rw [decide_eq_false h]
  cases e:Lib.containsS [⟨x.toArray⟩] ⟨t.toArray⟩ with
  | false=>rfl
  | true=>rw [Lib.containsS_iff] at e;simp at e;exact absurd e h
theorem cont_two (x y t:Pr.T):Lib.containsS [⟨x.toArray⟩,⟨y.toArray⟩] ⟨t.toArray⟩ = decide (t = x ∨ t = y):=by
 by_cases h:t = x ∨ t = y
 ·rw [decide_eq_true h];rw [Lib.containsS_iff];simpa using h
 ·rw [decide_eq_false h]
  cases e:Lib.containsS [⟨x.toArray⟩,⟨y.toArray⟩] ⟨t.toArray⟩ with
  | false=>rfl
  | true=>rw [Lib.containsS_iff] at e;simp at e;exact absurd e h
set_option maxHeartbeats 400000 in
theorem take_nil (P:Nat) (w:World) (v:Value) (h:Left P w []):
  Calls Tryz.prog 214 #[.pointer (some ⟨P,0,none⟩),v] w fun e w'=>e = .returned (.bool false) ∧ Left P w' [] ∧ Ag P w w':=by
 obtain ⟨a,c,h1,h2,h3,h4⟩:=h
 have q1:=h1.2.1
 have q2:=h1.2.2
 go_enter Tryz.func214,Tryz.ntmps214
 go_wp2
 go_ret
 exact ⟨rfl,⟨a,c,h1,h2,h3,.inl rfl⟩,Ag.refl _ _⟩
set_option maxHeartbeats 400000 in
theorem take_core (P:Nat) (w:World) (t:Pr.T) (l:List Pr.T) (v:Value) (hit:Bool) (h:Left P w (t :: l))
  (hc:Calls Tryz.prog 154 #[v,.string ⟨t.toArray⟩] w fun e w'=>e = .returned (.bool hit) ∧ w' = w):
  Calls Tryz.prog 214 #[.pointer (some ⟨P,0,none⟩),v] w fun e w'=>e = .returned (.bool hit) ∧ Left P w' (if hit then l else t :: l) ∧ Ag P w w':=by
 obtain ⟨a,c,h1,h2,h3,h4⟩:=h
 have q1:=h1.2.1
 have q2:=h1.2.2
 rcases h4 with h4 | ⟨blk,off,rfl,h5,h6,h7⟩
 ·cases h4
 obtain ⟨h3,hsm⟩:=h3
 have q0:=h7 0 (by simp)
 simp only [List.length_cons] at h2 h3 q1
 have q0':w.cell? ⟨blk,off,none⟩ = some (.string ⟨t.toArray⟩):=by simpa using q0
 clear q0
 go_enter Tryz.func214,Tryz.ntmps214
 go_wp2_with fail
 refine hc.mono ?_
 rintro e w1 ⟨rfl,rfl⟩
 cases hit with
 | false=>
  go_wp2
  go_ret
  exact ⟨rfl,⟨_,c,h1,h2,⟨h3,hsm⟩,.inr ⟨blk,off,rfl,h5,h6,h7⟩⟩,Ag.refl _ _⟩
 | true=>
  by_cases e:c = 1
  ·obtain rfl:l = []:=List.length_eq_zero_iff.1 (by omega)
   subst e
   go_wp2
   go_ret
   exact ⟨rfl,left_set h1 _ _ [] (by simp) ⟨by simp,small_tail hsm⟩ (.inl rfl),(Ag.refl P w1).setCell 0 _⟩
  ·go_wp2
   go_ret
   exact ⟨rfl,left_set h1 _ _ l (by omega) ⟨by omega,small_tail hsm⟩ (txts_tail h5 h6 h7),(Ag.refl P w1).setCell 0 _⟩
def took (b:Bool) (l:List Pr.T):List Pr.T:=if b then l.tail else l
def isHead (x:Pr.T):List Pr.T → Bool
 | []=>false
 | t :: _=>decide (t = x)
theorem take_one (P Q:Nat) (w:World) (l:List Pr.T) (x:Pr.T) (h:Left P w l) (hQ:Row w Q #[.string ⟨x.toArray⟩]):
  Calls Tryz.prog 214 #[.pointer (some ⟨P,0,none⟩),.slice (some ⟨Q,0,none⟩) 1 1] w fun e w'=>e = .returned (.bool (isHead x l)) ∧ Left P w' (took (isHead x l) l) ∧ Ag P w w':=by
 cases l with
 | nil=>exact take_nil P w _ h
 | cons t l=>
  refine (take_core P w t l _ (decide (t = x)) h ?_).mono fun e w' hh=>?_
  ·have:=Tryz.slices_Contains_string Q 0 1 1 [⟨x.toArray⟩] ⟨t.toArray⟩ w (by simp) (by simp) (fun j hj=>by
    have:j = 0:=by simpa using hj
    subst this
    simpa using hQ.2.1 0)
   simp only [List.take_one,List.head?_cons,Option.toList_some] at this
   rw [cont_one] at this
   exact this
  ·obtain ⟨h1,h2,h3⟩:=hh
   refine ⟨h1,?_,h3⟩
   unfold took isHead
   exact h2
theorem take_two (P Q:Nat) (w:World) (l:List Pr.T) (x y:Pr.T) (h:Left P w l) (hQ:Row w Q #[.string ⟨x.toArray⟩,.string ⟨y.toArray⟩]):
  Calls Tryz.prog 214 #[.pointer (some ⟨P,0,none⟩),.slice (some ⟨Q,0,none⟩) 2 2] w fun e w'=>e = .returned (.bool (isHead x l || isHead y l)) ∧ Left P w' (took (isHead x l || isHead y l) l) ∧ Ag P w w':=by
 cases l with
 | nil=>exact take_nil P w _ h
 | cons t l=>
  refine (take_core P w t l _ (decide (t = x ∨ t = y)) h ?_).mono fun e w' hh=>?_
  ·have:=Tryz.slices_Contains_string Q 0 2 2 [⟨x.toArray⟩,⟨y.toArray⟩] ⟨t.toArray⟩ w (by simp) (by simp) (fun j hj=>by
    match j,hj with
    | 0,_=>simpa using hQ.2.1 0
    | 1,_=>simpa using hQ.2.1 1)
   simp only [List.take_succ_cons,List.take_zero] at this
   rw [cont_two] at this
   exact this
  ·obtain ⟨h1,h2,h3⟩:=hh
   have:decide (t = x ∨ t = y) = (isHead x (t :: l) || isHead y (t :: l)):=by simp [isHead]
   rw [← this]
   exact ⟨h1,h2,h3⟩
theorem parse_val:∀ (l:List UInt8) (acc k:Nat),(∀ c ∈ l,Pn.isDig c = true) → acc < 10 ^ k → k + l.length ≤ 18 → Lib.parseUintM (2 ^ 64 - 1) acc l = .ok (l.foldl (fun v c=>10 * v + (c.toNat - 48)) acc):=by
 intro l
 induction l with
 | nil=>intro acc k _ _ _;rfl
 | cons c r ih=>
  intro acc k hd ha hk
  have hc:=(Pn.isDig_iff c).1 (hd c (by simp))
  simp only [List.length_cons] at hk
  have hp:10 ^ (k + 1) ≤ 10 ^ 18:=Nat.pow_le_pow_right (by omega) (by omega)
  have hp2:10 ^ (k + 1) = 10 * 10 ^ k:=by rw [Nat.pow_succ];omega
  have e18:(10:Nat) ^ 18 = 1000000000000000000:=by decide
  have e64:(2:Nat) ^ 64 - 1 = 18446744073709551615:=by decide
  simp only [Lib.parseUintM,List.foldl_cons]
  rw [if_pos hc,if_neg (by omega),if_neg (by rw [e64];omega),show acc * 10 + (c.toNat - 48) = 10 * acc + (c.toNat - 48) by omega]
  exact ih _ (k + 1) (fun x hx=>hd x (by simp [hx])) (by omega) (by omega)
theorem parse_digs:∀ (l:List UInt8) (acc u:Nat),Lib.parseUintM (2 ^ 64 - 1) acc l = .ok u → ∀ c ∈ l,Pn.isDig c = true:=by
 intro l
 induction l with
 | nil=>intro _ _ _ c hc;cases hc
 | cons x r ih=>
  intro acc u h c hc
  simp only [Lib.parseUintM] at h
  split at h
  ·rename_i hx
   split at h
   ·cases h
   ·split at h
    ·cases h
    ·rcases List.mem_cons.1 hc with rfl | hc
     ·exact (Pn.isDig_iff _).2 hx
     ·exact ih _ _ h c hc
  ·cases h
theorem digitsB_iff (l:List UInt8):Pn.digitsB l = true ↔ l ≠ [] ∧ ∀ c ∈ l,Pn.isDig c = true:=by
 cases l <;> simp [Pn.digitsB]
theorem parse_fig (t:Pr.T) (v:Nat) (h:Pr.fig t = some v):Lib.parseUintB 64 t = .ok v ∧ t.length ≤ 9 ∧ (t.length = 1 ∨ t.head? ≠ some 48) ∧ t ≠ []:=by
 unfold Pr.fig at h
 split at h
 ·rename_i c
  obtain ⟨c1,c2,c3⟩:=c
  obtain ⟨d1,d2⟩:=(digitsB_iff t).1 c1
  refine ⟨?_,c2,c3,d1⟩
  rw [Lib.parseUintB,if_neg d1,parse_val t 0 0 d2 (by decide) (by omega)]
  injection h with h
  rw [← h];rfl
 ·cases h
theorem parse_nofig (t:Pr.T) (h:Pr.fig t = none) (u:Nat) (hu:Lib.parseUintB 64 t = .ok u):9 < t.length ∨ (1 < t.length ∧ t.head? = some 48):=by
 unfold Lib.parseUintB at hu
 split at hu
 ·cases hu
 ·rename_i hne
  have hd:=parse_digs t 0 u hu
  unfold Pr.fig at h
  split at h
  ·cases h
  ·rename_i c
   have hD:=(digitsB_iff t).2 ⟨hne,hd⟩
   rcases Nat.lt_or_ge 9 t.length with h9 | h9
   ·exact .inl h9
   ·right
    have h1:t.length ≠ 1:=fun h1=>c ⟨hD,h9,.inl h1⟩
    have h0:t.length ≠ 0:=fun h0=>hne (List.length_eq_zero_iff.1 h0)
    refine ⟨by omega,?_⟩
    cases e:decide (t.head? = some 48) with
    | true=>exact of_decide_eq_true e
    | false=>exact absurd ⟨hD,h9,.inr (of_decide_eq_false e)⟩ c
theorem head_data (t:Pr.T) (h:0 < t.length):∃ c r,t = c :: r:=by
 cases t with
 | nil=>simp at h
 | cons c r=>exact ⟨c,r,rfl⟩
end Go.Proofs.YtaepcfidpekflaaGreatDoor
namespace Go.Proofs.YtaepcfidpekflaaGreatDoor
open Go.RowKit
theorem Left.head {P:Nat} {w:World} {l:List Pr.T} (h:Left P w l):(l.headD []).length ≤ 1000:=by
 obtain ⟨a,c,h1,h2,⟨h3,hs⟩,h4⟩:=h
 cases l with
 | nil=>simp
 | cons t l=>exact hs.out t (by simp)
theorem below_bytes {w w':World} {t:TypeId} {s:ByteArray} (h:w' = w ∨ w' = Lib.bytesWorld w t s):Below w.heap.size w w':=by
 rcases h with rfl | rfl
 ·exact Below.refl _ _
 ·exact Lib.bytesWorld_below _ _ _
set_option maxHeartbeats 400000 in
theorem value_yes (P:Nat) (w:World) (t:Pr.T) (l:List Pr.T) (v:Nat) (hL:Left P w (t :: l)) (hf:Pr.fig t = some v):
  Calls Tryz.prog 234 #[.pointer (some ⟨P,0,none⟩)] w fun e w'=>e = .returned (.tuple #[.int .u64 v,.nilIface]) ∧ Left P w' l ∧ Ag P w w':=by
 obtain ⟨p1,p2,p3,p4⟩:=parse_fig t v hf
 have hn:=next_any P w _ hL
 simp only [List.headD_cons,List.tail_cons] at hn
 have hp:=fun W=>Tryz.strconv_ParseUint_10_at64_ok ⟨t.toArray⟩ (by show t.toArray.size ≤ _;simp;omega) v (by simpa using p1) W
 clear hL hf p1
 obtain ⟨c,r,rfl⟩:=head_data t (List.length_pos_iff.2 p4)
 go_enter Tryz.func234,Tryz.ntmps234
 go_wp2_with fail
 refine hn.mono ?_
 rintro e w1 ⟨rfl,hl1,ha1⟩
 go_wp2_with fail
 refine (hp _).mono ?_
 rintro e w2 ⟨rfl,h2⟩
 have hb2:=below_bytes h2
 clear h2 hp hn
 simp only [List.length_cons,List.head?_cons] at p2 p3
 have hx:¬ (9:Int) < r.length + 1:=by omega
 by_cases h1:r.length = 0
 ·have h1':¬ (1:Int) < r.length + 1:=by omega
  go_wp2
  go_ret2
  exact ⟨rfl,hl1.then hb2,ha1.then hb2⟩
 ·have h1':(1:Int) < r.length + 1:=by omega
  have hc:∀ h,((((⟨(c :: r).toArray⟩:ByteArray)[0]'h).toNat:Int) == 48) = false:=fun h=>by
   have:c ≠ 48:=by
    rcases p3 with p3 | p3
    ·omega
    ·simpa using p3
   show ((c.toNat:Int) == 48) = false
   rw [beq_eq_false_iff_ne]
   intro e
   exact this (UInt8.toNat_inj.1 (by show c.toNat = 48;omega))
  go_wp2
  go_ret2
  exact ⟨rfl,hl1.then hb2,ha1.then hb2⟩
set_option maxHeartbeats 400000 in
theorem value_bad (P:Nat) (w:World) (l:List Pr.T) (t:Pr.T) (ht:Hid (l.headD [] = t)) (x:Value) (hL:Left P w l) (hp:∀ W,Ag P w W → Calls Tryz.prog 254 #[.string ⟨t.toArray⟩,.int .i64 10,.int .i64 64] W fun e w'=>(∃ t p,e = .returned (.tuple #[x,.iface t p])) ∧ Below W.heap.size W w'):
  Calls Tryz.prog 234 #[.pointer (some ⟨P,0,none⟩)] w fun e w'=>e = .returned (.tuple #[.int .u64 0,errRule]) ∧ Ag P w w':=by
 have hn:=next_any P w _ hL
 rw [ht.out] at hn
 go_enter Tryz.func234,Tryz.ntmps234
 go_wp2_with fail
 refine hn.mono ?_
 rintro e w1 ⟨rfl,hl1,ha1⟩
 go_wp2_with fail
 refine (hp _ ha1).mono ?_
 rintro e w2 ⟨⟨t,p,rfl⟩,hb2⟩
 clear hp hL hn
 go_wp2
 go_ret2
 exact ⟨rfl,ha1.then hb2⟩
set_option maxHeartbeats 400000 in
theorem value_big (P:Nat) (w:World) (t:Pr.T) (l:List Pr.T) (u:Nat) (hL:Left P w (t :: l)) (hu:Lib.parseUintB 64 t = .ok u) (hbad:9 < t.length ∨ (1 < t.length ∧ t.head? = some 48)):
  Calls Tryz.prog 234 #[.pointer (some ⟨P,0,none⟩)] w fun e w'=>e = .returned (.tuple #[.int .u64 0,errRule]) ∧ Ag P w w':=by
 have hn:=next_any P w _ hL
 have hlen:=hL.head
 simp only [List.headD_cons,List.tail_cons] at hn hlen
 have hp:=fun W=>Tryz.strconv_ParseUint_10_at64_ok ⟨t.toArray⟩ (by show t.toArray.size ≤ _;simp;omega) u (by simpa using hu) W
 clear hL hu
 obtain ⟨c,r,rfl⟩:=head_data t (by omega)
 go_enter Tryz.func234,Tryz.ntmps234
 go_wp2_with fail
 refine hn.mono ?_
 rintro e w1 ⟨rfl,hl1,ha1⟩
 go_wp2_with fail
 refine (hp _).mono ?_
 rintro e w2 ⟨rfl,h2⟩
 have hb2:=below_bytes h2
 clear h2 hp hn
 simp only [List.length_cons,List.head?_cons] at hbad hlen
 by_cases h9:9 < r.length + 1
 ·have hx:(9:Int) < r.length + 1:=by omega
  clear hbad
  go_wp2
  go_ret2
  exact ⟨rfl,ha1.then hb2⟩
 ·have hx:¬ (9:Int) < r.length + 1:=by omega
  obtain ⟨h1,hc⟩:=hbad.resolve_left h9
  have h1':(1:Int) < r.length + 1:=by omega
  have hc:∀ h,((((⟨(c :: r).toArray⟩:ByteArray)[0]'h).toNat:Int) == 48) = true:=fun h=>by
   have:c = 48:=by simpa using hc
   subst this
   rfl
  go_wp2
  go_ret2
  exact ⟨rfl,ha1.then hb2⟩
theorem value_no (P:Nat) (w:World) (l:List Pr.T) (hX:BaseX P w) (hL:Left P w l) (hv:Pr.value l = none):
  Calls Tryz.prog 234 #[.pointer (some ⟨P,0,none⟩)] w fun e w'=>e = .returned (.tuple #[.int .u64 0,errRule]) ∧ Ag P w w':=by
 have hf:Pr.fig (l.headD []) = none:=by
  cases l with
  | nil=>rfl
  | cons t l=>
   simp only [Pr.value] at hv
   split at hv
   ·assumption
   ·cases hv
 have hlen:=hL.head
 cases hu:Lib.parseUintB 64 (l.headD []) with
 | ok u=>
  cases l with
  | nil=>cases hu
  | cons t l=>exact value_big P w t l u hL hu (parse_nofig _ hf u hu)
 | range=>
  refine value_bad P w l _ rfl (.int .u64 18446744073709551615) hL fun W hW=>?_
  obtain ⟨t5,p5,h5⟩:=(hX W hW).2.2.2.2.2
  refine (Tryz.strconv_ParseUint_10_at64_range ⟨(l.headD []).toArray⟩ (by show (l.headD []).toArray.size ≤ _;simp only [List.size_toArray];omega) (by simpa using hu) _ W h5 (.inr ⟨_,_,rfl⟩)).mono ?_
  rintro e w' ⟨N,h1,_,_,h4⟩
  exact ⟨⟨_,_,h1⟩,h4⟩
 | _ =>
  refine value_bad P w l _ rfl (.int .u64 0) hL fun W hW=>?_
  obtain ⟨t5,p5,h5⟩:=(hX W hW).2.2.2.2.1
  refine (Tryz.strconv_ParseUint_10_at64_none ⟨(l.headD []).toArray⟩ (by show (l.headD []).toArray.size ≤ _;simp only [List.size_toArray];omega) (fun n (e : Lib.parseUintB 64 (l.headD []) = .ok n) => by rw [hu] at e; cases e) (fun (e : Lib.parseUintB 64 (l.headD []) = .range) => by rw [hu] at e; cases e) _ W h5 (.inr ⟨_,_,rfl⟩)).mono ?_
  rintro e w' ⟨N,h1,_,_,h4⟩
  exact ⟨⟨_,_,h1⟩,h4⟩
end Go.Proofs.YtaepcfidpekflaaGreatDoor
namespace Go.Proofs.YtaepcfidpekflaaGreatDoor
open Go.RowKit
def leftLen (P:Nat) (w:World):Nat:=match w.cell? ⟨P,0,none⟩ with
 | some (.slice _ n _)=>n
 | _=>0
theorem Left.len {P:Nat} {w:World} {l:List Pr.T} (h:Left P w l):leftLen P w = l.length:=by
 obtain ⟨a,c,h1,_⟩:=h
 have:=h1.2.1 0
 simp [leftLen,this]
theorem Left.lt {P:Nat} {w:World} {l:List Pr.T} (h:Left P w l):P < w.heap.size:=by
 obtain ⟨a,c,h1,_⟩:=h
 exact h1.1
def Joins (P:Nat) (J:Nat) (jn:Pr.Sem → Pr.Sem → Pr.Sem):Prop:=∀ W a b f g,P < W.heap.size → Cnd P W a f → Cnd P W b g → Calls Tryz.prog J #[a,b] W fun e w'=>(∃ v,e = .returned v ∧ Cnd P w' v (jn f g)) ∧ Below W.heap.size W w'
theorem joins_either (P:Nat):Joins P 190 Pr.orS:=fun W a b f g hP ha hb=>either_any P W a b f g hP ha hb
theorem joins_both (P:Nat):Joins P 216 Pr.andS:=fun W a b f g hP ha hb=>both_any P W a b f g hP ha hb
set_option maxHeartbeats 800000 in
theorem row_any (P:Nat) (w:World) (l:List Pr.T) (mv:Value) (rd:Pr.Rd) (t:Pr.T) (J:Nat) (jn:Pr.Sem → Pr.Sem → Pr.Sem) (eJ:Enters J) (cJ:Joins P J jn) (hlen:∀ l f r,rd l = some (f,r) → r.length ≤ l.length)
  (hX:BaseX P w) (hL:Left P w l) (hm:Rdv P w mv rd):
  Calls Tryz.prog 188 #[.pointer (some ⟨P,0,none⟩),mv,.string ⟨t.toArray⟩,.func (.func J) #[] #[]] w fun e w'=>Said P w (Pr.rowP rd t jn l) e w':=by
 obtain ⟨g,bd,lb,rfl,eg,cm⟩:=hm
 unfold Enters at eg eJ
 have c0:=cm w l hX (Ag.refl _ _) hL
 go_enter Tryz.func188,Tryz.ntmps188
 go_wp2_with fail
 refine c0.mono ?_
 rintro e w1 ⟨ha1,hs⟩
 clear c0
 cases hr:rd l with
 | none=>
  rw [hr] at hs
  obtain rfl:=hs
  have hR:Hid (Pr.rowP rd t jn l = none):=by show _ = _;simp only [Pr.rowP,hr]
  unfold errRule
  go_wp2
  go_ret2
  refine ⟨ha1,?_⟩
  rw [hR.out]
  rfl
 | some x=>
  obtain ⟨f,r⟩:=x
  rw [hr] at hs
  obtain ⟨v,rfl,hc,hl⟩:=hs
  have hR:Hid (Pr.rowP rd t jn l = Pr.rowGo rd t jn r.length f r):=by show _ = _;simp only [Pr.rowP,hr]
  go_wp2_with fail
  go_loopw [10] (fun x wr=>∃ (k:Nat) (f':Pr.Sem) (r':List Pr.T),r'.length ≤ k ∧ Cnd P wr x f' ∧ Left P wr r' ∧ Ag P w wr ∧ Hid (Pr.rowP rd t jn l = Pr.rowGo rd t jn k f' r')) (fun _ wr=>leftLen P wr)
  case atStart=>exact ⟨r.length,f,r,Nat.le_refl _,hc,hl,ha1,hR⟩
  case round=>
   clear hc hl ha1 hR hr
   obtain ⟨k,f',r',hk,hc,hl,ha,hR⟩:=hrel
   have hb0:=(Below.refl wr.heap.size wr).alloc (Nat.le_refl _) (.cells #[.string ⟨t.toArray⟩] 9)
   have hl0:=hl.then hb0
   have hlen0:=hl.len
   have ct:=take_one P wr.heap.size _ r' t hl0 (row_at wr #[.string ⟨t.toArray⟩] 9)
   go_wp2_with fail
   refine ct.mono ?_
   rintro e w2 ⟨rfl,hl2,ha2⟩
   replace ha2:=(Ag.of (P:=P) hb0 (Nat.le_refl _)).trans ha2
   have hc2:=hc.later ha2
   have hA2:=ha.trans ha2
   clear hl0 ct hb0
   cases r' with
   | nil=>
    simp only [isHead,took] at hl2 ⊢
    have hR2:Hid (Pr.rowP rd t jn l = some (f',[])):=by
     show _ = _
     rw [hR.out]
     cases k <;> rfl
    go_wp2
    go_ret2
    refine ⟨hA2,?_⟩
    rw [hR2.out]
    exact ⟨_,rfl,hc2,hl2⟩
   | cons u r'=>
    by_cases hu:u = t
    ·have hd:decide (u = t) = true:=decide_eq_true hu
     simp only [isHead,hd,took,if_true,List.tail_cons] at hl2 ⊢
     obtain ⟨k,rfl⟩:∃ k',k = k' + 1:=⟨k - 1,by simp at hk;omega⟩
     have cm2:=cm w2 r' (hX.later hA2) hA2 hl2
     go_wp2_with fail
     refine cm2.mono ?_
     rintro e w3 ⟨ha3,hs⟩
     clear cm2
     have hA3:=hA2.trans ha3
     cases hr:rd r' with
     | none=>
      rw [hr] at hs
      obtain rfl:=hs
      have hR2:Hid (Pr.rowP rd t jn l = none):=by
       show _ = _
       rw [hR.out]
       simp only [Pr.rowGo,hu,if_true,hr]
      unfold errRule
      go_wp2
      go_ret2
      refine ⟨hA3,?_⟩
      rw [hR2.out]
      rfl
     | some x=>
      obtain ⟨g2,r3⟩:=x
      rw [hr] at hs
      obtain ⟨v3,rfl,hc3,hl3⟩:=hs
      have hR2:Hid (Pr.rowP rd t jn l = Pr.rowGo rd t jn k (jn f' g2) r3):=by
       show _ = _
       rw [hR.out]
       simp only [Pr.rowGo,hu,if_true,hr]
      have hle:=hlen _ _ _ hr
      have cj:=cJ w3 _ _ _ _ hl3.lt (hc2.later ha3) hc3
      go_wp2_with fail
      refine cj.mono ?_
      rintro e w4 ⟨⟨v4,rfl,hc4⟩,hb4⟩
      clear cj
      go_wp2
      go_roundw
      case rel=>exact ⟨k,_,r3,by simp at hk;omega,hc4,hl3.then hb4,hA3.then hb4,hR2⟩
      case measure=>
       rw [(hl3.then hb4).len,hlen0]
       simp
       omega
    ·have hd:decide (u = t) = false:=decide_eq_false hu
     simp only [isHead,hd,took] at hl2 ⊢
     obtain ⟨k,rfl⟩:∃ k',k = k' + 1:=⟨k - 1,by simp at hk;omega⟩
     have hR2:Hid (Pr.rowP rd t jn l = some (f',u :: r')):=by
      show _ = _
      rw [hR.out]
      simp only [Pr.rowGo,hu,if_false]
     go_wp2
     go_ret2
     refine ⟨hA2,?_⟩
     rw [hR2.out]
     exact ⟨_,rfl,hc2,hl2⟩
end Go.Proofs.YtaepcfidpekflaaGreatDoor
namespace Go.Proofs.YtaepcfidpekflaaGreatDoor
open Go.RowKit
theorem fig_le {t:Pr.T} {v:Nat} (h:Pr.fig t = some v):v ≤ 999999999:=by
 unfold Pr.fig at h
 split at h
 ·rename_i c
  injection h with h
  have:=val_lt t ((digitsB_iff t).1 c.1).2
  have hp:10 ^ t.length ≤ 10 ^ 9:=Nat.pow_le_pow_right (by omega) c.2.1
  have h9:(10:Nat) ^ 9 = 1000000000:=by decide
  omega
 ·cases h
theorem value_said (P:Nat) (w:World) (l:List Pr.T) (hX:BaseX P w) (hL:Left P w l):
  Calls Tryz.prog 234 #[.pointer (some ⟨P,0,none⟩)] w fun e w'=>Ag P w w' ∧ match Pr.value l with
   | none=>e = .returned (.tuple #[.int .u64 0,errRule])
   | some (v,r)=>e = .returned (.tuple #[.int .u64 v,.nilIface]) ∧ Left P w' r ∧ v ≤ 999999999:=by
 cases hv:Pr.value l with
 | none=>exact (value_no P w l hX hL hv).mono fun e w' h=>⟨h.2,h.1⟩
 | some x=>
  obtain ⟨v,r⟩:=x
  cases l with
  | nil=>cases hv
  | cons t l=>
   cases hf:Pr.fig t with
   | none=>simp [Pr.value,hf] at hv
   | some u=>
    simp only [Pr.value,hf,Option.some.injEq,Prod.mk.injEq] at hv
    obtain ⟨rfl,rfl⟩:=hv
    exact (value_yes P w t l u hL hf).mono fun e w' h=>⟨h.2.2,h.1,h.2.1,fig_le hf⟩
theorem item_bad (o:Pr.Opd) (wi:Bool) (l:List Pr.T) (h:Pr.value l = none):Pr.itemP o wi l = none:=by simp [Pr.itemP,Pr.valueP,h]
theorem item_one (o:Pr.Opd) (wi:Bool) (l r:List Pr.T) (v:Nat) (h:Pr.value l = some (v,r)) (hd:isHead [46,46] r = false):Pr.itemP o wi l = some (Pr.inS o wi v v,r):=by
 cases r with
 | nil=>simp [Pr.itemP,Pr.valueP,h,Pr.itemK]
 | cons t r=>
  have:t ≠ [46,46]:=by simpa [isHead] using hd
  simp [Pr.itemP,Pr.valueP,h,Pr.itemK,this]
theorem item_two (o:Pr.Opd) (wi:Bool) (l r:List Pr.T) (v:Nat) (h:Pr.value l = some (v,r)) (hd:isHead [46,46] r = true):Pr.itemP o wi l = match Pr.value r.tail with
  | none=>none
  | some (hi,r')=>if hi < v then none else some (Pr.inS o wi v hi,r'):=by
 cases r with
 | nil=>cases hd
 | cons t r=>
  have:t = [46,46]:=by simpa [isHead] using hd
  subst this
  simp only [Pr.itemP,Pr.valueP,h,Pr.itemK,if_true,List.tail_cons]
  cases Pr.value r <;> rfl
set_option maxHeartbeats 800000 in
theorem item_any (P:Nat) (w:World) (l:List Pr.T) (x:Value) (o:Pr.Opd) (wi:Bool) (hX:BaseX P w) (hL:Left P w l) (hx:Opv P w x o):
  Calls Tryz.prog 276 #[.pointer (some ⟨P,0,none⟩),x,.bool wi] w fun e w'=>Said P w (Pr.itemP o wi l) e w':=by
 have cv:=value_said P w l hX hL
 obtain ⟨S,hS⟩:∃ S,Hid (Pr.itemP o wi l = S):=⟨_,rfl⟩
 rw [hS.out]
 have hxv:∃ g lb,x = .func (.func g) #[] lb:=by obtain ⟨g,lb,h,_⟩:=hx;exact ⟨g,lb,h⟩
 obtain ⟨g,lb,rfl⟩:=hxv
 go_enter Tryz.func276,Tryz.ntmps276
 go_wp2_with fail
 refine cv.mono ?_
 rintro e w1 ⟨ha1,hs⟩
 clear cv
 cases hv:Pr.value l with
 | none=>
  rw [hv] at hs
  obtain rfl:=hs
  have hR:Hid (S = none):=hS.out.symm.trans (item_bad o wi l hv)
  unfold errRule
  go_wp2
  go_ret2
  refine ⟨ha1,?_⟩
  rw [hR.out]
  rfl
 | some y=>
  obtain ⟨lo,r⟩:=y
  rw [hv] at hs
  obtain ⟨rfl,hl1,hlo⟩:=hs
  have hb0:=(Below.refl w1.heap.size w1).alloc (Nat.le_refl _) (.cells #[.string ⟨#[46,46]⟩] 9)
  have ct:=take_one P w1.heap.size _ r [46,46] (hl1.then hb0) (row_at w1 #[.string ⟨#[46,46]⟩] 9)
  go_wp2_with fail
  refine ct.mono ?_
  rintro e w2 ⟨rfl,hl2,ha2⟩
  replace ha2:=ha1.trans ((Ag.of (P:=P) hb0 (Nat.le_refl _)).trans ha2)
  clear ct hb0
  have hx2:=hx.later ha2
  cases hd:isHead [46,46] r with
  | false=>
   rw [hd] at hl2
   have hR:Hid (S = some (Pr.inS o wi lo lo,r)):=hS.out.symm.trans (item_one o wi l r lo hv hd)
   have hnl:¬ (lo:Int) < lo:=by omega
   cases wi with
   | false=>
    have cs:=span_any P w2 _ o lo lo hlo hlo hl2.lt hx2
    go_wp2_with (go_at_call 278;refine cs.mono ?_;rintro e w3 ⟨⟨v3,rfl,hc3⟩,hb3⟩)
    go_ret2
    refine ⟨ha2.then hb3,?_⟩
    rw [hR.out]
    exact ⟨_,rfl,hc3,hl2.then hb3⟩
   | true=>
    have cs:=stretch_any P w2 _ o lo lo hlo hlo hl2.lt hx2
    go_wp2_with (go_at_call 295;refine cs.mono ?_;rintro e w3 ⟨⟨v3,rfl,hc3⟩,hb3⟩)
    go_ret2
    refine ⟨ha2.then hb3,?_⟩
    rw [hR.out]
    exact ⟨_,rfl,hc3,hl2.then hb3⟩
  | true=>
   rw [hd] at hl2
   have hl2':Left P w2 r.tail:=hl2
   have hR0:=item_two o wi l r lo hv hd
   have cv2:=value_said P w2 r.tail (hX.later ha2) hl2'
   go_wp2_with fail
   refine cv2.mono ?_
   rintro e w3 ⟨ha3,hs⟩
   clear cv2
   have hA3:=ha2.trans ha3
   cases hv2:Pr.value r.tail with
   | none=>
    rw [hv2] at hs hR0
    obtain rfl:=hs
    have hR:Hid (S = none):=hS.out.symm.trans hR0
    clear hR0
    unfold errRule
    go_wp2
    go_ret2
    refine ⟨hA3,?_⟩
    rw [hR.out]
    rfl
   | some y=>
    obtain ⟨hi,r2⟩:=y
    rw [hv2] at hs hR0
    obtain ⟨rfl,hl3,hhi⟩:=hs
    have hx3:=hx2.later ha3
    by_cases hlt:hi < lo
    ·have hlt':(hi:Int) < lo:=by omega
     have hR:Hid (S = none):=hS.out.symm.trans (hR0.trans (if_pos hlt))
     clear hR0
     go_wp2
     go_ret2
     refine ⟨hA3,?_⟩
     rw [hR.out]
     rfl
    ·have hlt':¬ (hi:Int) < lo:=by omega
     have hR:Hid (S = some (Pr.inS o wi lo hi,r2)):=hS.out.symm.trans (hR0.trans (if_neg hlt))
     clear hR0
     cases wi with
     | false=>
      have cs:=span_any P w3 _ o lo hi hlo hhi hl3.lt hx3
      go_wp2_with (go_at_call 278;refine cs.mono ?_;rintro e w4 ⟨⟨v3,rfl,hc3⟩,hb3⟩)
      go_ret2
      refine ⟨hA3.then hb3,?_⟩
      rw [hR.out]
      exact ⟨_,rfl,hc3,hl3.then hb3⟩
     | true=>
      have cs:=stretch_any P w3 _ o lo hi hlo hhi hl3.lt hx3
      go_wp2_with (go_at_call 295;refine cs.mono ?_;rintro e w4 ⟨⟨v3,rfl,hc3⟩,hb3⟩)
      go_ret2
      refine ⟨hA3.then hb3,?_⟩
      rw [hR.out]
      exact ⟨_,rfl,hc3,hl3.then hb3⟩
end Go.Proofs.YtaepcfidpekflaaGreatDoor
namespace Go.Proofs.YtaepcfidpekflaaGreatDoor.Pr
def partsAt (sep:T):List T → List (List T)
 | []=>[[]]
 | t :: l=>if t = sep then [] :: partsAt sep l else match partsAt sep l with
  | p :: ps=>(t :: p) :: ps
  | []=>[[t]]
def whole (mem:Rd) (p:List T):Option Sem:=match mem p with
 | some (f,[])=>some f
 | _=>none
def foldFrom (mb:List T → Option Sem) (jn:Sem → Sem → Sem):Sem → List (List T) → Option Sem
 | f,[]=>some f
 | f,p :: ps=>match mb p with
  | none=>none
  | some g=>foldFrom mb jn (jn f g) ps
def foldB (mb:List T → Option Sem) (jn:Sem → Sem → Sem):List (List T) → Option Sem
 | []=>none
 | p :: ps=>match mb p with
  | none=>none
  | some f=>foldFrom mb jn f ps
structure Good (mem:Rd) (Stop:T → Prop):Prop where
 sound:∀ l f r,mem l = some (f,r) → ∃ p,l = p ++ r ∧ mem p = some (f,[]) ∧ ∀ t ∈ p,¬ Stop t
 complete:∀ p f r,mem p = some (f,[]) → (r = [] ∨ ∃ t r',r = t :: r' ∧ Stop t) → mem (p ++ r) = some (f,r)
theorem parts_end (sep:T) (p:List T) (h:∀ t ∈ p,t ≠ sep):partsAt sep p = [p]:=by
 induction p with
 | nil=>rfl
 | cons t p ih=>
  have h1:=h t (by simp)
  have h2:=ih fun u hu=>h u (by simp [hu])
  simp [partsAt,h1,h2]
theorem parts_app (sep:T) (p r:List T) (h:∀ t ∈ p,t ≠ sep):partsAt sep (p ++ sep :: r) = p :: partsAt sep r:=by
 induction p with
 | nil=>simp [partsAt]
 | cons t p ih=>
  have h1:=h t (by simp)
  have h2:=ih fun u hu=>h u (by simp [hu])
  simp only [List.cons_append,partsAt,h1,if_false]
  rw [h2]
theorem parts_split (sep:T) (l:List T):∃ p rest,(∀ t ∈ p,t ≠ sep) ∧ l = p ++ rest ∧ ((rest = [] ∧ partsAt sep l = [p]) ∨ ∃ r',rest = sep :: r' ∧ partsAt sep l = p :: partsAt sep r'):=by
 induction l with
 | nil=>exact ⟨[],[],by simp,rfl,.inl ⟨rfl,rfl⟩⟩
 | cons t l ih=>
  by_cases c:t = sep
  ·subst c
   exact ⟨[],t :: l,by simp,rfl,.inr ⟨l,rfl,by simp [partsAt]⟩⟩
  ·obtain ⟨p,rest,h1,h2,h3⟩:=ih
   have hp:∀ u ∈ t :: p,u ≠ sep:=by
    intro u hu
    rcases List.mem_cons.1 hu with rfl | hu
    ·exact c
    ·exact h1 u hu
   refine ⟨t :: p,rest,hp,by rw [h2];rfl,?_⟩
   rcases h3 with ⟨h3,h4⟩ | ⟨r',h3,h4⟩
   ·left
    refine ⟨h3,?_⟩
    rw [h2,h3,List.append_nil]
    exact parts_end sep _ hp
   ·right
    refine ⟨r',h3,?_⟩
    rw [h2,h3]
    exact parts_app sep _ r' hp
variable {mem:Rd} {Stop:T → Prop} {sep:T} {jn:Sem → Sem → Sem}
theorem whole_some {p:List T} {f:Sem} (h:whole mem p = some f):mem p = some (f,[]):=by
 unfold whole at h
 split at h
 ·cases h;assumption
 ·cases h
theorem whole_of {p:List T} {f:Sem} (h:mem p = some (f,[])):whole mem p = some f:=by simp [whole,h]
theorem rowGo_whole (hg:Good mem Stop) (hs:Stop sep):∀ (k:Nat) (f:Sem) (l:List T),l.length ≤ k →
  (match rowGo mem sep jn k f l with
   | some (g,[])=>some g
   | _=>none) = match l with
   | []=>some f
   | t :: l'=>if t = sep then foldFrom (whole mem) jn f (partsAt sep l') else none:=by
 intro k
 induction k with
 | zero=>
  intro f l hl
  obtain rfl:l = []:=List.length_eq_zero_iff.1 (by omega)
  rfl
 | succ k ih=>
  intro f l hl
  cases l with
  | nil=>rfl
  | cons t l'=>
   by_cases c:t = sep
   ·subst c
    have hl':l'.length ≤ k:=by simpa using hl
    obtain ⟨p,rest,h1,h2,h3⟩:=parts_split t l'
    simp only [rowGo,if_true]
    cases hw:whole mem p with
    | some g=>
     have hm:mem l' = some (g,rest):=by
      rw [h2]
      refine hg.complete p g rest (whole_some hw) ?_
      rcases h3 with ⟨h3,_⟩ | ⟨r',h3,_⟩
      ·exact .inl h3
      ·exact .inr ⟨t,r',h3,hs⟩
     simp only [hm]
     rw [ih (jn f g) rest (by rw [h2] at hl';simp at hl';omega)]
     rcases h3 with ⟨h3,h4⟩ | ⟨r',h3,h4⟩
     ·subst h3;rw [h4];simp [foldFrom,hw]
     ·subst h3;rw [h4];simp [foldFrom,hw]
    | none=>
     have hr:foldFrom (whole mem) jn f (partsAt t l') = none:=by
      rcases h3 with ⟨_,h4⟩ | ⟨r',_,h4⟩ <;> rw [h4] <;> simp [foldFrom,hw]
     rw [hr]
     cases hm:mem l' with
     | none=>rfl
     | some x=>
      obtain ⟨g,r⟩:=x
      simp only []
      obtain ⟨p',e1,e2,e3⟩:=hg.sound l' g r hm
      have hp':∀ u ∈ p',u ≠ t:=fun u hu hut=>e3 u hu (by rw [hut];exact hs)
      have hrk:r.length ≤ k:=by rw [e1] at hl';simp at hl';omega
      rw [ih (jn f g) r hrk]
      cases r with
      | nil=>
       exfalso
       rw [List.append_nil] at e1
       subst e1
       have:=parts_end t l' hp'
       rcases h3 with ⟨_,h4⟩ | ⟨r',_,h4⟩ <;> rw [h4] at this <;> simp at this
       ·subst this;rw [whole_of e2] at hw;cases hw
       ·obtain ⟨this,hx⟩:=this
        subst this;rw [whole_of e2] at hw;cases hw
      | cons t' r''=>
       by_cases c:t' = t
       ·exfalso
        subst c
        have:=parts_app t' p' r'' hp'
        rw [← e1] at this
        have hpp:p = p':=by
         rcases h3 with ⟨_,h4⟩ | ⟨r',_,h4⟩ <;> rw [h4] at this
         ·injection this
         ·injection this
        rw [hpp,whole_of e2] at hw
        cases hw
       ·simp [c]
   ·simp [rowGo,c]
theorem row_whole (hg:Good mem Stop) (hs:Stop sep) (l:List T):whole (rowP mem sep jn) l = foldB (whole mem) jn (partsAt sep l):=by
 obtain ⟨p,rest,h1,h2,h3⟩:=parts_split sep l
 show (match rowP mem sep jn l with
  | some (f,[])=>some f
  | _=>none) = _
 unfold rowP
 cases hw:whole mem p with
 | some g=>
  have hm:mem l = some (g,rest):=by
   rw [h2]
   refine hg.complete p g rest (whole_some hw) ?_
   rcases h3 with ⟨h3,_⟩ | ⟨r',h3,_⟩
   ·exact .inl h3
   ·exact .inr ⟨sep,r',h3,hs⟩
  simp only [hm]
  have hk:=rowGo_whole (jn:=jn) hg hs rest.length g rest (Nat.le_refl _)
  rw [hk]
  rcases h3 with ⟨h3,h4⟩ | ⟨r',h3,h4⟩
  ·subst h3;rw [h4];simp [foldB,hw,foldFrom]
  ·subst h3;rw [h4];simp [foldB,hw]
 | none=>
  have hr:foldB (whole mem) jn (partsAt sep l) = none:=by
   rcases h3 with ⟨_,h4⟩ | ⟨r',_,h4⟩ <;> rw [h4] <;> simp [foldB,hw]
  change _ = foldB (whole mem) jn (partsAt sep l)
  rw [hr]
  cases hm:mem l with
  | none=>rfl
  | some x=>
   obtain ⟨g,r⟩:=x
   simp only []
   obtain ⟨p',e1,e2,e3⟩:=hg.sound l g r hm
   have hp':∀ u ∈ p',u ≠ sep:=fun u hu hut=>e3 u hu (by rw [hut];exact hs)
   have hk:=rowGo_whole (jn:=jn) hg hs r.length g r (Nat.le_refl _)
   rw [hk]
   cases r with
   | nil=>
    exfalso
    rw [List.append_nil] at e1
    subst e1
    have:=parts_end sep l hp'
    rcases h3 with ⟨_,h4⟩ | ⟨r',_,h4⟩ <;> rw [h4] at this <;> simp at this
    ·subst this;rw [whole_of e2] at hw;cases hw
    ·obtain ⟨this,hx⟩:=this
     subst this;rw [whole_of e2] at hw;cases hw
   | cons t' r''=>
    by_cases c:t' = sep
    ·exfalso
     subst c
     have:=parts_app t' p' r'' hp'
     rw [← e1] at this
     have hpp:p = p':=by
      rcases h3 with ⟨_,h4⟩ | ⟨r',_,h4⟩ <;> rw [h4] at this
      ·injection this
      ·injection this
     rw [hpp,whole_of e2] at hw
     cases hw
    ·simp [c]
theorem rowGo_sound (hg:Good mem Stop) (hs:Stop sep) (Stop':T → Prop) (h':∀ t,Stop' t → Stop t ∧ t ≠ sep):∀ (k:Nat) (f:Sem) (l:List T) (g:Sem) (r:List T),l.length ≤ k → rowGo mem sep jn k f l = some (g,r) →
  ∃ p,l = p ++ r ∧ (p = [] ∨ ∃ p',p = sep :: p') ∧ (∀ k',p.length ≤ k' → rowGo mem sep jn k' f p = some (g,[])) ∧ ∀ t ∈ p,¬ Stop' t:=by
 intro k
 induction k with
 | zero=>
  intro f l g r hl h
  obtain rfl:l = []:=List.length_eq_zero_iff.1 (by omega)
  simp [rowGo] at h
  obtain ⟨rfl,rfl⟩:=h
  refine ⟨[],rfl,.inl rfl,?_,by simp⟩
  intro k' _
  cases k' <;> rfl
 | succ k ih=>
  intro f l g r hl h
  cases l with
  | nil=>
   simp [rowGo] at h
   obtain ⟨rfl,rfl⟩:=h
   refine ⟨[],rfl,.inl rfl,?_,by simp⟩
   intro k' _
   cases k' <;> rfl
  | cons t l'=>
   by_cases c:t = sep
   ·subst c
    simp only [rowGo,if_true] at h
    cases hm:mem l' with
    | none=>simp [hm] at h
    | some x=>
     obtain ⟨g1,r1⟩:=x
     simp only [hm] at h
     obtain ⟨p1,e1,e2,e3⟩:=hg.sound l' g1 r1 hm
     have hk:r1.length ≤ k:=by
      have:l'.length ≤ k:=by simpa using hl
      rw [e1] at this;simp at this;omega
     obtain ⟨p2,q1,q2,q3,q4⟩:=ih (jn f g1) r1 g r hk h
     refine ⟨t :: (p1 ++ p2),by rw [e1,q1];simp,.inr ⟨_,rfl⟩,?_,?_⟩
     ·intro k' hk'
      cases k' with
      | zero=>simp at hk'
      | succ k'=>
       simp only [rowGo,if_true]
       have:mem (p1 ++ p2) = some (g1,p2):=by
        refine hg.complete p1 g1 p2 e2 ?_
        rcases q2 with rfl | ⟨p',rfl⟩
        ·exact .inl rfl
        ·exact .inr ⟨t,p',rfl,hs⟩
       rw [this]
       exact q3 k' (by simp at hk';omega)
     ·intro u hu hS
      rcases List.mem_cons.1 hu with rfl | hu
      ·exact (h' u hS).2 rfl
      ·rcases List.mem_append.1 hu with hu | hu
       ·exact e3 u hu (h' u hS).1
       ·exact q4 u hu hS
   ·simp only [rowGo,c,if_false,Option.some.injEq,Prod.mk.injEq] at h
    obtain ⟨rfl,rfl⟩:=h
    refine ⟨[],rfl,.inl rfl,?_,by simp⟩
    intro k' _
    cases k' <;> rfl
theorem rowGo_complete (hg:Good mem Stop) (hs:Stop sep) (Stop':T → Prop) (h':∀ t,Stop' t → Stop t ∧ t ≠ sep):∀ (k:Nat) (f:Sem) (p:List T) (g:Sem) (r:List T),p.length ≤ k → rowGo mem sep jn k f p = some (g,[]) →
  (r = [] ∨ ∃ t r',r = t :: r' ∧ Stop' t) → ∀ k',(p ++ r).length ≤ k' → rowGo mem sep jn k' f (p ++ r) = some (g,r):=by
 intro k
 induction k with
 | zero=>
  intro f p g r hl h hr k' hk'
  obtain rfl:p = []:=List.length_eq_zero_iff.1 (by omega)
  simp [rowGo] at h
  subst h
  rcases hr with rfl | ⟨t,r',rfl,hS⟩
  ·cases k' <;> rfl
  ·cases k' with
   | zero=>simp at hk'
   | succ k'=>simp [rowGo,(h' t hS).2]
 | succ k ih=>
  intro f p g r hl h hr k' hk'
  cases p with
  | nil=>
   simp [rowGo] at h
   subst h
   rcases hr with rfl | ⟨t,r',rfl,hS⟩
   ·cases k' <;> rfl
   ·cases k' with
    | zero=>simp at hk'
    | succ k'=>simp [rowGo,(h' t hS).2]
  | cons t p'=>
   by_cases c:t = sep
   ·subst c
    simp only [rowGo,if_true] at h
    cases hm:mem p' with
    | none=>simp [hm] at h
    | some x=>
     obtain ⟨g1,r1⟩:=x
     simp only [hm] at h
     obtain ⟨p1,e1,e2,e3⟩:=hg.sound p' g1 r1 hm
     have hk:r1.length ≤ k:=by
      have:p'.length ≤ k:=by simpa using hl
      rw [e1] at this;simp at this;omega
     cases k' with
     | zero=>simp at hk'
     | succ k'=>
      simp only [List.cons_append,rowGo,if_true]
      have hc:r1 ++ r = [] ∨ ∃ t r',r1 ++ r = t :: r' ∧ Stop t:=by
       cases r1 with
       | nil=>
        rcases hr with rfl | ⟨t,r',rfl,hS⟩
        ·exact .inl rfl
        ·exact .inr ⟨t,r',rfl,(h' t hS).1⟩
       | cons u r1'=>
        right
        refine ⟨u,r1' ++ r,rfl,?_⟩
        cases k with
        | zero=>simp at hk
        | succ k=>
         by_cases c:u = t
         ·rw [c];exact hs
         ·simp [rowGo,c] at h
      have:mem (p' ++ r) = some (g1,r1 ++ r):=by
       rw [e1,List.append_assoc]
       exact hg.complete p1 g1 (r1 ++ r) e2 hc
      rw [this]
      refine ih (jn f g1) r1 g r hk h hr k' ?_
      rw [e1] at hk'
      simp at hk' ⊢
      omega
   ·simp [rowGo,c] at h
theorem row_good (hg:Good mem Stop) (hs:Stop sep) (Stop':T → Prop) (h':∀ t,Stop' t → Stop t ∧ t ≠ sep):Good (rowP mem sep jn) Stop':=by
 constructor
 ·intro l f r h
  unfold rowP at h
  cases hm:mem l with
  | none=>simp [hm] at h
  | some x=>
   obtain ⟨g1,r1⟩:=x
   simp only [hm] at h
   obtain ⟨p1,e1,e2,e3⟩:=hg.sound l g1 r1 hm
   obtain ⟨p2,q1,q2,q3,q4⟩:=rowGo_sound hg hs Stop' h' r1.length g1 r1 f r (Nat.le_refl _) h
   refine ⟨p1 ++ p2,by rw [e1,q1];simp,?_,?_⟩
   ·unfold rowP
    have:mem (p1 ++ p2) = some (g1,p2):=by
     refine hg.complete p1 g1 p2 e2 ?_
     rcases q2 with rfl | ⟨p',rfl⟩
     ·exact .inl rfl
     ·exact .inr ⟨sep,p',rfl,hs⟩
    rw [this]
    exact q3 _ (Nat.le_refl _)
   ·intro u hu hS
    rcases List.mem_append.1 hu with hu | hu
    ·exact e3 u hu (h' u hS).1
    ·exact q4 u hu hS
 ·intro p f r h hr
  unfold rowP at h ⊢
  cases hm:mem p with
  | none=>simp [hm] at h
  | some x=>
   obtain ⟨g1,r1⟩:=x
   simp only [hm] at h
   obtain ⟨p1,e1,e2,e3⟩:=hg.sound p g1 r1 hm
   have hc:r1 ++ r = [] ∨ ∃ t r',r1 ++ r = t :: r' ∧ Stop t:=by
    cases r1 with
    | nil=>
     rcases hr with rfl | ⟨t,r',rfl,hS⟩
     ·exact .inl rfl
     ·exact .inr ⟨t,r',rfl,(h' t hS).1⟩
    | cons u r1'=>
     right
     refine ⟨u,r1' ++ r,rfl,?_⟩
     by_cases c:u = sep
     ·rw [c];exact hs
     ·simp [rowGo,c] at h
   have:mem (p ++ r) = some (g1,r1 ++ r):=by
    rw [e1,List.append_assoc]
    exact hg.complete p1 g1 (r1 ++ r) e2 hc
   rw [this]
   exact rowGo_complete hg hs Stop' h' r1.length g1 r1 f r (Nat.le_refl _) h hr _ (Nat.le_refl _)
end Go.Proofs.YtaepcfidpekflaaGreatDoor.Pr
