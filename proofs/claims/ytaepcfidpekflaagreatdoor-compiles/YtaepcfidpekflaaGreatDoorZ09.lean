/-
  Several texts in one (Qn, Qo, Wa, Wc, Qy, Qp). By the verifier.
-/
import Derived.Test.YtaepcfidpekflaaGreatDoorZ03
import Derived.Test.YtaepcfidpekflaaGreatDoorZ04
import Derived.WalkSpells
import Derived.WalkLawsBesides
import Derived.Deep.DeepCutAuto
import Derived.Deep.CutBlock
import Derived.Deep.RegionWith
import Derived.Outline
import Derived.Laws.AppendOwn
import Derived.Laws.OwnMore
import Derived.OwnWalk
import Derived.Test.YtaepcfidpekflaaGreatDoorProg
import Derived.WalkKit
import Derived.Lib.OthersKept
import Derived.Test.YtaepcfidpekflaaGreatDoorZ01
import Derived.Test.YtaepcfidpekflaaGreatDoorZ08
namespace Go.Proofs.YtaepcfidpekflaaGreatDoor
open Go.RowKit
theorem idx_run (p:Nat → Bool) (hp:∀ x,p x = true → x < 128) (s:ByteArray):∀ (f pos:Nat),pos ≤ s.size → s.size ≤ pos + f →
  Lib.idxFuncFrom p false s f pos = if pos + ((s.data.toList.drop pos).takeWhile fun c=>p c.toNat).length = s.size then -1 else ((pos + ((s.data.toList.drop pos).takeWhile fun c=>p c.toNat).length:Nat):Int):=by
 intro f
 induction f with
 | zero=>
  intro pos h1 h2
  have:pos = s.size:=by omega
  subst this
  rw [List.drop_eq_nil_of_le (by rw [Lib.size_eq];exact Nat.le_refl _)]
  simp [Lib.idxFuncFrom]
 | succ f ih=>
  intro pos h1 h2
  by_cases hlt:pos < s.size
  ·have hlt':pos < s.data.toList.length:=by rw [← Lib.size_eq];exact hlt
   rw [List.drop_eq_getElem_cons hlt']
   have hg:s.data.toList[pos] = s[pos]:=rfl
   rw [hg]
   simp only [Lib.idxFuncFrom,hlt,if_true]
   by_cases hc:s[pos].toNat < 128
   ·rw [decode_ascii s pos hlt hc]
    simp only []
    cases hpc:p s[pos].toNat with
    | false=>
     rw [if_pos rfl,List.takeWhile_cons_of_neg (by simp [hpc])]
     simp
     omega
    | true=>
     rw [if_neg (by simp),ih (pos + 1) (by omega) (by omega),List.takeWhile_cons_of_pos (by simp [hpc])]
     simp only [List.length_cons]
     rw [show pos + (((s.data.toList.drop (pos + 1)).takeWhile fun c=>p c.toNat).length + 1) = pos + 1 + ((s.data.toList.drop (pos + 1)).takeWhile fun c=>p c.toNat).length by omega]
   ·have hd:=(decode_high s pos hlt (by omega)).1
    have h1':p (Utf8.decode s pos).1 = false:=by
     cases e:p (Utf8.decode s pos).1 with
     | false=>rfl
     | true=>have:=hp _ e;omega
    have h2':p s[pos].toNat = false:=by
     cases e:p s[pos].toNat with
     | false=>rfl
     | true=>have:=hp _ e;omega
    rw [if_pos h1',List.takeWhile_cons_of_neg (by simp [h2'])]
    simp
    omega
  ·have:pos = s.size:=by omega
   subst this
   rw [Lib.idxFuncFrom_end _ _ _ _ _ hlt,List.drop_eq_nil_of_le (by rw [Lib.size_eq];exact Nat.le_refl _)]
   simp
theorem trim_run (p:Nat → Bool) (hp:∀ x,p x = true → x < 128) (s:ByteArray):(Lib.trimLeftF p s).size = s.size - (s.data.toList.takeWhile fun c=>p c.toNat).length:=by
 have h:=idx_run p hp s s.size 0 (Nat.zero_le _) (by omega)
 simp only [List.drop_zero,Nat.zero_add] at h
 have hle:(s.data.toList.takeWhile fun c=>p c.toNat).length ≤ s.size:=by
  rw [Lib.size_eq];exact (List.takeWhile_prefix _).length_le
 unfold Lib.trimLeftF Lib.idxFunc
 rw [h]
 split
 ·rename_i e
  rw [if_pos rfl,e]
  simp
  rfl
 ·rw [if_neg (by omega)]
  simp
def letP (x:Nat):Bool:=decide (97 ≤ x ∧ x ≤ 122)
def digP (x:Nat):Bool:=decide (48 ≤ x ∧ x ≤ 57)
theorem enters_isLetter:Enters 184:=enters_of Tryz.func184 (by kernel_rfl) rfl
theorem enters_isDigit:Enters 186:=enters_of Tryz.func186 (by kernel_rfl) rfl
theorem ret_bb {a b:Bool} (h:a = b):Ending.returned (.bool b) = .returned (.bool a):=by rw [h]
set_option maxHeartbeats 400000 in
theorem isLetter_any (x:Nat) (w:World):Calls Tryz.prog 184 #[.int .i32 x] w fun e w'=>e = .returned (.bool (letP x)) ∧ w' = w:=by
 by_cases h1:97 ≤ x
 ·have h1':(97:Int) ≤ x:=by omega
  have hR:Hid (letP x = decide ((x:Int) ≤ 122)):=by
   show _ = _
   simp only [letP,decide_eq_decide]
   omega
  clear h1
  go_enter Tryz.func184,Tryz.ntmps184
  go_wp2
  go_ret
  exact ⟨ret_bb hR.out,rfl⟩
 ·have h1':¬ (97:Int) ≤ x:=by omega
  have hR:Hid (letP x = false):=by
   show _ = _
   simp only [letP,decide_eq_false_iff_not]
   omega
  clear h1
  go_enter Tryz.func184,Tryz.ntmps184
  go_wp2
  go_ret
  exact ⟨ret_bb hR.out,rfl⟩
set_option maxHeartbeats 400000 in
theorem isDigit_any (x:Nat) (w:World):Calls Tryz.prog 186 #[.int .i32 x] w fun e w'=>e = .returned (.bool (digP x)) ∧ w' = w:=by
 by_cases h1:48 ≤ x
 ·have h1':(48:Int) ≤ x:=by omega
  have hR:Hid (digP x = decide ((x:Int) ≤ 57)):=by
   show _ = _
   simp only [digP,decide_eq_decide]
   omega
  clear h1
  go_enter Tryz.func186,Tryz.ntmps186
  go_wp2
  go_ret
  exact ⟨ret_bb hR.out,rfl⟩
 ·have h1':¬ (48:Int) ≤ x:=by omega
  have hR:Hid (digP x = false):=by
   show _ = _
   simp only [digP,decide_eq_false_iff_not]
   omega
  clear h1
  go_enter Tryz.func186,Tryz.ntmps186
  go_wp2
  go_ret
  exact ⟨ret_bb hR.out,rfl⟩
theorem pred_of (g:Nat) (p:Nat → Bool) (h:∀ (x:Nat) (w:World),Calls Tryz.prog g #[.int .i32 x] w fun e w'=>e = .returned (.bool (p x)) ∧ w' = w) (w:World):PredAt Tryz.prog g #[] encR p w:=fun W x _=>
 (h x W).mono fun _ _ hh=>⟨hh.1,0,hh.2⟩
set_option maxHeartbeats 800000 in
theorem lengthOfRun_any (g:Nat) (p:Nat → Bool) (eg:Enters g) (hp:∀ x,p x = true → x < 128) (h:∀ (x:Nat) (w:World),Calls Tryz.prog g #[.int .i32 x] w fun e w'=>e = .returned (.bool (p x)) ∧ w' = w) (s:ByteArray) (hs:s.size ≤ 1000) (w:World):
  Calls Tryz.prog 185 #[.string s,.func (.func g) #[] #[]] w fun e w'=>e = .returned (.int .i64 (s.data.toList.takeWhile fun c=>p c.toNat).length) ∧ Below w.heap.size w w':=by
 have ht:=fun W=>Tryz.strings_TrimLeftFunc g #[] eg p s W (pred_of g p h W)
 have hz:=trim_run p hp s
 have hle:(s.data.toList.takeWhile fun c=>p c.toNat).length ≤ s.size:=by
  rw [Lib.size_eq];exact (List.takeWhile_prefix _).length_le
 generalize (s.data.toList.takeWhile fun c=>p c.toNat).length = n at *
 generalize Lib.trimLeftF p s = q at *
 have hw1:IntKind.i64.wrap ((s.size:Int) - (q.size:Int)) = n:=by rw [IntKind.wrap_i64,hz];omega
 have hq:q.size ≤ 1000:=by omega
 clear hz
 go_enter Tryz.func185,Tryz.ntmps185
 go_wp2_with fail
 refine (ht _).mono ?_
 rintro e w1 ⟨rfl,hb1⟩
 clear ht
 go_wp2
 go_ret
 exact ⟨rfl,hb1⟩
theorem hasPre2 (c x y:UInt8) (r:List UInt8):Lib.hasPrefix (c :: r) [x,y] = decide (c = x ∧ r.head? = some y):=by
 unfold Lib.hasPrefix
 cases r with
 | nil=>simp [List.isPrefixOf]
 | cons d r=>
  by_cases h:x = c
  ·subst h
   by_cases h2:y = d
   ·subst h2;simp [List.isPrefixOf]
   ·have:¬ d = y:=fun e=>h2 e.symm
    simp [List.isPrefixOf,h2,this]
  ·have:¬ c = x:=fun e=>h e.symm
   simp [List.isPrefixOf,h,this]
set_option maxHeartbeats 1600000 in
theorem lengthOfPart_any (c:UInt8) (r:List UInt8) (hs:r.length < 1000) (w:World):
  Calls Tryz.prog 156 #[.string ⟨(c :: r).toArray⟩] w fun e w'=>e = .returned (.int .i64 (Pr.partLen (c :: r))) ∧ Below w.heap.size w w':=by
 obtain ⟨s,hsd⟩:∃ s:ByteArray,Hid (s = ⟨(c :: r).toArray⟩):=⟨_,rfl⟩
 rw [← hsd.out]
 have hz:s.size = r.length + 1:=by rw [hsd.out];show (c :: r).toArray.size = _;simp
 have hpos:0 < s.size:=by omega
 have hl:s.data.toList = c :: r:=by rw [hsd.out]
 have h0:∀ h,(s[0]'h).toNat = c.toNat:=fun h=>by
  have:s[0] = s.data.toList[0]'(by rw [hl];simp):=rfl
  rw [this]
  simp [hl]
 have cl:=fun W=>lengthOfRun_any 184 letP enters_isLetter (fun x h=>by simp [letP] at h;omega) isLetter_any s (by omega) W
 have cd:=fun W=>lengthOfRun_any 186 digP enters_isDigit (fun x h=>by simp [digP] at h;omega) isDigit_any s (by omega) W
 rw [hl] at cl cd
 have p1:=fun W=>Tryz.strings_HasPrefix s ⟨#[33,61]⟩ W
 have p2:=fun W=>Tryz.strings_HasPrefix s ⟨#[46,46]⟩ W
 simp only [hl] at p1 p2
 rw [hasPre2] at p1 p2
 obtain ⟨R,hR⟩:∃ R,Hid (Pr.partLen (c :: r) = R):=⟨_,rfl⟩
 rw [hR.out]
 clear hl
 have hq:=UInt8.toNat_lt c
 have il:=isLetter_any c.toNat
 have id:=isDigit_any c.toNat
 cases h1:letP c.toNat with
 | true=>
  rw [h1] at il
  have hRR:Hid (R = ((c :: r).takeWhile fun c=>letP c.toNat).length):=by
   show _ = _
   rw [← hR.out,Pr.partLen,if_pos (show Pr.isLet c = true from h1)]
   rfl
  simp only [← hRR.out] at cl
  clear cd p1 p2 id
  go_enter Tryz.func156,Tryz.ntmps156
  go_wp2_with (first | (go_at_call 184;refine (il _).mono ?_;rintro e w1 ⟨rfl,rfl⟩) | (go_at_call 185;refine (cl _).mono ?_;rintro e w2 ⟨rfl,hb2⟩))
  go_ret
  exact ⟨rfl,hb2⟩
 | false=>
  rw [h1] at il
  have n1:Pr.isLet c ≠ true:=by rw [show Pr.isLet c = false from h1];simp
  cases h2:digP c.toNat with
  | true=>
   rw [h2] at id
   have hRR:Hid (R = ((c :: r).takeWhile fun c=>digP c.toNat).length):=by
    show _ = _
    rw [← hR.out,Pr.partLen,if_neg n1,if_pos (show Pn.isDig c = true from h2)]
    rfl
   simp only [← hRR.out] at cd
   clear cl p1 p2
   go_enter Tryz.func156,Tryz.ntmps156
   go_wp2_with (first | (go_at_call 184;refine (il _).mono ?_;rintro e w1 ⟨rfl,rfl⟩) | (go_at_call 186;refine (id _).mono ?_;rintro e w1 ⟨rfl,rfl⟩) | (go_at_call 185;refine (cd _).mono ?_;rintro e w2 ⟨rfl,hb2⟩))
   go_ret
   exact ⟨rfl,hb2⟩
  | false=>
   rw [h2] at id
   have n2:Pn.isDig c ≠ true:=by rw [show Pn.isDig c = false from h2];simp
   clear cl cd
   cases h3:decide (c = 33 ∧ r.head? = some 61) with
   | true=>
    rw [h3] at p1
    have hRR:Hid (R = 2):=by
     show _ = _
     rw [← hR.out,Pr.partLen,if_neg n1,if_neg n2,if_pos (.inl (of_decide_eq_true h3))]
    clear h1 h2 h3 n1 n2
    go_enter Tryz.func156,Tryz.ntmps156
    go_wp2_with (first | (go_at_call 184;refine (il _).mono ?_;rintro e w1 ⟨rfl,rfl⟩) | (go_at_call 186;refine (id _).mono ?_;rintro e w1 ⟨rfl,rfl⟩))
    refine (p1 _).mono ?_
    rintro e w2 ⟨rfl,rfl⟩
    go_wp2
    go_ret
    exact ⟨by rw [hRR.out];rfl,Below.refl _ _⟩
   | false=>
    rw [h3] at p1
    cases h4:decide (c = 46 ∧ r.head? = some 46) with
    | true=>
     rw [h4] at p2
     have hRR:Hid (R = 2):=by
      show _ = _
      rw [← hR.out,Pr.partLen,if_neg n1,if_neg n2,if_pos (.inr (of_decide_eq_true h4))]
     clear h1 h2 h3 h4 n1 n2
     go_enter Tryz.func156,Tryz.ntmps156
     go_wp2_with (first | (go_at_call 184;refine (il _).mono ?_;rintro e w1 ⟨rfl,rfl⟩) | (go_at_call 186;refine (id _).mono ?_;rintro e w1 ⟨rfl,rfl⟩))
     refine (p1 _).mono ?_
     rintro e w2 ⟨rfl,rfl⟩
     go_wp2_with fail
     refine (p2 _).mono ?_
     rintro e w3 ⟨rfl,rfl⟩
     go_wp2
     go_ret
     exact ⟨by rw [hRR.out];rfl,Below.refl _ _⟩
    | false=>
     rw [h4] at p2
     have n3:¬ (c = 33 ∧ r.head? = some 61 ∨ c = 46 ∧ r.head? = some 46):=fun h=>h.elim (of_decide_eq_false h3) (of_decide_eq_false h4)
     have hRR:Hid (R = if c.toNat = 32 ∨ c.toNat = 61 ∨ c.toNat = 37 ∨ c.toNat = 44 then 1 else 0):=by
      show _ = _
      rw [← hR.out,Pr.partLen,if_neg n1,if_neg n2,if_neg n3]
      simp only [← UInt8.toNat_inj]
      rfl
     clear h1 h2 h3 h4 n1 n2 n3
     generalize c.toNat = q at *
     by_cases e1:q = 32
     ·subst e1
      go_enter Tryz.func156,Tryz.ntmps156
      go_wp2_with (first | (go_at_call 184;refine (il _).mono ?_;rintro e w1 ⟨rfl,rfl⟩) | (go_at_call 186;refine (id _).mono ?_;rintro e w1 ⟨rfl,rfl⟩))
      refine (p1 _).mono ?_
      rintro e w2 ⟨rfl,rfl⟩
      go_wp2_with fail
      refine (p2 _).mono ?_
      rintro e w3 ⟨rfl,rfl⟩
      go_wp2
      go_ret
      exact ⟨by rw [hRR.out];rfl,Below.refl _ _⟩
     by_cases e2:q = 61
     ·subst e2
      go_enter Tryz.func156,Tryz.ntmps156
      go_wp2_with (first | (go_at_call 184;refine (il _).mono ?_;rintro e w1 ⟨rfl,rfl⟩) | (go_at_call 186;refine (id _).mono ?_;rintro e w1 ⟨rfl,rfl⟩))
      refine (p1 _).mono ?_
      rintro e w2 ⟨rfl,rfl⟩
      go_wp2_with fail
      refine (p2 _).mono ?_
      rintro e w3 ⟨rfl,rfl⟩
      go_wp2
      go_ret
      exact ⟨by rw [hRR.out];rfl,Below.refl _ _⟩
     by_cases e3:q = 37
     ·subst e3
      go_enter Tryz.func156,Tryz.ntmps156
      go_wp2_with (first | (go_at_call 184;refine (il _).mono ?_;rintro e w1 ⟨rfl,rfl⟩) | (go_at_call 186;refine (id _).mono ?_;rintro e w1 ⟨rfl,rfl⟩))
      refine (p1 _).mono ?_
      rintro e w2 ⟨rfl,rfl⟩
      go_wp2_with fail
      refine (p2 _).mono ?_
      rintro e w3 ⟨rfl,rfl⟩
      go_wp2
      go_ret
      exact ⟨by rw [hRR.out];rfl,Below.refl _ _⟩
     by_cases e4:q = 44
     ·subst e4
      go_enter Tryz.func156,Tryz.ntmps156
      go_wp2_with (first | (go_at_call 184;refine (il _).mono ?_;rintro e w1 ⟨rfl,rfl⟩) | (go_at_call 186;refine (id _).mono ?_;rintro e w1 ⟨rfl,rfl⟩))
      refine (p1 _).mono ?_
      rintro e w2 ⟨rfl,rfl⟩
      go_wp2_with fail
      refine (p2 _).mono ?_
      rintro e w3 ⟨rfl,rfl⟩
      go_wp2
      go_ret
      exact ⟨by rw [hRR.out];rfl,Below.refl _ _⟩
     have hR0:Hid (R = 0):=by
      show _ = _
      rw [hRR.out,if_neg (by omega)]
     have f1:((q:Int) == 32) = false:=by rw [beq_eq_false_iff_ne];omega
     have f2:((q:Int) == 61) = false:=by rw [beq_eq_false_iff_ne];omega
     have f3:((q:Int) == 37) = false:=by rw [beq_eq_false_iff_ne];omega
     have f4:((q:Int) == 44) = false:=by rw [beq_eq_false_iff_ne];omega
     clear e1 e2 e3 e4
     go_enter Tryz.func156,Tryz.ntmps156
     go_wp2_with (first | (go_at_call 184;refine (il _).mono ?_;rintro e w1 ⟨rfl,rfl⟩) | (go_at_call 186;refine (id _).mono ?_;rintro e w1 ⟨rfl,rfl⟩))
     refine (p1 _).mono ?_
     rintro e w2 ⟨rfl,rfl⟩
     go_wp2_with fail
     refine (p2 _).mono ?_
     rintro e w3 ⟨rfl,rfl⟩
     go_wp2
     go_ret
     exact ⟨by rw [hR0.out];rfl,Below.refl _ _⟩
end Go.Proofs.YtaepcfidpekflaaGreatDoor
namespace Go.Proofs.YtaepcfidpekflaaGreatDoor
open Go.RowKit
theorem info_strQ:(Tryz.prog.info? 9).map (fun i=>(i.zero,i.size,i.bytes)) = some (some (.string ⟨#[]⟩),1,16):=by kernel_rfl
theorem ex_take (t:Pr.T) (n:Nat):(⟨t.toArray⟩:ByteArray).extract 0 n = ⟨(t.take n).toArray⟩:=by
 rw [ByteArray.extract_mk];simp
theorem ex_drop (t:Pr.T) (n:Nat):(⟨t.toArray⟩:ByteArray).extract n t.length = ⟨(t.drop n).toArray⟩:=by
 rw [ByteArray.extract_mk]
 simp
 rw [List.take_of_length_le (by simp)]
theorem part_le (l:Pr.T):Pr.partLen l ≤ l.length:=by
 cases l with
 | nil=>simp [Pr.partLen]
 | cons c r=>
  by_cases h1:Pr.isLet c = true
  ·rw [Pr.partLen,if_pos h1];exact (List.takeWhile_prefix _).length_le
  ·by_cases h2:Pn.isDig c = true
   ·rw [Pr.partLen,if_neg h1,if_pos h2];exact (List.takeWhile_prefix _).length_le
   ·rw [Pr.partLen,if_neg h1,if_neg h2]
    split
    ·rename_i h
     cases r with
     | nil=>rcases h with ⟨_,h⟩ | ⟨_,h⟩ <;> cases h
     | cons d r=>simp
    ·split <;> simp
def strV (t:Pr.T):Value:=.string ⟨t.toArray⟩
theorem split_nil (k:Nat):Pr.splitGo k [] = some []:=by cases k <;> rfl
theorem split_bad (k:Nat) (c:UInt8) (r:Pr.T) (h:Pr.partLen (c :: r) = 0):Pr.splitGo (k + 1) (c :: r) = none:=by simp [Pr.splitGo,h]
theorem split_step (k:Nat) (c:UInt8) (r:Pr.T) (h:Pr.partLen (c :: r) ≠ 0) (ps:List Pr.T):(Pr.splitGo (k + 1) (c :: r)).map (ps ++ ·) =
  (Pr.splitGo k ((c :: r).drop (Pr.partLen (c :: r)))).map ((if c = 32 then ps else ps ++ [(c :: r).take (Pr.partLen (c :: r))]) ++ ·):=by
 simp only [Pr.splitGo,h,if_false]
 cases Pr.splitGo k ((c :: r).drop (Pr.partLen (c :: r))) with
 | none=>rfl
 | some l=>
  by_cases hc:c = 32
  ·simp [hc]
  ·simp [hc]
def Parts (w:World) (B:Nat) (v:Value) (ps:List Pr.T):Prop:=w.ownsRow B 9 1 v ps.length (ps.map strV)
theorem Parts.keep {w w1:World} {B:Nat} {v:Value} {ps:List Pr.T} (h:Parts w B v ps) (hb:Below w.heap.size w w1):Parts w1 B v ps:=by
 refine World.ownsRow.kept (row:=none) h ⟨hb.os,hb.tape,hb.output,hb.size,fun k hk _=>hb.block k hk⟩ ?_
 cases e:v.ownBlock with
 | none=>exact .inl rfl
 | some _=>exact .inr (by simp)
def SplitSaid (w:World) (x:Option (List Pr.T)) (e:Ending) (w':World):Prop:=Below w.heap.size w w' ∧ match x with
 | none=>e = .returned (.tuple #[.slice none 0 0,errRule])
 | some ts=>∃ v,e = .returned (.tuple #[v,.nilIface]) ∧ Parts w' w.heap.size v ts ∧ ts.length ≤ 1000 ∧ ∀ t ∈ ts,t.length ≤ 1000
theorem parts_grow {w w1 w2:World} {B:Nat} {v v':Value} {ps:List Pr.T} {x:Pr.T} {o:Obj} (hown:Parts w1 B v ps) (hb:Below B w w1) (hB:B ≤ w1.heap.size) (hown':w2.ownsRow B 9 1 v' (ps.length + 1) (ps.map strV ++ [strV x])) (hg:(w1.alloc o).grownBy w2 v.ownBlock):
  Parts w2 B v' (ps ++ [x]) ∧ Below B w w2:=by
 refine ⟨by unfold Parts;simpa using hown',(hb.alloc hB o).grown hg (by simp;omega) fun k hk=>(World.ownsRow.lt hown k hk).1⟩
theorem measure_drop (c:UInt8) (r:Pr.T) (n:Nat) (hn:n ≠ 0) (h:n ≤ r.length + 1):(⟨((c :: r).drop n).toArray⟩:ByteArray).size < (⟨(c :: r).toArray⟩:ByteArray).size:=by
 show ((c :: r).drop n).toArray.size < (c :: r).toArray.size
 simp
 omega
set_option maxHeartbeats 1600000 in
theorem split_any (l:Pr.T) (hl:l.length ≤ 1000) (w:World):
  Calls Tryz.prog 124 #[.string ⟨l.toArray⟩] w fun e w'=>SplitSaid w (Pr.toks l) e w':=by
 obtain ⟨i0,hi0,hz0,hz1,hz2⟩:=info_parts info_strQ
 have HI:Hid (Tryz.prog.info? 9 = some i0 ∧ i0.zero = some (.string ⟨#[]⟩) ∧ i0.size = 1 ∧ i0.bytes = 16):=⟨hi0,hz0,hz1,hz2⟩
 clear hi0 hz0 hz1 hz2
 obtain ⟨S,hS⟩:∃ S,Hid (Pr.toks l = S):=⟨_,rfl⟩
 rw [hS.out]
 go_enter Tryz.func124,Tryz.ntmps124
 go_wp2
 go_loopw [0,4] (fun x v wr=>∃ (t:Pr.T) (ps:List Pr.T) (k:Nat),x = .string ⟨t.toArray⟩ ∧ t.length ≤ k ∧ ps.length + t.length ≤ l.length ∧ Hid (∀ t ∈ ps,t.length ≤ 1000) ∧ Parts wr w.heap.size v ps ∧ Below w.heap.size w wr ∧ Hid (S = (Pr.splitGo k t).map (ps ++ ·))) (fun x _ _=>match x with | .string s=>s.size | _=>0)
 case atStart=>exact ⟨l,[],l.length,rfl,Nat.le_refl _,by simp,fun t ht=>(by cases ht),World.ownsRow_nil _ _ _ _,Below.refl _ _,by show _ = _;rw [← hS.out];simp [Pr.toks]⟩
 case round=>
  obtain ⟨t,ps,k,rfl,hk,hle,hsm,hown,hb,hR⟩:=hrel
  cases t with
  | nil=>
   have hR2:Hid (S = some ps):=by show _ = _;rw [hR.out,split_nil];simp
   have hpl:ps.length ≤ 1000:=by simp at hle;omega
   clear hR hle
   go_wp2
   go_ret2
   refine ⟨hb,?_⟩
   rw [hR2.out]
   exact ⟨_,rfl,hown,hpl,hsm.out⟩
  | cons c r=>
   obtain ⟨k,rfl⟩:∃ k',k = k' + 1:=⟨k - 1,by simp at hk;omega⟩
   simp only [List.length_cons] at hk hle
   have hlp:=lengthOfPart_any c r (by omega) wr
   have hpl:=part_le (c :: r)
   have h0:∀ h,((⟨(c :: r).toArray⟩:ByteArray)[0]'h).toNat = c.toNat:=fun h=>rfl
   have ht:=ex_take (c :: r) (Pr.partLen (c :: r))
   have hd:=ex_drop (c :: r) (Pr.partLen (c :: r))
   have hm:=measure_drop c r (Pr.partLen (c :: r))
   have hs0:=split_bad k c r
   have hs1:=split_step k c r
   simp only [List.length_cons] at hpl hd
   generalize hN:Pr.partLen (c :: r) = N at *
   go_wp2_with fail
   refine hlp.mono ?_
   rintro e w1 ⟨rfl,hb1⟩
   have hown1:=hown.keep hb1
   replace hb:=below_of hb hb1
   clear hlp hown hb1
   by_cases hn:N = 0
   ·have hn':((N:Int) == 0) = true:=by rw [hn];rfl
    have hR2:Hid (S = none):=by show _ = _;rw [hR.out,hs0 hn];rfl
    clear hR hs0 hs1 hm
    go_wp2
    go_ret2
    refine ⟨hb,?_⟩
    rw [hR2.out]
    rfl
   ·have hn':((N:Int) == 0) = false:=by rw [beq_eq_false_iff_ne];omega
    have hms:=hm hn hpl
    by_cases hc:c = 32
    ·have hc':((c.toNat:Int) == 32) = true:=by rw [hc];rfl
     have hR2:Hid (S = (Pr.splitGo k ((c :: r).drop N)).map (ps ++ ·)):=by
      show _ = _
      rw [hR.out,hs1 hn ps,if_pos hc]
     have HM:Hid ((⟨((c :: r).drop N).toArray⟩:ByteArray).size < (⟨(c :: r).toArray⟩:ByteArray).size):=hms
     clear hR hs0 hs1 hm hms hc ht
     go_wp2
     go_roundw
     case rel=>exact ⟨(c :: r).drop N,ps,k,rfl,by simp;omega,by simp;omega,hsm,hown1,hb,hR2⟩
     case measure=>exact HM.out
    ·have hc':((c.toNat:Int) == 32) = false:=by
      rw [beq_eq_false_iff_ne]
      intro e
      exact hc (UInt8.toNat_inj.1 (by show c.toNat = 32;omega))
     have hR2:Hid (S = (Pr.splitGo k ((c :: r).drop N)).map (ps ++ [(c :: r).take N] ++ ·)):=by
      show _ = _
      rw [hR.out,hs1 hn ps,if_neg hc]
     have HM:Hid ((⟨((c :: r).drop N).toArray⟩:ByteArray).size < (⟨(c :: r).toArray⟩:ByteArray).size):=hms
     have hsm2:Hid (∀ t ∈ ps ++ [(c :: r).take N],t.length ≤ 1000):=fun t ht=>by
      rcases List.mem_append.1 ht with ht | ht
      ·exact hsm.out t ht
      ·rw [List.mem_singleton] at ht
       rw [ht];simp;omega
     clear hR hs0 hs1 hm hms hc hsm
     go_wp2_with (first
      | (at_builtin;refine wpList_append_own _ rfl _ _ 35 rfl w.heap.size 9 i0 (.string ⟨#[]⟩) 1 16 Tryz.underlying35 HI.out.1 HI.out.2.1 HI.out.2.2.1 HI.out.2.2.2 rfl (by decide) _ _ _ rfl (World.ownsRow.alloc hown1 _) ⟨w1.heap.size,0,none⟩ 1 1 [strV ((c :: r).take N)] rfl rfl ?c1 ?c2 ?c3 ?c4 ?c5 ?_)
      | go_in)
     case c1=>
      intro j u hj
      match j,hj with
      | 0,hj=>simp at hj;subst hj;simp [Addr.add,strV]
     case c2=>intro u hu;simp at hu;subst hu;rfl
     case c3=>unfold maxLen;omega
     case c4=>omega
     case c5=>have:=hb.size;simp;omega
     ·intro v' w2 hown' hgrow _
      obtain ⟨g1,g2⟩:=parts_grow hown1 hb (by have:=hb.size;omega) hown' hgrow
      clear hown' hgrow hown1
      go_wp2
      go_roundw
      case rel=>exact ⟨(c :: r).drop N,ps ++ [(c :: r).take N],k,rfl,by simp;omega,by simp;omega,hsm2,g1,g2,hR2⟩
      case measure=>exact HM.out
end Go.Proofs.YtaepcfidpekflaaGreatDoor
namespace Go.Proofs.YtaepcfidpekflaaGreatDoor
open Go.RowKit
/-! ### isDigits -/
/-! ### isWhole -/
end Go.Proofs.YtaepcfidpekflaaGreatDoor
namespace Go.Proofs.YtaepcfidpekflaaGreatDoor
open Go.RowKit
/-! ### Parse -/
end Go.Proofs.YtaepcfidpekflaaGreatDoor
namespace Go.Proofs.YtaepcfidpekflaaGreatDoor
open Go.RowKit
def sixT:List Pr.T:=[[122,101,114,111],[111,110,101],[116,119,111],[102,101,119],[109,97,110,121],[111,116,104,101,114]]
def sixV:Array Value:=#[.string ⟨#[122,101,114,111]⟩,.string ⟨#[111,110,101]⟩,.string ⟨#[116,119,111]⟩,.string ⟨#[102,101,119]⟩,.string ⟨#[109,97,110,121]⟩,.string ⟨#[111,116,104,101,114]⟩]
set_option maxHeartbeats 400000 in
theorem categories6_any (w:World):Calls Tryz.prog 155 #[] w fun e w'=>e = .returned (.slice (some ⟨w.heap.size,0,none⟩) 6 6) ∧ Row w' w.heap.size sixV ∧ Below w.heap.size w w':=by
 go_enter Tryz.func155,Tryz.ntmps155
 go_wp2
 go_ret
 exact ⟨rfl,row_at w sixV _,(Below.refl _ _).alloc (Nat.le_refl _) _⟩
set_option maxHeartbeats 400000 in
theorem isCategory_any (n:Pr.T) (w:World):Calls Tryz.prog 123 #[.string ⟨n.toArray⟩] w fun e w'=>e = .returned (.bool (decide (n ∈ sixT))) ∧ Below w.heap.size w w':=by
 have hin:Hid (Lib.containsS ((sixT.map fun t=>(⟨t.toArray⟩:ByteArray)).take 6) ⟨n.toArray⟩ = decide (n ∈ sixT)):=by
  show _ = _
  rw [Bool.eq_iff_iff,Lib.containsS_iff,decide_eq_true_eq]
  simp [sixT]
 go_enter Tryz.func123,Tryz.ntmps123
 go_wp2_with fail
 refine (categories6_any w).mono ?_
 rintro e w1 ⟨rfl,hr,hb⟩
 have hc:∀ j,j < (sixT.map fun t=>(⟨t.toArray⟩:ByteArray)).length → w1.cell? ⟨w.heap.size,0 + j,none⟩ = some (.string ((sixT.map fun t=>(⟨t.toArray⟩:ByteArray)).getD j ByteArray.empty)):=by
  intro j hj
  rw [Nat.zero_add,hr.2.1 j]
  match j,hj with
  | 0,_=>rfl
  | 1,_=>rfl
  | 2,_=>rfl
  | 3,_=>rfl
  | 4,_=>rfl
  | 5,_=>rfl
 have cc:=Tryz.slices_Contains_string w.heap.size 0 6 6 (sixT.map fun t=>(⟨t.toArray⟩:ByteArray)) ⟨n.toArray⟩ w1 (by simp [sixT]) (by decide) hc
 go_wp2_with fail
 refine cc.mono ?_
 rintro e w2 ⟨rfl,rfl⟩
 go_wp2
 go_ret
 exact ⟨by rw [hin.out];rfl,hb⟩
theorem six_cat (n:Pr.T) (h:n ≠ [111,116,104,101,114]):decide (n ∈ sixT) = Pr.catB n:=by
 unfold sixT Pr.catB
 simp [h]
set_option maxHeartbeats 400000 in
theorem mayHaveRule_any (n:Pr.T) (w:World):Calls Tryz.prog 91 #[.string ⟨n.toArray⟩] w fun e w'=>e = .returned (.bool (Pr.catB n)) ∧ Below w.heap.size w w':=by
 by_cases h:n = [111,116,104,101,114]
 ·subst h
  go_enter Tryz.func91,Tryz.ntmps91
  go_wp2
  go_ret
  exact ⟨rfl,Below.refl _ _⟩
 ·have hc:=isCategory_any n w
  rw [six_cat n h] at hc
  have h':(n == [111,116,104,101,114]) = false:=by simpa using h
  clear h
  generalize Pr.catB n = R at *
  go_enter Tryz.func91,Tryz.ntmps91
  go_wp2_with fail
  refine hc.mono ?_
  rintro e w1 ⟨rfl,hb⟩
  go_wp2
  go_ret
  exact ⟨rfl,hb⟩
end Go.Proofs.YtaepcfidpekflaaGreatDoor
namespace Go.Proofs.YtaepcfidpekflaaGreatDoor
open Go.RowKit
def CondIn (w:World) (v:Value) (f:Pr.Sem) (P E:Nat):Prop:=E ≤ w.heap.size ∧ ∃ g lb,v = .func (.func g) #[] lb ∧ Enters g ∧
 ∀ W,Base W → (∀ k,P < k → k < E → W.heap[k]? = w.heap[k]?) → ∀ m a b,Digs a → Digs b → Calls Tryz.prog g (#[numV m a b] ++ lb) W fun e w'=>e = .returned (.bool (f a b)) ∧ Below W.heap.size W w'
theorem CondIn.of {P:Nat} {w:World} {v:Value} {f:Pr.Sem} (h:Cnd P w v f):CondIn w v f P w.heap.size:=by
 obtain ⟨g,lb,h1,h2,h3⟩:=h
 exact ⟨Nat.le_refl _,g,lb,h1,h2,fun W hB hW=>h3 W hB fun k a b=>hW k a b⟩
theorem CondIn.move {w w':World} {v:Value} {f:Pr.Sem} {P E:Nat} (h:CondIn w v f P E) (hs:w.heap.size ≤ w'.heap.size) (hk:∀ k,P < k → k < E → w'.heap[k]? = w.heap[k]?):CondIn w' v f P E:=by
 obtain ⟨h0,g,lb,h1,h2,h3⟩:=h
 exact ⟨Nat.le_trans h0 hs,g,lb,h1,h2,fun W hB hW=>h3 W hB fun k a b=>(hW k a b).trans (hk k a b)⟩
theorem CondIn.later {w w':World} {v:Value} {f:Pr.Sem} {P E:Nat} (h:CondIn w v f P E) (hb:Below w.heap.size w w'):CondIn w' v f P E:=
 h.move hb.size fun k _ b=>hb.block k (Nat.lt_of_lt_of_le b h.1)
theorem parts_txts {w:World} {B:Nat} {v:Value} {ps:List Pr.T} (h:Parts w B v ps) (P:Nat) (hP:w.heap.size ≤ P):∃ a c,v = .slice a ps.length c ∧ ps.length ≤ c ∧ Txts P w a ps:=by
 obtain ⟨h1,h2⟩:=h
 rcases h2 with ⟨rfl,h2⟩ | ⟨g,cap,cur,rfl,hB,hg,hc,hm,hs,ht⟩
 ·exact ⟨none,0,by rw [h2],by omega,.inl (List.length_eq_zero_iff.1 h2)⟩
 ·refine ⟨_,cap,rfl,hc,.inr ⟨g,0,rfl,?_,?_,?_⟩⟩
  ·have:g < w.heap.size:=by
    rcases Nat.lt_or_ge g w.heap.size with h' | h'
    ·exact h'
    ·rw [Array.getElem?_eq_none h'] at hg;cases hg
   omega
  ·rcases Nat.lt_or_ge g w.heap.size with h' | h'
   ·exact h'
   ·rw [Array.getElem?_eq_none h'] at hg;cases hg
  ·intro j hj
   have hl:cur[j]? = some (.string ⟨(ps.getD j []).toArray⟩):=by
    have h3:(cur.toList.take (ps.length * 1))[j]? = some (strV (ps.getD j [])):=by
     rw [ht]
     simp [List.getElem?_map,List.getElem?_eq_getElem hj,List.getD_eq_getElem?_getD]
    rw [List.getElem?_take_of_lt (by omega)] at h3
    simpa [strV] using h3
   simp [World.cell?,hg,hl]
def CondSaid (w:World) (x:Option Pr.Sem) (e:Ending) (w':World):Prop:=Below w.heap.size w w' ∧ match x with
 | none=>e = .returned (.tuple #[.nilFunc,errRule])
 | some f=>∃ v P,e = .returned (.tuple #[v,.nilIface]) ∧ w.heap.size ≤ P ∧ CondIn w' v f P w'.heap.size
theorem baseX_new {w:World} (hB:Base w) (o:Obj):BaseX w.heap.size (w.alloc o):=fun W hA=>hB.below (((Below.refl w.heap.size w).alloc (Nat.le_refl _) o).trans (hA.below (Nat.le_refl _) (by simp)))
set_option maxHeartbeats 800000 in
theorem parse_any (w:World) (l:List Pr.T) (a:Option Addr) (c:Nat) (hB:Base w) (hc:l.length ≤ c) (hl:l.length ≤ 1000) (hs:∀ t ∈ l,t.length ≤ 1000) (ht:Txts w.heap.size w a l):
  Calls Tryz.prog 125 #[.slice a l.length c] w fun e w'=>CondSaid w (Pr.condP l) e w':=by
 obtain ⟨S,hS⟩:∃ S,Hid (Pr.condP l = S):=⟨_,rfl⟩
 rw [hS.out]
 have hb0:=(Below.refl w.heap.size w).alloc (Nat.le_refl _) (.cells #[.slice a l.length c] 269)
 have hL:Left w.heap.size (w.alloc (.cells #[.slice a l.length c] 269)) l:=⟨a,c,row_at _ _ _,hc,⟨hl,hs⟩,ht.ag (.of hb0 (Nat.le_refl _))⟩
 have co:=or_any w.heap.size _ l (baseX_new hB _) hL
 clear hL ht hs
 go_enter Tryz.func125,Tryz.ntmps125
 go_wp2_with fail
 refine co.mono ?_
 rintro e w1 ⟨ha1,hs⟩
 clear co
 have hw:Below w.heap.size w w1:=hb0.trans (ha1.below (Nat.le_refl _) (by simp))
 cases hv:Pr.orP l with
 | none=>
  rw [hv] at hs
  obtain rfl:=hs
  have hR:Hid (S = none):=by show _ = _;rw [← hS.out];simp [Pr.condP,hv]
  clear hv
  unfold errRule
  go_wp2
  go_ret2
  refine ⟨hw,?_⟩
  rw [hR.out]
  rfl
 | some y=>
  obtain ⟨f,r⟩:=y
  rw [hv] at hs
  obtain ⟨v,rfl,hcn,hl1⟩:=hs
  obtain ⟨a1,c1,r1,d1,d2,d3⟩:=hl1
  have q1:=r1.2.1
  cases r with
  | nil=>
   have hR:Hid (S = some f):=by show _ = _;rw [← hS.out];simp [Pr.condP,hv]
   clear hv
   obtain ⟨g,lb,rfl⟩:∃ g lb,v = .func (.func g) #[] lb:=by obtain ⟨g,lb,h,_⟩:=hcn;exact ⟨g,lb,h⟩
   go_wp2
   go_ret2
   refine ⟨hw,?_⟩
   rw [hR.out]
   exact ⟨_,_,rfl,Nat.le_refl _,.of hcn⟩
  | cons t r=>
   have hR:Hid (S = none):=by show _ = _;rw [← hS.out];simp [Pr.condP,hv]
   clear hv
   simp only [List.length_cons] at q1 d1
   have hp:(0:Int) < r.length + 1:=by omega
   go_wp2
   go_ret2
   refine ⟨hw,?_⟩
   rw [hR.out]
   rfl
theorem cut_sample (l:List UInt8) (w:World) (hl:l.length < 4294967281) (hB:Base w):
  Calls Tryz.prog 77 #[.string ⟨l.toArray⟩,.string ⟨#[64]⟩] w fun e w'=>e = .returned (.tuple #[.string ⟨(Lib.cut l [64]).1.toArray⟩,.string ⟨(Lib.cut l [64]).2.1.toArray⟩,.bool (Lib.cut l [64]).2.2]) ∧ Below w.heap.size w w':=by
 obtain ⟨_,⟨m,hm⟩,_⟩:=hB
 refine (Tryz.strings_Cut ⟨l.toArray⟩ ⟨#[64]⟩ m w (by rw [Lib.size_mk];exact hl) hm).mono ?_
 rintro e w' ⟨rfl,n,rfl⟩
 exact ⟨rfl,by first | exact below_drewN (Below.refl _ _) n | exact below_drewN w n⟩
theorem cut1_le (l:List UInt8):(Lib.cut l [64]).1.length ≤ l.length:=by
 unfold Lib.cut
 split
 ·simp [List.length_take];omega
 ·exact Nat.le_refl _
set_option maxHeartbeats 800000 in
theorem conditionOf_any (w:World) (l:Pr.T) (hsz:l.length < 1000000) (hB:Base w):
  Calls Tryz.prog 92 #[.string ⟨l.toArray⟩] w fun e w'=>CondSaid w (Pr.whenP l) e w':=by
 obtain ⟨S,hS⟩:∃ S,Hid (Pr.whenP l = S):=⟨_,rfl⟩
 rw [hS.out]
 by_cases h2:200 < l.length
 ·have h2':(200:Int) < l.length:=by omega
  have hR:Hid (S = none):=by show _ = _;rw [← hS.out,Pr.whenP,if_pos h2]
  go_enter Tryz.func92,Tryz.ntmps92
  go_wp2
  go_ret2
  refine ⟨Below.refl _ _,?_⟩
  rw [hR.out]
  rfl
 ·have h2':¬ (200:Int) < l.length:=by omega
  have cc:=cut_sample l w (by omega) hB
  have hle:=cut1_le l
  have hR0:Hid (S = match Pr.toks (Lib.cut l [64]).1 with
   | none=>none
   | some ts=>Pr.condP ts):=by
   show _ = _
   rw [← hS.out,Pr.whenP,if_neg h2]
   cases Pr.toks (Lib.cut l [64]).1 <;> rfl
  clear hS
  generalize (Lib.cut l [64]).1 = t at *
  generalize (Lib.cut l [64]).2.1 = t2 at *
  generalize (Lib.cut l [64]).2.2 = t3 at *
  go_enter Tryz.func92,Tryz.ntmps92
  go_wp2_with fail
  refine cc.mono ?_
  rintro e w1 ⟨rfl,hb1⟩
  clear cc
  have cs:=split_any t (by omega) w1
  go_wp2_with fail
  refine cs.mono ?_
  rintro e w2 ⟨hb2,hs⟩
  clear cs
  replace hb2:=below_of hb1 hb2
  clear hb1
  cases hv:Pr.toks t with
  | none=>
   rw [hv] at hs
   obtain rfl:=hs
   have hR:Hid (S = none):=by show _ = _;rw [hR0.out,hv]
   clear hv hR0
   unfold errRule
   go_wp2
   go_ret2
   refine ⟨hb2,?_⟩
   rw [hR.out]
   rfl
  | some ts=>
   rw [hv] at hs
   obtain ⟨v,rfl,hp,hl1,hl2⟩:=hs
   have hR1:Hid (S = Pr.condP ts):=by show _ = _;rw [hR0.out,hv]
   clear hv hR0
   obtain ⟨a,c,rfl,hc,ht⟩:=parts_txts hp w2.heap.size (Nat.le_refl _)
   have cp:=parse_any w2 ts a c (hB.below hb2) hc hl1 hl2 ht
   rw [← hR1.out] at cp
   clear hp ht hl2 hR1
   go_wp2_with fail
   refine cp.mono ?_
   rintro e w9 ⟨hb9,hs⟩
   clear cp
   replace hb9:=below_of hb2 hb9
   cases hv:S with
   | none=>
    rw [hv] at hs
    obtain rfl:=hs
    have hR:Hid (S = none):=hv
    clear hv
    unfold errRule
    go_wp2
    go_ret2
    refine ⟨hb9,?_⟩
    rw [hR.out]
    rfl
   | some f=>
    rw [hv] at hs
    obtain ⟨v,P,rfl,hP,hcn⟩:=hs
    have hR:Hid (S = some f):=hv
    clear hv
    go_wp2
    go_ret2
    refine ⟨hb9,?_⟩
    rw [hR.out]
    exact ⟨_,P,rfl,Nat.le_trans hb2.size hP,hcn⟩
end Go.Proofs.YtaepcfidpekflaaGreatDoor
