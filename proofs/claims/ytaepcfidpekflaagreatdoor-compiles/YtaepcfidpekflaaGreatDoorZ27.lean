/-
  Several texts in one (Bc). By the verifier.
-/
import Derived.Test.YtaepcfidpekflaaGreatDoorZ26
namespace Go.Proofs.YtaepcfidpekflaaGreatDoor
open Go.RowKit Go.Maps Go.Shelf Pg
def Eqs (w:World) (b n:Nat) (f:Value):Prop:=∃ (p q:Nat) (F:Pg.T) (V:Nat) (a:Int) (m sf:Value),f = .func (.func 207) #[] #[.pointer (some ⟨p,0,none⟩),.pointer (some ⟨q,0,none⟩)] ∧ Boxed w p 245 sf ∧ Hs w b n sf ∧ w.heap[q]? = some (.cells #[.string ⟨F.toArray⟩,.int .u32 (V:Nat),.int .i64 a,m] 332 (0,0)) ∧ F.length ≤ 1000 ∧ V < 4294967296
theorem Eqs.fb {w w':World} {b n n':Nat} {f:Value} (h:Eqs w b n f) (hd:Bd w b n) (hf:Fb b w w') (hn:n ≤ n'):Eqs w' b n' f:=by
 obtain ⟨p,q,F,V,a,m,sf,h1,h2,h3,h4,h5,h6⟩:=h
 exact ⟨p,q,F,V,a,m,sf,h1,(hf.at h2 (not_bo hd h2 (by decide) (by decide))).1,h3.fb hf hn,(hf.at h4 (not_bo hd h4 (by decide) (by decide))).1,h5,h6⟩
set_option maxHeartbeats 1600000 in
set_option maxRecDepth 100000 in
theorem eq1_any (b n M k:Nat) (f:Value) (w:World) (hd:Bd w b n) (hm:Mp w M k) (hs:Eqs w b n f):
  ∃ cap,f = .func (.func 207) #[] cap ∧ Calls Tryz.prog 207 (#[.map (some M)] ++ cap) w fun e w'=>e = .returned (.tuple #[]) ∧ Bd w' b n ∧ Fb b w w':=by
 obtain ⟨p,q,F,V,a,m,sf,rfl,hp,hsf,hq,hF,hV⟩:=hs
 refine ⟨_,rfl,?_⟩
 obtain ⟨D,hD⟩:=hm
 have hkey:=sel_key F V (by omega) hV
 have HKEY:Hid (keyOf Tryz.prog 330 (.agg #[.string ⟨F.toArray⟩,.int .u32 V]) = some (.string (keyBytes [.string F,.int .u32 (V:Nat)]))):=hkey
 have law:=sel_keyed
 have HZK:Hid (∀ W,(zeroValue 3).run Tryz.prog W = .ok (.int .i64 0) W):=Tryz.zeroValue3
 have HD:Hid (w.ownsMap Tryz.prog 330 (plainElem Tryz.prog 3) M k D):=hD
 have HU:Hid (Tryz.prog.underlying 337 = some (.map 330 3)):=Tryz.underlying337
 obtain ⟨cap,rfl,-⟩:=bset_any b n sf .nilIface (.inl rfl) w hd hsf
 have HK:Hid (∀ (w2:World) (t:TypeId) (v:Value),Below w.heap.size w w2 → Calls Tryz.prog 229 (#[.iface t v] ++ cap) w2 fun e w'=>e = .returned (.tuple #[]) ∧ Bd w' b n ∧ Fb b w w'):=fun w2 t v hb=>by
  have hsf2:=hsf.fb (Fb.of hd hb) (Nat.le_refl _)
  obtain ⟨cap2,he,kc⟩:=bset_any b n _ (.iface t v) (.inr ⟨t,v,rfl⟩) w2 (hd.keep hb) hsf2
  cases he
  exact kc.mono fun e w' ⟨h1,h2,h3⟩=>⟨h1,h2,(Fb.of hd hb).trans h3⟩
 obtain ⟨p1,q1,at_,hcap,_⟩:=hsf
 cases hcap
 have HK2:Hid (∀ (w2:World) (t:TypeId) (v:Value),Below w.heap.size w w2 → Calls Tryz.prog 229 #[.iface t v,.pointer (some ⟨p1,0,none⟩),.pointer (some ⟨q1,0,none⟩)] w2 fun e w'=>e = .returned (.tuple #[]) ∧ Bd w' b n ∧ Fb b w w'):=HK.out
 clear HK
 have cp:=hp.cell
 have c0:w.cell? ⟨q,0,none⟩ = some (.string ⟨F.toArray⟩):=by simp [World.cell?,hq]
 have c1:w.cell? ⟨q,1,none⟩ = some (.int .u32 V):=by simp [World.cell?,hq]
 have eg:=enters_of (P:=Tryz.prog) Tryz.func229 (by kernel_rfl) rfl
 obtain ⟨z1,hl1,-,-⟩:=hD.lookup_int law HU.out Tryz.underlying3 (HZK.out _) HKEY.out
 obtain ⟨z2,hl2,-,-⟩:=hD.drew.lookup_int law HU.out Tryz.underlying3 (HZK.out _) HKEY.out
 clear hD hkey hd hp hq
 go_enter Tryz.func207,Tryz.ntmps207
 go_wp2_with fail
 go_region_with (go_at_call 229;refine (HK2.out _ _ _ (by first | exact Below.refl _ _ | exact (Below.refl _ _).drew)).mono ?_;rintro e w5 ⟨rfl,HD5,HF5⟩)
 all_goals (go_wp2;go_end0;exact ⟨rfl,HD5,HF5⟩)
end Go.Proofs.YtaepcfidpekflaaGreatDoor
