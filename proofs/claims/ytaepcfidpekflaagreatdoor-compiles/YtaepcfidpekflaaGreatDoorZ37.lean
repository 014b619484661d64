/-
  Several texts in one (As2). By the verifier.
-/
import Derived.Test.YtaepcfidpekflaaGreatDoorZ36
import Derived.WalkSpells
import Derived.WalkLawsBesides
namespace Go.Proofs.YtaepcfidpekflaaGreatDoor
open Go.RowKit Go.Extern.Stop Go.Stop Go.Extern
set_option maxHeartbeats 4000000 in
theorem as_miss (k:Int) (t:Addr) (w:World) (hg:w.cell? ⟨0,0,none⟩ = some (.iface 208 (.agg #[.pointer (some ⟨9,67,none⟩)]))):
  Calls Tryz.prog 56 #[.iface 30 (.int .i64 k),.iface 115 (.pointer (some t))] w fun ev w'=>ev = .returned (.bool false) ∧ Below w.heap.size w w':=by
 have h6:=@run_callFunc_extern Tryz.prog 84 _ (fun args=>ReflectliteValue.unpack (args.getD 0 (.tuple #[]))) Tryz.func84 (by kernel_rfl) (by kernel_rfl) (by kernel_rfl) (by kernel_rfl)
 have h7 := @run_callFunc_extern Tryz.prog 85 _ (ReflectliteValue.methodAny (ReflectliteValue.valueError "reflectlite.Value.Type" 0) (fun t _ _ _ => ReflectliteType.toType t)) Tryz.func85 (by kernel_rfl) (by kernel_rfl) (by kernel_rfl) (by kernel_rfl)
 have h8 := @run_callFunc_extern Tryz.prog 86 _ (ReflectliteValue.method (ReflectliteValue.valueError "reflectlite.Value.IsNil" 0) ReflectliteValue.isNil) Tryz.func86 (by kernel_rfl) (by kernel_rfl) (by kernel_rfl) (by kernel_rfl)
 have h27:=@run_callFunc_extern Tryz.prog 321 _ (ReflectliteType.abiMethod fun t=>do pure (.int .u8 (← Rtype.kind t))) Tryz.func321 (by kernel_rfl) (by kernel_rfl) (by kernel_rfl) (by kernel_rfl)
 have h37:=@run_callFunc_extern Tryz.prog 339 _ (ReflectliteType.method ReflectliteType.elem) Tryz.func339 (by kernel_rfl) (by kernel_rfl) (by kernel_rfl) (by kernel_rfl)
 have h38 := @run_callFunc_extern Tryz.prog 340 _ (ReflectliteType.relation "Implements" ReflectliteType.implements_) Tryz.func340 (by kernel_rfl) (by kernel_rfl) (by kernel_rfl) (by kernel_rfl)
 have h10:=@run_callFunc_extern Tryz.prog 112 _ ReflectliteType.typeOf Tryz.func112 (by kernel_rfl) (by kernel_rfl) (by kernel_rfl) (by kernel_rfl)
 have h35 := @run_callFunc_extern Tryz.prog 337 _ (ReflectliteType.relation "AssignableTo" ReflectliteType.assignableTo) Tryz.func337 (by kernel_rfl) (by kernel_rfl) (by kernel_rfl) (by kernel_rfl)
 have tO:=Tryz.typeOfE
 have mA:=Tryz.methodAssignableTo
 have aEF:=Tryz.assignableEF
 have f6:=Tryz.valueOfFPP
 have f7:=Tryz.typeFPP
 have mK:=Tryz.methodKind
 have mE:=Tryz.methodElem
 have mI:=Tryz.methodImplements
 have kFPP:=Tryz.kindFPP
 have kFP:=Tryz.kindFP
 have eFPP:=Tryz.elemFPP
 have iFP:=Tryz.implementsFP
 have nA:=Tryz.noAs
 have nU:=Tryz.noUn
 have nUs:=Tryz.noUns
 have n8:=Tryz.isNilFPP ⟨w.heap.size,0,none⟩ t ((w.alloc (.cells #[.pointer (some t)] 115)).alloc (.cells #[.pointer (some ⟨9,115,none⟩),.pointer (some ⟨w.heap.size,0,none⟩),.int .u64 150] 155)) (by simp)
 have hlt:0 < w.heap.size:=by
  rcases Nat.lt_or_ge 0 w.heap.size with h | h
  ·exact h
  ·simp [World.cell?,Array.getElem?_eq_none h] at hg
 have hg2:((w.alloc (.cells #[.pointer (some t)] 115)).alloc (.cells #[.pointer (some ⟨9,115,none⟩),.pointer (some ⟨w.heap.size,0,none⟩),.int .u64 150] 155)).cell? ⟨0,0,none⟩ = some (.iface 208 (.agg #[.pointer (some ⟨9,67,none⟩)])):=by
  rw [World.cell?_alloc_lt _ _ ⟨0,0,none⟩ (by first | (simp;done) | (simp;omega)),World.cell?_alloc_lt _ _ ⟨0,0,none⟩ hlt];exact hg
 go_enter Tryz.func56,Tryz.ntmps56
 go_wp2
 refine wp_loop_rounds 1 ?_
 rw [rounds_succ]
 go_wp2
 go_ret
 exact ⟨rfl,(((Below.refl _ _).alloc (Nat.le_refl _) _).alloc (by simp) _).alloc (by simp;omega) _⟩
set_option maxHeartbeats 4000000 in
theorem as_hit (k:Int) (t:Addr) (old:Value) (w:World) (ht0:w.cell? t = some old) (hf0:w.frozen? t = false) (hg:w.cell? ⟨0,0,none⟩ = some (.iface 208 (.agg #[.pointer (some ⟨9,67,none⟩)]))):
  Calls Tryz.prog 56 #[.iface 30 (.int .i64 k),.iface 118 (.pointer (some t))] w fun ev w'=>ev = .returned (.bool true) ∧ ∃ w2,Below w.heap.size w w2 ∧ w' = w2.setCell t (.int .i64 k):=by
 have h6:=@run_callFunc_extern Tryz.prog 84 _ (fun args=>ReflectliteValue.unpack (args.getD 0 (.tuple #[]))) Tryz.func84 (by kernel_rfl) (by kernel_rfl) (by kernel_rfl) (by kernel_rfl)
 have h7 := @run_callFunc_extern Tryz.prog 85 _ (ReflectliteValue.methodAny (ReflectliteValue.valueError "reflectlite.Value.Type" 0) (fun t _ _ _ => ReflectliteType.toType t)) Tryz.func85 (by kernel_rfl) (by kernel_rfl) (by kernel_rfl) (by kernel_rfl)
 have h8 := @run_callFunc_extern Tryz.prog 86 _ (ReflectliteValue.method (ReflectliteValue.valueError "reflectlite.Value.IsNil" 0) ReflectliteValue.isNil) Tryz.func86 (by kernel_rfl) (by kernel_rfl) (by kernel_rfl) (by kernel_rfl)
 have h27:=@run_callFunc_extern Tryz.prog 321 _ (ReflectliteType.abiMethod fun t=>do pure (.int .u8 (← Rtype.kind t))) Tryz.func321 (by kernel_rfl) (by kernel_rfl) (by kernel_rfl) (by kernel_rfl)
 have h37:=@run_callFunc_extern Tryz.prog 339 _ (ReflectliteType.method ReflectliteType.elem) Tryz.func339 (by kernel_rfl) (by kernel_rfl) (by kernel_rfl) (by kernel_rfl)
 have h38 := @run_callFunc_extern Tryz.prog 340 _ (ReflectliteType.relation "Implements" ReflectliteType.implements_) Tryz.func340 (by kernel_rfl) (by kernel_rfl) (by kernel_rfl) (by kernel_rfl)
 have h10:=@run_callFunc_extern Tryz.prog 112 _ ReflectliteType.typeOf Tryz.func112 (by kernel_rfl) (by kernel_rfl) (by kernel_rfl) (by kernel_rfl)
 have h35 := @run_callFunc_extern Tryz.prog 337 _ (ReflectliteType.relation "AssignableTo" ReflectliteType.assignableTo) Tryz.func337 (by kernel_rfl) (by kernel_rfl) (by kernel_rfl) (by kernel_rfl)
 have h11 := @run_callFunc_extern Tryz.prog 113 _ (ReflectliteValue.method (ReflectliteValue.valueError "reflectlite.Value.Elem" 0) ReflectliteValue.elem) Tryz.func113 (by kernel_rfl) (by kernel_rfl) (by kernel_rfl) (by kernel_rfl)
 have h12:=@run_callFunc_extern Tryz.prog 114 _ ReflectliteValue.set Tryz.func114 (by kernel_rfl) (by kernel_rfl) (by kernel_rfl) (by kernel_rfl)
 have tO:=Tryz.typeOfE
 have mA:=Tryz.methodAssignableTo
 have aE:=Tryz.assignableE
 have f6:=Tryz.valueOfEP
 have vE:=Tryz.valueOfE
 have f7:=Tryz.typeEP
 have mK:=Tryz.methodKind
 have mE:=Tryz.methodElem
 have mI:=Tryz.methodImplements
 have kEP:=Tryz.kindEP
 have kE:=Tryz.kindE
 have eEP:=Tryz.elemEP
 have iE:=Tryz.implementsE
 have nA:=Tryz.noAs
 have nU:=Tryz.noUn
 have nUs:=Tryz.noUns
 have n8:=Tryz.isNilEP ⟨w.heap.size,0,none⟩ t ((w.alloc (.cells #[.pointer (some t)] 118)).alloc (.cells #[.pointer (some ⟨9,118,none⟩),.pointer (some ⟨w.heap.size,0,none⟩),.int .u64 150] 155)) (by simp)
 have hlt:0 < w.heap.size:=by
  rcases Nat.lt_or_ge 0 w.heap.size with h | h
  ·exact h
  ·simp [World.cell?,Array.getElem?_eq_none h] at hg
 have hg2:((w.alloc (.cells #[.pointer (some t)] 118)).alloc (.cells #[.pointer (some ⟨9,118,none⟩),.pointer (some ⟨w.heap.size,0,none⟩),.int .u64 150] 155)).cell? ⟨0,0,none⟩ = some (.iface 208 (.agg #[.pointer (some ⟨9,67,none⟩)])):=by
  rw [World.cell?_alloc_lt _ _ ⟨0,0,none⟩ (by first | (simp;done) | (simp;omega)),World.cell?_alloc_lt _ _ ⟨0,0,none⟩ hlt];exact hg
 have htl:t.block < w.heap.size:=by
  rcases Nat.lt_or_ge t.block w.heap.size with h | h
  ·exact h
  ·simp [World.cell?,Array.getElem?_eq_none h] at ht0
 have el:=Tryz.elemVEP ⟨w.heap.size,0,none⟩ t (((w.alloc (.cells #[.pointer (some t)] 118)).alloc (.cells #[.pointer (some ⟨9,118,none⟩),.pointer (some ⟨w.heap.size,0,none⟩),.int .u64 150] 155)).alloc (.cells #[.pointer (some ⟨9,118,none⟩),.pointer (some ⟨w.heap.size,0,none⟩),.int .u64 150] 155)) (by rw [World.cell?_alloc_lt _ _ ⟨w.heap.size,0,none⟩ (by simp;omega)];simp)
 have st:=Tryz.setE t ⟨w.heap.size + 1 + 1 + 1,0,none⟩ k old ((((w.alloc (.cells #[.pointer (some t)] 118)).alloc (.cells #[.pointer (some ⟨9,118,none⟩),.pointer (some ⟨w.heap.size,0,none⟩),.int .u64 150] 155)).alloc (.cells #[.pointer (some ⟨9,118,none⟩),.pointer (some ⟨w.heap.size,0,none⟩),.int .u64 150] 155)).alloc (.cells #[.int .i64 k] 30))
  (by rw [World.cell?_alloc_at _ _ _ _ (by simp)];rfl)
  (by rw [World.cell?_alloc_lt _ _ t (by simp;omega),World.cell?_alloc_lt _ _ t (by simp;omega),World.cell?_alloc_lt _ _ t (by simp;omega),World.cell?_alloc_lt _ _ t htl];exact ht0)
  (by rw [World.frozen?_alloc_old _ _ t (by simp;omega),World.frozen?_alloc_old _ _ t (by simp;omega),World.frozen?_alloc_old _ _ t (by simp;omega),World.frozen?_alloc_old _ _ t (Nat.ne_of_lt htl)];exact hf0)
 go_enter Tryz.func56,Tryz.ntmps56
 go_wp2
 refine wp_loop_rounds 1 ?_
 rw [rounds_succ]
 go_wp2
 go_ret
 exact ⟨rfl,((((w.alloc (.cells #[.pointer (some t)] 118)).alloc (.cells #[.pointer (some ⟨9,118,none⟩),.pointer (some ⟨w.heap.size,0,none⟩),.int .u64 150] 155)).alloc (.cells #[.pointer (some ⟨9,118,none⟩),.pointer (some ⟨w.heap.size,0,none⟩),.int .u64 150] 155)).alloc (.cells #[.int .i64 k] 30)),((((Below.refl _ _).alloc (Nat.le_refl _) _).alloc (by simp) _).alloc (by simp;omega) _).alloc (by simp;omega) _,rfl⟩
/-! ### api.Tell -/
set_option maxHeartbeats 400000 in
theorem tell_nil (w:World):Calls Tryz.prog 32 #[.nilIface] w fun e w'=>e = .returned (.tuple #[.int .i64 0,.int .i64 0]) ∧ Below w.heap.size w w':=by
 go_enter Tryz.func32,Tryz.ntmps32
 go_wp2
 go_ret2
 exact ⟨rfl,((Below.refl _ _).alloc (Nat.le_refl _) _).alloc (by simp) _⟩
set_option maxHeartbeats 1000000 in
theorem tell_errno (k:Int) (w:World) (hg:w.cell? ⟨0,0,none⟩ = some (.iface 208 (.agg #[.pointer (some ⟨9,67,none⟩)]))):
  Calls Tryz.prog 32 #[.iface 30 (.int .i64 k)] w fun e w'=>e = .returned (.tuple #[.int .i64 k,.int .i64 0]) ∧ Below w.heap.size w w':=by
 have hlt:0 < w.heap.size:=by
  rcases Nat.lt_or_ge 0 w.heap.size with h | h
  ·exact h
  ·simp [World.cell?,Array.getElem?_eq_none h] at hg
 have hgA:∀ o1 o2,((w.alloc o1).alloc o2).cell? ⟨0,0,none⟩ = some (.iface 208 (.agg #[.pointer (some ⟨9,67,none⟩)])):=by
  intro o1 o2
  rw [World.cell?_alloc_lt _ _ ⟨0,0,none⟩ (by first | (simp;done) | (simp;omega)),World.cell?_alloc_lt _ _ ⟨0,0,none⟩ hlt];exact hg
 go_enter Tryz.func32,Tryz.ntmps32
 go_wp2_with fail
 refine (as_miss k _ _ (hgA _ _)).mono ?_
 rintro e w1 ⟨rfl,hb1⟩
 have hz1:=hb1.size
 simp at hz1
 have hg1:=(hb1.cell (p:=⟨0,0,none⟩) (by first | (simp;done) | (simp;omega))).trans (hgA _ _)
 have hc1:w1.cell? ⟨w.heap.size + 1,0,none⟩ = some (.int .i64 0):=(hb1.cell (p:=⟨w.heap.size + 1,0,none⟩) (by simp)).trans (by simp)
 have hf1:w1.frozen? ⟨w.heap.size + 1,0,none⟩ = false:=(hb1.frozen (p:=⟨w.heap.size + 1,0,none⟩) (by simp)).trans (by simp)
 go_wp2_with fail
 refine (as_hit k _ _ _ hc1 hf1 hg1).mono ?_
 rintro e w2 ⟨rfl,w3,hb3,rfl⟩
 have hz3:=hb3.size
 have hc3:(w3.setCell ⟨w.heap.size + 1,0,none⟩ (.int .i64 k)).cell? ⟨w.heap.size + 1,0,none⟩ = some (.int .i64 k):=World.cell?_setCell_same _ _ _ ((hb3.cell (p:=⟨w.heap.size + 1,0,none⟩) (by simp;omega)).trans hc1)
 go_wp2
 go_ret2
 exact ⟨rfl,(((((Below.refl _ _).alloc (Nat.le_refl _) _).alloc (by simp) _).trans (hb1.mono (by simp;omega))).trans (hb3.mono (by omega))).setCell (by simp) _⟩
end Go.Proofs.YtaepcfidpekflaaGreatDoor
