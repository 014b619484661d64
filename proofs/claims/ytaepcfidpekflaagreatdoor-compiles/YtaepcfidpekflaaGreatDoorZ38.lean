/-
  Several texts in one (As3). By the verifier.
-/
import Derived.Test.YtaepcfidpekflaaGreatDoorZ37
import Derived.Test.YtaepcfidpekflaaGreatDoorZ19
namespace Go.Proofs.YtaepcfidpekflaaGreatDoor
open Go.RowKit Go.Extern.Stop Go.Stop Go.Extern
theorem Tryz.valueOfFp (q:Addr) (w:World):(ReflectliteValue.unpack (.iface 113 (.pointer (some q)))).run Tryz.prog w
  = .ok (.agg #[.pointer (some ⟨9,113,none⟩),.pointer (some ⟨w.heap.size,0,none⟩),.int .u64 150]) (w.alloc (.cells #[.pointer (some q)] 113)):=by kernel_rfl
theorem Tryz.typeOfFp (v:Value) (w:World):(ReflectliteType.typeOf #[.iface 113 v]).run Tryz.prog w = .ok (.iface 208 (.agg #[.pointer (some ⟨9,113,none⟩)])) w:=by kernel_rfl
theorem Tryz.assignableFp (w : World) : (ReflectliteType.relation "AssignableTo" ReflectliteType.assignableTo #[.agg #[.pointer (some ⟨9, 113, none⟩)], .iface 208 (.agg #[.pointer (some ⟨9, 113, none⟩)])]).run Tryz.prog w = .ok (.bool true) w := by kernel_rfl
theorem Tryz.elemOfFPP (w:World):(Rtype.elem? 115).run Tryz.prog w = .ok (some 113) w:=by kernel_rfl
theorem Tryz.mkFp (p:Addr) (w:World):(ReflectliteValue.mk 113 p ReflectliteValue.flagAddr).run Tryz.prog w = .ok (.agg #[.pointer (some ⟨9,113,none⟩),.pointer (some p),.int .u64 406]) w:=by kernel_rfl
theorem Tryz.elemVFPP (a p:Addr) (W:World) (ha:W.cell? a = some (.pointer (some p))):
  (ReflectliteValue.method (ReflectliteValue.valueError "reflectlite.Value.Elem" 0) ReflectliteValue.elem #[.agg #[.pointer (some ⟨9, 115, none⟩), .pointer (some a), .int .u64 150]]).run Tryz.prog W
   = .ok (.agg #[.pointer (some ⟨9,113,none⟩),.pointer (some p),.int .u64 406]) W:=by
 rw [rlm]
 simp only [Sem.run_bind,Tryz.partsFPP,Result.andThen]
 simp [ReflectliteValue.elem,loadVar,isAgg,underlying,Tryz.underlying115,ha,Result.andThen,Tryz.elemOfFPP,Tryz.mkFp]
theorem Tryz.partsFa (a:Addr) (w:World):(ReflectliteValue.parts (.agg #[.pointer (some ⟨9,113,none⟩),.pointer (some a),.int .u64 406])).run Tryz.prog w = .ok (some (113,a,406)) w:=by kernel_rfl
theorem Tryz.partsFp (a:Addr) (w:World):(ReflectliteValue.parts (.agg #[.pointer (some ⟨9,113,none⟩),.pointer (some a),.int .u64 150])).run Tryz.prog w = .ok (some (113,a,150)) w:=by kernel_rfl
theorem Tryz.directFp (w:World):(Rtype.directlyAssignable 113 113).run Tryz.prog w = .ok true w:=by kernel_rfl
theorem Tryz.setFp (ta b q:Addr) (old:Value) (W:World) (hb:W.cell? b = some (.pointer (some q))) (ht:W.cell? ta = some old) (hf:W.frozen? ta = false):
  (ReflectliteValue.set #[.agg #[.pointer (some ⟨9,113,none⟩),.pointer (some ta),.int .u64 406],.agg #[.pointer (some ⟨9,113,none⟩),.pointer (some b),.int .u64 150]]).run Tryz.prog W
   = .ok (.tuple #[]) (W.setCell ta (.pointer (some q))):=by
 rw [rls]
 simp only [Sem.run_bind,Tryz.partsFa,Tryz.partsFp,Result.andThen]
 simp [ReflectliteValue.flagAddr,loadVar,isAgg,underlying,Tryz.underlying113,hb,Result.andThen,Tryz.directFp,storeVar,Value.cells,storeCells,Addr.add]
 rw [run_store Tryz.prog W ta _ _ (by rfl)]
 simp [ht,hf]
set_option maxHeartbeats 4000000 in
theorem as_hitF (q:Addr) (t:Addr) (old:Value) (w:World) (ht0:w.cell? t = some old) (hf0:w.frozen? t = false) (hg:w.cell? ⟨0,0,none⟩ = some (.iface 208 (.agg #[.pointer (some ⟨9,67,none⟩)]))):
  Calls Tryz.prog 56 #[.iface 113 (.pointer (some q)),.iface 115 (.pointer (some t))] w fun ev w'=>ev = .returned (.bool true) ∧ ∃ w2,Below w.heap.size w w2 ∧ w' = w2.setCell t (.pointer (some q)):=by
 have h6:=@run_callFunc_extern Tryz.prog 84 _ (fun args=>ReflectliteValue.unpack (args.getD 0 (.tuple #[]))) Tryz.func84 (by kernel_rfl) (by kernel_rfl) (by kernel_rfl) (by kernel_rfl)
 have h7 := @run_callFunc_extern Tryz.prog 85 _ (ReflectliteValue.methodAny (ReflectliteValue.valueError "reflectlite.Value.Type" 0) (fun t _ _ _ => ReflectliteType.toType t)) Tryz.func85 (by kernel_rfl) (by kernel_rfl) (by kernel_rfl) (by kernel_rfl)
 have h8 := @run_callFunc_extern Tryz.prog 86 _ (ReflectliteValue.method (ReflectliteValue.valueError "reflectlite.Value.IsNil" 0) ReflectliteValue.isNil) Tryz.func86 (by kernel_rfl) (by kernel_rfl) (by kernel_rfl) (by kernel_rfl)
 have h27:=@run_callFunc_extern Tryz.prog 321 _ (ReflectliteType.abiMethod fun t=>do pure (.int .u8 (← Rtype.kind t))) Tryz.func321 (by kernel_rfl) (by kernel_rfl) (by kernel_rfl) (by kernel_rfl)
 have h37:=@run_callFunc_extern Tryz.prog 339 _ (ReflectliteType.method ReflectliteType.elem) Tryz.func339 (by kernel_rfl) (by kernel_rfl) (by kernel_rfl) (by kernel_rfl)
 have h38 := @run_callFunc_extern Tryz.prog 340 _ (ReflectliteType.relation "Implements" ReflectliteType.implements_) Tryz.func340 (by kernel_rfl) (by kernel_rfl) (by kernel_rfl) (by kernel_rfl)
 have h10:=@run_callFunc_extern Tryz.prog 112 _ ReflectliteType.typeOf Tryz.func112 (by kernel_rfl) (by kernel_rfl) (by kernel_rfl) (by kernel_rfl)
 have h35 := @run_callFunc_extern Tryz.prog 337 _ (ReflectliteType.relation "AssignableTo" ReflectliteType.assignableTo) Tryz.func337 (by kernel_rfl) (by kernel_rfl) (by kernel_rfl) (by kernel_rfl)
 have h11 := @run_callFunc_extern Tryz.prog 113 _ (ReflectliteValue.method (ReflectliteValue.valueError "reflectlite.Value.Elem" 0) ReflectliteValue.elem) Tryz.func113 (by kernel_rfl) (by kernel_rfl) (by kernel_rfl) (by kernel_rfl)
 have h12:=@run_callFunc_extern Tryz.prog 114 _ ReflectliteValue.set Tryz.func114 (by kernel_rfl) (by kernel_rfl) (by kernel_rfl) (by kernel_rfl)
 have tO:=Tryz.typeOfFp
 have mA:=Tryz.methodAssignableTo
 have aE:=Tryz.assignableFp
 have f6:=Tryz.valueOfFPP
 have vE:=Tryz.valueOfFp
 have f7:=Tryz.typeFPP
 have mK:=Tryz.methodKind
 have mE:=Tryz.methodElem
 have mI:=Tryz.methodImplements
 have kEP:=Tryz.kindFPP
 have kE:=Tryz.kindFP
 have eEP:=Tryz.elemFPP
 have iE:=Tryz.implementsFP
 have n8:=Tryz.isNilFPP ⟨w.heap.size,0,none⟩ t ((w.alloc (.cells #[.pointer (some t)] 115)).alloc (.cells #[.pointer (some ⟨9,115,none⟩),.pointer (some ⟨w.heap.size,0,none⟩),.int .u64 150] 155)) (by simp)
 have hlt:0 < w.heap.size:=by
  rcases Nat.lt_or_ge 0 w.heap.size with h | h
  ·exact h
  ·simp [World.cell?,Array.getElem?_eq_none h] at hg
 have hg2:((w.alloc (.cells #[.pointer (some t)] 115)).alloc (.cells #[.pointer (some ⟨9,115,none⟩),.pointer (some ⟨w.heap.size,0,none⟩),.int .u64 150] 155)).cell? ⟨0,0,none⟩ = some (.iface 208 (.agg #[.pointer (some ⟨9,67,none⟩)])):=by
  rw [World.cell?_alloc_lt _ _ ⟨0,0,none⟩ (by first | (simp;done) | (simp;omega)),World.cell?_alloc_lt _ _ ⟨0,0,none⟩ hlt];exact hg
 have htl:t.block < w.heap.size:=by
  rcases Nat.lt_or_ge t.block w.heap.size with h | h
  ·exact h
  ·simp [World.cell?,Array.getElem?_eq_none h] at ht0
 have el:=Tryz.elemVFPP ⟨w.heap.size,0,none⟩ t (((w.alloc (.cells #[.pointer (some t)] 115)).alloc (.cells #[.pointer (some ⟨9,115,none⟩),.pointer (some ⟨w.heap.size,0,none⟩),.int .u64 150] 155)).alloc (.cells #[.pointer (some ⟨9,115,none⟩),.pointer (some ⟨w.heap.size,0,none⟩),.int .u64 150] 155)) (by rw [World.cell?_alloc_lt _ _ ⟨w.heap.size,0,none⟩ (by simp;omega)];simp)
 have st:=Tryz.setFp t ⟨w.heap.size + 1 + 1 + 1,0,none⟩ q old ((((w.alloc (.cells #[.pointer (some t)] 115)).alloc (.cells #[.pointer (some ⟨9,115,none⟩),.pointer (some ⟨w.heap.size,0,none⟩),.int .u64 150] 155)).alloc (.cells #[.pointer (some ⟨9,115,none⟩),.pointer (some ⟨w.heap.size,0,none⟩),.int .u64 150] 155)).alloc (.cells #[(.pointer (some q))] 113))
  (by rw [World.cell?_alloc_at _ _ _ _ (by simp)];rfl)
  (by rw [World.cell?_alloc_lt _ _ t (by simp;omega),World.cell?_alloc_lt _ _ t (by simp;omega),World.cell?_alloc_lt _ _ t (by simp;omega),World.cell?_alloc_lt _ _ t htl];exact ht0)
  (by rw [World.frozen?_alloc_old _ _ t (by simp;omega),World.frozen?_alloc_old _ _ t (by simp;omega),World.frozen?_alloc_old _ _ t (by simp;omega),World.frozen?_alloc_old _ _ t (Nat.ne_of_lt htl)];exact hf0)
 go_enter Tryz.func56,Tryz.ntmps56
 go_wp2
 refine wp_loop_rounds 1 ?_
 rw [rounds_succ]
 go_wp2
 go_ret
 exact ⟨rfl,((((w.alloc (.cells #[.pointer (some t)] 115)).alloc (.cells #[.pointer (some ⟨9,115,none⟩),.pointer (some ⟨w.heap.size,0,none⟩),.int .u64 150] 155)).alloc (.cells #[.pointer (some ⟨9,115,none⟩),.pointer (some ⟨w.heap.size,0,none⟩),.int .u64 150] 155)).alloc (.cells #[(.pointer (some q))] 113)),((((Below.refl _ _).alloc (Nat.le_refl _) _).alloc (by simp) _).alloc (by simp;omega) _).alloc (by simp;omega) _,rfl⟩
set_option maxHeartbeats 800000 in
theorem tell_fault (b:Nat) (k a:Int) (w:World) (hg:w.cell? ⟨0,0,none⟩ = some (.iface 208 (.agg #[.pointer (some ⟨9,67,none⟩)]))) (hb:b < w.heap.size) (c0:w.cell? ⟨b,0,none⟩ = some (.int .i64 k)) (c1:w.cell? ⟨b,1,none⟩ = some (.int .i64 a)):
  Calls Tryz.prog 32 #[.iface 113 (.pointer (some ⟨b,0,none⟩))] w fun e w'=>e = .returned (.tuple #[.int .i64 k,.int .i64 a]) ∧ Below w.heap.size w w':=by
 have hlt:0 < w.heap.size:=by
  rcases Nat.lt_or_ge 0 w.heap.size with h | h
  ·exact h
  ·simp [World.cell?,Array.getElem?_eq_none h] at hg
 have hgA:∀ o1 o2,((w.alloc o1).alloc o2).cell? ⟨0,0,none⟩ = some (.iface 208 (.agg #[.pointer (some ⟨9,67,none⟩)])):=by
  intro o1 o2
  rw [World.cell?_alloc_lt _ _ ⟨0,0,none⟩ (by first | (simp;done) | (simp;omega)),World.cell?_alloc_lt _ _ ⟨0,0,none⟩ hlt];exact hg
 have hAB:∀ o1 o2,Below w.heap.size w ((w.alloc o1).alloc o2):=fun o1 o2=>((Below.refl _ _).alloc (Nat.le_refl _) _).alloc (by simp) _
 go_enter Tryz.func32,Tryz.ntmps32
 go_wp2_with fail
 refine (as_hitF _ _ (.pointer none) _ (by rw [World.cell?_alloc_lt _ _ ⟨w.heap.size,0,none⟩ (by simp)];simp) (by rw [World.frozen?_alloc_old _ _ ⟨w.heap.size,0,none⟩ (by simp)];simp) (hgA _ _)).mono ?_
 rintro e w2 ⟨rfl,w3,hb3,rfl⟩
 have hz3:=hb3.size
 simp at hz3
 have hb3':Below w.heap.size w w3:=(hAB _ _).trans (hb3.mono (by simp;omega))
 have hc3:(w3.setCell ⟨w.heap.size,0,none⟩ (.pointer (some ⟨b,0,none⟩))).cell? ⟨w.heap.size,0,none⟩ = some (.pointer (some ⟨b,0,none⟩)):=World.cell?_setCell_same _ _ _ ((hb3.cell (p:=⟨w.heap.size,0,none⟩) (by simp;omega)).trans (by rw [World.cell?_alloc_lt _ _ ⟨w.heap.size,0,none⟩ (by simp)];simp;rfl))
 have HB4:Hid (Below w.heap.size w (w3.setCell ⟨w.heap.size,0,none⟩ (.pointer (some ⟨b,0,none⟩)))):=hb3'.setCell (p:=⟨w.heap.size,0,none⟩) (by simp) _
 have d0:=(HB4.out.cell (p:=⟨b,0,none⟩) hb).trans c0
 have d1:=(HB4.out.cell (p:=⟨b,1,none⟩) hb).trans c1
 clear hb3 hb3'
 go_wp2
 go_quiet (fail)
 go_wp2
 refine bodyPost_ret (v:=.tuple #[.int .i64 k,.int .i64 a]) (by simp [results,Tryz.results32,go_sem]) rfl ?_
 exact ⟨rfl,by first | exact HB4.out | exact below_of HB4.out (drewB _ _)⟩
end Go.Proofs.YtaepcfidpekflaaGreatDoor
