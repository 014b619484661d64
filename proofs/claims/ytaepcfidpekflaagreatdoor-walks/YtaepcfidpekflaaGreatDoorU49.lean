/-
  Several texts in one (Iz, As). By the verifier.
-/
import Derived.Test.YtaepcfidpekflaaGreatDoorU48
import Derived.Test.YtaepcfidpekflaaGreatDoorProg
import Derived.WalkKit
import Derived.LaidEql
import Derived.Stop.Asserts
import Derived.RowKitTokens
namespace Go.Proofs.YtaepcfidpekflaaGreatDoor
open Go.RowKit Go.Maps Go.Shelf Pg

theorem ownsRow_len {W : World} {B n m c : Nat} {e : TypeId} {a : Option Addr} {xs : List Value} (h : W.ownsRow B e 1 (.slice a m c) n xs) : m = n := by
  rcases h.2 with ⟨h1, h2⟩ | ⟨g, cap, cur, h1, _⟩
  · simp only [Value.slice.injEq] at h1; omega
  · simp only [Value.slice.injEq] at h1; exact h1.2.1
/-- A box below a row's base is no block of the row. -/
theorem box_grown {W w2 : World} {o : Obj} {B k n b : Nat} {e t : TypeId} {v x : Value} {xs : List Value} (hown : W.ownsRow B e k v n xs) (hg : (W.alloc o).grownBy w2 v.ownBlock) (hb : Boxed W b t x) (hB : b < B) : Boxed w2 b t x :=
  (hb.alloc o).kept hg (fun e => by have := (hown.lt b e.symm).1; omega)
set_option maxHeartbeats 3200000 in
set_option maxRecDepth 100000 in
theorem walk1_any (b : Nat) (n : Int) (d : List Ar) (x : Ar) (W : World) (h : WkSt b n d W) (hl : d.length < 4000) :
    Calls Tryz.prog 67 #[.string ⟨x.1.toArray⟩, .int .i64 (x.2 : Nat), .pointer (some ⟨b + 1, 0, none⟩), .pointer (some ⟨b + 2, 0, none⟩), .pointer (some ⟨b, 0, none⟩)] W fun e w' => e = .returned (.bool (decide (((d.length + 1 : Nat) : Int) < n))) ∧ WkSt b n (d ++ [x]) w' ∧ Fr (WkOwn b) W w' ∧ KeepsOthers W w' ∧ Below b W w' := by
  obtain ⟨i0, h01, h02, h03, h04⟩ := info_parts info_str
  have HI0 : Hid (Tryz.prog.info? 9 = some i0 ∧ i0.zero = some (.string ByteArray.empty) ∧ i0.size = 1 ∧ i0.bytes = 16) := ⟨h01, h02, h03, h04⟩
  obtain ⟨i1, h11, h12, h13, h14⟩ := info_parts info_int3
  have HI1 : Hid (Tryz.prog.info? 3 = some i1 ∧ i1.zero = some (.int .i64 0) ∧ i1.size = 1 ∧ i1.bytes = 8) := ⟨h11, h12, h13, h14⟩
  clear h01 h02 h03 h04 h11 h12 h13 h14
  obtain ⟨v, u, hv, hu, hx, h4⟩ := h
  obtain ⟨va, vn, vc, rfl⟩ := owns_form h4.names
  obtain ⟨ua, un, uc, rfl⟩ := owns_form h4.places
  have cv := hv.cell
  have fv := hv.frozen
  have hzb := hu.lt
  have hown := h4.names
  have HT : Hid (Two W (b + 3) (.slice va vn vc) (.slice ua un uc) d) := h4
  have HV : Hid (Boxed W (b + 1) 35 (.slice va vn vc)) := hv
  have HU : Hid (Boxed W (b + 2) 22 (.slice ua un uc)) := hu
  have HX : Hid (Boxed W b 3 (.int .i64 n)) := hx
  clear h4 hv hu hx
  go_enter Tryz.func67, Tryz.ntmps67
  go_wp2_with (at_builtin; refine wpList_append_own_at _ rfl _ _ 35 rfl (b + 3) 9 i0 (.string ByteArray.empty) 1 16 Tryz.underlying35 HI0.out.1 HI0.out.2.1 HI0.out.2.2.1 HI0.out.2.2.2 rfl (by decide) _ d.length (strs (d.map (·.1))) rfl (World.ownsRow.alloc hown _) ⟨W.heap.size, 0, none⟩ 1 1 [.string ⟨x.1.toArray⟩] rfl rfl (cell_one_new _ _ _) (by intro u hu; simp at hu; subst hu; rfl) (by unfold maxLen; omega) (by omega) (by simp; omega) ?_)
  intro v3 w3 hown3 hgrow3 _ hat3
  obtain ⟨hpl3, hap3⟩ := two_name HT.out hgrow3 hat3
  have b1 : Boxed w3 (b + 1) 35 (.slice va vn vc) := box_grown hown hgrow3 HV.out (by omega)
  have b2 : Boxed w3 (b + 2) 22 (.slice ua un uc) := box_grown hown hgrow3 HU.out (by omega)
  have b0 : Boxed w3 b 3 (.int .i64 n) := box_grown hown hgrow3 HX.out (by omega)
  obtain ⟨a3, n3, c3, rfl⟩ := owns_form hown3
  have hn3 := ownsRow_len hown3
  subst hn3
  have hzs : (w3.setCell ⟨b + 1, 0, none⟩ (.slice a3 (d.length + 1) c3)).heap.size = w3.heap.size := by simp [World.setCell]
  have hz3 : W.heap.size + 1 ≤ w3.heap.size := by have := hgrow3.size; simp at this; exact this
  have nb3 : ∀ g, (Value.slice a3 (d.length + 1) c3).ownBlock = some g → g ≠ b + 1 := fun g hg => by have := (hown3.lt g hg).1; omega
  have nu3 : ∀ g, (Value.slice ua un uc).ownBlock = some g → g ≠ b + 1 := fun g hg => by have := (hpl3.lt g hg).1; omega
  have HN3 : Hid ((w3.setCell ⟨b + 1, 0, none⟩ (.slice a3 (d.length + 1) c3)).ownsRow (b + 3) 9 1 (.slice a3 (d.length + 1) c3) (d.length + 1) (strs (d.map (·.1)) ++ [.string ⟨x.1.toArray⟩])) := ownsRow_same hown3 fun g hg => set_heap_other (p := ⟨b + 1, 0, none⟩) (nb3 g hg)
  have hown4 : (w3.setCell ⟨b + 1, 0, none⟩ (.slice a3 (d.length + 1) c3)).ownsRow (b + 3) 3 1 (.slice ua un uc) d.length (d.map fun x => ixV x.2) := ownsRow_same hpl3 fun g hg => set_heap_other (p := ⟨b + 1, 0, none⟩) (nu3 g hg)
  have HAP : Hid (∀ g, (Value.slice a3 (d.length + 1) c3).ownBlock = some g → (Value.slice ua un uc).ownBlock ≠ some g) := hap3
  have s1 : Boxed (w3.setCell ⟨b + 1, 0, none⟩ (.slice a3 (d.length + 1) c3)) (b + 1) 35 (.slice a3 (d.length + 1) c3) := b1.set _
  have s2 : Boxed (w3.setCell ⟨b + 1, 0, none⟩ (.slice a3 (d.length + 1) c3)) (b + 2) 22 (.slice ua un uc) := b2.other (by omega) _
  have s0 : Boxed (w3.setCell ⟨b + 1, 0, none⟩ (.slice a3 (d.length + 1) c3)) b 3 (.int .i64 n) := b0.other (by omega) _
  have HS1 : Hid (Boxed (w3.setCell ⟨b + 1, 0, none⟩ (.slice a3 (d.length + 1) c3)) (b + 1) 35 (.slice a3 (d.length + 1) c3)) := s1
  have HS2 : Hid (Boxed (w3.setCell ⟨b + 1, 0, none⟩ (.slice a3 (d.length + 1) c3)) (b + 2) 22 (.slice ua un uc)) := s2
  have HS0 : Hid (Boxed (w3.setCell ⟨b + 1, 0, none⟩ (.slice a3 (d.length + 1) c3)) b 3 (.int .i64 n)) := s0
  have cell1 := b1.cell
  have froz1 := b1.frozen
  have d2 := s2.cell
  -- the first append and store: what stands
  have HK3 : Hid (∀ k, k ≠ b + 1 → k < W.heap.size → (Value.slice va vn vc).ownBlock ≠ some k → (w3.setCell ⟨b + 1, 0, none⟩ (.slice a3 (d.length + 1) c3)).heap[k]? = W.heap[k]?) := fun k h1 h2 h3 => (set_heap_other (p := ⟨b + 1, 0, none⟩) h1).trans ((hgrow3.block k (by simp; omega) (fun e => h3 e.symm)).trans (Below.heap_alloc W _ k h2))
  have HO3 : Hid (KeepsOthers W (w3.setCell ⟨b + 1, 0, none⟩ (.slice a3 (d.length + 1) c3))) := ((KeepsOthers.alloc _ _).trans (KeepsOthers.of_grownBy hgrow3 (fun j o e hj => by
    obtain ⟨_, c, T, f, hc⟩ := ownsRow_cells (World.ownsRow.alloc hown _) e
    rw [hc] at hj
    cases hj
    rfl))).trans (KeepsOthers.setCell _ _ _)
  have HB3 : Hid (Below b W (w3.setCell ⟨b + 1, 0, none⟩ (.slice a3 (d.length + 1) c3))) := (((Below.refl b W).alloc (by omega) _).grown hgrow3 (by simp; omega) (fun q hq => by have := (hown.lt q hq).1; omega)).setCell (p := ⟨b + 1, 0, none⟩) (by simp) _
  have HA3 : Hid ((Value.slice a3 (d.length + 1) c3).ownBlock = (Value.slice va vn vc).ownBlock ∨ (Value.slice a3 (d.length + 1) c3).ownBlock = some (W.heap.size + 1)) := hat3
  clear hown hown3 hgrow3 hat3 hpl3 hap3 b1 b2 b0 s1 s2 s0 nb3 nu3
  go_wp2_with (at_builtin; refine wpList_append_own_at _ rfl _ _ 22 rfl (b + 3) 3 i1 (.int .i64 0) 1 8 Tryz.underlying22 HI1.out.1 HI1.out.2.1 HI1.out.2.2.1 HI1.out.2.2.2 rfl (by decide) _ d.length (d.map fun x => ixV x.2) rfl (World.ownsRow.alloc hown4 _) ⟨w3.heap.size, 0, none⟩ 1 1 [.int .i64 (x.2 : Int)] rfl rfl (by have := cell_one_new (w3.setCell ⟨b + 1, 0, none⟩ (.slice a3 (d.length + 1) c3)) (.int .i64 (x.2 : Int)) 3; rw [hzs] at this; exact this) (by intro u hu; simp at hu; subst hu; rfl) (by unfold maxLen; omega) (by omega) (by simp; omega) ?_)
  intro u4 w4 hown5 hgrow4 _ hat4
  have ht4 := two_place HN3.out HAP.out hown5 hgrow4 (by rw [hzs]; exact hat4)
  have t1 : Boxed w4 (b + 1) 35 (.slice a3 (d.length + 1) c3) := box_grown hown4 hgrow4 HS1.out (by omega)
  have t2 : Boxed w4 (b + 2) 22 (.slice ua un uc) := box_grown hown4 hgrow4 HS2.out (by omega)
  have t0 : Boxed w4 b 3 (.int .i64 n) := box_grown hown4 hgrow4 HS0.out (by omega)
  have hz4 : w3.heap.size + 1 ≤ w4.heap.size := by have := hgrow4.size; rw [World.size_alloc, hzs] at this; exact this
  obtain ⟨a4, n4, c4, rfl⟩ := owns_form hown5
  have hn4 := ownsRow_len hown5
  subst hn4
  have y1 : Boxed (w4.setCell ⟨b + 2, 0, none⟩ (.slice a4 (d.length + 1) c4)) (b + 1) 35 (.slice a3 (d.length + 1) c3) := t1.other (by omega) _
  have y2 : Boxed (w4.setCell ⟨b + 2, 0, none⟩ (.slice a4 (d.length + 1) c4)) (b + 2) 22 (.slice a4 (d.length + 1) c4) := t2.set _
  have y0 : Boxed (w4.setCell ⟨b + 2, 0, none⟩ (.slice a4 (d.length + 1) c4)) b 3 (.int .i64 n) := t0.other (by omega) _
  have hz5 : (w4.setCell ⟨b + 2, 0, none⟩ (.slice a4 (d.length + 1) c4)).heap.size = w4.heap.size := by simp [World.setCell]
  have HST : Hid (WkSt b n (d ++ [x]) (w4.setCell ⟨b + 2, 0, none⟩ (.slice a4 (d.length + 1) c4))) := ⟨_, _, y1, y2, y0, ⟨ownsRow_same ht4.names fun g hg => set_heap_other (p := ⟨b + 2, 0, none⟩) (by have := (ht4.names.lt g hg).1; simp; omega), ownsRow_same ht4.places fun g hg => set_heap_other (p := ⟨b + 2, 0, none⟩) (by have := (ht4.places.lt g hg).1; simp; omega), ht4.apart⟩⟩
  have HFR : Hid (Fr (WkOwn b) W (w4.setCell ⟨b + 2, 0, none⟩ (.slice a4 (d.length + 1) c4))) := by
    refine ⟨by rw [hz5]; omega, fun k c T f hk ho => ?_, fun k hk ho => ?_⟩
    · have hlt := lt_heap hk
      rw [set_heap_other (p := ⟨b + 2, 0, none⟩) (fun e => ho (.inr (.inr (.inl e)))), hgrow4.block k (by rw [World.size_alloc, hzs]; omega) (fun e => ho (.inr (.inr (.inr (.inr ⟨_, HU.out.cell, e.symm⟩))))), Below.heap_alloc _ _ k (by rw [hzs]; omega), HK3.out k (fun e => ho (.inr (.inl e))) hlt (fun e => ho (.inr (.inr (.inr (.inl ⟨_, cv, e⟩)))))]
      exact hk
    · rcases ho with e | e | e | ⟨v', hv', hk'⟩ | ⟨u', hu', hk'⟩
      · exact .inl e
      · exact .inr (.inl e)
      · exact .inr (.inr (.inl e))
      · rw [y1.cell] at hv'
        cases hv'
        rcases HA3.out with h | h
        · exact .inr (.inr (.inr (.inl ⟨_, cv, by rw [← h]; exact hk'⟩)))
        · rw [h] at hk'
          injection hk' with hk'
          omega
      · rw [y2.cell] at hu'
        cases hu'
        rcases hat4 with h | h
        · exact .inr (.inr (.inr (.inr ⟨_, HU.out.cell, by rw [← h]; exact hk'⟩)))
        · rw [h] at hk'
          injection hk' with hk'
          omega
  have HKO : Hid (KeepsOthers W (w4.setCell ⟨b + 2, 0, none⟩ (.slice a4 (d.length + 1) c4))) := ((HO3.out.trans (KeepsOthers.alloc _ _)).trans (KeepsOthers.of_grownBy hgrow4 (fun j o e hj => by
    obtain ⟨_, c, T, f, hc⟩ := ownsRow_cells (World.ownsRow.alloc hown4 _) e
    rw [hc] at hj
    cases hj
    rfl))).trans (KeepsOthers.setCell _ _ _)
  have HBL : Hid (Below b W (w4.setCell ⟨b + 2, 0, none⟩ (.slice a4 (d.length + 1) c4))) := ((HB3.out.alloc (by rw [hzs]; omega) _).grown hgrow4 (by simp; omega) (fun q hq => by have := (hown4.lt q hq).1; omega)).setCell (p := ⟨b + 2, 0, none⟩) (by simp) _
  have q1 := y1.cell
  have q0 := y0.cell
  have p2 := t2.cell
  have f2 := t2.frozen
  clear hown4 hown5 hgrow4 hat4 ht4 t1 t2 t0 y1 y2 y0 HN3 HAP HS1 HS2 HS0 HK3 HO3 HB3 HA3 cell1 froz1 d2 HT HV HU HX cv fv
  go_wp2
  go_ret
  refine ⟨?_, HST.out, HFR.out, HKO.out, HBL.out⟩
  simp
end Go.Proofs.YtaepcfidpekflaaGreatDoor
namespace Go.Proofs.YtaepcfidpekflaaGreatDoor
open Go.RowKit Go.Extern.Stop Go.Stop Go.Extern

theorem Tryz.valueOfFPP (t : Addr) (w : World) : (ReflectliteValue.unpack (.iface 115 (.pointer (some t)))).run Tryz.prog w
    = .ok (.agg #[.pointer (some ⟨9, 115, none⟩), .pointer (some ⟨w.heap.size, 0, none⟩), .int .u64 150]) (w.alloc (.cells #[.pointer (some t)] 115)) := by kernel_rfl
theorem Tryz.valueOfEP (t : Addr) (w : World) : (ReflectliteValue.unpack (.iface 118 (.pointer (some t)))).run Tryz.prog w
    = .ok (.agg #[.pointer (some ⟨9, 118, none⟩), .pointer (some ⟨w.heap.size, 0, none⟩), .int .u64 150]) (w.alloc (.cells #[.pointer (some t)] 118)) := by kernel_rfl
theorem Tryz.valueOfE (k : Int) (w : World) : (ReflectliteValue.unpack (.iface 30 (.int .i64 k))).run Tryz.prog w
    = .ok (.agg #[.pointer (some ⟨9, 30, none⟩), .pointer (some ⟨w.heap.size, 0, none⟩), .int .u64 130]) (w.alloc (.cells #[.int .i64 k] 30)) := by kernel_rfl
theorem Tryz.typeFPP (a : Addr) (w : World) : (ReflectliteValue.methodAny (ReflectliteValue.valueError "reflectlite.Value.Type" 0) (fun t _ _ _ => ReflectliteType.toType t) #[.agg #[.pointer (some ⟨9, 115, none⟩), .pointer (some a), .int .u64 150]]).run Tryz.prog w
    = .ok (.iface 208 (.agg #[.pointer (some ⟨9, 115, none⟩)])) w := by kernel_rfl
theorem Tryz.typeEP (a : Addr) (w : World) : (ReflectliteValue.methodAny (ReflectliteValue.valueError "reflectlite.Value.Type" 0) (fun t _ _ _ => ReflectliteType.toType t) #[.agg #[.pointer (some ⟨9, 118, none⟩), .pointer (some a), .int .u64 150]]).run Tryz.prog w
    = .ok (.iface 208 (.agg #[.pointer (some ⟨9, 118, none⟩)])) w := by kernel_rfl
theorem Tryz.methodKind (h : Value) (w : World) : (Go.method 571 208 (.agg #[h]) "Kind").run Tryz.prog w = .ok (321, h) w := by kernel_rfl
theorem Tryz.methodElem (h : Value) (w : World) : (Go.method 571 208 (.agg #[h]) "Elem").run Tryz.prog w = .ok (339, .agg #[h]) w := by kernel_rfl
theorem Tryz.methodImplements (h : Value) (w : World) : (Go.method 571 208 (.agg #[h]) "Implements").run Tryz.prog w = .ok (340, .agg #[h]) w := by kernel_rfl
theorem Tryz.methodAssignableTo (h : Value) (w : World) : (Go.method 571 208 (.agg #[h]) "AssignableTo").run Tryz.prog w = .ok (337, .agg #[h]) w := by kernel_rfl
theorem Tryz.kindFPP (w : World) : ((ReflectliteType.abiMethod fun t => Functor.map (fun a : Nat => Value.int IntKind.u8 (a : Int)) (Rtype.kind t)) #[.pointer (some ⟨9, 115, none⟩)]).run Tryz.prog w = .ok (.int .u8 22) w := by kernel_rfl
theorem Tryz.kindFP (w : World) : ((ReflectliteType.abiMethod fun t => Functor.map (fun a : Nat => Value.int IntKind.u8 (a : Int)) (Rtype.kind t)) #[.pointer (some ⟨9, 113, none⟩)]).run Tryz.prog w = .ok (.int .u8 22) w := by kernel_rfl
theorem Tryz.kindEP (w : World) : ((ReflectliteType.abiMethod fun t => Functor.map (fun a : Nat => Value.int IntKind.u8 (a : Int)) (Rtype.kind t)) #[.pointer (some ⟨9, 118, none⟩)]).run Tryz.prog w = .ok (.int .u8 22) w := by kernel_rfl
theorem Tryz.kindE (w : World) : ((ReflectliteType.abiMethod fun t => Functor.map (fun a : Nat => Value.int IntKind.u8 (a : Int)) (Rtype.kind t)) #[.pointer (some ⟨9, 30, none⟩)]).run Tryz.prog w = .ok (.int .u8 2) w := by kernel_rfl
theorem rlm (z : Sem Value) (f : TypeId → Addr → Nat → Nat → Sem Value) (v : Value) :
    ReflectliteValue.method z f #[v] = (do match ← ReflectliteValue.parts v with | none => z | some (t, a, fl) => f t a fl (fl % 32)) := rfl
theorem Tryz.partsFPP (a : Addr) (w : World) : (ReflectliteValue.parts (.agg #[.pointer (some ⟨9, 115, none⟩), .pointer (some a), .int .u64 150])).run Tryz.prog w = .ok (some (115, a, 150)) w := by kernel_rfl
theorem Tryz.partsEP (a : Addr) (w : World) : (ReflectliteValue.parts (.agg #[.pointer (some ⟨9, 118, none⟩), .pointer (some a), .int .u64 150])).run Tryz.prog w = .ok (some (118, a, 150)) w := by kernel_rfl
theorem Tryz.isNilFPP (a p : Addr) (W : World) (ha : W.cell? a = some (.pointer (some p))) :
    (ReflectliteValue.method (ReflectliteValue.valueError "reflectlite.Value.IsNil" 0) ReflectliteValue.isNil #[.agg #[.pointer (some ⟨9, 115, none⟩), .pointer (some a), .int .u64 150]]).run Tryz.prog W = .ok (.bool false) W := by
  rw [rlm]
  simp only [Sem.run_bind, Tryz.partsFPP, Result.andThen]
  simp [ReflectliteValue.isNil, loadVar, isAgg, underlying, Tryz.underlying115, ha, Result.andThen]
theorem Tryz.isNilEP (a p : Addr) (W : World) (ha : W.cell? a = some (.pointer (some p))) :
    (ReflectliteValue.method (ReflectliteValue.valueError "reflectlite.Value.IsNil" 0) ReflectliteValue.isNil #[.agg #[.pointer (some ⟨9, 118, none⟩), .pointer (some a), .int .u64 150]]).run Tryz.prog W = .ok (.bool false) W := by
  rw [rlm]
  simp only [Sem.run_bind, Tryz.partsEP, Result.andThen]
  simp [ReflectliteValue.isNil, loadVar, isAgg, underlying, Tryz.underlying118, ha, Result.andThen]
theorem Tryz.elemFPP (w : World) : (ReflectliteType.method ReflectliteType.elem #[.agg #[.pointer (some ⟨9, 115, none⟩)]]).run Tryz.prog w = .ok (.iface 208 (.agg #[.pointer (some ⟨9, 113, none⟩)])) w := by kernel_rfl
theorem Tryz.elemEP (w : World) : (ReflectliteType.method ReflectliteType.elem #[.agg #[.pointer (some ⟨9, 118, none⟩)]]).run Tryz.prog w = .ok (.iface 208 (.agg #[.pointer (some ⟨9, 30, none⟩)])) w := by kernel_rfl
theorem Tryz.implementsFP (w : World) : (ReflectliteType.relation "Implements" ReflectliteType.implements_ #[.agg #[.pointer (some ⟨9, 113, none⟩)], .iface 208 (.agg #[.pointer (some ⟨9, 67, none⟩)])]).run Tryz.prog w = .ok (.bool true) w := by kernel_rfl
theorem Tryz.implementsE (w : World) : (ReflectliteType.relation "Implements" ReflectliteType.implements_ #[.agg #[.pointer (some ⟨9, 30, none⟩)], .iface 208 (.agg #[.pointer (some ⟨9, 67, none⟩)])]).run Tryz.prog w = .ok (.bool true) w := by kernel_rfl
theorem Tryz.typeOfE (v : Value) (w : World) : (ReflectliteType.typeOf #[.iface 30 v]).run Tryz.prog w = .ok (.iface 208 (.agg #[.pointer (some ⟨9, 30, none⟩)])) w := by kernel_rfl
theorem Tryz.assignableE (w : World) : (ReflectliteType.relation "AssignableTo" ReflectliteType.assignableTo #[.agg #[.pointer (some ⟨9, 30, none⟩)], .iface 208 (.agg #[.pointer (some ⟨9, 30, none⟩)])]).run Tryz.prog w = .ok (.bool true) w := by kernel_rfl
theorem Tryz.assignableEF (w : World) : (ReflectliteType.relation "AssignableTo" ReflectliteType.assignableTo #[.agg #[.pointer (some ⟨9, 30, none⟩)], .iface 208 (.agg #[.pointer (some ⟨9, 113, none⟩)])]).run Tryz.prog w = .ok (.bool false) w := by kernel_rfl
theorem Tryz.noAs (v : Value) (xT : TypeId) (w : World) : (Instr.typeAssert (.iface 30 v) xT 213 true).run Tryz.prog w = .ok (.tuple #[.nilIface, .bool false]) w := run_typeAssert_lacksB Tryz.underlying213 (by kernel_rfl) (by kernel_rfl) v xT w
theorem Tryz.noUn (v : Value) (xT : TypeId) (w : World) : (Instr.typeAssert (.iface 30 v) xT 216 true).run Tryz.prog w = .ok (.tuple #[.nilIface, .bool false]) w := run_typeAssert_lacksB Tryz.underlying216 (by kernel_rfl) (by kernel_rfl) v xT w
theorem Tryz.noUns (v : Value) (xT : TypeId) (w : World) : (Instr.typeAssert (.iface 30 v) xT 218 true).run Tryz.prog w = .ok (.tuple #[.nilIface, .bool false]) w := run_typeAssert_lacksB Tryz.underlying218 (by kernel_rfl) (by kernel_rfl) v xT w
theorem Tryz.elemOfEP (w : World) : (Rtype.elem? 118).run Tryz.prog w = .ok (some 30) w := by kernel_rfl
theorem Tryz.mkE (p : Addr) (w : World) : (ReflectliteValue.mk 30 p ReflectliteValue.flagAddr).run Tryz.prog w = .ok (.agg #[.pointer (some ⟨9, 30, none⟩), .pointer (some p), .int .u64 386]) w := by kernel_rfl
theorem Tryz.elemVEP (a p : Addr) (W : World) (ha : W.cell? a = some (.pointer (some p))) :
    (ReflectliteValue.method (ReflectliteValue.valueError "reflectlite.Value.Elem" 0) ReflectliteValue.elem #[.agg #[.pointer (some ⟨9, 118, none⟩), .pointer (some a), .int .u64 150]]).run Tryz.prog W
      = .ok (.agg #[.pointer (some ⟨9, 30, none⟩), .pointer (some p), .int .u64 386]) W := by
  rw [rlm]
  simp only [Sem.run_bind, Tryz.partsEP, Result.andThen]
  simp [ReflectliteValue.elem, loadVar, isAgg, underlying, Tryz.underlying118, ha, Result.andThen, Tryz.elemOfEP, Tryz.mkE]
theorem rls (v x : Value) : ReflectliteValue.set #[v, x] = (do
    let (some (dst, a, fl), some (src, b, _)) := (← ReflectliteValue.parts v, ← ReflectliteValue.parts x)
      | unsupported (.noEntry "extern/(internal/reflectlite.Value).Set.zeroValue")
    if fl / ReflectliteValue.flagAddr % 2 == 0 then unsupported (.noEntry "extern/(internal/reflectlite.Value).Set.unaddressable")
    let val ← loadVar src b
    if ← Rtype.directlyAssignable dst src then storeVar dst a val
    else if ← Rtype.implements dst src then
      if (← Rtype.kind src) == 20 then
        match val with
        | .nilIface => unsupported (.noEntry "extern/reflectlite: a nil value of one interface type handed on as a value of another")
        | _ => storeVar dst a val
      else storeVar dst a (.iface src val)
    else panicString ("reflectlite.Set: value of type " ++ (← Rtype.spelt src) ++ " is not assignable to type " ++ (← Rtype.spelt dst))
    pure (.tuple #[])) := rfl
theorem Tryz.partsEa (a : Addr) (w : World) : (ReflectliteValue.parts (.agg #[.pointer (some ⟨9, 30, none⟩), .pointer (some a), .int .u64 386])).run Tryz.prog w = .ok (some (30, a, 386)) w := by kernel_rfl
theorem Tryz.partsE (a : Addr) (w : World) : (ReflectliteValue.parts (.agg #[.pointer (some ⟨9, 30, none⟩), .pointer (some a), .int .u64 130])).run Tryz.prog w = .ok (some (30, a, 130)) w := by kernel_rfl
theorem Tryz.directE (w : World) : (Rtype.directlyAssignable 30 30).run Tryz.prog w = .ok true w := by kernel_rfl
theorem Tryz.setE (ta b : Addr) (k : Int) (old : Value) (W : World) (hb : W.cell? b = some (.int .i64 k)) (ht : W.cell? ta = some old) (hf : W.frozen? ta = false) :
    (ReflectliteValue.set #[.agg #[.pointer (some ⟨9, 30, none⟩), .pointer (some ta), .int .u64 386], .agg #[.pointer (some ⟨9, 30, none⟩), .pointer (some b), .int .u64 130]]).run Tryz.prog W
      = .ok (.tuple #[]) (W.setCell ta (.int .i64 k)) := by
  rw [rls]
  simp only [Sem.run_bind, Tryz.partsEa, Tryz.partsE, Result.andThen]
  simp [ReflectliteValue.flagAddr, loadVar, isAgg, underlying, Tryz.underlying30, hb, Result.andThen, Tryz.directE, storeVar, Value.cells, storeCells, Addr.add]
  rw [run_store Tryz.prog W ta _ _ (by rfl)]
  simp [ht, hf]
end Go.Proofs.YtaepcfidpekflaaGreatDoor
