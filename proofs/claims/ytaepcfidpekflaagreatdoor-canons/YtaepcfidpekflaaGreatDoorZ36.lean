/-
  Several texts in one (Io, As). By the verifier.
-/
import Derived.Test.YtaepcfidpekflaaGreatDoorZ35
import Derived.Test.YtaepcfidpekflaaGreatDoorZ32
import Derived.Test.YtaepcfidpekflaaGreatDoorProg
import Derived.WalkKit
import Derived.LaidEql
import Derived.Stop.Asserts
import Derived.RowKitTokens
namespace Go.Proofs.YtaepcfidpekflaaGreatDoor
open Go.RowKit Go.Maps Pg

set_option maxHeartbeats 6400000 in
set_option maxRecDepth 100000 in
theorem wbrs_of (bs : Pg.Tr) (hC : ∀ m, nM m < nM bs → WrMsg m) : WrBrs bs := by
  intro w B b l num v e0 hvd hwf hts hbase hBw hW hrow hlen
  obtain ⟨us, hsl, hlay⟩ := hrow
  obtain ⟨va, vn, vc, rfl, hvn, hul⟩ : ∃ va vn vc, v = .slice va vn vc ∧ us.length = vn * 4 ∧ vn ≤ 1000 := by
    rcases hsl with ⟨h0, h1⟩ | ⟨g, n, c, h1, _, _, h4, _, h6, _⟩
    · exact ⟨_, _, _, h1, by rw [h0]; rfl, by omega⟩
    · exact ⟨_, _, _, h1, h4, h6⟩
  have hba : Below B w (w.alloc (.cells #[.slice va vn vc, .int .i64 (e0 : Nat)] 294)) := (Below.refl B w).alloc hBw _
  have HSL : Hid (SlAt (w.alloc (.cells #[.slice va vn vc, .int .i64 (e0 : Nat)] 294)) (fun g => g < B) 4 (.slice va vn vc) us) := hsl.up hba
  have HLY : Hid (Lay (w.alloc (.cells #[.slice va vn vc, .int .i64 (e0 : Nat)] 294)) (fun g => g < B) bs us) := hlay.up hba
  have HVD : Hid (Vd bs) := hvd
  have HWF : Hid (Wf true bs) := hwf
  have HTS : Hid (Ts bs) := hts
  have HBS : Hid (BaseB B w) := hbase
  have HW : Hid (Wtr (w.alloc (.cells #[.slice va vn vc, .int .i64 (e0 : Nat)] 294)) B b l) := hW.alloc _
  obtain ⟨R, HR⟩ : ∃ R, Hid (l ++ canT num bs ++ [125] = R) := ⟨l ++ canT num bs ++ [125], by show _ = _; rfl⟩
  have hRl : R.length ≤ 40000000 := by rw [← HR.out]; simp; omega
  rw [HR.out]
  have HR0 : Hid (l ++ (canT num bs ++ [125]) = R) := by show _ = _; rw [← HR.out]; simp
  obtain ⟨L, HL⟩ : ∃ L, L = nM bs := ⟨_, rfl⟩
  have HCC : Hid (∀ m, nM m < L → WrMsg m) := by rw [HL]; exact hC
  have hL0 : nM bs ≤ L := by omega
  have HBA : Hid (Below B w (w.alloc (.cells #[.slice va vn vc, .int .i64 (e0 : Nat)] 294))) := hba
  clear hsl hlay hvd hwf hts hbase hW hC HL hlen HR hba
  go_enter Tryz.func165, Tryz.ntmps165
  go_wp2_with fail
  go_loopw [11] (fun i wr => ∃ (k : Nat) (r : Pg.Tr) (d : Pg.T), i = .int .i64 k ∧ k ≤ vn ∧ nM r ≤ L ∧ Hid (Wtr wr B b d) ∧ Hid (d ++ (canT num r ++ [125]) = R) ∧ Hid (Vd r) ∧ Hid (Wf true r) ∧ Hid (Ts r) ∧ Hid (Lay wr (fun g => g < B) r (us.drop (k * 4))) ∧ Hid (SlAt wr (fun g => g < B) 4 (.slice va vn vc) us) ∧ Hid (Below B w wr)) (fun i _ => vn - (intOf i).toNat)
  case atStart => exact ⟨0, bs, l, rfl, Nat.zero_le _, hL0, HW, HR0, HVD, HWF, HTS, HLY, HSL, HBA⟩
  case round =>
    clear HW HR0 HVD HWF HTS HLY HSL hL0 HBA
    obtain ⟨k, r, d, rfl, hk, hrL, HW, HD, HVD, HWF, HTS, HLY, HSL, HBl⟩ := hrel
    have hzr := HBl.out.size
    have hbb := HW.out.lt.1
    have hbB := HW.out.lt.2
    have HBS2 : Hid (∀ W, Below B wr W → BaseB B W) := fun W hW => HBS.out.next (HBl.out.trans hW)
    by_cases hlt : k < vn
    · have hlt' : (k : Int) < vn := by omega
      have hdl : (us.drop (k * 4)).length = (vn - k) * 4 := by rw [List.length_drop, hvn, Nat.sub_mul]
      obtain ⟨u0, us0, hd0⟩ : ∃ u0 us0, us.drop (k * 4) = u0 :: us0 := by
        cases e : us.drop (k * 4) with
        | nil => rw [e] at hdl; simp at hdl; omega
        | cons a b => exact ⟨_, _, rfl⟩
      have hly := HLY.out
      rw [hd0] at hly
      obtain ⟨x, a, m, r', v, rest, rfl, rfl, hus, hrow, hly2⟩ := lay_br hly HWF.out
      rw [hus] at hd0
      have hc4 : ∀ j u, [Value.string ⟨(selV x).1.toArray⟩, .int .u32 ((selV x).2 : Nat), .int .i64 (a : Nat), v][j]? = some u → us[k * 4 + j]? = some u := fun j u hu => by
        rw [← List.getElem?_drop, hd0]
        match j, hu with
        | 0, hu => simpa using hu
        | 1, hu => simpa using hu
        | 2, hu => simpa using hu
        | 3, hu => simpa using hu
        | j + 4, hu => simp at hu
      have hrest : us.drop ((k + 1) * 4) = rest := by
        rw [show (k + 1) * 4 = k * 4 + 4 by omega, ← List.drop_drop, hd0]
        rfl
      rcases HSL.out with ⟨h0, _⟩ | ⟨g, m0, c0, hv, hgM, hgl, hm0, hmc, hm1, hcell⟩
      · rw [h0] at hvn; simp at hvn; omega
      injection hv with hv1 hv2 hv3
      subst hv1
      subst hv3
      subst hv2
      have c0 := hcell (k * 4) _ (hc4 0 _ rfl)
      have c1 := hcell (k * 4 + 1) _ (hc4 1 _ rfl)
      have c2 := hcell (k * 4 + 2) _ (hc4 2 _ rfl)
      have c3 := hcell (k * 4 + 3) _ (hc4 3 _ rfl)
      have hso : SelOk x := HVD.out.1
      obtain ⟨ya, yn, yc, rfl⟩ : ∃ ya yn yc, v = .slice ya yn yc := by
        obtain ⟨ws, h1, _⟩ := hrow
        rcases h1 with ⟨_, h1⟩ | ⟨g, n, c, h1, _⟩
        · exact ⟨_, _, _, h1⟩
        · exact ⟨_, _, _, h1⟩
      have hmL : nM m < L := by have h : nM (.br x a m r') ≤ L := hrL; simp only [nM, flat] at h ⊢; simp at h; omega
      have hn2 : nM r' ≤ L := by have h : nM (.br x a m r') ≤ L := hrL; simp only [nM, flat] at h ⊢; simp at h; omega
      have HVM : Hid (Vd m) := HVD.out.2.1
      have HFM : Hid (Wf false m) := HWF.out.2.1
      have HTM : Hid (Ts m) := fun q hq => HTS.out q (by simp [flat, hq])
      have HV2 : Hid (Vd r') := HVD.out.2.2
      have HF2 : Hid (Wf true r') := HWF.out.2.2
      have HT2 : Hid (Ts r') := fun q hq => HTS.out q (by simp [flat, hq])
      have HRM : Hid (RowAt wr (fun g => g < B) 1 (.slice ya yn yc) m) := hrow
      have HLY2 : Hid (Lay wr (fun g => g < B) r' (us.drop ((k + 1) * 4))) := by rw [hrest]; exact hly2
      have HD2 : Hid ((((d ++ (32 :: x ++ [32, 123])) ++ canT num m) ++ [125]) ++ (canT num r' ++ [125]) = R) := by show _ = _; rw [← HD.out, canT]; simp
      have hdl2 : (((d ++ (32 :: x ++ [32, 123])) ++ canT num m) ++ [125]).length ≤ 40000000 := by
        have := congrArg List.length HD2.out
        rw [List.length_append] at this
        omega
      have HDL1 : Hid ((d ++ (32 :: x ++ [32, 123])).length + (canT num m).length ≤ 40000000) := by show _ ≤ _; simp at hdl2 ⊢; omega
      have hdx : d.length + x.length + 3 ≤ 40000000 := by simp at hdl2; omega
      have HDL2 : Hid (((d ++ (32 :: x ++ [32, 123])) ++ canT num m).length + 1 ≤ 40000000) := by show _ ≤ _; simp at hdl2 ⊢; omega
      have hb0 : Below B wr (wr.alloc (.cells #[.string ⟨(selV x).1.toArray⟩, .int .u32 ((selV x).2 : Nat), .int .i64 (a : Nat), .slice ya yn yc] 332)) := (Below.refl B wr).alloc (by omega) _
      have hh0 : (wr.alloc (.cells #[.string ⟨(selV x).1.toArray⟩, .int .u32 ((selV x).2 : Nat), .int .i64 (a : Nat), .slice ya yn yc] 332)).heap[wr.heap.size]? = some (.cells #[.string ⟨(selV x).1.toArray⟩, .int .u32 ((selV x).2 : Nat), .int .i64 (a : Nat), .slice ya yn yc] 332) := heap_new wr _
      have ks := wselector_any x hso a ya yn yc (wr.alloc (.cells #[.string ⟨(selV x).1.toArray⟩, .int .u32 ((selV x).2 : Nat), .int .i64 (a : Nat), .slice ya yn yc] 332)) (HBS2.out _ hb0).base
      have HW0 : Hid (Wtr (wr.alloc (.cells #[.string ⟨(selV x).1.toArray⟩, .int .u32 ((selV x).2 : Nat), .int .i64 (a : Nat), .slice ya yn yc] 332)) B b d) := HW.out.alloc _
      have HB0 : Hid (Below B wr (wr.alloc (.cells #[.string ⟨(selV x).1.toArray⟩, .int .u32 ((selV x).2 : Nat), .int .i64 (a : Nat), .slice ya yn yc] 332))) := hb0
      have HH0 : Hid ((wr.alloc (.cells #[.string ⟨(selV x).1.toArray⟩, .int .u32 ((selV x).2 : Nat), .int .i64 (a : Nat), .slice ya yn yc] 332)).heap[wr.heap.size]? = some (.cells #[.string ⟨(selV x).1.toArray⟩, .int .u32 ((selV x).2 : Nat), .int .i64 (a : Nat), .slice ya yn yc] 332)) := hh0
      generalize (selV x).1 = F at *
      generalize (selV x).2 = V at *
      clear hly hrow hly2 hcell hc4 hrest hd0 hus hdl HLY hso HVD HWF HTS HD hdl2 hb0 hh0 HW hm0 hmc hm1 hrL
      go_wp2_with fail
      refine ks.mono ?_
      rintro e w1 ⟨rfl, hb1⟩
      have HB1 : Hid (Below B wr w1) := HB0.out.trans (hb1.mono (by simp; omega))
      have HH1 : Hid (w1.heap[wr.heap.size]? = some (.cells #[.string ⟨F.toArray⟩, .int .u32 (V : Nat), .int .i64 (a : Nat), .slice ya yn yc] 332)) := (hb1.block wr.heap.size (by simp)).trans HH0.out
      have HW1 : Hid (Wtr w1 B b d) := HW0.out.keep hb1
      have hz1 := HB1.out.size
      clear ks hb1 HB0 HH0 HW0
      have ka := wall_new B b d [[32], x, [32, 123]] w1 9 (by decide) HW1.out (by simp; omega) (by simp) (by omega) #[.string ⟨#[32]⟩, .string ⟨x.toArray⟩, .string ⟨#[32, 123]⟩] rfl 3 rfl (d ++ (32 :: x ++ [32, 123])) (by simp)
      go_wp2_with fail
      refine ka.mono ?_
      rintro e w2 ⟨rfl, hw2, hb2, hk2⟩
      have HB2 : Hid (Below B wr w2) := HB1.out.trans hb2
      have hh2 := hk2 _ _ HH1.out (fun e => by injection e with e; omega) (fun c fz e => by injection e with _ e _; cases e)
      have q2 : ∀ j, w2.cell? ⟨wr.heap.size, j, none⟩ = (#[.string ⟨F.toArray⟩, .int .u32 (V : Nat), .int .i64 (a : Nat), .slice ya yn yc] : Array Value)[j]? := fun j => by simp [World.cell?, hh2]
      have hz2 := HB2.out.size
      have km := HCC.out m hmL w2 B b (d ++ (32 :: x ++ [32, 123])) num (.slice ya yn yc) HVM.out HFM.out HTM.out (HBS2.out _ HB2.out) (by omega) hw2 (by obtain ⟨x1, y1, z1⟩ := HRM.out; exact ⟨x1, y1.up HB2.out, z1.up HB2.out⟩) HDL1.out
      clear ka hw2 hb2 hk2 hh2 HB1 HH1 HW1 HVM HFM HTM HRM HDL1
      go_wp2_with fail
      refine km.mono ?_
      rintro e w3 ⟨rfl, hw3, hb3⟩
      have HB3 : Hid (Below B wr w3) := HB2.out.trans hb3
      have hz3 := HB3.out.size
      have ka2 := wall_new B b ((d ++ (32 :: x ++ [32, 123])) ++ canT num m) [[125]] w3 9 (by decide) hw3 (by have := HDL2.out; simp at this ⊢; omega) (by simp) (by omega) #[.string ⟨#[125]⟩] rfl 1 rfl (((d ++ (32 :: x ++ [32, 123])) ++ canT num m) ++ [125]) (by simp)
      clear km hw3 hb3 q2 HB2
      go_wp2_with fail
      refine ka2.mono ?_
      rintro e w4 ⟨rfl, hw4, hb4, _⟩
      have HB4 : Hid (Below B wr w4) := HB3.out.trans hb4
      have HW4 : Hid (Wtr w4 B b (((d ++ (32 :: x ++ [32, 123])) ++ canT num m) ++ [125])) := hw4
      have HBW : Hid (Below B w w4) := HBl.out.trans HB4.out
      have HL4 : Hid (Lay w4 (fun g => g < B) r' (us.drop ((k + 1) * 4))) := HLY2.out.up HB4.out
      have HS4 : Hid (SlAt w4 (fun g => g < B) 4 (.slice (some ⟨g, 0, none⟩) vn vc) us) := HSL.out.up HB4.out
      clear ka2 hw4 hb4 HB3 HLY2 HSL HBl c0 c1 c2 c3
      go_wp2
      go_roundw
      case rel => exact ⟨k + 1, r', _, by go_num, by omega, hn2, HW4, HD2, HV2, HF2, HT2, HL4, HS4, HBW⟩
      case measure => simp [intOf]; omega
    · have hlt' : ¬ ((k : Int) < vn) := by omega
      have hly := HLY.out
      rw [List.drop_eq_nil_of_le (by omega)] at hly
      have hr0 := lay_end hly
      subst hr0
      have HF : Hid (d ++ [125] = R) := by show _ = _; rw [← HD.out]; simp [canT]
      have hdl : d.length + 1 ≤ 40000000 := by have := congrArg List.length HF.out; simp at this; omega
      have ka := wall_new B b d [[125]] wr 9 (by decide) HW.out (by simp; omega) (by simp) (by omega) #[.string ⟨#[125]⟩] rfl 1 rfl R (by rw [← HF.out]; simp)
      clear hly HLY HSL HVD HWF HTS HD HF
      go_wp2_with fail
      refine ka.mono ?_
      rintro e w4 ⟨rfl, hw4, hb4, _⟩
      have HBW : Hid (Below B w w4) := HBl.out.trans hb4
      clear ka
      go_wp2
      first | go_end0 | refine bodyPost_ret (results_none rfl _ _ _) rfl ?_
      exact ⟨rfl, hw4, HBW.out⟩
end Go.Proofs.YtaepcfidpekflaaGreatDoor
namespace Go.Proofs.YtaepcfidpekflaaGreatDoor
open Go.RowKit Go.Extern.Stop Go.Stop Go.Extern

theorem Tryz.valueOfFPP (t : Addr) (w : World) : (ReflectliteValue.unpack (.iface 115 (.pointer (some t)))).run Tryz.prog w
    = .ok (.agg #[.pointer (some ⟨9, 115, none⟩), .pointer (some ⟨w.heap.size, 0, none⟩), .int .u64 150]) (w.alloc (.cells #[.pointer (some t)] 115)) := by kernel_rfl
theorem Tryz.valueOfEP (t : Addr) (w : World) : (ReflectliteValue.unpack (.iface 118 (.pointer (some t)))).run Tryz.prog w
    = .ok (.agg #[.pointer (some ⟨9, 118, none⟩), .pointer (some ⟨w.heap.size, 0, none⟩), .int .u64 150]) (w.alloc (.cells #[.pointer (some t)] 118)) := by kernel_rfl
theorem Tryz.valueOfE (k : Int) (w : World) : (ReflectliteValue.unpack (.iface 30 (.int .i64 k))).run Tryz.prog w
    = .ok (.agg #[.pointer (some ⟨9, 30, none⟩), .pointer (some ⟨w.heap.size, 0, none⟩), .int .u64 130]) (w.alloc (.cells #[.int .i64 k] 30)) := by kernel_rfl
theorem Tryz.typeFPP (a : Addr) (w : World) : (ReflectliteValue.methodAny (ReflectliteValue.valueError "reflectlite.Value.Type" 0) (fun t _ _ _ => ReflectliteType.toType t) #[.agg #[.pointer (some ⟨9, 115, none⟩), .pointer (some a), .int .u64 150]]).run Tryz.prog w
    = .ok (.iface 208 (.agg #[.pointer (some ⟨9, 115, none⟩)])) w := by kernel_rfl
theorem Tryz.typeEP (a : Addr) (w : World) : (ReflectliteValue.methodAny (ReflectliteValue.valueError "reflectlite.Value.Type" 0) (fun t _ _ _ => ReflectliteType.toType t) #[.agg #[.pointer (some ⟨9, 118, none⟩), .pointer (some a), .int .u64 150]]).run Tryz.prog w
    = .ok (.iface 208 (.agg #[.pointer (some ⟨9, 118, none⟩)])) w := by kernel_rfl
theorem Tryz.methodKind (h : Value) (w : World) : (Go.method 571 208 (.agg #[h]) "Kind").run Tryz.prog w = .ok (321, h) w := by kernel_rfl
theorem Tryz.methodElem (h : Value) (w : World) : (Go.method 571 208 (.agg #[h]) "Elem").run Tryz.prog w = .ok (339, .agg #[h]) w := by kernel_rfl
theorem Tryz.methodImplements (h : Value) (w : World) : (Go.method 571 208 (.agg #[h]) "Implements").run Tryz.prog w = .ok (340, .agg #[h]) w := by kernel_rfl
theorem Tryz.methodAssignableTo (h : Value) (w : World) : (Go.method 571 208 (.agg #[h]) "AssignableTo").run Tryz.prog w = .ok (337, .agg #[h]) w := by kernel_rfl
theorem Tryz.kindFPP (w : World) : ((ReflectliteType.abiMethod fun t => Functor.map (fun a : Nat => Value.int IntKind.u8 (a : Int)) (Rtype.kind t)) #[.pointer (some ⟨9, 115, none⟩)]).run Tryz.prog w = .ok (.int .u8 22) w := by kernel_rfl
theorem Tryz.kindFP (w : World) : ((ReflectliteType.abiMethod fun t => Functor.map (fun a : Nat => Value.int IntKind.u8 (a : Int)) (Rtype.kind t)) #[.pointer (some ⟨9, 113, none⟩)]).run Tryz.prog w = .ok (.int .u8 22) w := by kernel_rfl
theorem Tryz.kindEP (w : World) : ((ReflectliteType.abiMethod fun t => Functor.map (fun a : Nat => Value.int IntKind.u8 (a : Int)) (Rtype.kind t)) #[.pointer (some ⟨9, 118, none⟩)]).run Tryz.prog w = .ok (.int .u8 22) w := by kernel_rfl
theorem Tryz.kindE (w : World) : ((ReflectliteType.abiMethod fun t => Functor.map (fun a : Nat => Value.int IntKind.u8 (a : Int)) (Rtype.kind t)) #[.pointer (some ⟨9, 30, none⟩)]).run Tryz.prog w = .ok (.int .u8 2) w := by kernel_rfl
theorem rlm (z : Sem Value) (f : TypeId → Addr → Nat → Nat → Sem Value) (v : Value) :
    ReflectliteValue.method z f #[v] = (do match ← ReflectliteValue.parts v with | none => z | some (t, a, fl) => f t a fl (fl % 32)) := rfl
theorem Tryz.partsFPP (a : Addr) (w : World) : (ReflectliteValue.parts (.agg #[.pointer (some ⟨9, 115, none⟩), .pointer (some a), .int .u64 150])).run Tryz.prog w = .ok (some (115, a, 150)) w := by kernel_rfl
theorem Tryz.partsEP (a : Addr) (w : World) : (ReflectliteValue.parts (.agg #[.pointer (some ⟨9, 118, none⟩), .pointer (some a), .int .u64 150])).run Tryz.prog w = .ok (some (118, a, 150)) w := by kernel_rfl
theorem Tryz.isNilFPP (a p : Addr) (W : World) (ha : W.cell? a = some (.pointer (some p))) :
    (ReflectliteValue.method (ReflectliteValue.valueError "reflectlite.Value.IsNil" 0) ReflectliteValue.isNil #[.agg #[.pointer (some ⟨9, 115, none⟩), .pointer (some a), .int .u64 150]]).run Tryz.prog W = .ok (.bool false) W := by
  rw [rlm]
  simp only [Sem.run_bind, Tryz.partsFPP, Result.andThen]
  simp [ReflectliteValue.isNil, loadVar, isAgg, underlying, Tryz.underlying115, ha, Result.andThen]
theorem Tryz.isNilEP (a p : Addr) (W : World) (ha : W.cell? a = some (.pointer (some p))) :
    (ReflectliteValue.method (ReflectliteValue.valueError "reflectlite.Value.IsNil" 0) ReflectliteValue.isNil #[.agg #[.pointer (some ⟨9, 118, none⟩), .pointer (some a), .int .u64 150]]).run Tryz.prog W = .ok (.bool false) W := by
  rw [rlm]
  simp only [Sem.run_bind, Tryz.partsEP, Result.andThen]
  simp [ReflectliteValue.isNil, loadVar, isAgg, underlying, Tryz.underlying118, ha, Result.andThen]
theorem Tryz.elemFPP (w : World) : (ReflectliteType.method ReflectliteType.elem #[.agg #[.pointer (some ⟨9, 115, none⟩)]]).run Tryz.prog w = .ok (.iface 208 (.agg #[.pointer (some ⟨9, 113, none⟩)])) w := by kernel_rfl
theorem Tryz.elemEP (w : World) : (ReflectliteType.method ReflectliteType.elem #[.agg #[.pointer (some ⟨9, 118, none⟩)]]).run Tryz.prog w = .ok (.iface 208 (.agg #[.pointer (some ⟨9, 30, none⟩)])) w := by kernel_rfl
theorem Tryz.implementsFP (w : World) : (ReflectliteType.relation "Implements" ReflectliteType.implements_ #[.agg #[.pointer (some ⟨9, 113, none⟩)], .iface 208 (.agg #[.pointer (some ⟨9, 67, none⟩)])]).run Tryz.prog w = .ok (.bool true) w := by kernel_rfl
theorem Tryz.implementsE (w : World) : (ReflectliteType.relation "Implements" ReflectliteType.implements_ #[.agg #[.pointer (some ⟨9, 30, none⟩)], .iface 208 (.agg #[.pointer (some ⟨9, 67, none⟩)])]).run Tryz.prog w = .ok (.bool true) w := by kernel_rfl
theorem Tryz.typeOfE (v : Value) (w : World) : (ReflectliteType.typeOf #[.iface 30 v]).run Tryz.prog w = .ok (.iface 208 (.agg #[.pointer (some ⟨9, 30, none⟩)])) w := by kernel_rfl
theorem Tryz.assignableE (w : World) : (ReflectliteType.relation "AssignableTo" ReflectliteType.assignableTo #[.agg #[.pointer (some ⟨9, 30, none⟩)], .iface 208 (.agg #[.pointer (some ⟨9, 30, none⟩)])]).run Tryz.prog w = .ok (.bool true) w := by kernel_rfl
theorem Tryz.assignableEF (w : World) : (ReflectliteType.relation "AssignableTo" ReflectliteType.assignableTo #[.agg #[.pointer (some ⟨9, 30, none⟩)], .iface 208 (.agg #[.pointer (some ⟨9, 113, none⟩)])]).run Tryz.prog w = .ok (.bool false) w := by kernel_rfl
theorem Tryz.noAs (v : Value) (xT : TypeId) (w : World) : (Instr.typeAssert (.iface 30 v) xT 213 true).run Tryz.prog w = .ok (.tuple #[.nilIface, .bool false]) w := run_typeAssert_lacksB Tryz.underlying213 (by kernel_rfl) (by kernel_rfl) v xT w
theorem Tryz.noUn (v : Value) (xT : TypeId) (w : World) : (Instr.typeAssert (.iface 30 v) xT 216 true).run Tryz.prog w = .ok (.tuple #[.nilIface, .bool false]) w := run_typeAssert_lacksB Tryz.underlying216 (by kernel_rfl) (by kernel_rfl) v xT w
theorem Tryz.noUns (v : Value) (xT : TypeId) (w : World) : (Instr.typeAssert (.iface 30 v) xT 218 true).run Tryz.prog w = .ok (.tuple #[.nilIface, .bool false]) w := run_typeAssert_lacksB Tryz.underlying218 (by kernel_rfl) (by kernel_rfl) v xT w
theorem Tryz.elemOfEP (w : World) : (Rtype.elem? 118).run Tryz.prog w = .ok (some 30) w := by kernel_rfl
theorem Tryz.mkE (p : Addr) (w : World) : (ReflectliteValue.mk 30 p ReflectliteValue.flagAddr).run Tryz.prog w = .ok (.agg #[.pointer (some ⟨9, 30, none⟩), .pointer (some p), .int .u64 386]) w := by kernel_rfl
theorem Tryz.elemVEP (a p : Addr) (W : World) (ha : W.cell? a = some (.pointer (some p))) :
    (ReflectliteValue.method (ReflectliteValue.valueError "reflectlite.Value.Elem" 0) ReflectliteValue.elem #[.agg #[.pointer (some ⟨9, 118, none⟩), .pointer (some a), .int .u64 150]]).run Tryz.prog W
      = .ok (.agg #[.pointer (some ⟨9, 30, none⟩), .pointer (some p), .int .u64 386]) W := by
  rw [rlm]
  simp only [Sem.run_bind, Tryz.partsEP, Result.andThen]
  simp [ReflectliteValue.elem, loadVar, isAgg, underlying, Tryz.underlying118, ha, Result.andThen, Tryz.elemOfEP, Tryz.mkE]
theorem rls (v x : Value) : ReflectliteValue.set #[v, x] = (do
    let (some (dst, a, fl), some (src, b, _)) := (← ReflectliteValue.parts v, ← ReflectliteValue.parts x)
      | unsupported (.noEntry "extern/(internal/reflectlite.Value).Set.zeroValue")
    if fl / ReflectliteValue.flagAddr % 2 == 0 then unsupported (.noEntry "extern/(internal/reflectlite.Value).Set.unaddressable")
    let val ← loadVar src b
    if ← Rtype.directlyAssignable dst src then storeVar dst a val
    else if ← Rtype.implements dst src then
      if (← Rtype.kind src) == 20 then
        match val with
        | .nilIface => unsupported (.noEntry "extern/reflectlite: a nil value of one interface type handed on as a value of another")
        | _ => storeVar dst a val
      else storeVar dst a (.iface src val)
    else panicString ("reflectlite.Set: value of type " ++ (← Rtype.spelt src) ++ " is not assignable to type " ++ (← Rtype.spelt dst))
    pure (.tuple #[])) := rfl
theorem Tryz.partsEa (a : Addr) (w : World) : (ReflectliteValue.parts (.agg #[.pointer (some ⟨9, 30, none⟩), .pointer (some a), .int .u64 386])).run Tryz.prog w = .ok (some (30, a, 386)) w := by kernel_rfl
theorem Tryz.partsE (a : Addr) (w : World) : (ReflectliteValue.parts (.agg #[.pointer (some ⟨9, 30, none⟩), .pointer (some a), .int .u64 130])).run Tryz.prog w = .ok (some (30, a, 130)) w := by kernel_rfl
theorem Tryz.directE (w : World) : (Rtype.directlyAssignable 30 30).run Tryz.prog w = .ok true w := by kernel_rfl
theorem Tryz.setE (ta b : Addr) (k : Int) (old : Value) (W : World) (hb : W.cell? b = some (.int .i64 k)) (ht : W.cell? ta = some old) (hf : W.frozen? ta = false) :
    (ReflectliteValue.set #[.agg #[.pointer (some ⟨9, 30, none⟩), .pointer (some ta), .int .u64 386], .agg #[.pointer (some ⟨9, 30, none⟩), .pointer (some b), .int .u64 130]]).run Tryz.prog W
      = .ok (.tuple #[]) (W.setCell ta (.int .i64 k)) := by
  rw [rls]
  simp only [Sem.run_bind, Tryz.partsEa, Tryz.partsE, Result.andThen]
  simp [ReflectliteValue.flagAddr, loadVar, isAgg, underlying, Tryz.underlying30, hb, Result.andThen, Tryz.directE, storeVar, Value.cells, storeCells, Addr.add]
  rw [run_store Tryz.prog W ta _ _ (by rfl)]
  simp [ht, hf]
end Go.Proofs.YtaepcfidpekflaaGreatDoor
