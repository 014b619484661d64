/-
  Several texts in one (In). By the verifier.
-/
import Derived.Test.YtaepcfidpekflaaGreatDoorZ34
import Derived.Test.YtaepcfidpekflaaGreatDoorZ32
namespace Go.Proofs.YtaepcfidpekflaaGreatDoor.Pg
open Go.Proofs.YtaepcfidpekflaaGreatDoor

theorem canT_hd (num : Bool) (t : Tr) : canT num t = canT num (hd t) ++ canT num (tl t) := by
  cases t <;> simp [canT, hd, tl]
/-- Texts of at most so many bytes. -/
def Ts (t : Tr) : Prop := ∀ m ∈ flat id t, m.text.length ≤ 10000
end Go.Proofs.YtaepcfidpekflaaGreatDoor.Pg
namespace Go.Proofs.YtaepcfidpekflaaGreatDoor
open Go.RowKit Go.Maps Pg

/-- A message, or a row of branches, is written. -/
def WrMsg (t : Pg.Tr) : Prop := ∀ (w : World) (B b : Nat) (l : Pg.T) (num : Bool) (v : Value), Vd t → Wf false t → Ts t → BaseB B w → B ≤ w.heap.size → Wtr w B b l → RowAt w (fun g => g < B) 1 v t → l.length + (canT num t).length ≤ 40000000 →
  Calls Tryz.prog 129 #[.pointer (some ⟨b, 0, none⟩), v, .bool num] w fun e w' => e = .returned (.tuple #[]) ∧ Wtr w' B b (l ++ canT num t) ∧ Below B w w'
def WrBrs (t : Pg.Tr) : Prop := ∀ (w : World) (B b : Nat) (l : Pg.T) (num : Bool) (v : Value) (e0 : Nat), Vd t → Wf true t → Ts t → BaseB B w → B ≤ w.heap.size → Wtr w B b l → RowAt w (fun g => g < B) 4 v t → l.length + (canT num t).length + 1 ≤ 40000000 →
  Calls Tryz.prog 165 #[.pointer (some ⟨b, 0, none⟩), .agg #[v, .int .i64 (e0 : Nat)], .bool num] w fun e w' => e = .returned (.tuple #[]) ∧ Wtr w' B b (l ++ canT num t ++ [125]) ∧ Below B w w'
theorem SlAt.up {w w' : World} {B k : Nat} {v : Value} {us : List Value} (h : SlAt w (fun g => g < B) k v us) (hb : Below B w w') : SlAt w' (fun g => g < B) k v us := h.mono hb.size fun g hg _ => ⟨hb.block g hg, hg⟩
theorem Lay.up {w w' : World} {B : Nat} {t : Pg.Tr} {us : List Value} (h : Lay w (fun g => g < B) t us) (hb : Below B w w') : Lay w' (fun g => g < B) t us := h.mono hb.size fun g hg _ => ⟨hb.block g hg, hg⟩
/-- Several texts, laid in the world W, are written. -/
theorem wall_new (B b : Nat) (l : Pg.T) (ts : List Pg.T) (W : World) (T : TypeId) (hT : T ≠ 5) (hW : Wtr W B b l) (hlen : l.length + ts.flatten.length ≤ 1000000000) (hn : ts.length ≤ 1000) (hBw : B ≤ W.heap.size) (cs : Array Value) (hcs : cs = (ts.map (fun t => Value.string ⟨t.toArray⟩)).toArray) (n : Nat) (hnn : n = ts.length) (R : Pg.T) (hR : l ++ ts.flatten = R) :
    Calls Tryz.prog 164 #[.pointer (some ⟨b, 0, none⟩), .slice (some ⟨W.heap.size, 0, none⟩) n n] (W.alloc (.cells cs T)) fun e w' => e = .returned (.tuple #[]) ∧ Wtr w' B b R ∧ Below B W w' ∧ Lib.OthersKept 5 (some b) W w' := by
  subst hcs hnn hR
  refine (wall_any B b l ts W.heap.size ts.length _ (hW.alloc _) (tx_new W b ts hW.lt.1 T hT) hlen hn (by simp; omega)).mono ?_
  rintro e w' ⟨rfl, h1, h2, h3⟩
  exact ⟨rfl, h1, ((Below.refl B W).alloc hBw _).trans h2, ((Lib.OthersKept.refl _ _ W).alloc _).trans h3⟩

set_option maxHeartbeats 6400000 in
set_option maxRecDepth 100000 in
theorem wmsg_of (t : Pg.Tr) (hB : ∀ bs, nM bs < nM t → WrBrs bs) : WrMsg t := by
  intro w B b l num v hvd hwf hts hbase hBw hW hrow hlen
  obtain ⟨us, hsl, hlay⟩ := hrow
  obtain ⟨va, vc, rfl⟩ : ∃ va vc, v = .slice va us.length vc := by
    rcases hsl with ⟨h0, h1⟩ | ⟨g, n, c, h1, _, _, h4, _⟩
    · exact ⟨none, 0, by rw [h1, h0]; rfl⟩
    · exact ⟨_, _, by rw [h1, h4, Nat.mul_one]⟩
  have hul : us.length ≤ 1000 := by
    rcases hsl with ⟨h0, h1⟩ | ⟨g, n, c, h1, _, _, h4, h5, h6, _⟩
    · rw [h0]; simp
    · omega
  have HSL : Hid (SlAt w (fun g => g < B) 1 (.slice va us.length vc) us) := hsl
  have HLY : Hid (Lay w (fun g => g < B) t us) := hlay
  have HVD : Hid (Vd t) := hvd
  have HWF : Hid (Wf false t) := hwf
  have HTS : Hid (Ts t) := hts
  have HBS : Hid (BaseB B w) := hbase
  have HW : Hid (Wtr w B b l) := hW
  obtain ⟨R, HR⟩ : ∃ R, Hid (l ++ canT num t = R) := ⟨_, rfl⟩
  have hRl : R.length ≤ 40000000 := by rw [← HR.out, List.length_append]; exact hlen
  rw [HR.out]
  obtain ⟨L, HL⟩ : ∃ L, L = nM t := ⟨_, rfl⟩
  have HBB : Hid (∀ bs, nM bs < L → WrBrs bs) := by rw [HL]; exact hB
  have hL0 : nM t ≤ L := by omega
  clear hsl hlay hvd hwf hts hbase hW hB HL hlen
  go_enter Tryz.func129, Tryz.ntmps129
  go_wp2_with fail
  go_loopw [16] (fun i wr => ∃ (k : Nat) (r : Pg.Tr) (d : Pg.T), i = .int .i64 k ∧ k ≤ us.length ∧ nM r ≤ L ∧ Hid (Wtr wr B b d) ∧ Hid (d ++ canT num r = R) ∧ Hid (Vd r) ∧ Hid (Wf false r) ∧ Hid (Ts r) ∧ Hid (Lay wr (fun g => g < B) r (us.drop k)) ∧ Hid (SlAt wr (fun g => g < B) 1 (.slice va us.length vc) us) ∧ Hid (Below B w wr)) (fun i _ => us.length - (intOf i).toNat)
  case atStart => exact ⟨0, t, l, rfl, Nat.zero_le _, hL0, HW, HR, HVD, HWF, HTS, HLY, HSL, Below.refl _ _⟩
  case round =>
    clear HW HR HVD HWF HTS HLY HSL hL0
    obtain ⟨k, r, d, rfl, hk, hrL, HW, HD, HVD, HWF, HTS, HLY, HSL, HBl⟩ := hrel
    have hzr := HBl.out.size
    by_cases hlt : k < us.length
    · have hlt' : (k : Int) < us.length := by omega
      have hdk : us.drop k = us[k] :: us.drop (k + 1) := List.drop_eq_getElem_cons hlt
      have hly := HLY.out
      rw [hdk] at hly
      rcases HSL.out with ⟨h0, _⟩ | ⟨g, m0, c0, hv, hgB, hgl, hm0, hmc, hm1, hcell⟩
      · rw [h0] at hlt; simp at hlt
      injection hv with hv1 hv2 hv3
      subst hv1
      subst hv3
      clear hv2
      have ck1 := hcell k us[k] (List.getElem?_eq_getElem hlt)
      obtain ⟨u, hu⟩ : ∃ u, us[k] = u := ⟨_, rfl⟩
      rw [hu] at hly ck1
      have hbb := HW.out.lt.1
      have hbB := HW.out.lt.2
      have HBS2 : Hid (∀ W, Below B wr W → BaseB B W) := fun W hW => HBS.out.next (HBl.out.trans hW)
      clear hdk hcell HLY hu hm0 hmc hm1
      cases r with
      | nil => cases hly
      | br => exact absurd HWF.out.1 (by simp)
      | text t r' =>
        cases hly with
        | text h2 =>
        have HLY2 : Hid (Lay wr (fun g => g < B) r' (us.drop (k + 1))) := h2
        have HV2 : Hid (Vd r') := HVD.out
        have HF2 : Hid (Wf false r') := HWF.out.2
        have HT2 : Hid (Ts r') := fun m hm => HTS.out m (by simp [flat, hm])
        have hn2 : nM r' ≤ L := by have h : nM (.text t r') ≤ L := hrL; simp only [nM, flat] at h ⊢; simp at h; omega
        have t0 := fun v w => ta_same (xT := 283) Tryz.underlying285 v w
        have htl : t.length ≤ 10000 := HTS.out { kind := 116, text := t } (by simp [flat])
        have HD2 : Hid ((d ++ Dk.written num t) ++ canT num r' = R) := by show _ = _; rw [← HD.out, canT, List.append_assoc]
        have hdl : (d ++ Dk.written num t).length ≤ 40000000 := by
          have := congrArg List.length HD2.out
          rw [List.length_append] at this
          omega
        rw [List.length_append] at hdl
        have hba : Below B wr (wr.alloc (.cells #[.string ⟨t.toArray⟩] 285)) := (Below.refl B wr).alloc (by omega) _
        have kt := wtext_any B b d t num _ (HW.out.alloc (.cells #[.string ⟨t.toArray⟩] 285)) (HBS2.out _ hba) (by simp; omega) htl (by omega)
        clear HTS HVD HWF HD htl hdl hrL
        go_wp2_with fail
        refine kt.mono ?_
        rintro e w2 ⟨rfl, hw2, hb2, _⟩
        have hbw : Below B wr w2 := hba.trans hb2
        have HW2 : Hid (Wtr w2 B b (d ++ Dk.written num t)) := hw2
        clear kt hw2 hb2
        have HB2 : Hid (Below B w w2) := HBl.out.trans (hbw)
        have HL2 : Hid (Lay w2 (fun g => g < B) r' (us.drop (k + 1))) := HLY2.out.up (hbw)
        have HS2 : Hid (SlAt w2 (fun g => g < B) 1 (.slice (some ⟨g, 0, none⟩) us.length vc) us) := HSL.out.up (hbw)
        clear HLY2 HSL HBl ck1
        go_wp2
        go_roundw
        case rel => exact ⟨k + 1, r', _, by go_num, by omega, hn2, HW2, HD2, HV2, HF2, HT2, HL2, HS2, HB2⟩
        case measure => simp [intOf]; omega
      | sign  r' =>
        cases hly with
        | sign h2 =>
        have HLY2 : Hid (Lay wr (fun g => g < B) r' (us.drop (k + 1))) := h2
        have HV2 : Hid (Vd r') := HVD.out
        have HF2 : Hid (Wf false r') := HWF.out.2
        have HT2 : Hid (Ts r') := fun m hm => HTS.out m (by simp [flat, hm])
        have hn2 : nM r' ≤ L := by have h : nM (.sign r') ≤ L := hrL; simp only [nM, flat] at h ⊢; simp at h; omega
        have t0 := fun v w => ta_other (t := 287) (xT := 283) Tryz.underlying285 (by decide) Tryz.zeroValue285 v w
        have t1 := fun v w => ta_same (xT := 283) Tryz.underlying287 v w
        have HD2 : Hid ((d ++ [35]) ++ canT num r' = R) := by show _ = _; rw [← HD.out, canT]; simp
        have hdl : (d ++ [35]).length ≤ 40000000 := by
          have := congrArg List.length HD2.out
          rw [List.length_append] at this
          omega
        have ka := wall_new B b d [[35]] (wr.alloc (.cells #[] 287)) 9 (by decide) (HW.out.alloc _) (by simp at hdl ⊢; omega) (by simp) (by simp; omega) #[.string ⟨#[35]⟩] rfl 1 rfl (d ++ [35]) (by simp)
        rw [World.size_alloc] at ka
        clear HTS HVD HWF HD hdl hrL
        go_wp2_with fail
        refine ka.mono ?_
        rintro e w2 ⟨rfl, hw2, hb2, _⟩
        have hbw : Below B wr w2 := ((Below.refl B wr).alloc (by omega) _).trans hb2
        have HW2 : Hid (Wtr w2 B b (d ++ [35])) := hw2
        clear ka hw2 hb2
        have HB2 : Hid (Below B w w2) := HBl.out.trans (hbw)
        have HL2 : Hid (Lay w2 (fun g => g < B) r' (us.drop (k + 1))) := HLY2.out.up (hbw)
        have HS2 : Hid (SlAt w2 (fun g => g < B) 1 (.slice (some ⟨g, 0, none⟩) us.length vc) us) := HSL.out.up (hbw)
        clear HLY2 HSL HBl ck1
        go_wp2
        go_roundw
        case rel => exact ⟨k + 1, r', _, by go_num, by omega, hn2, HW2, HD2, HV2, HF2, HT2, HL2, HS2, HB2⟩
        case measure => simp [intOf]; omega
      | simple n a r' =>
        cases hly with
        | simple h2 =>
        have HLY2 : Hid (Lay wr (fun g => g < B) r' (us.drop (k + 1))) := h2
        have HV2 : Hid (Vd r') := HVD.out.2
        have HF2 : Hid (Wf false r') := HWF.out.2
        have HT2 : Hid (Ts r') := fun m hm => HTS.out m (by simp [flat, hm])
        have hn2 : nM r' ≤ L := by have h : nM (.simple n a r') ≤ L := hrL; simp only [nM, flat] at h ⊢; simp at h; omega
        have t0 := fun v w => ta_other (t := 290) (xT := 283) Tryz.underlying285 (by decide) Tryz.zeroValue285 v w
        have t1 := fun v w => ta_other (t := 290) (xT := 283) Tryz.underlying287 (by decide) Tryz.zeroValue287 v w
        have t2 := fun v w => ta_same (xT := 283) Tryz.underlying290 v w
        have HD2 : Hid ((d ++ (123 :: n ++ [125])) ++ canT num r' = R) := by show _ = _; rw [← HD.out, canT]; simp
        have hdl : (d ++ (123 :: n ++ [125])).length ≤ 40000000 := by
          have := congrArg List.length HD2.out
          rw [List.length_append] at this
          omega
        have ka := wall_new B b d [[123], n, [125]] (wr.alloc (.cells #[.string ⟨n.toArray⟩, .int .i64 (a : Nat)] 290)) 9 (by decide) (HW.out.alloc _) (by simp at hdl ⊢; omega) (by simp) (by simp; omega) #[.string ⟨#[123]⟩, .string ⟨n.toArray⟩, .string ⟨#[125]⟩] rfl 3 rfl (d ++ (123 :: n ++ [125])) (by simp)
        rw [World.size_alloc] at ka
        clear HTS HVD HWF HD hdl hrL
        go_wp2_with fail
        refine ka.mono ?_
        rintro e w2 ⟨rfl, hw2, hb2, _⟩
        have hbw : Below B wr w2 := ((Below.refl B wr).alloc (by omega) _).trans hb2
        have HW2 : Hid (Wtr w2 B b (d ++ (123 :: n ++ [125]))) := hw2
        clear ka hw2 hb2
        have HB2 : Hid (Below B w w2) := HBl.out.trans (hbw)
        have HL2 : Hid (Lay w2 (fun g => g < B) r' (us.drop (k + 1))) := HLY2.out.up (hbw)
        have HS2 : Hid (SlAt w2 (fun g => g < B) 1 (.slice (some ⟨g, 0, none⟩) us.length vc) us) := HSL.out.up (hbw)
        clear HLY2 HSL HBl ck1
        go_wp2
        go_roundw
        case rel => exact ⟨k + 1, r', _, by go_num, by omega, hn2, HW2, HD2, HV2, HF2, HT2, HL2, HS2, HB2⟩
        case measure => simp [intOf]; omega
      | num n a r' =>
        cases hly with
        | num h2 =>
        have HLY2 : Hid (Lay wr (fun g => g < B) r' (us.drop (k + 1))) := h2
        have HV2 : Hid (Vd r') := HVD.out.2
        have HF2 : Hid (Wf false r') := HWF.out.2
        have HT2 : Hid (Ts r') := fun m hm => HTS.out m (by simp [flat, hm])
        have hn2 : nM r' ≤ L := by have h : nM (.num n a r') ≤ L := hrL; simp only [nM, flat] at h ⊢; simp at h; omega
        have t0 := fun v w => ta_other (t := 291) (xT := 283) Tryz.underlying285 (by decide) Tryz.zeroValue285 v w
        have t1 := fun v w => ta_other (t := 291) (xT := 283) Tryz.underlying287 (by decide) Tryz.zeroValue287 v w
        have t2 := fun v w => ta_other (t := 291) (xT := 283) Tryz.underlying290 (by decide) Tryz.zeroValue290 v w
        have t3 := fun v w => ta_same (xT := 283) Tryz.underlying291 v w
        have HD2 : Hid ((d ++ (123 :: n ++ [44, 32, 110, 117, 109, 98, 101, 114, 125])) ++ canT num r' = R) := by show _ = _; rw [← HD.out, canT]; simp
        have hdl : (d ++ (123 :: n ++ [44, 32, 110, 117, 109, 98, 101, 114, 125])).length ≤ 40000000 := by
          have := congrArg List.length HD2.out
          rw [List.length_append] at this
          omega
        have ka := wall_new B b d [[123], n, [44, 32, 110, 117, 109, 98, 101, 114, 125]] (wr.alloc (.cells #[.string ⟨n.toArray⟩, .int .i64 (a : Nat)] 291)) 9 (by decide) (HW.out.alloc _) (by simp at hdl ⊢; omega) (by simp) (by simp; omega) #[.string ⟨#[123]⟩, .string ⟨n.toArray⟩, .string ⟨#[44, 32, 110, 117, 109, 98, 101, 114, 125]⟩] rfl 3 rfl (d ++ (123 :: n ++ [44, 32, 110, 117, 109, 98, 101, 114, 125])) (by simp)
        rw [World.size_alloc] at ka
        clear HTS HVD HWF HD hdl hrL
        go_wp2_with fail
        refine ka.mono ?_
        rintro e w2 ⟨rfl, hw2, hb2, _⟩
        have hbw : Below B wr w2 := ((Below.refl B wr).alloc (by omega) _).trans hb2
        have HW2 : Hid (Wtr w2 B b (d ++ (123 :: n ++ [44, 32, 110, 117, 109, 98, 101, 114, 125]))) := hw2
        clear ka hw2 hb2
        have HB2 : Hid (Below B w w2) := HBl.out.trans (hbw)
        have HL2 : Hid (Lay w2 (fun g => g < B) r' (us.drop (k + 1))) := HLY2.out.up (hbw)
        have HS2 : Hid (SlAt w2 (fun g => g < B) 1 (.slice (some ⟨g, 0, none⟩) us.length vc) us) := HSL.out.up (hbw)
        clear HLY2 HSL HBl ck1
        go_wp2
        go_roundw
        case rel => exact ⟨k + 1, r', _, by go_num, by omega, hn2, HW2, HD2, HV2, HF2, HT2, HL2, HS2, HB2⟩
        case measure => simp [intOf]; omega
      | sel n a bs e1 r' =>
        cases hly with
        | sel hs hb h2 =>
        have HLY2 : Hid (Lay wr (fun g => g < B) r' (us.drop (k + 1))) := h2
        have HV2 : Hid (Vd r') := HVD.out.2.2
        have HF2 : Hid (Wf false r') := HWF.out.2.2
        have HT2 : Hid (Ts r') := fun m hm => HTS.out m (by simp [flat, hm])
        have hn2 : nM r' ≤ L := by have h : nM (.sel n a bs e1 r') ≤ L := hrL; simp only [nM, flat] at h ⊢; simp at h; omega
        rename_i v us2
        obtain ⟨ya, yn, yc, rfl⟩ : ∃ ya yn yc, v = .slice ya yn yc := by
          rcases hs with ⟨_, h1⟩ | ⟨g, n, c, h1, _⟩
          · exact ⟨_, _, _, h1⟩
          · exact ⟨_, _, _, h1⟩
        have t0 := fun v w => ta_other (t := 296) (xT := 283) Tryz.underlying285 (by decide) Tryz.zeroValue285 v w
        have t1 := fun v w => ta_other (t := 296) (xT := 283) Tryz.underlying287 (by decide) Tryz.zeroValue287 v w
        have t2 := fun v w => ta_other (t := 296) (xT := 283) Tryz.underlying290 (by decide) Tryz.zeroValue290 v w
        have t3 := fun v w => ta_other (t := 296) (xT := 283) Tryz.underlying291 (by decide) Tryz.zeroValue291 v w
        have t4 := fun v w => ta_same (xT := 283) Tryz.underlying296 v w
        have hbsL : nM bs < L := by have h : nM (.sel n a bs e1 r') ≤ L := hrL; simp only [nM, flat] at h ⊢; simp at h; omega
        have HVB : Hid (Vd bs) := HVD.out.2.1
        have HFB : Hid (Wf true bs) := HWF.out.2.1
        have HTB : Hid (Ts bs) := fun m hm => HTS.out m (by simp [flat, hm])
        have HRB : Hid (RowAt wr (fun g => g < B) 4 (.slice ya yn yc) bs) := ⟨us2, hs, hb⟩
        have HD2 : Hid (((d ++ (123 :: n ++ [44, 32, 115, 101, 108, 101, 99, 116, 44])) ++ canT false bs ++ [125]) ++ canT num r' = R) := by show _ = _; rw [← HD.out, canT]; simp [selectW]
        have hdl : ((d ++ (123 :: n ++ [44, 32, 115, 101, 108, 101, 99, 116, 44])) ++ canT false bs ++ [125]).length ≤ 40000000 := by
          have := congrArg List.length HD2.out
          rw [List.length_append] at this
          omega
        have ka := wall_new B b d [[123], n, [44, 32, 115, 101, 108, 101, 99, 116, 44]] (wr.alloc (.cells #[.string ⟨n.toArray⟩, .int .i64 (a : Nat), .slice ya yn yc, .int .i64 (e1 : Nat)] 296)) 9 (by decide) (HW.out.alloc _) (by simp at hdl ⊢; omega) (by simp) (by simp; omega) #[.string ⟨#[123]⟩, .string ⟨n.toArray⟩, .string ⟨#[44, 32, 115, 101, 108, 101, 99, 116, 44]⟩] rfl 3 rfl (d ++ (123 :: n ++ [44, 32, 115, 101, 108, 101, 99, 116, 44])) (by simp)
        rw [World.size_alloc] at ka
        have HDL : Hid ((d ++ (123 :: n ++ [44, 32, 115, 101, 108, 101, 99, 116, 44])).length + (canT false bs).length + 1 ≤ 40000000) := by show _ ≤ _; simp at hdl ⊢; omega
        have hwr : (wr.alloc (.cells #[.string ⟨n.toArray⟩, .int .i64 (a : Nat), .slice ya yn yc, .int .i64 (e1 : Nat)] 296)).heap[wr.heap.size]? = some (.cells #[.string ⟨n.toArray⟩, .int .i64 (a : Nat), .slice ya yn yc, .int .i64 (e1 : Nat)] 296) := heap_new wr _
        clear HTS HVD HWF HD hdl hrL hs hb
        go_wp2_with fail
        refine ka.mono ?_
        rintro e w1 ⟨rfl, hw1, hb1, hk1⟩
        have hb1' : Below B wr w1 := ((Below.refl B wr).alloc (by omega) _).trans hb1
        have hh1 := hk1 _ _ hwr (fun e => by injection e with e; omega) (fun c fz e => by injection e with _ e _; cases e)
        have q1 : ∀ j, w1.cell? ⟨wr.heap.size, j, none⟩ = (#[.string ⟨n.toArray⟩, .int .i64 (a : Nat), .slice ya yn yc, .int .i64 (e1 : Nat)] : Array Value)[j]? := fun j => by simp [World.cell?, hh1]
        have kb := HBB.out bs hbsL w1 B b (d ++ (123 :: n ++ [44, 32, 115, 101, 108, 101, 99, 116, 44])) false (.slice ya yn yc) e1 HVB.out HFB.out HTB.out (HBS2.out _ hb1') (by have := hb1'.size; omega) hw1 (by obtain ⟨x, y, z⟩ := HRB.out; exact ⟨x, y.up hb1', z.up hb1'⟩) HDL.out
        have HBW : Hid (Below B wr w1) := hb1'
        clear ka hw1 hb1 hk1 hb1' hwr hh1
        go_wp2_with fail
        refine kb.mono ?_
        rintro e w2 ⟨rfl, hw2, hb2⟩
        have hbw : Below B wr w2 := HBW.out.trans hb2
        have HW2 : Hid (Wtr w2 B b ((d ++ (123 :: n ++ [44, 32, 115, 101, 108, 101, 99, 116, 44])) ++ canT false bs ++ [125])) := hw2
        clear kb hw2 hb2 q1
        have HB2 : Hid (Below B w w2) := HBl.out.trans (hbw)
        have HL2 : Hid (Lay w2 (fun g => g < B) r' (us.drop (k + 1))) := HLY2.out.up (hbw)
        have HS2 : Hid (SlAt w2 (fun g => g < B) 1 (.slice (some ⟨g, 0, none⟩) us.length vc) us) := HSL.out.up (hbw)
        clear HLY2 HSL HBl ck1
        go_wp2
        go_roundw
        case rel => exact ⟨k + 1, r', _, by go_num, by omega, hn2, HW2, HD2, HV2, HF2, HT2, HL2, HS2, HB2⟩
        case measure => simp [intOf]; omega
      | plu n a ord off bs e1 r' =>
        cases hly with
        | plu hs hb h2 =>
        have HLY2 : Hid (Lay wr (fun g => g < B) r' (us.drop (k + 1))) := h2
        have HV2 : Hid (Vd r') := HVD.out.2.2.2
        have HF2 : Hid (Wf false r') := HWF.out.2.2
        have HT2 : Hid (Ts r') := fun m hm => HTS.out m (by simp [flat, hm])
        have hn2 : nM r' ≤ L := by have h : nM (.plu n a ord off bs e1 r') ≤ L := hrL; simp only [nM, flat] at h ⊢; simp at h; omega
        rename_i v us2
        obtain ⟨ya, yn, yc, rfl⟩ : ∃ ya yn yc, v = .slice ya yn yc := by
          rcases hs with ⟨_, h1⟩ | ⟨g, n, c, h1, _⟩
          · exact ⟨_, _, _, h1⟩
          · exact ⟨_, _, _, h1⟩
        have t0 := fun v w => ta_other (t := 299) (xT := 283) Tryz.underlying285 (by decide) Tryz.zeroValue285 v w
        have t1 := fun v w => ta_other (t := 299) (xT := 283) Tryz.underlying287 (by decide) Tryz.zeroValue287 v w
        have t2 := fun v w => ta_other (t := 299) (xT := 283) Tryz.underlying290 (by decide) Tryz.zeroValue290 v w
        have t3 := fun v w => ta_other (t := 299) (xT := 283) Tryz.underlying291 (by decide) Tryz.zeroValue291 v w
        have t4 := fun v w => ta_other (t := 299) (xT := 283) Tryz.underlying296 (by decide) Tryz.zeroValue296 v w
        have t5 := fun v w => ta_same (xT := 283) Tryz.underlying299 v w
        have hbsL : nM bs < L := by have h : nM (.plu n a ord off bs e1 r') ≤ L := hrL; simp only [nM, flat] at h ⊢; simp at h; omega
        have HVB : Hid (Vd bs) := HVD.out.2.2.1
        have HNO : Hid (NumOk off) := HVD.out.2.1
        have HFB : Hid (Wf true bs) := HWF.out.2.1
        have HTB : Hid (Ts bs) := fun m hm => HTS.out m (by simp [flat, hm])
        have HRB : Hid (RowAt wr (fun g => g < B) 4 (.slice ya yn yc) bs) := ⟨us2, hs, hb⟩
        have HD2 : Hid (((d ++ (123 :: n ++ [44, 32] ++ ordT ord ++ [44] ++ Dk.offT off)) ++ canT true bs ++ [125]) ++ canT num r' = R) := by show _ = _; rw [← HD.out, canT]; simp [ordT]
        have hdl : ((d ++ (123 :: n ++ [44, 32] ++ ordT ord ++ [44] ++ Dk.offT off)) ++ canT true bs ++ [125]).length ≤ 40000000 := by
          have := congrArg List.length HD2.out
          rw [List.length_append] at this
          omega
        have HDL : Hid ((d ++ (123 :: n ++ [44, 32] ++ ordT ord ++ [44] ++ Dk.offT off)).length + (canT true bs).length + 1 ≤ 40000000) := by show _ ≤ _; simp at hdl ⊢; omega
        have HKA : Hid (∀ W, Below (wr.alloc (.cells #[.string ⟨n.toArray⟩, .int .i64 (a : Nat), .bool ord, .int .u32 (Pr.val off : Nat), .slice ya yn yc, .int .i64 (e1 : Nat)] 299)).heap.size (wr.alloc (.cells #[.string ⟨n.toArray⟩, .int .i64 (a : Nat), .bool ord, .int .u32 (Pr.val off : Nat), .slice ya yn yc, .int .i64 (e1 : Nat)] 299)) W → Calls Tryz.prog 164 #[.pointer (some ⟨b, 0, none⟩), .slice (some ⟨W.heap.size, 0, none⟩) 6 6] (W.alloc (.cells #[.string ⟨#[123]⟩, .string ⟨n.toArray⟩, .string ⟨#[44, 32]⟩, .string ⟨(ordT ord).toArray⟩, .string ⟨#[44]⟩, .string ⟨(Dk.offT off).toArray⟩] 9)) fun e w' => e = .returned (.tuple #[]) ∧ Wtr w' B b (d ++ (123 :: n ++ [44, 32] ++ ordT ord ++ [44] ++ Dk.offT off)) ∧ Below B wr w' ∧ ∀ j, w'.cell? ⟨wr.heap.size, j, none⟩ = (#[.string ⟨n.toArray⟩, .int .i64 (a : Nat), .bool ord, .int .u32 (Pr.val off : Nat), .slice ya yn yc, .int .i64 (e1 : Nat)] : Array Value)[j]?) := fun W hW => by
          refine (wall_new B b d [[123], n, [44, 32], ordT ord, [44], Dk.offT off] W 9 (by decide) ((HW.out.alloc _).keep hW) (by simp at hdl ⊢; omega) (by simp) (by have := hW.size; simp at this; omega) _ rfl 6 rfl (d ++ (123 :: n ++ [44, 32] ++ ordT ord ++ [44] ++ Dk.offT off)) (by simp)).mono ?_
          rintro e w' ⟨rfl, h1, h2, h3⟩
          refine ⟨rfl, h1, (((Below.refl B wr).alloc (by omega) _).trans (hW.mono (by simp; omega))).trans h2, fun j => ?_⟩
          have hh := h3 wr.heap.size (.cells #[.string ⟨n.toArray⟩, .int .i64 (a : Nat), .bool ord, .int .u32 (Pr.val off : Nat), .slice ya yn yc, .int .i64 (e1 : Nat)] 299) ((hW.block wr.heap.size (by simp)).trans (heap_new wr _)) (fun e => by injection e with e; omega) (fun c fz e => by injection e with _ e _; cases e)
          simp [World.cell?, hh]
        have HKO : Hid (∀ W, Below (wr.alloc (.cells #[.string ⟨n.toArray⟩, .int .i64 (a : Nat), .bool ord, .int .u32 (Pr.val off : Nat), .slice ya yn yc, .int .i64 (e1 : Nat)] 299)).heap.size (wr.alloc (.cells #[.string ⟨n.toArray⟩, .int .i64 (a : Nat), .bool ord, .int .u32 (Pr.val off : Nat), .slice ya yn yc, .int .i64 (e1 : Nat)] 299)) W → Calls Tryz.prog 167 #[pluV n a ord off (.slice ya yn yc) e1] W fun e w' => e = .returned (.string ⟨(Dk.offT off).toArray⟩) ∧ Below W.heap.size W w') := fun W hW => woffset_any n a ord off ya yn yc e1 W (HBS2.out W (((Below.refl B wr).alloc (by omega) _).trans (hW.mono (by simp; omega)))).base HNO.out
        have HKW : Hid (∀ W, Calls Tryz.prog 166 #[pluV n a ord off (.slice ya yn yc) e1] W fun e w' => e = .returned (.string ⟨(ordT ord).toArray⟩) ∧ Below W.heap.size W w') := fun W => wword_any n a ord off ya yn yc e1 W
        have HRW : Hid (Row (wr.alloc (.cells #[.string ⟨n.toArray⟩, .int .i64 (a : Nat), .bool ord, .int .u32 (Pr.val off : Nat), .slice ya yn yc, .int .i64 (e1 : Nat)] 299)) wr.heap.size #[.string ⟨n.toArray⟩, .int .i64 (a : Nat), .bool ord, .int .u32 (Pr.val off : Nat), .slice ya yn yc, .int .i64 (e1 : Nat)]) := row_at wr _ _
        unfold pluV at HKO HKW
        generalize Pr.val off = V at *
        obtain ⟨O1, HO1⟩ : ∃ O1, Hid (ordT ord = O1) := ⟨_, rfl⟩
        obtain ⟨O2, HO2⟩ : ∃ O2, Hid (Dk.offT off = O2) := ⟨_, rfl⟩
        rw [HO1.out] at HKA HKW HD2 HDL
        rw [HO2.out] at HKA HKO HD2 HDL
        clear HTS HVD HWF HD hdl hrL hs hb HNO HO1 HO2
        go_upto_region 22 with fail
        go_cut [] (fun wd => Wtr wd B b (d ++ (123 :: n ++ [44, 32] ++ O1 ++ [44] ++ O2)) ∧ Below B wr wd ∧ ∀ j, wd.cell? ⟨wr.heap.size, j, none⟩ = (#[.string ⟨n.toArray⟩, .int .i64 (a : Nat), .bool ord, .int .u32 (V : Nat), .slice ya yn yc, .int .i64 (e1 : Nat)] : Array Value)[j]?)
        case first =>
          have q0 := HRW.out.2.1
          clear HD2 HDL HVB HFB HTB HRB
          go_region_with (first
            | (go_at_call 166; refine (HKW.out _).mono ?_; rintro e w5 ⟨rfl, hb5⟩; have hbx := below_of (Below.refl (wr.alloc (.cells #[.string ⟨n.toArray⟩, .int .i64 (a : Nat), .bool ord, .int .u32 (V : Nat), .slice ya yn yc, .int .i64 (e1 : Nat)] 299)).heap.size (wr.alloc (.cells #[.string ⟨n.toArray⟩, .int .i64 (a : Nat), .bool ord, .int .u32 (V : Nat), .slice ya yn yc, .int .i64 (e1 : Nat)] 299))).drew hb5; have q5 := (HRW.out.keep hbx).2.1)
            | (go_at_call 167; refine (HKO.out _ hbx).mono ?_; rintro e w6 ⟨rfl, hb6⟩; have hby := below_of hbx hb6; have q6 := (HRW.out.keep hby).2.1)
            | (go_at_call 164; refine (HKA.out _ hby).mono ?_; rintro e w7 ⟨rfl, h71, h72, h73⟩))
          all_goals (go_wp2_with fail; go_meet; exact ⟨h71, h72, h73⟩)
        case rest =>
        obtain ⟨hw1, hb1, q1⟩ := hcut
        have hz1 := hb1.size
        have kb := HBB.out bs hbsL wc B b (d ++ (123 :: n ++ [44, 32] ++ O1 ++ [44] ++ O2)) true (.slice ya yn yc) e1 HVB.out HFB.out HTB.out (HBS2.out _ hb1) (by omega) hw1 (by obtain ⟨x, y, z⟩ := HRB.out; exact ⟨x, y.up hb1, z.up hb1⟩) HDL.out
        have HBW : Hid (Below B wr wc) := hb1
        clear hw1 hb1 HKA HKO HKW HRW HVB HFB HTB HRB HDL
        go_wp2_with fail
        refine kb.mono ?_
        rintro e w2 ⟨rfl, hw2, hb2⟩
        have hbw : Below B wr w2 := HBW.out.trans hb2
        have HW2 : Hid (Wtr w2 B b ((d ++ (123 :: n ++ [44, 32] ++ O1 ++ [44] ++ O2)) ++ canT true bs ++ [125])) := hw2
        clear kb hw2 hb2 q1
        have HB2 : Hid (Below B w w2) := HBl.out.trans (hbw)
        have HL2 : Hid (Lay w2 (fun g => g < B) r' (us.drop (k + 1))) := HLY2.out.up (hbw)
        have HS2 : Hid (SlAt w2 (fun g => g < B) 1 (.slice (some ⟨g, 0, none⟩) us.length vc) us) := HSL.out.up (hbw)
        clear HLY2 HSL HBl ck1
        go_wp2
        go_roundw
        case rel => exact ⟨k + 1, r', _, by go_num, by omega, hn2, HW2, HD2, HV2, HF2, HT2, HL2, HS2, HB2⟩
        case measure => simp [intOf]; omega
    · have hlt' : ¬ ((k : Int) < us.length) := by omega
      have hly := HLY.out
      rw [List.drop_eq_nil_of_le (by omega)] at hly
      have hr0 := lay_end hly
      subst hr0
      have HF : Hid (d = R) := by show _ = _; rw [← HD.out]; simp [canT]
      clear hly HLY HSL HVD HWF HTS HD
      go_wp2
      first | go_end0 | refine bodyPost_ret (results_none rfl _ _ _) rfl ?_
      exact ⟨rfl, by rw [← HF.out]; exact HW.out, HBl.out⟩
end Go.Proofs.YtaepcfidpekflaaGreatDoor
