/-
  Written with groups. By the verifier.
-/
import Derived.Test.YtaepcfidpekflaaGreatDoorRg
namespace Go.Proofs.YtaepcfidpekflaaGreatDoor
open Go.RowKit

theorem mem_drop {l : List UInt8} {k : Nat} (h : ∀ c ∈ l, Pn.isDig c = true) : ∀ c ∈ l.drop k, Pn.isDig c = true := fun c hc => h c (List.mem_of_mem_drop hc)
theorem mem_take {l : List UInt8} {k : Nat} (h : ∀ c ∈ l, Pn.isDig c = true) : ∀ c ∈ l.take k, Pn.isDig c = true := fun c hc => h c (List.mem_of_mem_take hc)
theorem shown_ext (mi po g : Int) (f n : Nat) (d : ByteArray) (l : List UInt8) (k : Nat) (w : World) (hd : d.size ≤ 100000) (hs : l.length ≤ 60) (hdig : ∀ c ∈ l, Pn.isDig c = true)
    (hp : Pn.pts d.data.toList = [] ∨ (Pn.pts d.data.toList).length = 10) (h4 : ∀ p ∈ Pn.pts d.data.toList, p.length ≤ 4) :
    Calls Tryz.prog 52 #[.string ((⟨l.toArray⟩ : ByteArray).extract (l.length - k) l.length), .agg #[.slice none 0 0, .slice none 0 0, .int .i32 mi, .int .i32 po, .int .i32 g, .int .u8 f, .int .u8 n, .string d]] w fun e w' => e = .returned (.string ⟨(dshow (Pn.pts d.data.toList) (l.drop (l.length - k))).toArray⟩) ∧ Below w.heap.size w w' := by
  have e : (⟨l.toArray⟩ : ByteArray).extract (l.length - k) l.length = ⟨(l.drop (l.length - k)).toArray⟩ := by
    rw [Lib.extract_mk, List.take_of_length_le (by simp)]
  rw [e]
  exact shown_l mi po g f n d _ w hd (by simp; omega) (mem_drop hdig) hp h4
theorem sl_from (l : List UInt8) (k : Nat) (hk : k ≤ l.length) : ∀ w, (Instr.slice 9 (.string ⟨l.toArray⟩) (some (.int .i64 ((l.length : Int) - (k : Int)))) none none).run Tryz.prog w = .ok (.string ((⟨l.toArray⟩ : ByteArray).extract (l.length - k) l.length)) w := by
  intro w
  rw [run_slice_string_from_if (h := Tryz.underlying9), Lib.size_mk, if_pos ⟨by omega, by omega⟩, show ((l.length : Int) - (k : Int)).toNat = l.length - k by omega]
theorem ext_upto (l : List UInt8) (k : Nat) : (⟨l.toArray⟩ : ByteArray).extract 0 k = ⟨(l.take k).toArray⟩ := by
  rw [Lib.extract_mk]; simp

set_option maxHeartbeats 2000000 in
theorem written_grp_true (a b : List UInt8) (mi po g : Int) (f n : Nat) (d : ByteArray) (w : World) (hd : d.size ≤ 100000) (hf : f ≤ 9) (hn : n ≤ 9) (ha : ∀ c ∈ a, Pn.isDig c = true) (hb : ∀ c ∈ b, Pn.isDig c = true) (hla : a.length ≤ 30) (hlb : b.length ≤ 30)
    (hp : (Pn.pts d.data.toList) = [] ∨ (Pn.pts d.data.toList).length = 10) (h4 : ∀ p ∈ (Pn.pts d.data.toList), p.length ≤ 4) (hmi : Lib.validRune mi = true) (hpo : Lib.validRune po = true) (hg : Lib.validRune g = true) (hg0 : g ≠ 0) (hf0 : 1 ≤ f) (hane : a ≠ []) :
    Calls Tryz.prog 30 #[.agg #[.bool true, .string ⟨a.toArray⟩, .string ⟨b.toArray⟩], .agg #[.slice none 0 0, .slice none 0 0, .int .i32 mi, .int .i32 po, .int .i32 g, .int .u8 f, .int .u8 n, .string d]] w fun e w' => e = .returned (.string ⟨(Pn.wParts (Lib.encodeRune mi) (Lib.encodeRune po) (Lib.encodeRune g) (Pn.firstOf g f) (Pn.nextOf g f n) (fun c => dshow (Pn.pts d.data.toList) [c]) a b).toArray⟩) ∧ Below w.heap.size w w' := by
  have hN1 : 1 ≤ (Pn.nextOf g f n) := by unfold Pn.nextOf; rw [if_neg (by omega)]; split <;> omega
  have hN9 : (Pn.nextOf g f n) ≤ 9 := by unfold Pn.nextOf; rw [if_neg (by omega)]; split <;> omega
  have HNX : Hid ((Pn.nextOf g f n) = if n = 0 then f else n) := by show _ = _; unfold Pn.nextOf; rw [if_neg (by omega)]
  have HFI : Hid (Pn.firstOf g f = f) := by show _ = _; unfold Pn.firstOf; rw [if_neg (by omega)]
  have r0 : Row ((w.alloc (.cells #[.bool true, .string ⟨a.toArray⟩, .string ⟨b.toArray⟩] 62)).alloc (.cells #[.slice none 0 0, .slice none 0 0, .int .i32 mi, .int .i32 po, .int .i32 g, .int .u8 f, .int .u8 n, .string d] 25)) w.heap.size #[.bool true, .string ⟨a.toArray⟩, .string ⟨b.toArray⟩] := (row_at w _ _).alloc _
  have r1 : Row ((w.alloc (.cells #[.bool true, .string ⟨a.toArray⟩, .string ⟨b.toArray⟩] 62)).alloc (.cells #[.slice none 0 0, .slice none 0 0, .int .i32 mi, .int .i32 po, .int .i32 g, .int .u8 f, .int .u8 n, .string d] 25)) (w.heap.size + 1) #[.slice none 0 0, .slice none 0 0, .int .i32 mi, .int .i32 po, .int .i32 g, .int .u8 f, .int .u8 n, .string d] := by simpa using row_at (w.alloc (.cells #[.bool true, .string ⟨a.toArray⟩, .string ⟨b.toArray⟩] 62)) #[.slice none 0 0, .slice none 0 0, .int .i32 mi, .int .i32 po, .int .i32 g, .int .u8 f, .int .u8 n, .string d] 25
  have hw : Below w.heap.size w ((w.alloc (.cells #[.bool true, .string ⟨a.toArray⟩, .string ⟨b.toArray⟩] 62)).alloc (.cells #[.slice none 0 0, .slice none 0 0, .int .i32 mi, .int .i32 po, .int .i32 g, .int .u8 f, .int .u8 n, .string d] 25)) := ((Below.refl _ _).alloc (Nat.le_refl _) _).alloc (by simp) _
  have eG := enc_same g hg
  have eM := enc_same mi hmi
  have eP := enc_same po hpo
  have lG := enc_len g
  have lM := enc_len mi
  have lP := enc_len po
  have HDa : Hid (∀ c ∈ a, Pn.isDig c = true) := ha
  have HDb : Hid (∀ c ∈ b, Pn.isDig c = true) := hb
  have HP : Hid ((Pn.pts d.data.toList) = [] ∨ (Pn.pts d.data.toList).length = 10) := hp
  have H4 : Hid (∀ p ∈ (Pn.pts d.data.toList), p.length ≤ 4) := h4
  clear ha hb hp h4 hmi hpo hg
  generalize Lib.encodeRune g = G at eG lG ⊢
  generalize Lib.encodeRune mi = M at eM lM ⊢
  generalize Lib.encodeRune po = P at eP lP ⊢
  rw [HFI.out]
  have hg1 : (g != 0) = true := by simp [hg0]
  have hf1 : (1 : Int) ≤ f := by omega
  clear hg0
  have HAN : Hid (a ≠ []) := hane
  clear hane
  go_enter Tryz.func30, Tryz.ntmps30
  go_wp2_with fail
  go_loopw [5, 6, 7] (fun t x k wr => ∃ (off kk : Nat) (xx tt : List UInt8), xx ≠ [] ∧ xx.length + off = a.length ∧ Hid (∀ c ∈ xx, Pn.isDig c = true) ∧ tt.length ≤ 8 * off ∧ t = .string ⟨tt.toArray⟩ ∧ x = .string ⟨xx.toArray⟩ ∧ k = .int .i64 kk ∧ Hid (Pn.cutAt f (Pn.nextOf g f n) off kk) ∧ kk ≤ 9 ∧ 1 ≤ kk ∧ Hid (Pn.wOff G f (Pn.nextOf g f n) (fun c => dshow (Pn.pts d.data.toList) [c]) off false xx ++ tt = Pn.wWhole G f (Pn.nextOf g f n) (fun c => dshow (Pn.pts d.data.toList) [c]) false a) ∧ Row wr w.heap.size #[.bool true, .string ⟨a.toArray⟩, .string ⟨b.toArray⟩] ∧ Row wr (w.heap.size + 1) #[.slice none 0 0, .slice none 0 0, .int .i32 mi, .int .i32 po, .int .i32 g, .int .u8 f, .int .u8 n, .string d] ∧ Below w.heap.size w wr) (fun _ x _ _ => Lib.strSize x)
  case atStart => exact ⟨0, f, a, [], HAN.out, by omega, HDa, by simp, rfl, rfl, rfl, ⟨by omega, by omega, Or.inl ⟨rfl, rfl⟩⟩, by omega, by omega, by show _ = _; rw [Pn.wOff_zero, List.append_nil], r0, r1, hw⟩
  case round =>
    clear r0 r1 hw
    obtain ⟨off, kk, xx, tt, hxne, hxl, HDx, htl, rfl, rfl, rfl, HC, hk9, hk1, HI, r0, r1, hw⟩ := hrel
    have HXN : Hid (xx ≠ []) := hxne
    clear hxne
    have q0 := r0.2.1
    have q1 := r1.2.1
    by_cases hlt : kk < xx.length
    · have hlt' : (kk : Int) < xx.length := by omega
      have hk1' : (0 : Int) < kk := by omega
      have hk2 : kk ≤ xx.length := by omega
      have hsA : (0 : Int) ≤ (xx.length : Int) - (kk : Int) := by omega
      have hsB : (xx.length : Int) - (kk : Int) ≤ (xx.length : Int) := by omega
      have hk3 : (kk : Int) ≤ xx.length := by omega
      have hwr : IntKind.i64.wrap ((xx.length : Int) - (kk : Int)) = (xx.length : Int) - (kk : Int) := by rw [IntKind.wrap_i64]; omega
      go_upto_region 5 with fail
      go_cut [8] (fun t8 wc => t8 = .string ⟨(dshow (Pn.pts d.data.toList) (xx.drop (xx.length - kk))).toArray⟩ ∧ Row wc w.heap.size #[.bool true, .string ⟨a.toArray⟩, .string ⟨b.toArray⟩] ∧ Row wc (w.heap.size + 1) #[.slice none 0 0, .slice none 0 0, .int .i32 mi, .int .i32 po, .int .i32 g, .int .u8 f, .int .u8 n, .string d] ∧ Below w.heap.size w wc)
      case first =>
        go_region_with (go_at_call 52; refine (shown_ext mi po g f n d xx kk _ hd (by omega) HDx.out HP.out H4.out).mono ?_; rintro e w5 ⟨rfl, h5⟩)
        all_goals (go_wp2; go_meet)
        all_goals exact ⟨rfl, Row.keep (w := wr.drew) (r0.keep (Below.refl _ _).drew) h5, Row.keep (w := wr.drew) (r1.keep (Below.refl _ _).drew) h5, below_of hw.drew h5⟩
      case rest =>
        clear q0 q1 r0 r1 hw
        obtain ⟨rfl, r0, r1, hw⟩ := hcut
        have q0 := r0.2.1
        have q1 := r1.2.1
        have lD := dshow_len (Pn.pts d.data.toList) H4.out (xx.drop (xx.length - kk))
        have lD2 : (xx.drop (xx.length - kk)).length = kk := by rw [List.length_drop]; omega
        rw [lD2] at lD
        have HI2 : Hid (Pn.wOff G f (Pn.nextOf g f n) (fun c => dshow (Pn.pts d.data.toList) [c]) (off + kk) false (xx.take (xx.length - kk)) ++ (G ++ dshow (Pn.pts d.data.toList) (xx.drop (xx.length - kk)) ++ tt) = Pn.wWhole G f (Pn.nextOf g f n) (fun c => dshow (Pn.pts d.data.toList) [c]) false a) := by
          show _ = _
          rw [← HI.out]
          conv => rhs; rw [← List.take_append_drop (xx.length - kk) xx]
          rw [Pn.wOff_cut G f _ _ off kk HC.out _ lD2 _ false (Or.inl (by intro h; have := congrArg List.length h; rw [List.length_take] at this; simp at this; omega)), dshow_flat]
          simp
        clear HI
        have HDt : Hid (∀ c ∈ xx.take (xx.length - kk), Pn.isDig c = true) := mem_take HDx.out
        have HXt : Hid (xx.take (xx.length - kk) ≠ []) := by
          intro h
          have := congrArg List.length h
          rw [List.length_take] at this
          simp at this
          omega
        have hlt2 : (xx.take (xx.length - kk)).length = xx.length - kk := by rw [List.length_take]; omega
        have HEX := ext_upto xx (xx.length - kk)
        have HEXH : Hid ((⟨xx.toArray⟩ : ByteArray).extract 0 (xx.length - kk) = ⟨(xx.take (xx.length - kk)).toArray⟩) := HEX
        clear HEX
        have HC2 : Hid (Pn.cutAt f (Pn.nextOf g f n) (off + kk) (Pn.nextOf g f n)) := Pn.cut_next _ _ _ _ HC.out
        clear HC
        generalize xx.take (xx.length - kk) = X2 at *
        generalize dshow (Pn.pts d.data.toList) (xx.drop (xx.length - kk)) = D at *
        by_cases hn0 : n = 0
        · have hn1 : ((n : Int) == 0) = true := by simp [hn0]
          have HNX2 : Hid ((Pn.nextOf g f n) = f) := by show _ = _; rw [HNX.out, if_pos hn0]
          clear HNX
          go_wp2
          exact ⟨⟨off + kk, f, X2, G ++ D ++ tt, HXt.out, by omega, HDt, by simp; omega, by rw [← cat_str, ← cat_str], by rw [HEXH.out], rfl, by show Pn.cutAt _ _ _ _; have h := HC2.out; rw [HNX2.out] at h ⊢; exact h, by omega, by omega, HI2, r0, r1, hw⟩, by rw [HEXH.out]; simp only [Lib.strSize, Lib.size_mk]; omega⟩
        · have hn1 : ((n : Int) == 0) = false := by rw [beq_eq_false_iff_ne]; omega
          have HNX2 : Hid ((Pn.nextOf g f n) = n) := by show _ = _; rw [HNX.out, if_neg hn0]
          clear HNX
          go_wp2
          exact ⟨⟨off + kk, n, X2, G ++ D ++ tt, HXt.out, by omega, HDt, by simp; omega, by rw [← cat_str, ← cat_str], by rw [HEXH.out], rfl, by show Pn.cutAt _ _ _ _; have h := HC2.out; rw [HNX2.out] at h ⊢; exact h, by omega, by omega, HI2, r0, r1, hw⟩, by rw [HEXH.out]; simp only [Lib.strSize, Lib.size_mk]; omega⟩
    · have hlt' : ¬ (kk : Int) < xx.length := by omega
      have hk1' : (0 : Int) < kk := by omega
      have HX : Hid (dshow (Pn.pts d.data.toList) xx ++ tt = Pn.wWhole G f (Pn.nextOf g f n) (fun c => dshow (Pn.pts d.data.toList) [c]) false a) := by
        show _ = _
        rw [← HI.out, Pn.wOff_in G f _ _ off kk HC.out xx false (Or.inr ⟨by omega, rfl⟩), dshow_flat]
      clear HI q0 q1
      have q0 := r0.2.1
      have q1 := r1.2.1
      go_wp2_with fail
      refine (shown_l mi po g f n d xx _ hd (by omega) HDx.out HP.out H4.out).mono ?_
      rintro e w5 ⟨rfl, h5⟩
      replace r0 := r0.keep h5
      replace r1 := r1.keep h5
      replace q0 := r0.2.1
      replace q1 := r1.2.1
      replace hw := below_of hw h5
      clear h5
      have lD := dshow_len (Pn.pts d.data.toList) H4.out xx
      generalize dshow (Pn.pts d.data.toList) xx = D at lD HX
      by_cases hbe : b = []
      · have hbe' : b.isEmpty = true := by simp [hbe]
        have HF : Hid (M ++ (D ++ tt) = Pn.wParts M P G f (Pn.nextOf g f n) (fun c => dshow (Pn.pts d.data.toList) [c]) a b) := by
          show _ = _
          rw [Pn.wParts, hbe, if_pos rfl, HX.out]; simp
        clear hbe
        go_wp2
        go_ret
        exact ⟨by rw [← HF.out]; rw [← cat_str, ← cat_str]; rfl, hw⟩
      · have hbe' : b.isEmpty = false := by simp [hbe]
        have HF : Hid ((M ++ (D ++ tt)) ++ P ++ dshow (Pn.pts d.data.toList) b = Pn.wParts M P G f (Pn.nextOf g f n) (fun c => dshow (Pn.pts d.data.toList) [c]) a b) := by
          show _ = _
          rw [Pn.wParts, if_neg hbe, ← HX.out, dshow_flat]; simp
        clear hbe
        go_wp2_with fail
        refine (shown_l mi po g f n d b _ hd (by omega) HDb.out HP.out H4.out).mono ?_
        rintro e w6 ⟨rfl, h6⟩
        replace r1 := r1.keep h6
        replace q1 := r1.2.1
        replace hw := below_of hw h6
        clear h6 q0
        have lE := dshow_len (Pn.pts d.data.toList) H4.out b
        generalize dshow (Pn.pts d.data.toList) b = E at lE HF
        go_wp2
        go_ret
        exact ⟨by rw [← HF.out]; rw [← cat_str, ← cat_str, ← cat_str, ← cat_str]; rfl, hw⟩
set_option maxHeartbeats 2000000 in
theorem written_grp_false (a b : List UInt8) (mi po g : Int) (f n : Nat) (d : ByteArray) (w : World) (hd : d.size ≤ 100000) (hf : f ≤ 9) (hn : n ≤ 9) (ha : ∀ c ∈ a, Pn.isDig c = true) (hb : ∀ c ∈ b, Pn.isDig c = true) (hla : a.length ≤ 30) (hlb : b.length ≤ 30)
    (hp : (Pn.pts d.data.toList) = [] ∨ (Pn.pts d.data.toList).length = 10) (h4 : ∀ p ∈ (Pn.pts d.data.toList), p.length ≤ 4) (hmi : Lib.validRune mi = true) (hpo : Lib.validRune po = true) (hg : Lib.validRune g = true) (hg0 : g ≠ 0) (hf0 : 1 ≤ f) (hane : a ≠ []) :
    Calls Tryz.prog 30 #[.agg #[.bool false, .string ⟨a.toArray⟩, .string ⟨b.toArray⟩], .agg #[.slice none 0 0, .slice none 0 0, .int .i32 mi, .int .i32 po, .int .i32 g, .int .u8 f, .int .u8 n, .string d]] w fun e w' => e = .returned (.string ⟨(Pn.wParts [] (Lib.encodeRune po) (Lib.encodeRune g) (Pn.firstOf g f) (Pn.nextOf g f n) (fun c => dshow (Pn.pts d.data.toList) [c]) a b).toArray⟩) ∧ Below w.heap.size w w' := by
  have hN1 : 1 ≤ (Pn.nextOf g f n) := by unfold Pn.nextOf; rw [if_neg (by omega)]; split <;> omega
  have hN9 : (Pn.nextOf g f n) ≤ 9 := by unfold Pn.nextOf; rw [if_neg (by omega)]; split <;> omega
  have HNX : Hid ((Pn.nextOf g f n) = if n = 0 then f else n) := by show _ = _; unfold Pn.nextOf; rw [if_neg (by omega)]
  have HFI : Hid (Pn.firstOf g f = f) := by show _ = _; unfold Pn.firstOf; rw [if_neg (by omega)]
  have r0 : Row ((w.alloc (.cells #[.bool false, .string ⟨a.toArray⟩, .string ⟨b.toArray⟩] 62)).alloc (.cells #[.slice none 0 0, .slice none 0 0, .int .i32 mi, .int .i32 po, .int .i32 g, .int .u8 f, .int .u8 n, .string d] 25)) w.heap.size #[.bool false, .string ⟨a.toArray⟩, .string ⟨b.toArray⟩] := (row_at w _ _).alloc _
  have r1 : Row ((w.alloc (.cells #[.bool false, .string ⟨a.toArray⟩, .string ⟨b.toArray⟩] 62)).alloc (.cells #[.slice none 0 0, .slice none 0 0, .int .i32 mi, .int .i32 po, .int .i32 g, .int .u8 f, .int .u8 n, .string d] 25)) (w.heap.size + 1) #[.slice none 0 0, .slice none 0 0, .int .i32 mi, .int .i32 po, .int .i32 g, .int .u8 f, .int .u8 n, .string d] := by simpa using row_at (w.alloc (.cells #[.bool false, .string ⟨a.toArray⟩, .string ⟨b.toArray⟩] 62)) #[.slice none 0 0, .slice none 0 0, .int .i32 mi, .int .i32 po, .int .i32 g, .int .u8 f, .int .u8 n, .string d] 25
  have hw : Below w.heap.size w ((w.alloc (.cells #[.bool false, .string ⟨a.toArray⟩, .string ⟨b.toArray⟩] 62)).alloc (.cells #[.slice none 0 0, .slice none 0 0, .int .i32 mi, .int .i32 po, .int .i32 g, .int .u8 f, .int .u8 n, .string d] 25)) := ((Below.refl _ _).alloc (Nat.le_refl _) _).alloc (by simp) _
  have eG := enc_same g hg
  have eM := enc_same mi hmi
  have eP := enc_same po hpo
  have lG := enc_len g
  have lM := enc_len mi
  have lP := enc_len po
  have HDa : Hid (∀ c ∈ a, Pn.isDig c = true) := ha
  have HDb : Hid (∀ c ∈ b, Pn.isDig c = true) := hb
  have HP : Hid ((Pn.pts d.data.toList) = [] ∨ (Pn.pts d.data.toList).length = 10) := hp
  have H4 : Hid (∀ p ∈ (Pn.pts d.data.toList), p.length ≤ 4) := h4
  clear ha hb hp h4 hmi hpo hg
  generalize Lib.encodeRune g = G at eG lG ⊢
  generalize Lib.encodeRune mi = M at eM lM ⊢
  generalize Lib.encodeRune po = P at eP lP ⊢
  rw [HFI.out]
  have hg1 : (g != 0) = true := by simp [hg0]
  have hf1 : (1 : Int) ≤ f := by omega
  clear hg0
  have HAN : Hid (a ≠ []) := hane
  clear hane
  go_enter Tryz.func30, Tryz.ntmps30
  go_wp2_with fail
  go_loopw [5, 6, 7] (fun t x k wr => ∃ (off kk : Nat) (xx tt : List UInt8), xx ≠ [] ∧ xx.length + off = a.length ∧ Hid (∀ c ∈ xx, Pn.isDig c = true) ∧ tt.length ≤ 8 * off ∧ t = .string ⟨tt.toArray⟩ ∧ x = .string ⟨xx.toArray⟩ ∧ k = .int .i64 kk ∧ Hid (Pn.cutAt f (Pn.nextOf g f n) off kk) ∧ kk ≤ 9 ∧ 1 ≤ kk ∧ Hid (Pn.wOff G f (Pn.nextOf g f n) (fun c => dshow (Pn.pts d.data.toList) [c]) off false xx ++ tt = Pn.wWhole G f (Pn.nextOf g f n) (fun c => dshow (Pn.pts d.data.toList) [c]) false a) ∧ Row wr w.heap.size #[.bool false, .string ⟨a.toArray⟩, .string ⟨b.toArray⟩] ∧ Row wr (w.heap.size + 1) #[.slice none 0 0, .slice none 0 0, .int .i32 mi, .int .i32 po, .int .i32 g, .int .u8 f, .int .u8 n, .string d] ∧ Below w.heap.size w wr) (fun _ x _ _ => Lib.strSize x)
  case atStart => exact ⟨0, f, a, [], HAN.out, by omega, HDa, by simp, rfl, rfl, rfl, ⟨by omega, by omega, Or.inl ⟨rfl, rfl⟩⟩, by omega, by omega, by show _ = _; rw [Pn.wOff_zero, List.append_nil], r0, r1, hw⟩
  case round =>
    clear r0 r1 hw
    obtain ⟨off, kk, xx, tt, hxne, hxl, HDx, htl, rfl, rfl, rfl, HC, hk9, hk1, HI, r0, r1, hw⟩ := hrel
    have HXN : Hid (xx ≠ []) := hxne
    clear hxne
    have q0 := r0.2.1
    have q1 := r1.2.1
    by_cases hlt : kk < xx.length
    · have hlt' : (kk : Int) < xx.length := by omega
      have hk1' : (0 : Int) < kk := by omega
      have hk2 : kk ≤ xx.length := by omega
      have hsA : (0 : Int) ≤ (xx.length : Int) - (kk : Int) := by omega
      have hsB : (xx.length : Int) - (kk : Int) ≤ (xx.length : Int) := by omega
      have hk3 : (kk : Int) ≤ xx.length := by omega
      have hwr : IntKind.i64.wrap ((xx.length : Int) - (kk : Int)) = (xx.length : Int) - (kk : Int) := by rw [IntKind.wrap_i64]; omega
      go_upto_region 5 with fail
      go_cut [8] (fun t8 wc => t8 = .string ⟨(dshow (Pn.pts d.data.toList) (xx.drop (xx.length - kk))).toArray⟩ ∧ Row wc w.heap.size #[.bool false, .string ⟨a.toArray⟩, .string ⟨b.toArray⟩] ∧ Row wc (w.heap.size + 1) #[.slice none 0 0, .slice none 0 0, .int .i32 mi, .int .i32 po, .int .i32 g, .int .u8 f, .int .u8 n, .string d] ∧ Below w.heap.size w wc)
      case first =>
        go_region_with (go_at_call 52; refine (shown_ext mi po g f n d xx kk _ hd (by omega) HDx.out HP.out H4.out).mono ?_; rintro e w5 ⟨rfl, h5⟩)
        all_goals (go_wp2; go_meet)
        all_goals exact ⟨rfl, Row.keep (w := wr.drew) (r0.keep (Below.refl _ _).drew) h5, Row.keep (w := wr.drew) (r1.keep (Below.refl _ _).drew) h5, below_of hw.drew h5⟩
      case rest =>
        clear q0 q1 r0 r1 hw
        obtain ⟨rfl, r0, r1, hw⟩ := hcut
        have q0 := r0.2.1
        have q1 := r1.2.1
        have lD := dshow_len (Pn.pts d.data.toList) H4.out (xx.drop (xx.length - kk))
        have lD2 : (xx.drop (xx.length - kk)).length = kk := by rw [List.length_drop]; omega
        rw [lD2] at lD
        have HI2 : Hid (Pn.wOff G f (Pn.nextOf g f n) (fun c => dshow (Pn.pts d.data.toList) [c]) (off + kk) false (xx.take (xx.length - kk)) ++ (G ++ dshow (Pn.pts d.data.toList) (xx.drop (xx.length - kk)) ++ tt) = Pn.wWhole G f (Pn.nextOf g f n) (fun c => dshow (Pn.pts d.data.toList) [c]) false a) := by
          show _ = _
          rw [← HI.out]
          conv => rhs; rw [← List.take_append_drop (xx.length - kk) xx]
          rw [Pn.wOff_cut G f _ _ off kk HC.out _ lD2 _ false (Or.inl (by intro h; have := congrArg List.length h; rw [List.length_take] at this; simp at this; omega)), dshow_flat]
          simp
        clear HI
        have HDt : Hid (∀ c ∈ xx.take (xx.length - kk), Pn.isDig c = true) := mem_take HDx.out
        have HXt : Hid (xx.take (xx.length - kk) ≠ []) := by
          intro h
          have := congrArg List.length h
          rw [List.length_take] at this
          simp at this
          omega
        have hlt2 : (xx.take (xx.length - kk)).length = xx.length - kk := by rw [List.length_take]; omega
        have HEX := ext_upto xx (xx.length - kk)
        have HEXH : Hid ((⟨xx.toArray⟩ : ByteArray).extract 0 (xx.length - kk) = ⟨(xx.take (xx.length - kk)).toArray⟩) := HEX
        clear HEX
        have HC2 : Hid (Pn.cutAt f (Pn.nextOf g f n) (off + kk) (Pn.nextOf g f n)) := Pn.cut_next _ _ _ _ HC.out
        clear HC
        generalize xx.take (xx.length - kk) = X2 at *
        generalize dshow (Pn.pts d.data.toList) (xx.drop (xx.length - kk)) = D at *
        by_cases hn0 : n = 0
        · have hn1 : ((n : Int) == 0) = true := by simp [hn0]
          have HNX2 : Hid ((Pn.nextOf g f n) = f) := by show _ = _; rw [HNX.out, if_pos hn0]
          clear HNX
          go_wp2
          exact ⟨⟨off + kk, f, X2, G ++ D ++ tt, HXt.out, by omega, HDt, by simp; omega, by rw [← cat_str, ← cat_str], by rw [HEXH.out], rfl, by show Pn.cutAt _ _ _ _; have h := HC2.out; rw [HNX2.out] at h ⊢; exact h, by omega, by omega, HI2, r0, r1, hw⟩, by rw [HEXH.out]; simp only [Lib.strSize, Lib.size_mk]; omega⟩
        · have hn1 : ((n : Int) == 0) = false := by rw [beq_eq_false_iff_ne]; omega
          have HNX2 : Hid ((Pn.nextOf g f n) = n) := by show _ = _; rw [HNX.out, if_neg hn0]
          clear HNX
          go_wp2
          exact ⟨⟨off + kk, n, X2, G ++ D ++ tt, HXt.out, by omega, HDt, by simp; omega, by rw [← cat_str, ← cat_str], by rw [HEXH.out], rfl, by show Pn.cutAt _ _ _ _; have h := HC2.out; rw [HNX2.out] at h ⊢; exact h, by omega, by omega, HI2, r0, r1, hw⟩, by rw [HEXH.out]; simp only [Lib.strSize, Lib.size_mk]; omega⟩
    · have hlt' : ¬ (kk : Int) < xx.length := by omega
      have hk1' : (0 : Int) < kk := by omega
      have HX : Hid (dshow (Pn.pts d.data.toList) xx ++ tt = Pn.wWhole G f (Pn.nextOf g f n) (fun c => dshow (Pn.pts d.data.toList) [c]) false a) := by
        show _ = _
        rw [← HI.out, Pn.wOff_in G f _ _ off kk HC.out xx false (Or.inr ⟨by omega, rfl⟩), dshow_flat]
      clear HI q0 q1
      have q0 := r0.2.1
      have q1 := r1.2.1
      go_wp2_with fail
      refine (shown_l mi po g f n d xx _ hd (by omega) HDx.out HP.out H4.out).mono ?_
      rintro e w5 ⟨rfl, h5⟩
      replace r0 := r0.keep h5
      replace r1 := r1.keep h5
      replace q0 := r0.2.1
      replace q1 := r1.2.1
      replace hw := below_of hw h5
      clear h5
      have lD := dshow_len (Pn.pts d.data.toList) H4.out xx
      generalize dshow (Pn.pts d.data.toList) xx = D at lD HX
      by_cases hbe : b = []
      · have hbe' : b.isEmpty = true := by simp [hbe]
        have HF : Hid ((D ++ tt) = Pn.wParts [] P G f (Pn.nextOf g f n) (fun c => dshow (Pn.pts d.data.toList) [c]) a b) := by
          show _ = _
          rw [Pn.wParts, hbe, if_pos rfl, HX.out]; simp
        clear hbe
        go_wp2
        go_ret
        exact ⟨by rw [← HF.out]; rw [← cat_str]; rfl, hw⟩
      · have hbe' : b.isEmpty = false := by simp [hbe]
        have HF : Hid (((D ++ tt)) ++ P ++ dshow (Pn.pts d.data.toList) b = Pn.wParts [] P G f (Pn.nextOf g f n) (fun c => dshow (Pn.pts d.data.toList) [c]) a b) := by
          show _ = _
          rw [Pn.wParts, if_neg hbe, ← HX.out, dshow_flat]; simp
        clear hbe
        go_wp2_with fail
        refine (shown_l mi po g f n d b _ hd (by omega) HDb.out HP.out H4.out).mono ?_
        rintro e w6 ⟨rfl, h6⟩
        replace r1 := r1.keep h6
        replace q1 := r1.2.1
        replace hw := below_of hw h6
        clear h6 q0
        have lE := dshow_len (Pn.pts d.data.toList) H4.out b
        generalize dshow (Pn.pts d.data.toList) b = E at lE HF
        go_wp2
        go_ret
        exact ⟨by rw [← HF.out]; rw [← cat_str, ← cat_str, ← cat_str]; rfl, hw⟩
end Go.Proofs.YtaepcfidpekflaaGreatDoor
