/-
  Written (P4, as the document's answer has it) by its contract. By the verifier.
-/
import Derived.Test.YtaepcfidpekflaaGreatDoorRe
import Derived.Deep.DeepCutAuto
import Derived.Deep.CutBlock
import Derived.Deep.RegionWith
import Derived.Outline
namespace Go.Proofs.YtaepcfidpekflaaGreatDoor
open Go.RowKit

theorem enc_same (r : Int) (h : Lib.validRune r = true) : Utf8.encode r = ⟨(Lib.encodeRune r).toArray⟩ := by
  have hv : (0 ≤ r ∧ r < 55296) ∨ (57343 < r ∧ r ≤ 1114111) := by simpa [Lib.validRune] using h
  have hval : Utf8.valid r = true := by
    unfold Utf8.valid
    rcases hv with hv | hv
    · simp; omega
    · simp; omega
  unfold Utf8.encode Lib.encodeRune
  simp only [hval, if_true]
  by_cases c1 : r ≤ 127
  · rw [if_pos (by omega), Lib.encodeRuneZ_one (by omega) c1]; rfl
  rw [if_neg (by omega)]
  by_cases c2 : r ≤ 2047
  · rw [if_pos (by omega), Lib.encodeRuneZ_two (by omega) c2]
    have e1 : (192 + r / 64).toNat = 192 + r.toNat / 64 := by omega
    have e2 : (128 + r % 64).toNat = 128 + r.toNat % 64 := by omega
    simp only [List.map_cons, List.map_nil, e1, e2]
  rw [if_neg (by omega)]
  by_cases c3 : r ≤ 65535
  · rw [if_pos (by omega), Lib.encodeRuneZ_three (by omega)]
    have e1 : (224 + r / 4096).toNat = 224 + r.toNat / 4096 := by omega
    have e2 : (128 + r / 64 % 64).toNat = 128 + r.toNat / 64 % 64 := by omega
    have e3 : (128 + r % 64).toNat = 128 + r.toNat % 64 := by omega
    simp only [List.map_cons, List.map_nil, e1, e2, e3]
  rw [if_neg (by omega), Lib.encodeRuneZ_four (by omega) (by omega)]
  have e1 : (240 + r / 262144).toNat = 240 + r.toNat / 262144 := by omega
  have e2 : (128 + r / 4096 % 64).toNat = 128 + r.toNat / 4096 % 64 := by omega
  have e3 : (128 + r / 64 % 64).toNat = 128 + r.toNat / 64 % 64 := by omega
  have e4 : (128 + r % 64).toNat = 128 + r.toNat % 64 := by omega
  simp only [List.map_cons, List.map_nil, e1, e2, e3, e4]
theorem ret_st {a b : List UInt8} (h : a = b) : Ending.returned (.string ⟨a.toArray⟩) = .returned (.string ⟨b.toArray⟩) := by rw [h]
theorem shown_l (mi po g : Int) (f n : Nat) (d : ByteArray) (l : List UInt8) (w : World) (hd : d.size ≤ 100000) (hs : l.length ≤ 60) (hdig : ∀ c ∈ l, Pn.isDig c = true)
    (hp : Pn.pts d.data.toList = [] ∨ (Pn.pts d.data.toList).length = 10) (h4 : ∀ p ∈ Pn.pts d.data.toList, p.length ≤ 4) :
    Calls Tryz.prog 52 #[.string ⟨l.toArray⟩, .agg #[.slice none 0 0, .slice none 0 0, .int .i32 mi, .int .i32 po, .int .i32 g, .int .u8 f, .int .u8 n, .string d]] w fun e w' => e = .returned (.string ⟨(dshow (Pn.pts d.data.toList) l).toArray⟩) ∧ Below w.heap.size w w' :=
  shown_any mi po g f n d ⟨l.toArray⟩ w hd (by rw [Lib.size_mk]; exact hs) hdig hp h4
theorem enc_len (r : Int) : (Lib.encodeRune r).length ≤ 4 := by
  have := Lib.runeCells_le r
  rw [Lib.runeCells_length] at this
  exact this.2
theorem dshow_nil (ps : List (List UInt8)) : dshow ps [] = [] := by unfold dshow; split <;> rfl
theorem dshow_flat (ps : List (List UInt8)) (l : List UInt8) : l.flatMap (fun c => dshow ps [c]) = dshow ps l := by
  unfold dshow
  by_cases h : ps = []
  · simp only [if_pos h]; exact Pn.flatMap_self l
  · simp only [if_neg h]
    congr 1
    funext c
    simp
theorem dshow_len (ps : List (List UInt8)) (h4 : ∀ p ∈ ps, p.length ≤ 4) (l : List UInt8) : (dshow ps l).length ≤ 4 * l.length := by
  unfold dshow
  split
  · omega
  · induction l with
    | nil => simp
    | cons c r ih =>
      rw [List.flatMap_cons, List.length_append, List.length_cons]
      have : (ps.getD (c.toNat - 48) []).length ≤ 4 := by
        rw [List.getD_eq_getElem?_getD]
        rcases Nat.lt_or_ge (c.toNat - 48) ps.length with hl | hl
        · rw [List.getElem?_eq_getElem hl]; exact h4 _ (List.getElem_mem _)
        · rw [List.getElem?_eq_none hl]; simp
      omega

set_option maxHeartbeats 2000000 in
theorem written_none_true (a b : List UInt8) (mi po g : Int) (f n : Nat) (d : ByteArray) (w : World) (hd : d.size ≤ 100000) (hf : f ≤ 9) (_hn : n ≤ 9) (ha : ∀ c ∈ a, Pn.isDig c = true) (hb : ∀ c ∈ b, Pn.isDig c = true) (hla : a.length ≤ 30) (hlb : b.length ≤ 30)
    (hp : (Pn.pts d.data.toList) = [] ∨ (Pn.pts d.data.toList).length = 10) (h4 : ∀ p ∈ (Pn.pts d.data.toList), p.length ≤ 4) (hmi : Lib.validRune mi = true) (hpo : Lib.validRune po = true) (hg : Lib.validRune g = true) (h0 : g = 0 ∨ f = 0) :
    Calls Tryz.prog 30 #[.agg #[.bool true, .string ⟨a.toArray⟩, .string ⟨b.toArray⟩], .agg #[.slice none 0 0, .slice none 0 0, .int .i32 mi, .int .i32 po, .int .i32 g, .int .u8 f, .int .u8 n, .string d]] w fun e w' => e = .returned (.string ⟨(Pn.wParts (Lib.encodeRune mi) (Lib.encodeRune po) (Lib.encodeRune g) (Pn.firstOf g f) (Pn.nextOf g f n) (fun c => dshow (Pn.pts d.data.toList) [c]) a b).toArray⟩) ∧ Below w.heap.size w w' := by
  have r0 : Row ((w.alloc (.cells #[.bool true, .string ⟨a.toArray⟩, .string ⟨b.toArray⟩] 62)).alloc (.cells #[.slice none 0 0, .slice none 0 0, .int .i32 mi, .int .i32 po, .int .i32 g, .int .u8 f, .int .u8 n, .string d] 25)) w.heap.size #[.bool true, .string ⟨a.toArray⟩, .string ⟨b.toArray⟩] := (row_at w _ _).alloc _
  have r1 : Row ((w.alloc (.cells #[.bool true, .string ⟨a.toArray⟩, .string ⟨b.toArray⟩] 62)).alloc (.cells #[.slice none 0 0, .slice none 0 0, .int .i32 mi, .int .i32 po, .int .i32 g, .int .u8 f, .int .u8 n, .string d] 25)) (w.heap.size + 1) #[.slice none 0 0, .slice none 0 0, .int .i32 mi, .int .i32 po, .int .i32 g, .int .u8 f, .int .u8 n, .string d] := by simpa using row_at (w.alloc (.cells #[.bool true, .string ⟨a.toArray⟩, .string ⟨b.toArray⟩] 62)) #[.slice none 0 0, .slice none 0 0, .int .i32 mi, .int .i32 po, .int .i32 g, .int .u8 f, .int .u8 n, .string d] 25
  have hw : Below w.heap.size w ((w.alloc (.cells #[.bool true, .string ⟨a.toArray⟩, .string ⟨b.toArray⟩] 62)).alloc (.cells #[.slice none 0 0, .slice none 0 0, .int .i32 mi, .int .i32 po, .int .i32 g, .int .u8 f, .int .u8 n, .string d] 25)) := ((Below.refl _ _).alloc (Nat.le_refl _) _).alloc (by simp) _
  have eG := enc_same g hg
  have eM := enc_same mi hmi
  have eP := enc_same po hpo
  have lG := enc_len g
  have lM := enc_len mi
  have lP := enc_len po
  have HDa : Hid (∀ c ∈ a, Pn.isDig c = true) := ha
  have HDb : Hid (∀ c ∈ b, Pn.isDig c = true) := hb
  have HP : Hid ((Pn.pts d.data.toList) = [] ∨ (Pn.pts d.data.toList).length = 10) := hp
  have H4 : Hid (∀ p ∈ (Pn.pts d.data.toList), p.length ≤ 4) := h4
  clear ha hb hp h4 hmi hpo hg
  generalize Lib.encodeRune g = G at eG lG ⊢
  generalize Lib.encodeRune mi = M at eM lM ⊢
  generalize Lib.encodeRune po = P at eP lP ⊢
  have HX : Hid (dshow (Pn.pts d.data.toList) a ++ [] = Pn.wWhole G (Pn.firstOf g f) (Pn.nextOf g f n) (fun c => dshow (Pn.pts d.data.toList) [c]) false a) := by
    show _ = _
    have e : Pn.firstOf g f = 0 := by unfold Pn.firstOf; rw [if_pos h0]
    rw [e, Pn.wWhole_none, dshow_flat, List.append_nil]
  have HDx := HDa
  by_cases hf0 : f = 0
  · have hf1 : ¬ (0 : Int) < f := by omega
    clear h0 hf0
    go_enter Tryz.func30, Tryz.ntmps30
    go_wp2_with fail
    go_loop [5, 6, 7] (fun t x k => t = .string ⟨#[]⟩ ∧ x = .string ⟨a.toArray⟩ ∧ k = .int .i64 f) (fun _ _ _ => 0)
    case atStart => exact ⟨rfl, rfl, rfl⟩
    case round =>
      obtain ⟨rfl, rfl, rfl⟩ := hrel
      have q0 := r0.2.1
      have q1 := r1.2.1
      go_wp2_with fail
      refine (shown_l mi po g f n d a _ hd (by omega) HDx.out HP.out H4.out).mono ?_
      rintro e w5 ⟨rfl, h5⟩
      replace r0 := r0.keep h5
      replace r1 := r1.keep h5
      replace q0 := r0.2.1
      replace q1 := r1.2.1
      replace hw := below_of hw h5
      clear h5
      have lD := dshow_len (Pn.pts d.data.toList) H4.out a
      generalize dshow (Pn.pts d.data.toList) a = D at lD HX
      by_cases hbe : b = []
      · have hbe' : b.isEmpty = true := by simp [hbe]
        have HF : Hid (M ++ (D ++ []) = Pn.wParts M P G (Pn.firstOf g f) (Pn.nextOf g f n) (fun c => dshow (Pn.pts d.data.toList) [c]) a b) := by
          show _ = _
          rw [Pn.wParts, hbe, if_pos rfl, HX.out]; simp
        clear hbe
        go_wp2
        go_ret
        exact ⟨by rw [← HF.out]; rw [← cat_str, ← cat_str]; rfl, hw⟩
      · have hbe' : b.isEmpty = false := by simp [hbe]
        have HF : Hid ((M ++ (D ++ [])) ++ P ++ dshow (Pn.pts d.data.toList) b = Pn.wParts M P G (Pn.firstOf g f) (Pn.nextOf g f n) (fun c => dshow (Pn.pts d.data.toList) [c]) a b) := by
          show _ = _
          rw [Pn.wParts, if_neg hbe, ← HX.out, dshow_flat]; simp
        clear hbe
        go_wp2_with fail
        refine (shown_l mi po g f n d b _ hd (by omega) HDb.out HP.out H4.out).mono ?_
        rintro e w6 ⟨rfl, h6⟩
        replace r1 := r1.keep h6
        replace q1 := r1.2.1
        replace hw := below_of hw h6
        clear h6 q0
        have lE := dshow_len (Pn.pts d.data.toList) H4.out b
        generalize dshow (Pn.pts d.data.toList) b = E at lE HF
        go_wp2
        go_ret
        exact ⟨by rw [← HF.out]; rw [← cat_str, ← cat_str, ← cat_str, ← cat_str]; rfl, hw⟩
  · have hg0 : (g != 0) = false := by
      rcases h0 with h | h
      · simp [h]
      · exact absurd h hf0
    have hf1 : (0 : Int) < f := by omega
    clear h0 hf0
    go_enter Tryz.func30, Tryz.ntmps30
    go_wp2_with fail
    go_loop [5, 6, 7] (fun t x k => t = .string ⟨#[]⟩ ∧ x = .string ⟨a.toArray⟩ ∧ k = .int .i64 f) (fun _ _ _ => 0)
    case atStart => exact ⟨rfl, rfl, rfl⟩
    case round =>
      obtain ⟨rfl, rfl, rfl⟩ := hrel
      have q0 := r0.2.1
      have q1 := r1.2.1
      go_wp2_with fail
      refine (shown_l mi po g f n d a _ hd (by omega) HDx.out HP.out H4.out).mono ?_
      rintro e w5 ⟨rfl, h5⟩
      replace r0 := r0.keep h5
      replace r1 := r1.keep h5
      replace q0 := r0.2.1
      replace q1 := r1.2.1
      replace hw := below_of hw h5
      clear h5
      have lD := dshow_len (Pn.pts d.data.toList) H4.out a
      generalize dshow (Pn.pts d.data.toList) a = D at lD HX
      by_cases hbe : b = []
      · have hbe' : b.isEmpty = true := by simp [hbe]
        have HF : Hid (M ++ (D ++ []) = Pn.wParts M P G (Pn.firstOf g f) (Pn.nextOf g f n) (fun c => dshow (Pn.pts d.data.toList) [c]) a b) := by
          show _ = _
          rw [Pn.wParts, hbe, if_pos rfl, HX.out]; simp
        clear hbe
        go_wp2
        go_ret
        exact ⟨by rw [← HF.out]; rw [← cat_str, ← cat_str]; rfl, hw⟩
      · have hbe' : b.isEmpty = false := by simp [hbe]
        have HF : Hid ((M ++ (D ++ [])) ++ P ++ dshow (Pn.pts d.data.toList) b = Pn.wParts M P G (Pn.firstOf g f) (Pn.nextOf g f n) (fun c => dshow (Pn.pts d.data.toList) [c]) a b) := by
          show _ = _
          rw [Pn.wParts, if_neg hbe, ← HX.out, dshow_flat]; simp
        clear hbe
        go_wp2_with fail
        refine (shown_l mi po g f n d b _ hd (by omega) HDb.out HP.out H4.out).mono ?_
        rintro e w6 ⟨rfl, h6⟩
        replace r1 := r1.keep h6
        replace q1 := r1.2.1
        replace hw := below_of hw h6
        clear h6 q0
        have lE := dshow_len (Pn.pts d.data.toList) H4.out b
        generalize dshow (Pn.pts d.data.toList) b = E at lE HF
        go_wp2
        go_ret
        exact ⟨by rw [← HF.out]; rw [← cat_str, ← cat_str, ← cat_str, ← cat_str]; rfl, hw⟩

set_option maxHeartbeats 2000000 in
theorem written_none_false (a b : List UInt8) (mi po g : Int) (f n : Nat) (d : ByteArray) (w : World) (hd : d.size ≤ 100000) (hf : f ≤ 9) (_hn : n ≤ 9) (ha : ∀ c ∈ a, Pn.isDig c = true) (hb : ∀ c ∈ b, Pn.isDig c = true) (hla : a.length ≤ 30) (hlb : b.length ≤ 30)
    (hp : (Pn.pts d.data.toList) = [] ∨ (Pn.pts d.data.toList).length = 10) (h4 : ∀ p ∈ (Pn.pts d.data.toList), p.length ≤ 4) (hmi : Lib.validRune mi = true) (hpo : Lib.validRune po = true) (hg : Lib.validRune g = true) (h0 : g = 0 ∨ f = 0) :
    Calls Tryz.prog 30 #[.agg #[.bool false, .string ⟨a.toArray⟩, .string ⟨b.toArray⟩], .agg #[.slice none 0 0, .slice none 0 0, .int .i32 mi, .int .i32 po, .int .i32 g, .int .u8 f, .int .u8 n, .string d]] w fun e w' => e = .returned (.string ⟨(Pn.wParts [] (Lib.encodeRune po) (Lib.encodeRune g) (Pn.firstOf g f) (Pn.nextOf g f n) (fun c => dshow (Pn.pts d.data.toList) [c]) a b).toArray⟩) ∧ Below w.heap.size w w' := by
  have r0 : Row ((w.alloc (.cells #[.bool false, .string ⟨a.toArray⟩, .string ⟨b.toArray⟩] 62)).alloc (.cells #[.slice none 0 0, .slice none 0 0, .int .i32 mi, .int .i32 po, .int .i32 g, .int .u8 f, .int .u8 n, .string d] 25)) w.heap.size #[.bool false, .string ⟨a.toArray⟩, .string ⟨b.toArray⟩] := (row_at w _ _).alloc _
  have r1 : Row ((w.alloc (.cells #[.bool false, .string ⟨a.toArray⟩, .string ⟨b.toArray⟩] 62)).alloc (.cells #[.slice none 0 0, .slice none 0 0, .int .i32 mi, .int .i32 po, .int .i32 g, .int .u8 f, .int .u8 n, .string d] 25)) (w.heap.size + 1) #[.slice none 0 0, .slice none 0 0, .int .i32 mi, .int .i32 po, .int .i32 g, .int .u8 f, .int .u8 n, .string d] := by simpa using row_at (w.alloc (.cells #[.bool false, .string ⟨a.toArray⟩, .string ⟨b.toArray⟩] 62)) #[.slice none 0 0, .slice none 0 0, .int .i32 mi, .int .i32 po, .int .i32 g, .int .u8 f, .int .u8 n, .string d] 25
  have hw : Below w.heap.size w ((w.alloc (.cells #[.bool false, .string ⟨a.toArray⟩, .string ⟨b.toArray⟩] 62)).alloc (.cells #[.slice none 0 0, .slice none 0 0, .int .i32 mi, .int .i32 po, .int .i32 g, .int .u8 f, .int .u8 n, .string d] 25)) := ((Below.refl _ _).alloc (Nat.le_refl _) _).alloc (by simp) _
  have eG := enc_same g hg
  have eM := enc_same mi hmi
  have eP := enc_same po hpo
  have lG := enc_len g
  have lM := enc_len mi
  have lP := enc_len po
  have HDa : Hid (∀ c ∈ a, Pn.isDig c = true) := ha
  have HDb : Hid (∀ c ∈ b, Pn.isDig c = true) := hb
  have HP : Hid ((Pn.pts d.data.toList) = [] ∨ (Pn.pts d.data.toList).length = 10) := hp
  have H4 : Hid (∀ p ∈ (Pn.pts d.data.toList), p.length ≤ 4) := h4
  clear ha hb hp h4 hmi hpo hg
  generalize Lib.encodeRune g = G at eG lG ⊢
  generalize Lib.encodeRune mi = M at eM lM ⊢
  generalize Lib.encodeRune po = P at eP lP ⊢
  have HX : Hid (dshow (Pn.pts d.data.toList) a ++ [] = Pn.wWhole G (Pn.firstOf g f) (Pn.nextOf g f n) (fun c => dshow (Pn.pts d.data.toList) [c]) false a) := by
    show _ = _
    have e : Pn.firstOf g f = 0 := by unfold Pn.firstOf; rw [if_pos h0]
    rw [e, Pn.wWhole_none, dshow_flat, List.append_nil]
  have HDx := HDa
  by_cases hf0 : f = 0
  · have hf1 : ¬ (0 : Int) < f := by omega
    clear h0 hf0
    go_enter Tryz.func30, Tryz.ntmps30
    go_wp2_with fail
    go_loop [5, 6, 7] (fun t x k => t = .string ⟨#[]⟩ ∧ x = .string ⟨a.toArray⟩ ∧ k = .int .i64 f) (fun _ _ _ => 0)
    case atStart => exact ⟨rfl, rfl, rfl⟩
    case round =>
      obtain ⟨rfl, rfl, rfl⟩ := hrel
      have q0 := r0.2.1
      have q1 := r1.2.1
      go_wp2_with fail
      refine (shown_l mi po g f n d a _ hd (by omega) HDx.out HP.out H4.out).mono ?_
      rintro e w5 ⟨rfl, h5⟩
      replace r0 := r0.keep h5
      replace r1 := r1.keep h5
      replace q0 := r0.2.1
      replace q1 := r1.2.1
      replace hw := below_of hw h5
      clear h5
      have lD := dshow_len (Pn.pts d.data.toList) H4.out a
      generalize dshow (Pn.pts d.data.toList) a = D at lD HX
      by_cases hbe : b = []
      · have hbe' : b.isEmpty = true := by simp [hbe]
        have HF : Hid ((D ++ []) = Pn.wParts [] P G (Pn.firstOf g f) (Pn.nextOf g f n) (fun c => dshow (Pn.pts d.data.toList) [c]) a b) := by
          show _ = _
          rw [Pn.wParts, hbe, if_pos rfl, HX.out]; simp
        clear hbe
        go_wp2
        go_ret
        exact ⟨by rw [← HF.out]; rw [← cat_str]; rfl, hw⟩
      · have hbe' : b.isEmpty = false := by simp [hbe]
        have HF : Hid (((D ++ [])) ++ P ++ dshow (Pn.pts d.data.toList) b = Pn.wParts [] P G (Pn.firstOf g f) (Pn.nextOf g f n) (fun c => dshow (Pn.pts d.data.toList) [c]) a b) := by
          show _ = _
          rw [Pn.wParts, if_neg hbe, ← HX.out, dshow_flat]; simp
        clear hbe
        go_wp2_with fail
        refine (shown_l mi po g f n d b _ hd (by omega) HDb.out HP.out H4.out).mono ?_
        rintro e w6 ⟨rfl, h6⟩
        replace r1 := r1.keep h6
        replace q1 := r1.2.1
        replace hw := below_of hw h6
        clear h6 q0
        have lE := dshow_len (Pn.pts d.data.toList) H4.out b
        generalize dshow (Pn.pts d.data.toList) b = E at lE HF
        go_wp2
        go_ret
        exact ⟨by rw [← HF.out]; rw [← cat_str, ← cat_str, ← cat_str]; rfl, hw⟩
  · have hg0 : (g != 0) = false := by
      rcases h0 with h | h
      · simp [h]
      · exact absurd h hf0
    have hf1 : (0 : Int) < f := by omega
    clear h0 hf0
    go_enter Tryz.func30, Tryz.ntmps30
    go_wp2_with fail
    go_loop [5, 6, 7] (fun t x k => t = .string ⟨#[]⟩ ∧ x = .string ⟨a.toArray⟩ ∧ k = .int .i64 f) (fun _ _ _ => 0)
    case atStart => exact ⟨rfl, rfl, rfl⟩
    case round =>
      obtain ⟨rfl, rfl, rfl⟩ := hrel
      have q0 := r0.2.1
      have q1 := r1.2.1
      go_wp2_with fail
      refine (shown_l mi po g f n d a _ hd (by omega) HDx.out HP.out H4.out).mono ?_
      rintro e w5 ⟨rfl, h5⟩
      replace r0 := r0.keep h5
      replace r1 := r1.keep h5
      replace q0 := r0.2.1
      replace q1 := r1.2.1
      replace hw := below_of hw h5
      clear h5
      have lD := dshow_len (Pn.pts d.data.toList) H4.out a
      generalize dshow (Pn.pts d.data.toList) a = D at lD HX
      by_cases hbe : b = []
      · have hbe' : b.isEmpty = true := by simp [hbe]
        have HF : Hid ((D ++ []) = Pn.wParts [] P G (Pn.firstOf g f) (Pn.nextOf g f n) (fun c => dshow (Pn.pts d.data.toList) [c]) a b) := by
          show _ = _
          rw [Pn.wParts, hbe, if_pos rfl, HX.out]; simp
        clear hbe
        go_wp2
        go_ret
        exact ⟨by rw [← HF.out]; rw [← cat_str]; rfl, hw⟩
      · have hbe' : b.isEmpty = false := by simp [hbe]
        have HF : Hid (((D ++ [])) ++ P ++ dshow (Pn.pts d.data.toList) b = Pn.wParts [] P G (Pn.firstOf g f) (Pn.nextOf g f n) (fun c => dshow (Pn.pts d.data.toList) [c]) a b) := by
          show _ = _
          rw [Pn.wParts, if_neg hbe, ← HX.out, dshow_flat]; simp
        clear hbe
        go_wp2_with fail
        refine (shown_l mi po g f n d b _ hd (by omega) HDb.out HP.out H4.out).mono ?_
        rintro e w6 ⟨rfl, h6⟩
        replace r1 := r1.keep h6
        replace q1 := r1.2.1
        replace hw := below_of hw h6
        clear h6 q0
        have lE := dshow_len (Pn.pts d.data.toList) H4.out b
        generalize dshow (Pn.pts d.data.toList) b = E at lE HF
        go_wp2
        go_ret
        exact ⟨by rw [← HF.out]; rw [← cat_str, ← cat_str, ← cat_str]; rfl, hw⟩

end Go.Proofs.YtaepcfidpekflaaGreatDoor
