/-
  Several texts in one (Kg). By the verifier.
-/
import Derived.Test.YtaepcfidpekflaaGreatDoorU20
namespace Go.Proofs.YtaepcfidpekflaaGreatDoor
open Go.RowKit
variable {ms : List (Nat × Array Value)}

theorem wholeGo_step (z : Bool) (n : Nat) (c : UInt8) (r : Pr.T) (h : n < 9 ∧ Pn.isDig c = true ∧ ¬ (n = 1 ∧ z = true)) : Dk.wholeGo z n (c :: r) = Dk.wholeGo z (n + 1) r := by
  rw [Dk.wholeGo, if_pos h]
theorem wholeGo_stop (z : Bool) (n : Nat) (c : UInt8) (r : Pr.T) (h : ¬ (n < 9 ∧ Pn.isDig c = true ∧ ¬ (n = 1 ∧ z = true))) : Dk.wholeGo z n (c :: r) = n := by
  rw [Dk.wholeGo, if_neg h]
theorem wholeGo_le (z : Bool) : ∀ (l : Pr.T) (n : Nat), n ≤ 9 → n ≤ Dk.wholeGo z n l ∧ Dk.wholeGo z n l ≤ n + l.length ∧ Dk.wholeGo z n l ≤ 9 := by
  intro l
  induction l with
  | nil => intro n h; simp [Dk.wholeGo]; exact h
  | cons c r ih =>
    intro n h
    rw [Dk.wholeGo]
    split
    · rename_i hc
      have := ih (n + 1) (by omega)
      simp only [List.length_cons]
      omega
    · simp only [List.length_cons]; omega
theorem whole_le (l : Pr.T) : Dk.wholeN l ≤ l.length ∧ Dk.wholeN l ≤ 9 := by
  have := wholeGo_le (l.head? == some 48) l 0 (by omega)
  unfold Dk.wholeN
  omega

set_option maxHeartbeats 3200000 in
set_option maxRecDepth 100000 in
theorem kwhole_any (w : World) (B b : Nat) (s : Pr.T) (x : Dk.Sc) (hx : ScanAt ms w B b s x) (hs : s.length ≤ 1000000) (hi : x.i ≤ s.length) :
    Calls Tryz.prog 174 #[.pointer (some ⟨b, 0, none⟩)] w fun en w' => en = .returned (.string ⟨(x.wholeT s).toArray⟩) ∧ ScanAt ms w' B b s (x.whole s) ∧ Below B w w' := by
  have hB := hx.base
  have hnl := (whole_le (s.drop x.i)).1
  have ex1 := ex_seg s x.i (Dk.wholeN (s.drop x.i))
  obtain ⟨N, hN⟩ : ∃ N, Hid (x.wholeT s = N) := ⟨_, rfl⟩
  obtain ⟨Y, hY⟩ : ∃ Y, Hid (x.whole s = Y) := ⟨_, rfl⟩
  rw [hN.out, hY.out]
  have HN : Hid (((s.drop x.i).take (Dk.wholeN (s.drop x.i))) = N) := hN
  have HY : Hid ((if Dk.wholeN (s.drop x.i) = 0 then x.fault 3 x.i else x).go (Dk.wholeN (s.drop x.i)) = Y) := hY
  rw [HN.out] at ex1
  clear hN hY HN
  obtain ⟨n, hn0⟩ : ∃ n, Hid (Dk.wholeN (s.drop x.i) = n) := ⟨_, rfl⟩
  rw [hn0.out] at ex1 HY hnl
  have HG0 : Hid (Dk.wholeGo ((s.drop x.i).head? == some 48) 0 (s.drop (x.i + 0)) = n) := hn0
  clear hn0
  simp only [List.length_drop] at hnl
  have HX : Hid (ScanAt ms w B b s x) := hx
  clear hx
  have hle' : (x.i : Int) ≤ s.length := by omega
  have hw1 : IntKind.i64.wrap ((x.i : Int) + n) = ((x.i + n : Nat) : Int) := by rw [IntKind.wrap_i64]; omega
  have hw2 : IntKind.i64.wrap (((x.i + n : Nat) : Int) - n) = x.i := by rw [IntKind.wrap_i64]; omega
  have hw3 : IntKind.i64.wrap ((x.i : Int) + n - n) = x.i := by rw [IntKind.wrap_i64]; omega
  have hw4 : IntKind.i64.wrap (x.i : Int) = x.i := by rw [IntKind.wrap_i64]; omega
  have hl1 : x.i ≤ x.i + n := by omega
  have hl2 : x.i + n ≤ s.length := by omega
  have hl3 : (x.i : Int) + n ≤ s.length := by omega
  have hl4 : (x.i : Int) ≤ (x.i : Int) + n := by omega
  go_enter Tryz.func174, Tryz.ntmps174
  go_upto_block 0 with fail
  go_cut [3] (fun v wd => v = .int .i64 n ∧ Below w.heap.size w wd)
  case first =>
    clear HY ex1 hw1 hw2 hw3 hl1 hl2 hl3 hl4 hnl
    go_wp2_with fail
    go_loopg [3] (s.length - x.i) (fun g v wr => ∃ k : Nat, g + k = s.length - x.i ∧ v = .int .i64 k ∧ k ≤ 9 ∧ Below w.heap.size w wr ∧ Hid (Dk.wholeGo ((s.drop x.i).head? == some 48) k (s.drop (x.i + k)) = n))
    case atStart => exact ⟨0, by omega, rfl, by omega, Below.refl _ _, HG0⟩
    case round =>
      obtain ⟨k, hgk, rfl, hk9, hbw, HG⟩ := hrel
      clear HG0
      obtain ⟨ov, pv, h1, _⟩ := HX.out.keep hbw
      have q0 := h1.2.1
      clear h1
      have hw5 : IntKind.i64.wrap ((x.i : Int) + k) = ((x.i + k : Nat) : Int) := by rw [IntKind.wrap_i64]; omega
      cases hd : s.drop (x.i + k) with
      | nil =>
        have hge : s.length ≤ x.i + k := List.drop_eq_nil_iff.1 hd
        have hk1 : ¬ x.i + k < s.length := by omega
        have hk2 : ¬ (x.i : Int) + k < s.length := by omega
        have hk3 : decide ((x.i : Int) + k < s.length) = false := decide_eq_false hk2
        have hk4 : ((x.i : Int) + k < s.length) = False := eq_false hk2
        have hF : Hid (n = k) := by show _ = _; rw [← HG.out, hd]; rfl
        clear HG hd
        go_wp2
        go_quiet (fail)
        go_wp2
        go_meet
        case rel => exact ⟨by rw [hF.out], below_of hbw (drewB _ _)⟩
      | cons c r =>
        obtain ⟨hkl, hr, hgc⟩ := at_drop hd
        have hk1 : x.i + k < s.length := by omega
        have hk2 : (x.i : Int) + k < s.length := by omega
        by_cases h9 : k < 9
        · have h9' : (k : Int) < 9 := by omega
          have hw6 : IntKind.i64.wrap ((k : Int) + 1) = ((k + 1 : Nat) : Int) := by rw [IntKind.wrap_i64]; omega
          have h256 := UInt8.toNat_lt c
          have HA : Hid (Pn.isDig c = true ∧ ¬ (k = 1 ∧ ((s.drop x.i).head? == some 48) = true) → Dk.wholeGo ((s.drop x.i).head? == some 48) (k + 1) (s.drop (x.i + (k + 1))) = n) := fun h => by rw [← HG.out, hd, wholeGo_step _ k c r ⟨h9, h⟩, ← hr]; rfl
          have HZ : Hid (¬ (Pn.isDig c = true ∧ ¬ (k = 1 ∧ ((s.drop x.i).head? == some 48) = true)) → n = k) := fun h => by rw [← HG.out, hd, wholeGo_stop _ k c r (fun x => h x.2)]
          clear HG hd hr
          have hzf : ∀ h : x.i < (⟨s.toArray⟩ : ByteArray).size, (s.drop x.i).head? = some ((⟨s.toArray⟩ : ByteArray)[x.i]'h) := fun h => by
            rw [List.head?_drop]
            exact List.getElem?_eq_getElem (by exact h)
          have hxl : x.i < s.length := by omega
          have ht : ((x.i : Int) + k).toNat = x.i + k := by omega
          have h0 : (0 : Int) ≤ (x.i : Int) + k := by omega
          have hxl' : (x.i : Int) < s.length := by omega
          obtain ⟨f, hf⟩ : ∃ f : UInt8, ∀ h, ((⟨s.toArray⟩ : ByteArray)[x.i]'h) = f := ⟨s[x.i], fun _ => rfl⟩
          have HH : Hid ((s.drop x.i).head? = some f) := by show _ = _; rw [hzf (by show x.i < s.toArray.size; simpa using hxl), hf]
          clear hzf
          by_cases d1 : c.toNat < 48
          · have d1' : (c.toNat : Int) < 48 := by omega
            have hF : Hid (n = k) := HZ.out (fun h => by have := (Pn.isDig_iff c).1 h.1; omega)
            clear HA HZ
            go_wp2
            go_quiet (fail)
            go_wp2
            go_quiet (fail)
            go_wp2
            go_quiet (fail)
            go_wp2
            go_meet
            case rel => exact ⟨by rw [hF.out], below_of hbw (below_of (drewB _ _) (below_of (drewB _ _) (drewB _ _)))⟩
          have d1' : ¬ (c.toNat : Int) < 48 := by omega
          have d1'' : ((c.toNat : Int) < 48) = False := eq_false d1'
          by_cases d2 : 57 < c.toNat
          · have d2' : (57 : Int) < c.toNat := by omega
            have hF : Hid (n = k) := HZ.out (fun h => by have := (Pn.isDig_iff c).1 h.1; omega)
            clear HA HZ
            go_wp2
            go_quiet (fail)
            go_wp2
            go_quiet (fail)
            go_wp2
            go_quiet (fail)
            go_wp2
            go_meet
            case rel => exact ⟨by rw [hF.out], below_of hbw (below_of (drewB _ _) (below_of (drewB _ _) (drewB _ _)))⟩
          have d2' : ¬ (57 : Int) < c.toNat := by omega
          have d2'' : ((57 : Int) < c.toNat) = False := eq_false d2'
          have hdg : Pn.isDig c = true := (Pn.isDig_iff c).2 (by omega)
          by_cases k1 : k = 1
          · have k1' : ((k : Int) == 1) = true := by rw [k1]; rfl
            by_cases f48 : f = 48
            · have f48' : ((f.toNat : Int) == 48) = true := by rw [f48]; rfl
              have hF : Hid (n = k) := HZ.out (fun h => h.2 ⟨k1, by rw [HH.out, f48]; rfl⟩)
              clear HA HZ f48 k1 hdg
              go_wp2
              go_quiet (fail)
              go_wp2
              go_quiet (fail)
              go_wp2
              go_quiet (fail)
              go_wp2
              go_meet
              case rel => exact ⟨by rw [hF.out], below_of hbw (below_of (drewB _ _) (below_of (drewB _ _) (drewB _ _)))⟩
            · have f48' : ((f.toNat : Int) == 48) = false := byte_ne (n := 48) (by decide) f48
              have HG2 : Hid (Dk.wholeGo ((s.drop x.i).head? == some 48) (k + 1) (s.drop (x.i + (k + 1))) = n) := HA.out ⟨hdg, fun h => by have := h.2; rw [HH.out] at this; exact f48 (by simpa using this)⟩
              clear HA HZ f48 k1 hdg
              go_wp2
              go_quiet (fail)
              go_wp2
              go_quiet (fail)
              go_wp2
              go_quiet (fail)
              go_wp2
              go_roundg (gk - 1)
              case measure => omega
              case rel => exact ⟨k + 1, by omega, by go_num, by omega, below_of hbw (drewB _ _), HG2⟩
          · have k1' : ((k : Int) == 1) = false := by rw [beq_eq_false_iff_ne]; omega
            have HG2 : Hid (Dk.wholeGo ((s.drop x.i).head? == some 48) (k + 1) (s.drop (x.i + (k + 1))) = n) := HA.out ⟨hdg, fun h => k1 h.1⟩
            clear HA HZ k1 hdg
            go_wp2
            go_quiet (fail)
            go_wp2
            go_quiet (fail)
            go_wp2
            go_quiet (fail)
            go_wp2
            go_roundg (gk - 1)
            case measure => omega
            case rel => exact ⟨k + 1, by omega, by go_num, by omega, below_of hbw (drewB _ _), HG2⟩
        · have h9' : ¬ (k : Int) < 9 := by omega
          have hF : Hid (n = k) := by show _ = _; rw [← HG.out, hd, wholeGo_stop _ k c r (fun x => h9 x.1)]
          clear HG hd
          go_wp2
          go_quiet (fail)
          go_wp2
          go_meet
          case rel => exact ⟨by rw [hF.out], below_of hbw (drewB _ _)⟩
  case rest =>
    obtain ⟨rfl, hbc⟩ := hcut
    have hx := HX.out.keep hbc
    clear HX HG0
    obtain ⟨ov, pv, h1, _⟩ := id hx
    have q0 := h1.2.1
    have q1 := h1.2.2
    clear h1
    by_cases hn : n = 0
    · have hn' : ((n : Int) == 0) = true := by rw [hn]; rfl
      have kf := kfault_any wc B b s x 3 x.i hx
      have hfi : (x.fault 3 x.i).i = x.i := by unfold Dk.Sc.fault; split <;> rfl
      have HF : Hid (∀ w2, ScanAt ms w2 B b s (x.fault 3 x.i) → Below B w w2 → ScanAt ms (w2.setCell ⟨b, 1, none⟩ (.int .i64 ((x.i + n : Nat) : Int))) B b s Y ∧ Below B w (w2.setCell ⟨b, 1, none⟩ (.int .i64 ((x.i + n : Nat) : Int)))) := by
        intro w2 h2 hb2
        refine ⟨?_, hb2.setCell (p := ⟨b, 1, none⟩) hB.1 _⟩
        rw [← HY.out, if_pos hn]
        have := setI_go h2 (Below.refl _ _) n
        rw [hfi] at this
        exact this
      clear hx HY hn
      go_wp2_with fail
      refine kf.mono ?_
      rintro e w2 ⟨rfl, hs2, hb2⟩
      clear kf q0 q1
      obtain ⟨ov2, pv2, k1, _⟩ := id hs2
      have q2 := k1.2.1
      have q3 := k1.2.2
      rw [hfi] at q2
      have hb3 := below_to hB.2 hbc hb2
      clear k1 hfi
      go_wp2
      go_quiet (fail)
      go_wp2
      go_ret
      obtain ⟨z1, z2⟩ := HF.out _ hs2 hb3
      exact ⟨by rw [← ex1]; rfl, z1.keep (drewB _ _), z2.trans (below_to z1.base.2 (drewB _ _) (Below.refl _ _))⟩
    · have hn' : ((n : Int) == 0) = false := by rw [beq_eq_false_iff_ne]; omega
      have HF : Hid (ScanAt ms (wc.setCell ⟨b, 1, none⟩ (.int .i64 ((x.i + n : Nat) : Int))) B b s Y ∧ Below B w (wc.setCell ⟨b, 1, none⟩ (.int .i64 ((x.i + n : Nat) : Int)))) := by
        refine ⟨?_, (below_to hB.2 hbc (Below.refl _ _)).setCell (p := ⟨b, 1, none⟩) hB.1 _⟩
        rw [← HY.out, if_neg hn]
        exact setI_go hx (Below.refl _ _) n
      clear hx HY
      go_wp2
      go_quiet (fail)
      go_wp2
      go_ret
      obtain ⟨z1, z2⟩ := HF.out
      exact ⟨by rw [← ex1]; rfl, z1.keep (drewB _ _), z2.trans (below_to z1.base.2 (drewB _ _) (Below.refl _ _))⟩
end Go.Proofs.YtaepcfidpekflaaGreatDoor
