/-
  Several texts in one (Ke, Kf). By the verifier.
-/
import Derived.Test.YtaepcfidpekflaaGreatDoorU19
namespace Go.Proofs.YtaepcfidpekflaaGreatDoor
open Go.RowKit
variable {ms : List (Nat × Array Value)}

theorem namedGo_step (n : Nat) (c : UInt8) (r : Pr.T) (hn : n < 16) (h : Dk.isAlpha c = true ∨ n ≠ 0 ∧ Pn.isDig c = true) : Dk.namedGo n (c :: r) = Dk.namedGo (n + 1) r := by
  rw [Dk.namedGo, if_pos ⟨hn, h⟩]
theorem namedGo_stop (n : Nat) (c : UInt8) (r : Pr.T) (h : ¬ (n < 16 ∧ (Dk.isAlpha c = true ∨ n ≠ 0 ∧ Pn.isDig c = true))) : Dk.namedGo n (c :: r) = n := by
  rw [Dk.namedGo, if_neg h]
theorem namedGo_16 (l : Pr.T) : Dk.namedGo 16 l = 16 := by
  cases l with
  | nil => rfl
  | cons c r => exact namedGo_stop 16 c r (by omega)
theorem namedGo_le : ∀ (l : Pr.T) (n : Nat), n ≤ 16 → n ≤ Dk.namedGo n l ∧ Dk.namedGo n l ≤ n + l.length ∧ Dk.namedGo n l ≤ 16 := by
  intro l
  induction l with
  | nil => intro n h; simp [Dk.namedGo]; exact h
  | cons c r ih =>
    intro n h
    rw [Dk.namedGo]
    split
    · rename_i hc
      have := ih (n + 1) (by omega)
      simp only [List.length_cons]
      omega
    · simp only [List.length_cons]; omega
theorem named_le (l : Pr.T) : Dk.named l ≤ l.length ∧ Dk.named l ≤ 16 := by
  have := namedGo_le l 0 (by omega)
  unfold Dk.named
  omega

set_option maxHeartbeats 3200000 in
set_option maxRecDepth 100000 in
theorem knamed_any (w : World) (l : Pr.T) :
    Calls Tryz.prog 208 #[.string ⟨l.toArray⟩] w fun en w' => en = .returned (.int .i64 (Dk.named l)) ∧ w' = w := by
  obtain ⟨S, hS⟩ : ∃ S, Hid (Dk.named l = S) := ⟨_, rfl⟩
  rw [hS.out]
  have HS : Hid (Dk.namedGo 0 (l.drop 0) = S) := hS
  clear hS
  go_enter Tryz.func208, Tryz.ntmps208
  go_wp2_with fail
  go_loopg [3] l.length (fun g n wr => ∃ k : Nat, g + k = l.length ∧ n = .int .i64 k ∧ k ≤ 16 ∧ wr = w ∧ Hid (Dk.namedGo k (l.drop k) = S))
  case atStart => exact ⟨0, by omega, rfl, by omega, rfl, HS⟩
  case round =>
    obtain ⟨k, hgk, rfl, hk16, rfl, HG⟩ := hrel
    clear HS
    cases hd : l.drop k with
    | nil =>
      have hkn : ¬ k < l.length := by
        have : l.length ≤ k := List.drop_eq_nil_iff.1 hd
        omega
      have hk' : ¬ (k : Int) < l.length := by omega
      have hF : Hid (S = k) := by show _ = _; rw [← HG.out, hd]; rfl
      clear HG hd
      go_wp2
      go_ret
      exact ⟨by rw [hF.out]; rfl, rfl⟩
    | cons c r =>
      obtain ⟨hkl, hr, hgc⟩ := at_drop hd
      have hkl' : (k : Int) < l.length := by omega
      by_cases h16 : k < 16
      · have h16' : (k : Int) < 16 := by omega
        have h256 := UInt8.toNat_lt c
        have hw1 : IntKind.i64.wrap ((k : Int) + 1) = ((k + 1 : Nat) : Int) := by rw [IntKind.wrap_i64]; omega
        have HA : Hid (Dk.isAlpha c = true ∨ k ≠ 0 ∧ Pn.isDig c = true → Dk.namedGo (k + 1) (l.drop (k + 1)) = S) := fun h => by rw [← HG.out, hd, namedGo_step k c r h16 h, hr]
        have HZ : Hid (¬ (Dk.isAlpha c = true ∨ k ≠ 0 ∧ Pn.isDig c = true) → S = k) := fun h => by rw [← HG.out, hd, namedGo_stop k c r (fun x => h x.2)]
        clear HG hd hr
        obtain ⟨A, hA⟩ : ∃ A, Hid (Dk.isAlpha c = A) := ⟨_, rfl⟩
        go_upto_region 4 with fail
        go_cut [5] (fun z wd => z = .bool A ∧ wd = wr)
        case first =>
          clear HA HZ
          by_cases a1 : 97 ≤ c.toNat
          · have a1' : (97 : Int) ≤ c.toNat := by omega
            by_cases a2 : c.toNat ≤ 122
            · have a2' : (c.toNat : Int) ≤ 122 := by omega
              have hF : Hid (A = true) := by show _ = _; rw [← hA.out]; simp [Dk.isAlpha, a1, a2]
              clear hA
              go_wp2
              go_meet
              case rel => exact ⟨by rw [hF.out], rfl⟩
            · have a2' : ¬ (c.toNat : Int) ≤ 122 := by omega
              have a3 : (65 : Int) ≤ c.toNat := by omega
              have a4 : ¬ (c.toNat : Int) ≤ 90 := by omega
              have a5 : ((c.toNat : Int) == 95) = false := by rw [beq_eq_false_iff_ne]; omega
              have hF : Hid (A = false) := by
                show _ = _
                rw [← hA.out]
                have e : ¬ c = 95 := fun e => by rw [e] at a1; exact absurd a1 (by decide)
                simp [Dk.isAlpha, a2, e]
                omega
              clear hA
              go_wp2
              go_meet
              case rel => exact ⟨by rw [hF.out], rfl⟩
          · have a1' : ¬ (97 : Int) ≤ c.toNat := by omega
            by_cases a3 : 65 ≤ c.toNat
            · have a3' : (65 : Int) ≤ c.toNat := by omega
              by_cases a4 : c.toNat ≤ 90
              · have a4' : (c.toNat : Int) ≤ 90 := by omega
                have hF : Hid (A = true) := by show _ = _; rw [← hA.out]; simp [Dk.isAlpha, a3, a4]
                clear hA
                go_wp2
                go_meet
                case rel => exact ⟨by rw [hF.out], rfl⟩
              · have a4' : ¬ (c.toNat : Int) ≤ 90 := by omega
                have hF : Hid (A = ((c.toNat : Int) == 95)) := by
                  show _ = _
                  rw [← hA.out]
                  have e : (c == 95) = ((c.toNat : Int) == 95) := by
                    by_cases e : c = 95
                    · rw [e]; rfl
                    · rw [show ((c.toNat : Int) == 95) = false from byte_ne (n := 95) (by decide) e]; simpa using e
                  simp only [Dk.isAlpha, e]
                  simp [a1, a4]
                clear hA
                go_wp2
                go_meet
                case rel => exact ⟨by rw [hF.out], rfl⟩
            · have a3' : ¬ (65 : Int) ≤ c.toNat := by omega
              have a5 : ((c.toNat : Int) == 95) = false := by rw [beq_eq_false_iff_ne]; omega
              have hF : Hid (A = false) := by
                show _ = _
                rw [← hA.out]
                have e : ¬ c = 95 := fun e => by rw [e] at a3; exact absurd (by decide) a3
                simp [Dk.isAlpha, a1, a3, e]
              clear hA
              go_wp2
              go_meet
              case rel => exact ⟨by rw [hF.out], rfl⟩
        case rest =>
          obtain ⟨rfl, rfl⟩ := hcut
          cases A with
          | true =>
            have HG2 : Hid (Dk.namedGo (k + 1) (l.drop (k + 1)) = S) := HA.out (.inl hA.out)
            clear HA HZ hA
            go_wp2
            go_roundg (gk - 1)
            case measure => omega
            case rel => exact ⟨k + 1, by omega, by go_num, by omega, rfl, HG2⟩
          | false =>
            have hna : ¬ Dk.isAlpha c = true := by rw [hA.out]; decide
            by_cases k0 : k = 0
            · have k0' : ((k : Int) == 0) = true := by rw [k0]; rfl
              have hF : Hid (S = k) := HZ.out (by rintro (h | h); (exact hna h); (exact h.1 k0))
              clear HA HZ hA hna k0
              go_wp2
              go_ret
              exact ⟨by rw [hF.out]; rfl, rfl⟩
            · have k0' : ((k : Int) == 0) = false := by rw [beq_eq_false_iff_ne]; omega
              by_cases d1 : c.toNat < 48
              · have d1' : (c.toNat : Int) < 48 := by omega
                have hF : Hid (S = k) := HZ.out (by rintro (h | h); (exact hna h); (have := (Pn.isDig_iff c).1 h.2; omega))
                clear HA HZ hA hna
                go_wp2
                go_ret
                exact ⟨by rw [hF.out]; rfl, rfl⟩
              · have d1' : ¬ (c.toNat : Int) < 48 := by omega
                by_cases d2 : 57 < c.toNat
                · have d2' : (57 : Int) < c.toNat := by omega
                  have hF : Hid (S = k) := HZ.out (by rintro (h | h); (exact hna h); (have := (Pn.isDig_iff c).1 h.2; omega))
                  clear HA HZ hA hna
                  go_wp2
                  go_ret
                  exact ⟨by rw [hF.out]; rfl, rfl⟩
                · have d2' : ¬ (57 : Int) < c.toNat := by omega
                  have HG2 : Hid (Dk.namedGo (k + 1) (l.drop (k + 1)) = S) := HA.out (.inr ⟨k0, (Pn.isDig_iff c).2 (by omega)⟩)
                  clear HA HZ hA hna
                  go_wp2
                  go_roundg (gk - 1)
                  case measure => omega
                  case rel => exact ⟨k + 1, by omega, by go_num, by omega, rfl, HG2⟩
      · have h16' : ¬ (k : Int) < 16 := by omega
        have hF : Hid (S = k) := by
          show _ = _
          rw [← HG.out, show k = 16 by omega, namedGo_16]
        clear HG hd
        go_wp2
        go_ret
        exact ⟨by rw [hF.out]; rfl, rfl⟩
end Go.Proofs.YtaepcfidpekflaaGreatDoor
namespace Go.Proofs.YtaepcfidpekflaaGreatDoor
open Go.RowKit
variable {ms : List (Nat × Array Value)}

theorem ex_seg (s : Pr.T) (i n : Nat) : (⟨s.toArray⟩ : ByteArray).extract i (i + n) = ⟨((s.drop i).take n).toArray⟩ := by
  apply ByteArray.ext
  simp [ByteArray.data_extract, List.extract_toArray]
theorem setI_go {w W : World} {B b : Nat} {s : Pr.T} {x : Dk.Sc} (h : ScanAt ms w B b s x) (hb : Below w.heap.size w W) (n : Nat) : ScanAt ms (W.setCell ⟨b, 1, none⟩ (.int .i64 ((x.i + n : Nat) : Int))) B b s (x.go n) := (h.keep hb).setI (x.i + n)

set_option maxHeartbeats 3200000 in
set_option maxRecDepth 100000 in
theorem kname_any (w : World) (B b : Nat) (s : Pr.T) (x : Dk.Sc) (hx : ScanAt ms w B b s x) (hs : s.length ≤ 1000000) (hi : x.i ≤ s.length) :
    Calls Tryz.prog 172 #[.pointer (some ⟨b, 0, none⟩)] w fun en w' => en = .returned (.string ⟨(x.nameT s).toArray⟩) ∧ ScanAt ms w' B b s (x.name s) ∧ Below B w w' := by
  have hB := hx.base
  have kn := fun W => knamed_any W (s.drop x.i)
  have hnl := (named_le (s.drop x.i)).1
  have ex0 := ex_drop s x.i
  have ex1 := ex_seg s x.i (Dk.named (s.drop x.i))
  obtain ⟨N, hN⟩ : ∃ N, Hid (x.nameT s = N) := ⟨_, rfl⟩
  obtain ⟨Y, hY⟩ : ∃ Y, Hid (x.name s = Y) := ⟨_, rfl⟩
  rw [hN.out, hY.out]
  have HN : Hid (((s.drop x.i).take (Dk.named (s.drop x.i))) = N) := hN
  have HY : Hid ((if Dk.named (s.drop x.i) = 0 then x.fault 3 x.i else x).go (Dk.named (s.drop x.i)) = Y) := hY
  rw [HN.out] at ex1
  clear hN hY
  generalize Dk.named (s.drop x.i) = n at *
  simp only [List.length_drop] at hnl
  obtain ⟨ov, pv, h1, _⟩ := id hx
  have q0 := h1.2.1
  have q1 := h1.2.2
  clear h1
  have hle' : (x.i : Int) ≤ s.length := by omega
  have hw1 : IntKind.i64.wrap ((x.i : Int) + n) = ((x.i + n : Nat) : Int) := by rw [IntKind.wrap_i64]; omega
  have hw2 : IntKind.i64.wrap (((x.i + n : Nat) : Int) - n) = x.i := by rw [IntKind.wrap_i64]; omega
  have hw3 : IntKind.i64.wrap ((x.i : Int) + n - n) = x.i := by rw [IntKind.wrap_i64]; omega
  have hw4 : IntKind.i64.wrap (x.i : Int) = x.i := by rw [IntKind.wrap_i64]; omega
  have hl1 : x.i ≤ x.i + n := by omega
  have hl2 : x.i + n ≤ s.length := by omega
  have hl3 : (x.i : Int) + n ≤ s.length := by omega
  have hl4 : (x.i : Int) ≤ (x.i : Int) + n := by omega
  by_cases hn : n = 0
  · have hn' : ((n : Int) == 0) = true := by rw [hn]; rfl
    have kf := fun W (h : Below w.heap.size w W) => kfault_any W B b s x 3 x.i (hx.keep h)
    have hfi : (x.fault 3 x.i).i = x.i := by unfold Dk.Sc.fault; split <;> rfl
    have HF : Hid (∀ w2 W, ScanAt ms w2 B b s (x.fault 3 x.i) → Below B w w2 → Below w2.heap.size w2 W → ScanAt ms (W.setCell ⟨b, 1, none⟩ (.int .i64 ((x.i + n : Nat) : Int))) B b s Y ∧ Below B w (W.setCell ⟨b, 1, none⟩ (.int .i64 ((x.i + n : Nat) : Int)))) := by
      intro w2 W h2 hb2 h
      refine ⟨?_, (hb2.trans (below_to h2.base.2 h (Below.refl _ _))).setCell (p := ⟨b, 1, none⟩) hB.1 _⟩
      rw [← HY.out, if_pos hn]
      have := setI_go h2 h n
      rw [hfi] at this
      exact this
    clear hx HY HN hn
    go_enter Tryz.func172, Tryz.ntmps172
    go_wp2
    go_quiet (first | (go_at_call 208; exact Calls.quiet_of_same (kn _)))
    go_wp2_with fail
    refine (kf _ (drewB _ _)).mono ?_
    rintro e w2 ⟨rfl, hs2, hb2⟩
    clear kf kn q0 q1
    obtain ⟨ov2, pv2, k1, _⟩ := id hs2
    have q2 := k1.2.1
    have q3 := k1.2.2
    rw [hfi] at q2
    have hb3 := below_to hB.2 (drewB _ _) hb2
    clear k1 hfi
    go_wp2
    go_quiet (fail)
    go_wp2
    go_ret
    obtain ⟨z1, z2⟩ := HF.out _ _ hs2 hb3 (Below.refl _ _)
    exact ⟨by rw [← ex1]; rfl, z1.keep (drewB _ _), z2.trans (below_to z1.base.2 (drewB _ _) (Below.refl _ _))⟩
  · have hn' : ((n : Int) == 0) = false := by rw [beq_eq_false_iff_ne]; omega
    have HF : Hid (∀ W, Below w.heap.size w W → ScanAt ms (W.setCell ⟨b, 1, none⟩ (.int .i64 ((x.i + n : Nat) : Int))) B b s Y ∧ Below B w (W.setCell ⟨b, 1, none⟩ (.int .i64 ((x.i + n : Nat) : Int)))) := by
      intro W h
      refine ⟨?_, (below_to hB.2 h (Below.refl _ _)).setCell (p := ⟨b, 1, none⟩) hB.1 _⟩
      rw [← HY.out, if_neg hn]
      exact setI_go hx h n
    clear hx HY HN
    go_enter Tryz.func172, Tryz.ntmps172
    go_wp2
    go_quiet (first | (go_at_call 208; exact Calls.quiet_of_same (kn _)))
    go_wp2
    go_quiet (fail)
    go_wp2
    go_ret
    obtain ⟨z1, z2⟩ := HF.out _ (drewB _ _)
    exact ⟨by rw [← ex1]; rfl, z1.keep (drewB _ _), z2.trans (below_to z1.base.2 (drewB _ _) (Below.refl _ _))⟩
end Go.Proofs.YtaepcfidpekflaaGreatDoor
