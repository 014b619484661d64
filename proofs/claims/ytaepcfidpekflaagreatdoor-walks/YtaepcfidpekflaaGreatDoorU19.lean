/-
  Several texts in one (Kd). By the verifier.
-/
import Derived.Test.YtaepcfidpekflaaGreatDoorU18
namespace Go.Proofs.YtaepcfidpekflaaGreatDoor
open Go.RowKit
variable {ms : List (Nat × Array Value)}

theorem blanks_go (s : Pr.T) (x : Dk.Sc) (k : Nat) (c : UInt8) (r : Pr.T) (hd : s.drop k = c :: r) (hc : Dk.isBlk c = true) : ({ x with i := k } : Dk.Sc).blanks s = ({ x with i := k + 1 } : Dk.Sc).blanks s := by
  have hr : s.drop (k + 1) = r := (at_drop hd).2.1
  simp only [Dk.Sc.blanks, Dk.Sc.go, hd, hr, List.takeWhile_cons_of_pos hc, List.length_cons]
  congr 1
  omega
theorem blanks_stop (s : Pr.T) (x : Dk.Sc) (k : Nat) (c : UInt8) (r : Pr.T) (hd : s.drop k = c :: r) (hc : Dk.isBlk c = false) : ({ x with i := k } : Dk.Sc).blanks s = { x with i := k } := by
  simp only [Dk.Sc.blanks, Dk.Sc.go, hd]
  rw [List.takeWhile_cons_of_neg (by simp [hc])]
  rfl
theorem blanks_end (s : Pr.T) (x : Dk.Sc) (k : Nat) (hd : s.drop k = []) : ({ x with i := k } : Dk.Sc).blanks s = { x with i := k } := by
  simp only [Dk.Sc.blanks, Dk.Sc.go, hd]
  rfl
theorem ScanAt.step {w W : World} {B b : Nat} {s : Pr.T} {x : Dk.Sc} {k : Nat} (h : ScanAt ms w B b s { x with i := k }) (hb : Below w.heap.size w W) : ScanAt ms (W.setCell ⟨b, 1, none⟩ (.int .i64 ((k + 1 : Nat) : Int))) B b s { x with i := k + 1 } := (h.keep hb).setI (k + 1)

set_option maxHeartbeats 3200000 in
set_option maxRecDepth 100000 in
theorem kblanks_any (w : World) (B b : Nat) (s : Pr.T) (x : Dk.Sc) (hx : ScanAt ms w B b s x) (hs : s.length ≤ 1000000) (hi : x.i ≤ s.length) :
    Calls Tryz.prog 171 #[.pointer (some ⟨b, 0, none⟩)] w fun en w' => en = .returned (.tuple #[]) ∧ ScanAt ms w' B b s (x.blanks s) ∧ Below B w w' := by
  have hB := hx.base
  obtain ⟨Y, hY⟩ : ∃ Y, Hid (x.blanks s = Y) := ⟨_, rfl⟩
  rw [hY.out]
  have HX : Hid (ScanAt ms w B b s { x with i := x.i }) := hx
  clear hx
  go_enter Tryz.func171, Tryz.ntmps171
  go_wp2_with fail
  go_loopg [] (s.length - x.i) (fun n wr => ∃ k : Nat, n + k = s.length ∧ Hid (ScanAt ms wr B b s { x with i := k }) ∧ Below B w wr ∧ Hid (({ x with i := k } : Dk.Sc).blanks s = Y))
  case atStart => exact ⟨x.i, by omega, HX, Below.refl _ _, hY⟩
  case round =>
    obtain ⟨k, hnk, HR, hbw, HG⟩ := hrel
    clear HX hY
    obtain ⟨ov, pv, h1, _⟩ := HR.out
    have q0 := h1.2.1
    have q1 := h1.2.2
    have hbr := h1.1
    clear h1
    simp only at q0
    cases hd : s.drop k with
    | nil =>
      have hkn : ¬ k < s.length := by
        have : s.length ≤ k := List.drop_eq_nil_iff.1 hd
        omega
      have hk' : ¬ (k : Int) < s.length := by omega
      have HF : Hid (∀ W, Below wr.heap.size wr W → ScanAt ms W B b s Y ∧ Below B w W) := by
        intro W h
        refine ⟨?_, hbw.trans (below_to hbr h (Below.refl _ _))⟩
        rw [← HG.out, blanks_end s x k hd]
        exact HR.out.keep h
      clear HG HR hd
      go_wp2
      go_quiet (fail)
      go_wp2
      go_end0
      exact ⟨rfl, HF.out _ (drewB _ _)⟩
    | cons c r =>
      obtain ⟨hkl, _, hgc⟩ := at_drop hd
      have hkl' : (k : Int) < s.length := by omega
      have hw1 : IntKind.i64.wrap ((k : Int) + 1) = ((k + 1 : Nat) : Int) := by rw [IntKind.wrap_i64]; omega
      cases hc : Dk.isBlk c with
      | true =>
        have HF : Hid (∀ W, Below wr.heap.size wr W → ScanAt ms (W.setCell ⟨b, 1, none⟩ (.int .i64 ((k + 1 : Nat) : Int))) B b s { x with i := k + 1 } ∧ Below B w (W.setCell ⟨b, 1, none⟩ (.int .i64 ((k + 1 : Nat) : Int)))) := by
          intro W h
          exact ⟨HR.out.step h, (hbw.trans (below_to hbr h (Below.refl _ _))).setCell (p := ⟨b, 1, none⟩) hB.1 _⟩
        have HG2 : Hid (({ x with i := k + 1 } : Dk.Sc).blanks s = Y) := by show _ = _; rw [← HG.out, blanks_go s x k c r hd hc]
        clear HG HR hd
        unfold Dk.isBlk at hc
        by_cases e32 : c = 32
        · have b32 : ((c.toNat : Int) == 32) = true := by rw [e32]; rfl
          clear e32 hc
          go_wp2
          go_quiet (fail)
          go_wp2
          go_roundg (gk - 1)
          case measure => omega
          case rel => exact ⟨k + 1, by omega, (HF.out _ (drewB _ _)).1, (HF.out _ (drewB _ _)).2, HG2⟩
        have b32 : ((c.toNat : Int) == 32) = false := byte_ne (n := 32) (by decide) e32
        by_cases e9 : c = 9
        · have b9 : ((c.toNat : Int) == 9) = true := by rw [e9]; rfl
          clear e9 hc
          go_wp2
          go_quiet (fail)
          go_wp2
          go_roundg (gk - 1)
          case measure => omega
          case rel => exact ⟨k + 1, by omega, (HF.out _ (drewB _ _)).1, (HF.out _ (drewB _ _)).2, HG2⟩
        have b9 : ((c.toNat : Int) == 9) = false := byte_ne (n := 9) (by decide) e9
        by_cases e10 : c = 10
        · have b10 : ((c.toNat : Int) == 10) = true := by rw [e10]; rfl
          clear e10 hc
          go_wp2
          go_quiet (fail)
          go_wp2
          go_roundg (gk - 1)
          case measure => omega
          case rel => exact ⟨k + 1, by omega, (HF.out _ (drewB _ _)).1, (HF.out _ (drewB _ _)).2, HG2⟩
        have b10 : ((c.toNat : Int) == 10) = false := byte_ne (n := 10) (by decide) e10
        by_cases e13 : c = 13
        · have b13 : ((c.toNat : Int) == 13) = true := by rw [e13]; rfl
          clear e13 hc
          go_wp2
          go_quiet (fail)
          go_wp2
          go_roundg (gk - 1)
          case measure => omega
          case rel => exact ⟨k + 1, by omega, (HF.out _ (drewB _ _)).1, (HF.out _ (drewB _ _)).2, HG2⟩
        have b13 : ((c.toNat : Int) == 13) = false := byte_ne (n := 13) (by decide) e13
        simp [e32, e9, e10, e13] at hc
      | false =>
        have HF : Hid (∀ W, Below wr.heap.size wr W → ScanAt ms W B b s Y ∧ Below B w W) := by
          intro W h
          refine ⟨?_, hbw.trans (below_to hbr h (Below.refl _ _))⟩
          rw [← HG.out, blanks_stop s x k c r hd hc]
          exact HR.out.keep h
        have hcs : ¬ c = 32 ∧ ¬ c = 9 ∧ ¬ c = 10 ∧ ¬ c = 13 := by simpa [Dk.isBlk, and_assoc] using hc
        have b32 : ((c.toNat : Int) == 32) = false := byte_ne (n := 32) (by decide) hcs.1
        have b9 : ((c.toNat : Int) == 9) = false := byte_ne (n := 9) (by decide) hcs.2.1
        have b10 : ((c.toNat : Int) == 10) = false := byte_ne (n := 10) (by decide) hcs.2.2.1
        have b13 : ((c.toNat : Int) == 13) = false := byte_ne (n := 13) (by decide) hcs.2.2.2
        clear HG HR hd hc hcs
        go_wp2
        go_quiet (fail)
        go_wp2
        go_end0
        exact ⟨rfl, HF.out _ (drewB _ _)⟩
end Go.Proofs.YtaepcfidpekflaaGreatDoor
