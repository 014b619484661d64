/-
  Several texts in one (Kc). By the verifier.
-/
import Derived.Test.YtaepcfidpekflaaGreatDoorU15
import Derived.Test.YtaepcfidpekflaaGreatDoorU17
import Derived.Laws.OwnMore
namespace Go.Proofs.YtaepcfidpekflaaGreatDoor
open Go.RowKit
variable {ms : List (Nat × Array Value)}

theorem below_to {w w1 w2 : World} {B b : Nat} (hb : b < w.heap.size) (h1 : Below w.heap.size w w1) (h2 : Below B w1 w2) (hB : B ≤ b := by omega) : Below B w w2 := (h1.mono (by omega)).trans h2
set_option maxHeartbeats 800000 in
theorem kbyNumber_any (w : World) (B b : Nat) (s : Pr.T) (x : Dk.Sc) (hx : ScanAt ms w B b s x) (ho : x.opens.length ≤ 1000000) :
    Calls Tryz.prog 135 #[.pointer (some ⟨b, 0, none⟩)] w fun en w' => en = .returned (.bool x.byNumber) ∧ Below w.heap.size w w' := by
  obtain ⟨ov, pv, h1, _, _, h4, _⟩ := id hx
  have q0 := h1.2.1
  rcases List.eq_nil_or_concat x.opens with h0 | ⟨l, c, h0⟩
  · have hF : Hid (x.byNumber = false) := by show _ = _; rw [Dk.Sc.byNumber, h0]; rfl
    rw [h0] at h4
    obtain ⟨a, cc, rfl⟩ : ∃ a cc, pv = .slice a 0 cc := by
      rcases h4.2 with ⟨rfl, _⟩ | ⟨g, cap, cur, rfl, _⟩
      · exact ⟨_, _, rfl⟩
      · exact ⟨_, _, rfl⟩
    clear h4 h1 hx
    go_enter Tryz.func135, Tryz.ntmps135
    go_wp2
    go_quiet (fail)
    go_wp2
    go_ret
    exact ⟨by rw [hF.out]; rfl, drewB _ _⟩
  · simp only [List.concat_eq_append] at h0
    have hF : Hid (x.byNumber = c) := by show _ = _; rw [Dk.Sc.byNumber, h0]; simp
    rw [h0] at h4 ho
    simp only [List.length_append, List.length_singleton] at h4 ho
    rcases h4.2 with ⟨_, hz⟩ | ⟨g, cap, cur, rfl, _⟩
    · omega
    have ck := h4.cellAt l.length (by omega)
    have ck2 : w.cell? ⟨g, l.length, none⟩ = some (.bool c) := by rw [ck]; simp
    have hw2 : IntKind.i64.wrap ((l.length : Int) + 1 - 1) = l.length := by rw [IntKind.wrap_i64]; omega
    have hw3 : IntKind.i64.wrap (l.length : Int) = l.length := by rw [IntKind.wrap_i64]; omega
    have hlt3 : (l.length : Int) < l.length + 1 := by omega
    clear h4 h1 hx ck
    go_enter Tryz.func135, Tryz.ntmps135
    go_wp2
    go_quiet (fail)
    go_wp2
    go_ret
    exact ⟨by rw [hF.out]; rfl, drewB _ _⟩

set_option maxHeartbeats 800000 in
theorem kneeds_any (w : World) (B b : Nat) (s : Pr.T) (x : Dk.Sc) (c : UInt8) (hx : ScanAt ms w B b s x) (hs : s.length ≤ 1000000) (hi : x.i ≤ s.length) :
    Calls Tryz.prog 173 #[.pointer (some ⟨b, 0, none⟩), .int .u8 c.toNat] w fun en w' => en = .returned (.tuple #[]) ∧ ScanAt ms w' B b s (x.needs s c) ∧ Below B w w' := by
  have hB := hx.base
  obtain ⟨ov, pv, h1, _⟩ := id hx
  have q0 := h1.2.1
  have q1 := h1.2.2
  have kf := fun W (h : Below w.heap.size w W) => kfault_any W B b s x 3 x.i (hx.keep h)
  cases hd : s.drop x.i with
  | nil =>
    have hle : s.length ≤ x.i := List.drop_eq_nil_iff.1 hd
    have hle' : ((s.length : Nat) : Int) ≤ x.i := by omega
    have hF : Hid (x.needs s c = x.fault 3 x.i) := by show _ = _; rw [Dk.Sc.needs, if_neg]; rw [List.getElem?_eq_none hle]; simp
    clear hx h1 hd hle
    go_enter Tryz.func173, Tryz.ntmps173
    go_wp2
    go_quiet (fail)
    go_wp2_with (go_at_call 100; refine (kf _ (drewB _ _)).mono ?_; rintro e w2 ⟨rfl, hs2, hb2⟩)
    refine bodyPost_ret (results_none rfl _ _ _) rfl ?_
    exact ⟨rfl, by rw [hF.out]; exact hs2, below_to hB.2 (drewB _ _) hb2⟩
  | cons d r =>
    obtain ⟨hlt, _, hgd⟩ := at_drop hd
    have hlt' : ¬ ((s.length : Nat) : Int) ≤ x.i := by omega
    have hg : s[x.i]? = some d := by
      have := congrArg List.head? hd
      rw [List.head?_drop] at this
      simpa using this
    by_cases hc : d = c
    · have hc' : ((d.toNat : Int) != c.toNat) = false := by rw [hc]; simp
      have hw1 : IntKind.i64.wrap ((x.i : Int) + 1) = ((x.i + 1 : Nat) : Int) := by rw [IntKind.wrap_i64]; omega
      have HF : Hid (∀ W, Below w.heap.size w W → ScanAt ms (W.setCell ⟨b, 1, none⟩ (.int .i64 ((x.i + 1 : Nat) : Int))) B b s (x.needs s c) ∧ Below B w (W.setCell ⟨b, 1, none⟩ (.int .i64 ((x.i + 1 : Nat) : Int)))) := by
        intro W h
        refine ⟨?_, (below_to hB.2 h (Below.refl _ _)).setCell (p := ⟨b, 1, none⟩) hB.1 _⟩
        rw [Dk.Sc.needs, if_pos (by rw [hg, hc])]
        exact (hx.keep h).setI (x.i + 1)
      clear hx h1 hd hg hc kf
      go_enter Tryz.func173, Tryz.ntmps173
      go_wp2
      go_quiet (fail)
      go_wp2
      go_end0
      exact ⟨rfl, HF.out _ (drewB _ _)⟩
    · have hc' : ((d.toNat : Int) != c.toNat) = true := by
        rw [bne_iff_ne]
        intro e
        exact hc (UInt8.toNat_inj.1 (by omega))
      have hF : Hid (x.needs s c = x.fault 3 x.i) := by show _ = _; rw [Dk.Sc.needs, if_neg]; rw [hg]; simpa using hc
      clear hx h1 hd hg hc
      go_enter Tryz.func173, Tryz.ntmps173
      go_wp2
      go_quiet (fail)
      go_wp2_with (go_at_call 100; refine (kf _ (drewB _ _)).mono ?_; rintro e w2 ⟨rfl, hs2, hb2⟩)
      refine bodyPost_ret (results_none rfl _ _ _) rfl ?_
      exact ⟨rfl, by rw [hF.out]; exact hs2, below_to hB.2 (drewB _ _) hb2⟩
end Go.Proofs.YtaepcfidpekflaaGreatDoor
