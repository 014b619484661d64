/-
  The parser: row. By the verifier.
-/
import Derived.Test.YtaepcfidpekflaaGreatDoorQb
import Derived.Test.YtaepcfidpekflaaGreatDoorQd
namespace Go.Proofs.YtaepcfidpekflaaGreatDoor
open Go.RowKit

/-- How many words a parser has left. -/
def leftLen (P : Nat) (w : World) : Nat := match w.cell? ⟨P, 0, none⟩ with
  | some (.slice _ n _) => n
  | _ => 0
theorem Left.len {P : Nat} {w : World} {l : List Pr.T} (h : Left P w l) : leftLen P w = l.length := by
  obtain ⟨a, c, h1, _⟩ := h
  have := h1.2.1 0
  simp [leftLen, this]
theorem Left.lt {P : Nat} {w : World} {l : List Pr.T} (h : Left P w l) : P < w.heap.size := by
  obtain ⟨a, c, h1, _⟩ := h
  exact h1.1
/-- A function that puts two conditions together. -/
def Joins (P : Nat) (J : Nat) (jn : Pr.Sem → Pr.Sem → Pr.Sem) : Prop := ∀ W a b f g, P < W.heap.size → Cnd P W a f → Cnd P W b g → Calls Tryz.prog J #[a, b] W fun e w' => (∃ v, e = .returned v ∧ Cnd P w' v (jn f g)) ∧ Below W.heap.size W w'
theorem joins_either (P : Nat) : Joins P 190 Pr.orS := fun W a b f g hP ha hb => either_any P W a b f g hP ha hb
theorem joins_both (P : Nat) : Joins P 216 Pr.andS := fun W a b f g hP ha hb => both_any P W a b f g hP ha hb

set_option maxHeartbeats 800000 in
theorem row_any (P : Nat) (w : World) (l : List Pr.T) (mv : Value) (rd : Pr.Rd) (t : Pr.T) (J : Nat) (jn : Pr.Sem → Pr.Sem → Pr.Sem) (eJ : Enters J) (cJ : Joins P J jn) (hlen : ∀ l f r, rd l = some (f, r) → r.length ≤ l.length)
    (hX : BaseX P w) (hL : Left P w l) (hm : Rdv P w mv rd) :
    Calls Tryz.prog 188 #[.pointer (some ⟨P, 0, none⟩), mv, .string ⟨t.toArray⟩, .func (.func J) #[] #[]] w fun e w' => Said P w (Pr.rowP rd t jn l) e w' := by
  obtain ⟨g, bd, lb, rfl, eg, cm⟩ := hm
  unfold Enters at eg eJ
  have c0 := cm w l hX (Ag.refl _ _) hL
  go_enter Tryz.func188, Tryz.ntmps188
  go_wp2_with fail
  refine c0.mono ?_
  rintro e w1 ⟨ha1, hs⟩
  clear c0
  cases hr : rd l with
  | none =>
    rw [hr] at hs
    obtain rfl := hs
    have hR : Hid (Pr.rowP rd t jn l = none) := by show _ = _; simp only [Pr.rowP, hr]
    unfold errRule
    go_wp2
    go_ret2
    refine ⟨ha1, ?_⟩
    rw [hR.out]
    rfl
  | some x =>
    obtain ⟨f, r⟩ := x
    rw [hr] at hs
    obtain ⟨v, rfl, hc, hl⟩ := hs
    have hR : Hid (Pr.rowP rd t jn l = Pr.rowGo rd t jn r.length f r) := by show _ = _; simp only [Pr.rowP, hr]
    go_wp2_with fail
    go_loopw [10] (fun x wr => ∃ (k : Nat) (f' : Pr.Sem) (r' : List Pr.T), r'.length ≤ k ∧ Cnd P wr x f' ∧ Left P wr r' ∧ Ag P w wr ∧ Hid (Pr.rowP rd t jn l = Pr.rowGo rd t jn k f' r')) (fun _ wr => leftLen P wr)
    case atStart => exact ⟨r.length, f, r, Nat.le_refl _, hc, hl, ha1, hR⟩
    case round =>
      clear hc hl ha1 hR hr
      obtain ⟨k, f', r', hk, hc, hl, ha, hR⟩ := hrel
      have hb0 := (Below.refl wr.heap.size wr).alloc (Nat.le_refl _) (.cells #[.string ⟨t.toArray⟩] 9)
      have hl0 := hl.then hb0
      have hlen0 := hl.len
      have ct := take_one P wr.heap.size _ r' t hl0 (row_at wr #[.string ⟨t.toArray⟩] 9)
      go_wp2_with fail
      refine ct.mono ?_
      rintro e w2 ⟨rfl, hl2, ha2⟩
      replace ha2 := (Ag.of (P := P) hb0 (Nat.le_refl _)).trans ha2
      have hc2 := hc.later ha2
      have hA2 := ha.trans ha2
      clear hl0 ct hb0
      cases r' with
      | nil =>
        simp only [isHead, took] at hl2 ⊢
        have hR2 : Hid (Pr.rowP rd t jn l = some (f', [])) := by
          show _ = _
          rw [hR.out]
          cases k <;> rfl
        go_wp2
        go_ret2
        refine ⟨hA2, ?_⟩
        rw [hR2.out]
        exact ⟨_, rfl, hc2, hl2⟩
      | cons u r' =>
        by_cases hu : u = t
        · have hd : decide (u = t) = true := decide_eq_true hu
          simp only [isHead, hd, took, if_true, List.tail_cons] at hl2 ⊢
          obtain ⟨k, rfl⟩ : ∃ k', k = k' + 1 := ⟨k - 1, by simp at hk; omega⟩
          have cm2 := cm w2 r' (hX.later hA2) hA2 hl2
          go_wp2_with fail
          refine cm2.mono ?_
          rintro e w3 ⟨ha3, hs⟩
          clear cm2
          have hA3 := hA2.trans ha3
          cases hr : rd r' with
          | none =>
            rw [hr] at hs
            obtain rfl := hs
            have hR2 : Hid (Pr.rowP rd t jn l = none) := by
              show _ = _
              rw [hR.out]
              simp only [Pr.rowGo, hu, if_true, hr]
            unfold errRule
            go_wp2
            go_ret2
            refine ⟨hA3, ?_⟩
            rw [hR2.out]
            rfl
          | some x =>
            obtain ⟨g2, r3⟩ := x
            rw [hr] at hs
            obtain ⟨v3, rfl, hc3, hl3⟩ := hs
            have hR2 : Hid (Pr.rowP rd t jn l = Pr.rowGo rd t jn k (jn f' g2) r3) := by
              show _ = _
              rw [hR.out]
              simp only [Pr.rowGo, hu, if_true, hr]
            have hle := hlen _ _ _ hr
            have cj := cJ w3 _ _ _ _ hl3.lt (hc2.later ha3) hc3
            go_wp2_with fail
            refine cj.mono ?_
            rintro e w4 ⟨⟨v4, rfl, hc4⟩, hb4⟩
            clear cj
            go_wp2
            go_roundw
            case rel => exact ⟨k, _, r3, by simp at hk; omega, hc4, hl3.then hb4, hA3.then hb4, hR2⟩
            case measure =>
              rw [(hl3.then hb4).len, hlen0]
              simp
              omega
        · have hd : decide (u = t) = false := decide_eq_false hu
          simp only [isHead, hd, took] at hl2 ⊢
          obtain ⟨k, rfl⟩ : ∃ k', k = k' + 1 := ⟨k - 1, by simp at hk; omega⟩
          have hR2 : Hid (Pr.rowP rd t jn l = some (f', u :: r')) := by
            show _ = _
            rw [hR.out]
            simp only [Pr.rowGo, hu, if_false]
          go_wp2
          go_ret2
          refine ⟨hA2, ?_⟩
          rw [hR2.out]
          exact ⟨_, rfl, hc2, hl2⟩
end Go.Proofs.YtaepcfidpekflaaGreatDoor
