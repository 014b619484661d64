/-
  The parser: value. By the verifier.
-/
import Derived.Test.YtaepcfidpekflaaGreatDoorQc
namespace Go.Proofs.YtaepcfidpekflaaGreatDoor
open Go.RowKit

theorem Left.head {P : Nat} {w : World} {l : List Pr.T} (h : Left P w l) : (l.headD []).length ≤ 1000 := by
  obtain ⟨a, c, h1, h2, ⟨h3, hs⟩, h4⟩ := h
  cases l with
  | nil => simp
  | cons t l => exact hs.out t (by simp)
theorem below_bytes {w w' : World} {t : TypeId} {s : ByteArray} (h : w' = w ∨ w' = Lib.bytesWorld w t s) : Below w.heap.size w w' := by
  rcases h with rfl | rfl
  · exact Below.refl _ _
  · exact Lib.bytesWorld_below _ _ _

set_option maxHeartbeats 400000 in
theorem value_yes (P : Nat) (w : World) (t : Pr.T) (l : List Pr.T) (v : Nat) (hL : Left P w (t :: l)) (hf : Pr.fig t = some v) :
    Calls Tryz.prog 234 #[.pointer (some ⟨P, 0, none⟩)] w fun e w' => e = .returned (.tuple #[.int .u64 v, .nilIface]) ∧ Left P w' l ∧ Ag P w w' := by
  obtain ⟨p1, p2, p3, p4⟩ := parse_fig t v hf
  have hn := next_any P w _ hL
  simp only [List.headD_cons, List.tail_cons] at hn
  have hp := fun W => Tryz.strconv_ParseUint_10_at64_ok ⟨t.toArray⟩ (by show t.toArray.size ≤ _; simp; omega) v (by simpa using p1) W
  clear hL hf p1
  obtain ⟨c, r, rfl⟩ := head_data t (List.length_pos_iff.2 p4)
  go_enter Tryz.func234, Tryz.ntmps234
  go_wp2_with fail
  refine hn.mono ?_
  rintro e w1 ⟨rfl, hl1, ha1⟩
  go_wp2_with fail
  refine (hp _).mono ?_
  rintro e w2 ⟨rfl, h2⟩
  have hb2 := below_bytes h2
  clear h2 hp hn
  simp only [List.length_cons, List.head?_cons] at p2 p3
  have hx : ¬ (9 : Int) < r.length + 1 := by omega
  by_cases h1 : r.length = 0
  · have h1' : ¬ (1 : Int) < r.length + 1 := by omega
    go_wp2
    go_ret2
    exact ⟨rfl, hl1.then hb2, ha1.then hb2⟩
  · have h1' : (1 : Int) < r.length + 1 := by omega
    have hc : ∀ h, ((((⟨(c :: r).toArray⟩ : ByteArray)[0]'h).toNat : Int) == 48) = false := fun h => by
      have : c ≠ 48 := by
        rcases p3 with p3 | p3
        · omega
        · simpa using p3
      show ((c.toNat : Int) == 48) = false
      rw [beq_eq_false_iff_ne]
      intro e
      exact this (UInt8.toNat_inj.1 (by show c.toNat = 48; omega))
    go_wp2
    go_ret2
    exact ⟨rfl, hl1.then hb2, ha1.then hb2⟩

set_option maxHeartbeats 400000 in
theorem value_bad (P : Nat) (w : World) (l : List Pr.T) (t : Pr.T) (ht : Hid (l.headD [] = t)) (x : Value) (hL : Left P w l) (hp : ∀ W, Ag P w W → Calls Tryz.prog 254 #[.string ⟨t.toArray⟩, .int .i64 10, .int .i64 64] W fun e w' => (∃ t p, e = .returned (.tuple #[x, .iface t p])) ∧ Below W.heap.size W w') :
    Calls Tryz.prog 234 #[.pointer (some ⟨P, 0, none⟩)] w fun e w' => e = .returned (.tuple #[.int .u64 0, errRule]) ∧ Ag P w w' := by
  have hn := next_any P w _ hL
  rw [ht.out] at hn
  go_enter Tryz.func234, Tryz.ntmps234
  go_wp2_with fail
  refine hn.mono ?_
  rintro e w1 ⟨rfl, hl1, ha1⟩
  go_wp2_with fail
  refine (hp _ ha1).mono ?_
  rintro e w2 ⟨⟨t, p, rfl⟩, hb2⟩
  clear hp hL hn
  go_wp2
  go_ret2
  exact ⟨rfl, ha1.then hb2⟩

set_option maxHeartbeats 400000 in
theorem value_big (P : Nat) (w : World) (t : Pr.T) (l : List Pr.T) (u : Nat) (hL : Left P w (t :: l)) (hu : Lib.parseUintB 64 t = .ok u) (hbad : 9 < t.length ∨ (1 < t.length ∧ t.head? = some 48)) :
    Calls Tryz.prog 234 #[.pointer (some ⟨P, 0, none⟩)] w fun e w' => e = .returned (.tuple #[.int .u64 0, errRule]) ∧ Ag P w w' := by
  have hn := next_any P w _ hL
  have hlen := hL.head
  simp only [List.headD_cons, List.tail_cons] at hn hlen
  have hp := fun W => Tryz.strconv_ParseUint_10_at64_ok ⟨t.toArray⟩ (by show t.toArray.size ≤ _; simp; omega) u (by simpa using hu) W
  clear hL hu
  obtain ⟨c, r, rfl⟩ := head_data t (by omega)
  go_enter Tryz.func234, Tryz.ntmps234
  go_wp2_with fail
  refine hn.mono ?_
  rintro e w1 ⟨rfl, hl1, ha1⟩
  go_wp2_with fail
  refine (hp _).mono ?_
  rintro e w2 ⟨rfl, h2⟩
  have hb2 := below_bytes h2
  clear h2 hp hn
  simp only [List.length_cons, List.head?_cons] at hbad hlen
  by_cases h9 : 9 < r.length + 1
  · have hx : (9 : Int) < r.length + 1 := by omega
    clear hbad
    go_wp2
    go_ret2
    exact ⟨rfl, ha1.then hb2⟩
  · have hx : ¬ (9 : Int) < r.length + 1 := by omega
    obtain ⟨h1, hc⟩ := hbad.resolve_left h9
    have h1' : (1 : Int) < r.length + 1 := by omega
    have hc : ∀ h, ((((⟨(c :: r).toArray⟩ : ByteArray)[0]'h).toNat : Int) == 48) = true := fun h => by
      have : c = 48 := by simpa using hc
      subst this
      rfl
    go_wp2
    go_ret2
    exact ⟨rfl, ha1.then hb2⟩

theorem value_no (P : Nat) (w : World) (l : List Pr.T) (hX : BaseX P w) (hL : Left P w l) (hv : Pr.value l = none) :
    Calls Tryz.prog 234 #[.pointer (some ⟨P, 0, none⟩)] w fun e w' => e = .returned (.tuple #[.int .u64 0, errRule]) ∧ Ag P w w' := by
  have hf : Pr.fig (l.headD []) = none := by
    cases l with
    | nil => rfl
    | cons t l =>
      simp only [Pr.value] at hv
      split at hv
      · assumption
      · cases hv
  have hlen := hL.head
  cases hu : Lib.parseUintB 64 (l.headD []) with
  | ok u =>
    cases l with
    | nil => cases hu
    | cons t l => exact value_big P w t l u hL hu (parse_nofig _ hf u hu)
  | range =>
    refine value_bad P w l _ rfl (.int .u64 18446744073709551615) hL fun W hW => ?_
    obtain ⟨t5, p5, h5⟩ := (hX W hW).2.2.2.2.2
    refine (Tryz.strconv_ParseUint_10_at64_range ⟨(l.headD []).toArray⟩ (by show (l.headD []).toArray.size ≤ _; simp only [List.size_toArray]; omega) (by simpa using hu) _ W h5 (.inr ⟨_, _, rfl⟩)).mono ?_
    rintro e w' ⟨N, h1, _, _, h4⟩
    exact ⟨⟨_, _, h1⟩, h4⟩
  | _ =>
    refine value_bad P w l _ rfl (.int .u64 0) hL fun W hW => ?_
    obtain ⟨t5, p5, h5⟩ := (hX W hW).2.2.2.2.1
    refine (Tryz.strconv_ParseUint_10_at64_none ⟨(l.headD []).toArray⟩ (by show (l.headD []).toArray.size ≤ _; simp only [List.size_toArray]; omega) (fun n (e : Lib.parseUintB 64 (l.headD []) = .ok n) => by rw [hu] at e; cases e) (fun (e : Lib.parseUintB 64 (l.headD []) = .range) => by rw [hu] at e; cases e) _ W h5 (.inr ⟨_, _, rfl⟩)).mono ?_
    rintro e w' ⟨N, h1, _, _, h4⟩
    exact ⟨⟨_, _, h1⟩, h4⟩
end Go.Proofs.YtaepcfidpekflaaGreatDoor
