/-
  Several texts in one (Sr, Sx, Sy, Sz). By the verifier.
-/
import Derived.Test.YtaepcfidpekflaaGreatDoorS2
import Derived.Test.YtaepcfidpekflaaGreatDoorSu
import Derived.Test.YtaepcfidpekflaaGreatDoorQs
import Derived.Test.YtaepcfidpekflaaGreatDoorQt
import Derived.Test.YtaepcfidpekflaaGreatDoorQv
namespace Go.Proofs.YtaepcfidpekflaaGreatDoor
open Go.RowKit

theorem mem_at {l : List Pr.T} {k : Nat} (hk : k < l.length) : l.getD k [] ∈ l := by
  rw [List.getD_eq_getElem?_getD, List.getElem?_eq_getElem hk]
  exact List.getElem_mem hk
theorem mem_not {l : List Pr.T} {t : Pr.T} (h : ∀ j, j < l.length → l.getD j [] ≠ t) : t ∉ l := by
  intro hm
  obtain ⟨j, hj, rfl⟩ := List.getElem_of_mem hm
  exact h j hj (by rw [List.getD_eq_getElem?_getD, List.getElem?_eq_getElem hj]; rfl)
def PlaceSaid (l : List Pr.T) (t : Pr.T) (e : Ending) : Prop := ∃ k : Int, e = .returned (.int .i64 k) ∧ (0 ≤ k ↔ t ∈ l)
set_option maxHeartbeats 800000 in
theorem place_any (w : World) (v : Value) (l : List Pr.T) (t : Pr.T) (hl : l.length ≤ 1000000) (hv : SlV w v l) :
    Calls Tryz.prog 58 #[v, .string ⟨t.toArray⟩] w fun e w' => PlaceSaid l t e ∧ w' = w := by
  rcases hv with ⟨rfl, rfl⟩ | ⟨blk, off, c, rfl, hc, hb, hcell⟩
  · go_enter Tryz.func58, Tryz.ntmps58
    go_wp2_with fail
    refine wp_loop_rounds 1 ?_
    rw [rounds_succ]
    go_wp2
    go_ret
    exact ⟨⟨-1, rfl, by simp⟩, rfl⟩
  · have HC : Hid (∀ j, j < l.length → w.cell? ⟨blk, off + j, none⟩ = some (strV (l.getD j []))) := hcell
    clear hcell
    go_enter Tryz.func58, Tryz.ntmps58
    go_wp2_with fail
    go_loop [5] (fun i => ∃ k : Nat, k ≤ l.length ∧ i = .int .i64 k ∧ Hid (∀ j, j < k → l.getD j [] ≠ t)) (fun i => l.length - (intOf i).toNat)
    case atStart => exact ⟨0, Nat.zero_le _, rfl, fun j h => absurd h (Nat.not_lt_zero _)⟩
    case round =>
      obtain ⟨k, hk, rfl, HK⟩ := hrel
      by_cases hlt : k < l.length
      · have hlt' : (k : Int) < l.length := by omega
        have ck := HC.out k hlt
        have hm := mem_at hlt
        unfold strV at ck
        generalize hu : l.getD k [] = u at *
        by_cases hut : u = t
        · have hut' : (u == t) = true := by rw [beq_iff_eq]; exact hut
          have HM : Hid (t ∈ l) := by show _ ∈ _; rw [← hut]; exact hm
          clear hut hm hu HK
          go_wp2
          go_ret
          exact ⟨⟨k, rfl, by constructor; (exact fun _ => HM.out); (intro _; omega)⟩, rfl⟩
        · have hut' : (u == t) = false := by rw [beq_eq_false_iff_ne]; exact hut
          have HK2 : Hid (∀ j, j < k + 1 → l.getD j [] ≠ t) := by
            intro j hj
            by_cases e : j = k
            · rw [e, hu]; exact hut
            · exact HK.out j (by omega)
          clear hut hm hu HK
          go_wp2
          go_round
          case rel => exact ⟨k + 1, hlt, by go_num, HK2⟩
          case measure => simp [intOf]; omega
      · have hlt' : ¬ (k : Int) < l.length := by omega
        have HM : Hid (t ∉ l) := mem_not (fun j hj => HK.out j (by omega))
        clear HK
        go_wp2
        go_ret
        exact ⟨⟨-1, rfl, by constructor; (intro h; omega); (exact fun h => absurd h HM.out)⟩, rfl⟩

def cats : List Pr.T := [[122, 101, 114, 111], [111, 110, 101], [116, 119, 111], [102, 101, 119], [109, 97, 110, 121], [111, 116, 104, 101, 114]]
set_option maxHeartbeats 400000 in
theorem categories_any (w : World) : Calls Tryz.prog 57 #[] w fun e w' => e = .returned (.slice (some ⟨w.heap.size, 0, none⟩) 6 6) ∧ Below w.heap.size w w' ∧ w.heap.size < w'.heap.size ∧ ∀ j, j < 6 → w'.cell? ⟨w.heap.size, j, none⟩ = some (strV (cats.getD j [])) := by
  have h := row_at w #[.string ⟨#[122, 101, 114, 111]⟩, .string ⟨#[111, 110, 101]⟩, .string ⟨#[116, 119, 111]⟩, .string ⟨#[102, 101, 119]⟩, .string ⟨#[109, 97, 110, 121]⟩, .string ⟨#[111, 116, 104, 101, 114]⟩] 9
  have hb := (Below.refl w.heap.size w).alloc (Nat.le_refl _) (.cells #[.string ⟨#[122, 101, 114, 111]⟩, .string ⟨#[111, 110, 101]⟩, .string ⟨#[116, 119, 111]⟩, .string ⟨#[102, 101, 119]⟩, .string ⟨#[109, 97, 110, 121]⟩, .string ⟨#[111, 116, 104, 101, 114]⟩] 9)
  have H : Hid (∀ j, j < 6 → (w.alloc (.cells #[.string ⟨#[122, 101, 114, 111]⟩, .string ⟨#[111, 110, 101]⟩, .string ⟨#[116, 119, 111]⟩, .string ⟨#[102, 101, 119]⟩, .string ⟨#[109, 97, 110, 121]⟩, .string ⟨#[111, 116, 104, 101, 114]⟩] 9)).cell? ⟨w.heap.size, j, none⟩ = some (strV (cats.getD j []))) := by
    intro j hj
    rw [h.2.1 j]
    match j, hj with
    | 0, _ => rfl
    | 1, _ => rfl
    | 2, _ => rfl
    | 3, _ => rfl
    | 4, _ => rfl
    | 5, _ => rfl
  have H2 : Hid (w.heap.size < (w.alloc (.cells #[.string ⟨#[122, 101, 114, 111]⟩, .string ⟨#[111, 110, 101]⟩, .string ⟨#[116, 119, 111]⟩, .string ⟨#[102, 101, 119]⟩, .string ⟨#[109, 97, 110, 121]⟩, .string ⟨#[111, 116, 104, 101, 114]⟩] 9)).heap.size) := h.1
  clear h
  go_enter Tryz.func57, Tryz.ntmps57
  go_wp2
  go_ret
  exact ⟨rfl, hb, H2.out, H.out⟩
end Go.Proofs.YtaepcfidpekflaaGreatDoor
namespace Go.Proofs.YtaepcfidpekflaaGreatDoor
open Go.RowKit

theorem catB_mem (n : Pr.T) : n ∈ cats.take 5 ↔ Pr.catB n = true := by
  unfold cats Pr.catB
  simp
set_option maxHeartbeats 800000 in
theorem rule_any (w : World) (s : Pr.T) (hs : s.length ≤ 1000000) : Calls Tryz.prog 59 #[.string ⟨s.toArray⟩] w fun e w' => e = .returned (.bool (Pr.whenP s).isSome) ∧ Below w.heap.size w w' := by
  have hh := fun W => rholds_any W s false [48] [] hs ⟨by simp, by decide, .inl rfl⟩ ⟨by decide, by decide⟩ ⟨by simp, by simp⟩
  rw [holds_ok] at hh
  generalize (holdsS [48] [] s).1 = X at *
  generalize (Pr.whenP s).isSome = Y at *
  go_enter Tryz.func59, Tryz.ntmps59
  go_wp2_with (go_at_call 60; refine (hh _).mono ?_; rintro e w1 ⟨rfl, hb1⟩)
  go_ret
  exact ⟨rfl, hb1⟩
end Go.Proofs.YtaepcfidpekflaaGreatDoor
namespace Go.Proofs.YtaepcfidpekflaaGreatDoor
open Go.RowKit

theorem ruled_bad (ps : List Pr.T) (n s : Pr.T) (r : List (Pr.T × Pr.T)) (h : ¬ n ∈ cats.take 5 ∨ n ∈ ps ∨ (Pr.whenP s).isSome = false) : (Pr.rulesP ps ((n, s) :: r)).isSome = false := by
  rw [Pr.rulesP]
  split
  · rfl
  · rename_i hn
    rcases h with h | h | h
    · rw [catB_mem] at h
      exact absurd (.inr (by simpa using h)) hn
    · exact absurd (.inl h) hn
    · cases hw : Pr.whenP s with
      | none => rfl
      | some f => rw [hw] at h; cases h
theorem ruled_good (ps : List Pr.T) (n s : Pr.T) (r : List (Pr.T × Pr.T)) (h1 : n ∈ cats.take 5) (h2 : ¬ n ∈ ps) (h3 : (Pr.whenP s).isSome = true) : (Pr.rulesP ps ((n, s) :: r)).isSome = (Pr.rulesP (ps ++ [n]) r).isSome := by
  rw [catB_mem] at h1
  rw [Pr.rulesP, if_neg (by rintro (h | h); (exact h2 h); (rw [h1] at h; cases h))]
  cases hw : Pr.whenP s with
  | none => rw [hw] at h3; cases h3
  | some f =>
    simp only
    cases Pr.rulesP (ps ++ [n]) r <;> rfl

set_option maxHeartbeats 3200000 in
set_option maxRecDepth 100000 in
theorem ruled_some (w : World) (blk off c : Nat) (l : List (Pr.T × Pr.T)) (hl : l.length ≤ 100000) (hsm : ∀ q ∈ l, q.1.length < 1000000 ∧ q.2.length < 1000000) (hbl : blk < w.heap.size)
    (hcell : ∀ j, j < l.length → w.cell? ⟨blk, off + j * 2, none⟩ = some (strV (l.getD j ([], [])).1) ∧ w.cell? ⟨blk, off + j * 2 + 1, none⟩ = some (strV (l.getD j ([], [])).2)) :
    Calls Tryz.prog 33 #[.slice (some ⟨blk, off, none⟩) l.length c] w fun e w' => e = .returned (.bool (Pr.rulesP [] l).isSome) ∧ Below w.heap.size w w' := by
  obtain ⟨i0, hi0, hz0, hz1, hz2⟩ := info_parts info_strQ
  have HI : Hid (Tryz.prog.info? 9 = some i0 ∧ i0.zero = some (.string ⟨#[]⟩) ∧ i0.size = 1 ∧ i0.bytes = 16) := ⟨hi0, hz0, hz1, hz2⟩
  have HC : Hid (∀ j, j < l.length → w.cell? ⟨blk, off + j * 2, none⟩ = some (strV (l.getD j ([], [])).1) ∧ w.cell? ⟨blk, off + j * 2 + 1, none⟩ = some (strV (l.getD j ([], [])).2)) := hcell
  have HM : Hid (∀ q ∈ l, q.1.length < 1000000 ∧ q.2.length < 1000000) := hsm
  obtain ⟨S, hS⟩ : ∃ S, Hid ((Pr.rulesP [] l).isSome = S) := ⟨_, rfl⟩
  rw [hS.out]
  clear hi0 hz0 hz1 hz2 hcell hsm
  go_enter Tryz.func33, Tryz.ntmps33
  go_wp2_with fail
  refine (categories_any w).mono ?_
  rintro e w1 ⟨rfl, hb1, hlt1, hcat⟩
  have HK : Hid (SlV w1 (.slice (some ⟨w.heap.size, 0, none⟩) 5 6) (cats.take 5)) := by
    refine .inr ⟨w.heap.size, 0, 6, rfl, by decide, hlt1, fun j hj => ?_⟩
    have hj5 : j < 5 := hj
    rw [Nat.zero_add, hcat j (by omega)]
    match j, hj5 with
    | 0, _ => rfl
    | 1, _ => rfl
    | 2, _ => rfl
    | 3, _ => rfl
    | 4, _ => rfl
  clear hcat
  go_wp2_with fail
  go_loopw [3, 5] (fun v i wr => ∃ (k : Nat) (ps : List Pr.T), k ≤ l.length ∧ i = .int .i64 k ∧ ps.length ≤ k ∧ Parts wr w1.heap.size v ps ∧ Below w1.heap.size w1 wr ∧ Hid ((Pr.rulesP ps (l.drop k)).isSome = S)) (fun _ i _ => l.length - (intOf i).toNat)
  case atStart => exact ⟨0, [], Nat.zero_le _, rfl, Nat.le_refl _, World.ownsRow_nil _ _ _ _, Below.refl _ _, hS⟩
  case round =>
    obtain ⟨k, ps, hk, rfl, hpk, hown, hbw, HR⟩ := hrel
    clear hS
    by_cases hlt : k < l.length
    · have hlt' : (k : Int) < l.length := by omega
      have hbwl : Below w.heap.size w wr := below_of hb1 hbw
      obtain ⟨d0, d1⟩ := HC.out k hlt
      obtain ⟨m0, m1⟩ := HM.out (l.getD k ([], [])) (by rw [List.getD_eq_getElem?_getD, List.getElem?_eq_getElem hlt]; exact List.getElem_mem hlt)
      have HG : Hid ((Pr.rulesP ps (((l.getD k ([], [])).1, (l.getD k ([], [])).2) :: l.drop (k + 1))).isSome = S) := by
        show _ = _
        rw [← HR.out, List.drop_eq_getElem_cons hlt, show l.getD k ([], []) = l[k] by simp [List.getD_eq_getElem?_getD, List.getElem?_eq_getElem hlt]]
      unfold strV at d0 d1
      generalize (l.getD k ([], [])).1 = n at *
      generalize (l.getD k ([], [])).2 = s at *
      have c0 : wr.cell? ⟨blk, off + k * 2, none⟩ = some (.string ⟨n.toArray⟩) := (hbwl.cell (p := ⟨blk, off + k * 2, none⟩) hbl).trans d0
      have c1 : wr.cell? ⟨blk, off + k * 2 + 1, none⟩ = some (.string ⟨s.toArray⟩) := (hbwl.cell (p := ⟨blk, off + k * 2 + 1, none⟩) hbl).trans d1
      have p1 := place_any wr _ (cats.take 5) n (by decide) (HK.out.keep hbw)
      have p2 := place_any wr _ ps n (by omega) (parts_slv hown)
      have rl := rule_any wr s (by omega)
      have hw1 : IntKind.i64.wrap ((k : Int) + 1) = k + 1 := by rw [IntKind.wrap_i64]; omega
      clear d0 d1 HR m0
      generalize hWh : (Pr.whenP s).isSome = ok at *
      go_wp2_with fail
      refine p1.mono ?_
      rintro e w2 ⟨⟨k1, rfl, hk1⟩, rfl⟩
      clear p1
      go_wp2_with fail
      refine p2.mono ?_
      rintro e w3 ⟨⟨k2, rfl, hk2⟩, rfl⟩
      clear p2
      by_cases hm1 : n ∈ cats.take 5
      · have y1 : ¬ k1 < 0 := by have := hk1.2 hm1; omega
        by_cases hm2 : n ∈ ps
        · have y2 : 0 ≤ k2 := hk2.2 hm2
          have hF : Hid (S = false) := by show _ = _; rw [← HG.out]; exact ruled_bad ps n s _ (.inr (.inl hm2))
          clear HG hk1 hk2 hm1 hm2 hWh
          go_wp2_with (go_at_call 59; refine rl.mono ?_; rintro e w4 ⟨rfl, hb4⟩)
          go_ret
          exact ⟨by rw [hF.out]; rfl, below_of hbwl hb4⟩
        · have y2 : ¬ 0 ≤ k2 := fun h => hm2 (hk2.1 h)
          cases ok with
          | false =>
            have hF : Hid (S = false) := by show _ = _; rw [← HG.out]; exact ruled_bad ps n s _ (.inr (.inr hWh))
            clear HG hk1 hk2 hm1 hm2 hWh
            go_wp2_with (go_at_call 59; refine rl.mono ?_; rintro e w4 ⟨rfl, hb4⟩)
            go_ret
            exact ⟨by rw [hF.out]; rfl, below_of hbwl hb4⟩
          | true =>
            have HG2 : Hid ((Pr.rulesP (ps ++ [n]) (l.drop (k + 1))).isSome = S) := by show _ = _; rw [← HG.out]; exact (ruled_good ps n s _ hm1 hm2 hWh).symm
            clear HG hk1 hk2 hm1 hm2 hWh
            go_wp2_with fail
            refine rl.mono ?_
            rintro e w4 ⟨rfl, hb4⟩
            have hown4 := hown.keep hb4
            have hB4 := below_of hbw hb4
            clear rl hown hb4
            go_wp2_with (first
              | (at_builtin; refine wpList_append_own _ rfl _ _ 35 rfl w1.heap.size 9 i0 (.string ⟨#[]⟩) 1 16 Tryz.underlying35 HI.out.1 HI.out.2.1 HI.out.2.2.1 HI.out.2.2.2 rfl (by decide) _ _ _ rfl (World.ownsRow.alloc hown4 _) ⟨w4.heap.size, 0, none⟩ 1 1 [strV n] rfl rfl ?c1 ?c2 ?c3 ?c4 ?c5 ?_)
              | go_in)
            case c1 =>
              intro j u hj
              match j, hj with
              | 0, hj => simp at hj; subst hj; simp [Addr.add, strV]
            case c2 => intro u hu; simp at hu; subst hu; rfl
            case c3 => unfold maxLen; omega
            case c4 => omega
            case c5 => have := hB4.size; simp; omega
            · intro v' w5 hown' hgrow _
              obtain ⟨g1, g2⟩ := parts_grow hown4 hB4 (by have := hB4.size; omega) hown' hgrow
              clear hown' hgrow hown4
              go_wp2
              go_roundw
              case rel => exact ⟨k + 1, ps ++ [n], by omega, by go_num, by simp; omega, g1, g2, HG2⟩
              case measure => simp [intOf] <;> omega
      · have y1 : k1 < 0 := by
          rcases Int.lt_or_le k1 0 with h | h
          · exact h
          · exact absurd (hk1.1 h) hm1
        have hF : Hid (S = false) := by show _ = _; rw [← HG.out]; exact ruled_bad ps n s _ (.inl hm1)
        clear HG hk1 hk2 hm1 hWh
        go_wp2_with (go_at_call 59; refine rl.mono ?_; rintro e w4 ⟨rfl, hb4⟩)
        go_ret
        exact ⟨by rw [hF.out]; rfl, below_of hbwl hb4⟩
    · have hlt' : ¬ (k : Int) < l.length := by omega
      have hF : Hid (S = true) := by show _ = _; rw [← HR.out, List.drop_eq_nil_of_le (by omega)]; rfl
      clear HR
      go_wp2
      go_ret
      exact ⟨by rw [hF.out]; rfl, below_of hb1 hbw⟩
set_option maxHeartbeats 800000 in
theorem ruled_nil (w : World) (a : Option Addr) (c : Nat) : Calls Tryz.prog 33 #[.slice a 0 c] w fun e w' => e = .returned (.bool true) ∧ Below w.heap.size w w' := by
  go_enter Tryz.func33, Tryz.ntmps33
  go_wp2_with fail
  refine (categories_any w).mono ?_
  rintro e w1 ⟨rfl, hb1, hlt1, hcat⟩
  clear hcat
  go_wp2_with fail
  refine wp_loop_rounds 1 ?_
  rw [rounds_succ]
  go_wp2
  go_ret
  exact ⟨rfl, hb1⟩
theorem ruled_any (w : World) (a : Option Addr) (c : Nat) (l : List (Pr.T × Pr.T)) (hR : RulesIn w a l) : Calls Tryz.prog 33 #[.slice a l.length c] w fun e w' => e = .returned (.bool (Pr.rulesP [] l).isSome) ∧ Below w.heap.size w w' := by
  rcases hR.at_ with rfl | ⟨blk, off, rfl, h2, h3⟩
  · exact ruled_nil w a c
  · exact ruled_some w blk off c l hR.len hR.small h2 h3
/-- The category, as the document finds it. -/
def sortS (a b : Pr.T) : List (Pr.T × Pr.T) → Pr.T
  | [] => other
  | (n, s) :: r => if (holdsS a b s).1 then n else sortS a b r
theorem sort_s (a b : Pr.T) : ∀ (l : List (Pr.T × Pr.T)) (ps : List Pr.T) (rs : List (Pr.T × Pr.Sem)), Pr.rulesP ps l = some rs → sortS a b l = Pr.sortP a b rs := by
  intro l
  induction l with
  | nil =>
    intro ps rs h
    have : rs = [] := by simpa [Pr.rulesP] using h.symm
    subst this
    rfl
  | cons q r ih =>
    obtain ⟨n, s⟩ := q
    intro ps rs h
    rw [Pr.rulesP] at h
    split at h
    · cases h
    · cases hw : Pr.whenP s with
      | none => rw [hw] at h; cases h
      | some f =>
        rw [hw] at h
        simp only at h
        cases hr : Pr.rulesP (ps ++ [n]) r with
        | none => rw [hr] at h; cases h
        | some l' =>
          rw [hr] at h
          simp only [Option.some.injEq] at h
          subst h
          have hh : (holdsS a b s).1 = f a b := by simp [holdsS, hw, pairB]
          rw [sortS, hh, Pr.sortP, ih _ _ hr]
end Go.Proofs.YtaepcfidpekflaaGreatDoor
namespace Go.Proofs.YtaepcfidpekflaaGreatDoor
open Go.RowKit

theorem sortS_cons (a b n s : Pr.T) (r : List (Pr.T × Pr.T)) : sortS a b ((n, s) :: r) = if (holdsS a b s).1 then n else sortS a b r := rfl
set_option maxHeartbeats 3200000 in
set_option maxRecDepth 100000 in
theorem sort_some (w : World) (blk off c : Nat) (l : List (Pr.T × Pr.T)) (m : Bool) (a b : Pr.T) (hl : l.length ≤ 100000) (hsm : ∀ q ∈ l, q.1.length < 1000000 ∧ q.2.length < 1000000) (hbl : blk < w.heap.size)
    (hcell : ∀ j, j < l.length → w.cell? ⟨blk, off + j * 2, none⟩ = some (strV (l.getD j ([], [])).1) ∧ w.cell? ⟨blk, off + j * 2 + 1, none⟩ = some (strV (l.getD j ([], [])).2)) (ha : Canon a) (hda : Digs a) (hb : Digs b) :
    Calls Tryz.prog 34 #[.slice (some ⟨blk, off, none⟩) l.length c, .agg #[.bool m, .string ⟨a.toArray⟩, .string ⟨b.toArray⟩]] w fun e w' => e = .returned (.string ⟨(sortS a b l).toArray⟩) ∧ Below w.heap.size w w' := by
  have HC : Hid (∀ j, j < l.length → w.cell? ⟨blk, off + j * 2, none⟩ = some (strV (l.getD j ([], [])).1) ∧ w.cell? ⟨blk, off + j * 2 + 1, none⟩ = some (strV (l.getD j ([], [])).2)) := hcell
  have HM : Hid (∀ q ∈ l, q.1.length < 1000000 ∧ q.2.length < 1000000) := hsm
  obtain ⟨S, hS⟩ : ∃ S, Hid (sortS a b l = S) := ⟨_, rfl⟩
  rw [hS.out]
  have hw := (Below.refl w.heap.size w).alloc (Nat.le_refl _) (.cells #[.bool m, .string ⟨a.toArray⟩, .string ⟨b.toArray⟩] 62)
  have R0 : Hid (Row (w.alloc (.cells #[.bool m, .string ⟨a.toArray⟩, .string ⟨b.toArray⟩] 62)) w.heap.size #[.bool m, .string ⟨a.toArray⟩, .string ⟨b.toArray⟩]) := row_at w #[.bool m, .string ⟨a.toArray⟩, .string ⟨b.toArray⟩] 62
  clear hcell hsm
  go_enter Tryz.func34, Tryz.ntmps34
  go_wp2_with fail
  generalize w.alloc (.cells #[.bool m, .string ⟨a.toArray⟩, .string ⟨b.toArray⟩] 62) = wA at *
  go_loopw [5] (fun i wr => ∃ k : Nat, k ≤ l.length ∧ i = .int .i64 k ∧ Below wA.heap.size wA wr ∧ Hid (sortS a b (l.drop k) = S)) (fun i _ => l.length - (intOf i).toNat)
  case atStart => exact ⟨0, Nat.zero_le _, rfl, Below.refl _ _, hS⟩
  case round =>
    obtain ⟨k, hk, rfl, hbw, HR⟩ := hrel
    clear hS
    by_cases hlt : k < l.length
    · have hlt' : (k : Int) < l.length := by omega
      have hbwl : Below w.heap.size w wr := below_of hw hbw
      obtain ⟨d0, d1⟩ := HC.out k hlt
      obtain ⟨m0, m1⟩ := HM.out (l.getD k ([], [])) (by rw [List.getD_eq_getElem?_getD, List.getElem?_eq_getElem hlt]; exact List.getElem_mem hlt)
      have HG : Hid (sortS a b (((l.getD k ([], [])).1, (l.getD k ([], [])).2) :: l.drop (k + 1)) = S) := by
        show _ = _
        rw [← HR.out, List.drop_eq_getElem_cons hlt, show l.getD k ([], []) = l[k] by simp [List.getD_eq_getElem?_getD, List.getElem?_eq_getElem hlt]]
      unfold strV at d0 d1
      generalize (l.getD k ([], [])).1 = n at *
      generalize (l.getD k ([], [])).2 = s at *
      have c1 : wr.cell? ⟨blk, off + k * 2 + 1, none⟩ = some (.string ⟨s.toArray⟩) := (hbwl.cell (p := ⟨blk, off + k * 2 + 1, none⟩) hbl).trans d1
      have q0 := (R0.out.keep hbw).2.1
      have D0 : Hid (w.cell? ⟨blk, off + k * 2, none⟩ = some (.string ⟨n.toArray⟩)) := d0
      have rh := fun W => rholds_any W s m a b (by omega) ha hda hb
      have hw1 : IntKind.i64.wrap ((k : Int) + 1) = k + 1 := by rw [IntKind.wrap_i64]; omega
      have HG2 : Hid ((if (holdsS a b s).1 then n else sortS a b (l.drop (k + 1))) = S) := by show _ = _; rw [← HG.out, sortS_cons]
      generalize holdsS a b s = X at *
      obtain ⟨h, ok⟩ := X
      simp only at rh HG2
      clear d0 d1 HR m0 HG
      cases h with
      | true =>
        have hF : Hid (S = n) := HG2.out.symm
        clear HG2
        go_wp2
        go_region_with (go_at_call 60; refine (rh _).mono ?_; rintro e w5 ⟨rfl, hb5⟩)
        all_goals
          have c0 : w5.cell? ⟨blk, off + k * 2, none⟩ = some (.string ⟨n.toArray⟩) := by
            first
            | exact ((below_of hbwl hb5).cell (p := ⟨blk, off + k * 2, none⟩) hbl).trans D0.out
            | exact ((below_of hbwl.drew hb5).cell (p := ⟨blk, off + k * 2, none⟩) hbl).trans D0.out
          clear q0 c1
          go_wp2
          go_ret
          first
          | exact ⟨by rw [hF.out]; rfl, below_of hbwl hb5⟩
          | exact ⟨by rw [hF.out]; rfl, (below_of hbwl hb5).drew⟩
          | exact ⟨by rw [hF.out]; rfl, below_of hbwl.drew hb5⟩
      | false =>
        have HG3 : Hid (sortS a b (l.drop (k + 1)) = S) := HG2
        clear HG2
        go_wp2
        go_region_with (go_at_call 60; refine (rh _).mono ?_; rintro e w5 ⟨rfl, hb5⟩)
        all_goals go_wp2
        all_goals go_roundw
        all_goals first
          | exact ⟨k + 1, by omega, by go_num, below_of hbw hb5, HG3⟩
          | exact ⟨k + 1, by omega, by go_num, (below_of hbw hb5).drew, HG3⟩
          | exact ⟨k + 1, by omega, by go_num, below_of hbw.drew hb5, HG3⟩
          | (simp [intOf] <;> omega)
    · have hlt' : ¬ (k : Int) < l.length := by omega
      have hF : Hid (S = other) := by show _ = _; rw [← HR.out, List.drop_eq_nil_of_le (by omega)]; rfl
      clear HR
      go_wp2
      go_ret
      exact ⟨by rw [hF.out]; rfl, below_of hw hbw⟩
set_option maxHeartbeats 800000 in
theorem sort_nil (w : World) (ad : Option Addr) (c : Nat) (m : Bool) (a b : Pr.T) : Calls Tryz.prog 34 #[.slice ad 0 c, .agg #[.bool m, .string ⟨a.toArray⟩, .string ⟨b.toArray⟩]] w fun e w' => e = .returned (.string ⟨(other).toArray⟩) ∧ Below w.heap.size w w' := by
  have hw := (Below.refl w.heap.size w).alloc (Nat.le_refl _) (.cells #[.bool m, .string ⟨a.toArray⟩, .string ⟨b.toArray⟩] 62)
  go_enter Tryz.func34, Tryz.ntmps34
  go_wp2_with fail
  refine wp_loop_rounds 1 ?_
  rw [rounds_succ]
  go_wp2
  go_ret
  exact ⟨rfl, hw⟩
theorem sort_any (w : World) (ad : Option Addr) (c : Nat) (l : List (Pr.T × Pr.T)) (m : Bool) (a b : Pr.T) (hR : RulesIn w ad l) (ha : Canon a) (hda : Digs a) (hb : Digs b) : Calls Tryz.prog 34 #[.slice ad l.length c, .agg #[.bool m, .string ⟨a.toArray⟩, .string ⟨b.toArray⟩]] w fun e w' => e = .returned (.string ⟨(sortS a b l).toArray⟩) ∧ Below w.heap.size w w' := by
  rcases hR.at_ with rfl | ⟨blk, off, rfl, h2, h3⟩
  · exact sort_nil w ad c m a b
  · exact sort_some w blk off c l m a b hR.len hR.small h2 h3 ha hda hb

theorem lastAt_take (t : Pr.T) (l : List Pr.T) (k : Nat) (h : k < l.length) : lastAt t (l.take (k + 1)) = if l.getD k [] = t then k + 1 else lastAt t (l.take k) := by
  have e : l.take (k + 1) = l.take k ++ [l.getD k []] := by
    rw [List.take_add_one, List.getElem?_eq_getElem h]
    simp [List.getD_eq_getElem?_getD, List.getElem?_eq_getElem h]
  rw [e, lastAt_snoc, List.length_take, Nat.min_eq_left (by omega)]
set_option maxHeartbeats 800000 in
theorem lastPlace_any (w : World) (v : Value) (l : List Pr.T) (t : Pr.T) (hl : l.length ≤ 1000000) (hv : SlE w v l) :
    Calls Tryz.prog 36 #[v, .string ⟨t.toArray⟩] w fun e w' => e = .returned (.int .i64 (lastAt t l)) ∧ w' = w := by
  rcases hv with ⟨ad, cd, rfl, rfl⟩ | ⟨blk, off, c, rfl, hc, hb, hcell⟩
  · go_enter Tryz.func36, Tryz.ntmps36
    go_wp2_with fail
    refine wp_loop_rounds 1 ?_
    rw [rounds_succ]
    go_wp2
    go_ret
    exact ⟨rfl, rfl⟩
  · have HC : Hid (∀ j, j < l.length → w.cell? ⟨blk, off + j, none⟩ = some (strV (l.getD j []))) := hcell
    obtain ⟨S, hS⟩ : ∃ S, Hid (lastAt t l = S) := ⟨_, rfl⟩
    rw [hS.out]
    clear hcell
    go_enter Tryz.func36, Tryz.ntmps36
    go_wp2_with fail
    go_loop [5, 6] (fun x i => ∃ (k n : Nat), k ≤ l.length ∧ i = .int .i64 k ∧ x = .int .i64 n ∧ Hid (lastAt t (l.take k) = n)) (fun _ i => l.length - (intOf i).toNat)
    case atStart => exact ⟨0, 0, Nat.zero_le _, rfl, rfl, rfl⟩
    case round =>
      obtain ⟨k, n, hk, rfl, rfl, HN⟩ := hrel
      by_cases hlt : k < l.length
      · have hlt' : (k : Int) < l.length := by omega
        have ck := HC.out k hlt
        unfold strV at ck
        have HT := lastAt_take t l k hlt
        have hw1 : IntKind.i64.wrap ((k : Int) + 1) = k + 1 := by rw [IntKind.wrap_i64]; omega
        generalize hu : l.getD k [] = u at *
        by_cases hut : u = t
        · have hut' : (u == t) = true := by rw [beq_iff_eq]; exact hut
          have HN2 : Hid (lastAt t (l.take (k + 1)) = k + 1) := by show _ = _; rw [HT, if_pos hut]
          clear hut hu HN HT
          go_wp2
          go_round
          case rel => exact ⟨k + 1, k + 1, hlt, by go_num, by go_num, HN2⟩
          case measure => simp [intOf]; omega
        · have hut' : (u == t) = false := by rw [beq_eq_false_iff_ne]; exact hut
          have HN2 : Hid (lastAt t (l.take (k + 1)) = n) := by show _ = _; rw [HT, if_neg hut]; exact HN.out
          clear hut hu HN HT
          go_wp2
          go_round
          case rel => exact ⟨k + 1, n, hlt, by go_num, rfl, HN2⟩
          case measure => simp [intOf]; omega
      · have hlt' : ¬ (k : Int) < l.length := by omega
        have hF : Hid (S = n) := by show _ = _; rw [← hS.out, ← HN.out, List.take_of_length_le (by omega)]
        clear HN
        go_wp2
        go_ret
        exact ⟨by rw [hF.out]; rfl, rfl⟩
end Go.Proofs.YtaepcfidpekflaaGreatDoor
