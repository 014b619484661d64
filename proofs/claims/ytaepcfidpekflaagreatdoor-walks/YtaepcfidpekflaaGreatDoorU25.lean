/-
  Several texts in one (Mo). By the verifier.
-/
import Derived.Test.YtaepcfidpekflaaGreatDoorU24
namespace Go.Proofs.YtaepcfidpekflaaGreatDoor
open Go.RowKit Pg

/-- What an argument's reading answers, its name having been read; p: where it begins, k: where its kind begins. -/
def KindSaid (P : Nat) (rs : List Pg.T) (d p k : Nat) (n : Pg.T) (w : World) (e : Ending) (w' : World) : Prop := Ag P w w' ∧ ∃ res, (∀ q, nameR rs (bl rs (p + 1)) = .inr (n, q) → rs[bl rs q]? = some [44] → k = bl rs (bl rs q + 1) → Rd rs (.arg d) p res) ∧ match res with
  | .ok t q => ∃ v, e = .returned (.tuple #[v, .nilIface]) ∧ Scn P w' rs q ∧ k ≤ q ∧ Lay w' (fun g => w.heap.size ≤ g) t [v]
  | .bad er a => ∃ u v, e = .returned (.tuple #[u, v]) ∧ Flt w.heap.size w' v er a
  | .okB _ _ _ => False
theorem KindSaid.bad {P : Nat} {rs : List Pg.T} {d p k er a : Nat} {n : Pg.T} {w w' : World} {u v : Value} (hr : ∀ q, nameR rs (bl rs (p + 1)) = .inr (n, q) → rs[bl rs q]? = some [44] → k = bl rs (bl rs q + 1) → Rd rs (.arg d) p (.bad er a)) (ha : Ag P w w') (hv : Flt w.heap.size w' v er a) : KindSaid P rs d p k n w (.returned (.tuple #[u, v])) w' := ⟨ha, _, hr, u, v, rfl, hv⟩
theorem Node.tup {P : Nat} {rs : List Pg.T} {d p : Nat} {num : Bool} {mk : Value → Nat → Value} {w w' : World} {e : Ending} (h : Node P rs d num p mk w e w') : ∃ x y, e = .returned (.tuple #[x, y]) := by
  obtain ⟨res, _, h⟩ := h
  cases res with
  | ok => exact h.elim
  | okB => obtain ⟨v, h, _⟩ := h; exact ⟨_, _, h⟩
  | bad => obtain ⟨u, v, h, _⟩ := h; exact ⟨_, _, h⟩
theorem SelSaidN.tup {P : Nat} {rs : List Pg.T} {d p a : Nat} {n : Pg.T} {w w' : World} {e : Ending} (h : SelSaidN P rs d p n a w e w') : ∃ x y, e = .returned (.tuple #[x, y]) := by
  rcases h.2 with ⟨_, u, v, h, _⟩ | ⟨_, h⟩
  · exact ⟨_, _, h⟩
  · exact h.tup
theorem PluSaidN.tup {P : Nat} {rs : List Pg.T} {d p a : Nat} {n : Pg.T} {ord : Bool} {w w' : World} {e : Ending} (h : PluSaidN P rs d p n a ord w e w') : ∃ x y, e = .returned (.tuple #[x, y]) := by
  rcases h.2 with ⟨_, u, v, h, _⟩ | ⟨_, ⟨x, u, v, _, h, _⟩ | ⟨_, _, _, _, h⟩⟩
  · exact ⟨_, _, h⟩
  · exact ⟨_, _, h⟩
  · exact h.tup
theorem SelSaidN.kind {P : Nat} {rs : List Pg.T} {d p k : Nat} {n : Pg.T} {w w1 w' : World} {e : Ending} (h : SelSaidN P rs d (k + (word rs k).length) n p w1 e w') (ha : Ag P w w1) (hw : (word rs k).flatten = selectW) : KindSaid P rs d p k n w e w' := by
  obtain ⟨ha2, h⟩ := h
  have hz := ha.size
  rcases h with ⟨hc, u, v, rfl, hv⟩ | ⟨hc, res, hrd, hm⟩
  · exact KindSaid.bad (fun q h1 h2 h3 => .argC h1 h2 h3 (.inl hw) rfl hc) (ha.trans ha2) (hv.mono hz)
  · have hR : ∀ q, nameR rs (bl rs (p + 1)) = .inr (n, q) → rs[bl rs q]? = some [44] → k = bl rs (bl rs q + 1) → Rd rs (.arg d) p (res.sel n p) := fun q h1 h2 h3 => .sel h1 h2 h3 hw rfl hc hrd
    cases res with
    | ok => exact hm.elim
    | bad er a =>
      obtain ⟨u, v, rfl, hv⟩ := hm
      exact KindSaid.bad hR (ha.trans ha2) (hv.mono hz)
    | okB t b q =>
      obtain ⟨v, rfl, hs, hlt, us, h1, h2⟩ := hm
      refine ⟨ha.trans ha2, _, hR, _, rfl, hs, ?_, ?_⟩
      · have := bl_ge rs (k + (word rs k).length)
        have := bl_ge rs (bl rs (k + (word rs k).length) + 1)
        omega
      · exact Lay.sel (h1.mono (Nat.le_refl _) fun g hg _ => ⟨rfl, by omega⟩) (h2.mono (Nat.le_refl _) fun g hg _ => ⟨rfl, by omega⟩) .nil
theorem PluSaidN.kind {P : Nat} {rs : List Pg.T} {d p k : Nat} {n : Pg.T} {ord : Bool} {w w1 w' : World} {e : Ending} (h : PluSaidN P rs d (k + (word rs k).length) n p ord w1 e w') (ha : Ag P w w1) (hw : (word rs k).flatten = if ord = true then ordinalW else pluralW) : KindSaid P rs d p k n w e w' := by
  obtain ⟨ha2, h⟩ := h
  have hz := ha.size
  have hw2 : (word rs k).flatten = pluralW ∨ (word rs k).flatten = ordinalW := by cases ord; exact .inl hw; exact .inr hw
  rcases h with ⟨hc, u, v, rfl, hv⟩ | ⟨hc, ⟨x, u, v, ho, rfl, hv⟩ | ⟨off, i, ho, hi, res, hrd, hm⟩⟩
  · exact KindSaid.bad (fun q h1 h2 h3 => .argC h1 h2 h3 (.inr hw2) rfl hc) (ha.trans ha2) (hv.mono hz)
  · exact KindSaid.bad (fun q h1 h2 h3 => .offB h1 h2 h3 hw2 rfl hc ho) (ha.trans ha2) (hv.mono hz)
  · have hR : ∀ q, nameR rs (bl rs (p + 1)) = .inr (n, q) → rs[bl rs q]? = some [44] → k = bl rs (bl rs q + 1) → Rd rs (.arg d) p (res.plu n p ord off) := fun q h1 h2 h3 => .plu h1 h2 h3 hw rfl hc ho hrd
    cases res with
    | ok => exact hm.elim
    | bad er a =>
      obtain ⟨u, v, rfl, hv⟩ := hm
      exact KindSaid.bad hR (ha.trans ha2) (hv.mono hz)
    | okB t b q =>
      obtain ⟨v, rfl, hs, hlt, us, h1, h2⟩ := hm
      refine ⟨ha.trans ha2, _, hR, _, rfl, hs, ?_, ?_⟩
      · have := bl_ge rs (k + (word rs k).length)
        omega
      · exact Lay.plu (h1.mono (Nat.le_refl _) fun g hg _ => ⟨rfl, by omega⟩) (h2.mono (Nat.le_refl _) fun g hg _ => ⟨rfl, by omega⟩) .nil
theorem known4 {t : Pg.T} (h1 : t ≠ numberW) (h2 : t ≠ selectW) (h3 : t ≠ pluralW) (h4 : t ≠ ordinalW) : Dk.knownOf t = 4 := by
  unfold Dk.knownOf
  unfold numberW at h1
  unfold selectW at h2
  unfold pluralW at h3
  unfold ordinalW at h4
  rw [if_neg h1, if_neg h3, if_neg h4, if_neg h2]
set_option maxHeartbeats 6400000 in
theorem pkind_any (d : Nat) (hd : d ≤ 6) (hM : d < 6 → MsgOk (d + 1)) (P : Nat) (w : World) (rs : List Pg.T) (p k : Nat) (n : Pg.T) (h : Scn P w rs k) :
    Calls Tryz.prog 222 #[.pointer (some ⟨P, 0, none⟩), .agg #[.string ⟨n.toArray⟩, .int .i64 p], .int .i64 d] w fun e w' => KindSaid P rs d p k n w e w' := by
  have hPl := h.lt
  have hb0 := allocB w (.cells #[.string ⟨n.toArray⟩, .int .i64 p] 189)
  have r0 := row_at w #[.string ⟨n.toArray⟩, .int .i64 p] 189
  have h0 := h.then hb0
  have kw := pword_any P _ rs k h0
  obtain ⟨a0, c0, q0, f0⟩ := h0.rows
  have hz0 : (w.alloc (.cells #[.string ⟨n.toArray⟩, .int .i64 p] 189)).heap.size = w.heap.size + 1 := by simp
  clear h h0
  go_enter Tryz.func222, Tryz.ntmps222
  go_wp2_with fail
  refine kw.mono ?_
  rintro e w1 ⟨rfl, hs1, ha⟩
  have HR : Hid (Row w1 w.heap.size #[.string ⟨n.toArray⟩, .int .i64 p]) := r0.ag ha (by omega)
  have HA1 : Hid (Ag P w w1) := (Ag.of hb0 (Nat.le_refl _)).trans ha
  have hz1 : w.heap.size + 1 ≤ w1.heap.size := by have := ha.size; omega
  have HS1 : Hid (Scn P w1 rs (k + (word rs k).length)) := hs1
  have q1 := HR.out.2.1
  clear kw r0 hb0 hz0 ha hs1 q0 f0
  by_cases e1 : (word rs k).flatten = numberW
  · have HW : Hid ((word rs k).flatten = numberW) := e1
    have t1 : ((word rs k).flatten == ([110, 117, 109, 98, 101, 114] : Pg.T)) = true := by rw [e1]; rfl
    have kb := pblanks_any P w1 rs _ HS1.out
    obtain ⟨j, hj⟩ : ∃ j, Hid (j = bl rs (k + (word rs k).length)) := ⟨_, rfl⟩
    have hkj : k ≤ j := by have := hj.out; have := bl_ge rs (k + (word rs k).length); omega
    rw [← hj.out] at kb
    obtain ⟨F, hF⟩ : ∃ F, Hid ((word rs k).flatten = F) := ⟨_, rfl⟩
    rw [hF.out] at t1 ⊢
    clear e1
    go_wp2_with fail
    refine kb.mono ?_
    rintro e w2 ⟨rfl, hs2, ha2⟩
    have HR2 : Hid (Row w2 w.heap.size #[.string ⟨n.toArray⟩, .int .i64 p]) := HR.out.ag ha2 (by omega)
    have HA2 : Hid (Ag P w w2) := HA1.out.trans ha2
    have hz2 := ha2.size
    have HRdr : Hid (Row w2.drew w.heap.size #[.string ⟨n.toArray⟩, .int .i64 p]) := HR2.out.keep (Below.refl _ _).drew
    have kn := fun W (hW : Below w2.heap.size w2 W) => pneed_ret P W rs j 125 (by decide) (hs2.then hW)
    have q2 := HR2.out.2.1
    clear kb HR q1 ha2 hs2
    go_wp2_with fail
    go_region_with (go_at_call 241; refine (kn _ (Below.refl _ _).drew).mono ?_; rintro e w5 ⟨y, rfl, ha8, hn⟩; have HR5 : Hid (Row w5 w.heap.size #[.string ⟨n.toArray⟩, .int .i64 p]) := HRdr.out.ag ha8 (by omega); have q5 := HR5.out.2.1)
    all_goals
      go_wp2
      go_ret2
      have hag : Ag P w w5 := (HA2.out.then (Below.refl _ _).drew).trans ha8
      have hzd := (Below.refl w2.heap.size w2).drew.size
      rcases hn with ⟨hc5, rfl, hs5⟩ | ⟨hc5, hv5⟩
      · exact ⟨hag, .ok (.num n p .nil) (j + 1), fun q h1 h2 h3 => .num h1 h2 h3 HW.out hj.out hc5, _, rfl, hs5, by omega, .num .nil⟩
      · exact KindSaid.bad (fun q h1 h2 h3 => .numB h1 h2 h3 HW.out hj.out hc5) hag (hv5.mono (by omega))
  have t1 : ((word rs k).flatten == ([110, 117, 109, 98, 101, 114] : Pg.T)) = false := by rw [beq_eq_false_iff_ne]; exact e1
  by_cases e2 : (word rs k).flatten = selectW
  · have HW : Hid ((word rs k).flatten = selectW) := e2
    have t2 : ((word rs k).flatten == ([115, 101, 108, 101, 99, 116] : Pg.T)) = true := by rw [e2]; rfl
    have ks := pselectOf_any d hd hM P w1 rs _ n p HS1.out
    obtain ⟨F, hF⟩ : ∃ F, Hid ((word rs k).flatten = F) := ⟨_, rfl⟩
    rw [hF.out] at t1 t2 ⊢
    clear e1 e2
    go_wp2_with fail
    refine ks.mono ?_
    intro e w2 hs
    have HSN : Hid (SelSaidN P rs d (k + (word rs k).length) n p w1 e w2) := hs
    obtain ⟨x, y, rfl⟩ := hs.tup
    clear hs ks
    go_wp2
    go_ret2
    exact HSN.out.kind HA1.out HW.out
  have t2 : ((word rs k).flatten == ([115, 101, 108, 101, 99, 116] : Pg.T)) = false := by rw [beq_eq_false_iff_ne]; exact e2
  by_cases e3 : (word rs k).flatten = pluralW
  · have HW : Hid ((word rs k).flatten = if false = true then ordinalW else pluralW) := e3
    have t3 : ((word rs k).flatten == ([112, 108, 117, 114, 97, 108] : Pg.T)) = true := by rw [e3]; rfl
    have ks := ppluralOf_any d hd hM P w1 rs _ n p false HS1.out
    obtain ⟨F, hF⟩ : ∃ F, Hid ((word rs k).flatten = F) := ⟨_, rfl⟩
    rw [hF.out] at t1 t2 t3 ⊢
    clear e1 e2 e3
    go_wp2_with fail
    refine ks.mono ?_
    intro e w2 hs
    have HSN : Hid (PluSaidN P rs d (k + (word rs k).length) n p false w1 e w2) := hs
    obtain ⟨x, y, rfl⟩ := hs.tup
    clear hs ks
    go_wp2
    go_ret2
    exact HSN.out.kind HA1.out HW.out
  have t3 : ((word rs k).flatten == ([112, 108, 117, 114, 97, 108] : Pg.T)) = false := by rw [beq_eq_false_iff_ne]; exact e3
  by_cases e4 : (word rs k).flatten = ordinalW
  · have HW : Hid ((word rs k).flatten = if true = true then ordinalW else pluralW) := e4
    have t4 : ((word rs k).flatten == ([115, 101, 108, 101, 99, 116, 111, 114, 100, 105, 110, 97, 108] : Pg.T)) = true := by rw [e4]; rfl
    have ks := ppluralOf_any d hd hM P w1 rs _ n p true HS1.out
    obtain ⟨F, hF⟩ : ∃ F, Hid ((word rs k).flatten = F) := ⟨_, rfl⟩
    rw [hF.out] at t1 t2 t3 t4 ⊢
    clear e1 e2 e3 e4
    go_wp2_with fail
    refine ks.mono ?_
    intro e w2 hs
    have HSN : Hid (PluSaidN P rs d (k + (word rs k).length) n p true w1 e w2) := hs
    obtain ⟨x, y, rfl⟩ := hs.tup
    clear hs ks
    go_wp2
    go_ret2
    exact HSN.out.kind HA1.out HW.out
  · have t4 : ((word rs k).flatten == ([115, 101, 108, 101, 99, 116, 111, 114, 100, 105, 110, 97, 108] : Pg.T)) = false := by rw [beq_eq_false_iff_ne]; exact e4
    have HW : Hid (Dk.knownOf (word rs k).flatten = 4) := known4 e1 e2 e3 e4
    have kf := pfault_any w1 3 k
    obtain ⟨F, hF⟩ : ∃ F, Hid ((word rs k).flatten = F) := ⟨_, rfl⟩
    rw [hF.out] at t1 t2 t3 t4 ⊢
    clear e1 e2 e3 e4
    go_wp2_with (go_at_call 158; refine kf.mono ?_; rintro e w4 ⟨⟨v, rfl, hv⟩, hb4⟩)
    go_ret2
    exact KindSaid.bad (fun q h1 h2 h3 => .kindB h1 h2 h3 HW.out) (HA1.out.then hb4) (hv.mono (by omega))
end Go.Proofs.YtaepcfidpekflaaGreatDoor
