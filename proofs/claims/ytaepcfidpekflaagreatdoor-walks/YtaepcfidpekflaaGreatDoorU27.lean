/-
  Several texts in one (Mq). By the verifier.
-/
import Derived.Test.YtaepcfidpekflaaGreatDoorU26
namespace Go.Proofs.YtaepcfidpekflaaGreatDoor
open Go.RowKit Pg

theorem info_node : (Tryz.prog.info? 283).map (fun i => (i.zero, i.size, i.bytes)) = some (some .nilIface, 1, 16) := by kernel_rfl
theorem said_pos (num : Bool) (c : Pg.T) (r : List Pg.T) (hs : spec num c = false) : (saidGo num false (c :: r)).2 ≠ 0 := by
  unfold saidGo
  rw [if_neg (by rw [hs]; simp)]
  split
  · simp
  · split
    · simp
    · split
      · simp
      · split <;> simp
/-- How far a message has been read. -/
structure Ms (rs : List Pg.T) (d : Nat) (num : Bool) (p q n : Nat) (t : Pg.Tr) : Prop where
  more : ∀ res, Rd rs (.msg d num) q res → Rd rs (.msg d num) p (res.pre t)
  small : n ≤ q
theorem Ms.start (rs : List Pg.T) (d : Nat) (num : Bool) (p : Nat) : Ms rs d num p p 0 .nil := ⟨fun res h => by rw [Res.pre_nil]; exact h, Nat.zero_le _⟩
theorem Ms.next {rs : List Pg.T} {d : Nat} {num : Bool} {p q n q2 : Nat} {t u : Pg.Tr} (h : Ms rs d num p q n t) (hq : q < q2) (hr : ∀ res, Rd rs (.msg d num) q2 res → Rd rs (.msg d num) q (res.pre u)) : Ms rs d num p q2 (n + 1) (t.app u) := by
  refine ⟨fun res h2 => ?_, by have := h.small; omega⟩
  have := h.more _ (hr res h2)
  rw [Res.pre_pre] at this
  exact this
set_option maxHeartbeats 12800000 in
theorem pmessage_at (d : Nat) (hd : d ≤ 6) (hM : d < 6 → MsgOk (d + 1)) : MsgOk d := by
  intro P w rs p num h
  have hPl := h.lt
  have HP : Hid (Pts rs) := h.pts.1
  have hrl := h.pts.2.1
  have HS : Hid (Scn P w rs p) := h
  clear h
  go_enter Tryz.func160, Tryz.ntmps160
  go_wp2_with fail
  go_loopw [8] (fun x wr => ∃ (q n : Nat) (t : Pg.Tr) (vs : List Value) (lv : Value), x = lv ∧ Hid (Ms rs d num p q n t) ∧ Hid (Scn P wr rs q) ∧ Hid (Ag P w wr) ∧ Hid (Grow wr w.heap.size 283 1 lv n t vs)) (fun _ wr => rs.length - posOf wr P)
  case atStart => exact ⟨p, 0, .nil, [], .slice none 0 0, rfl, Ms.start _ _ _ _, HS, Ag.refl _ _, Grow.nil _ _ _ _⟩
  case round =>
    clear HS
    obtain ⟨q, n, t, vs, lv, rfl, HB, HS, HA, HG⟩ := hrel
    obtain ⟨la, lc, rfl⟩ := HG.out.form
    have hpos := HS.out.pos
    have hql := HS.out.pts.2.2
    have hnq := HB.out.small
    have kp := peek_any P wr rs q 0 HS.out (by omega)
    rw [Nat.add_zero] at kp
    have bd := pk_bd HP.out q
    obtain ⟨K, hKK⟩ : ∃ K, Hid (pk rs q = K) := ⟨_, rfl⟩
    rw [hKK.out] at kp bd
    go_wp2_with fail
    refine kp.mono ?_
    rintro e w1 ⟨rfl, hb1⟩
    have HS1 : Hid (Scn P w1 rs q) := HS.out.then hb1
    have HA1 : Hid (Ag P w w1) := HA.out.then hb1
    have HG1 : Hid (Grow w1 w.heap.size 283 1 (.slice la n lc) n t vs) := HG.out.ag (Ag.of (P := P) hb1 (Nat.le_refl _)) hPl
    clear kp HS HA HG hb1
    cases hc : rs[q]? with
    | none =>
      have hK : K = -1 := by rw [← hKK.out]; exact pk_none hc
      subst hK
      have hst : rs[q]? = none ∨ rs[q]? = some [125] := .inl hc
      clear hc
      have HN : Hid (Rd rs (.msg d num) p (.ok t q)) := by
        have := HB.out.more _ (.stop hst)
        rw [show (Res.ok .nil q).pre t = .ok t q from by show Res.ok (t.app .nil) _ = _; rw [Tr.app_nil]] at this
        exact this
      clear hst
      go_wp2
      go_ret2
      exact ⟨HA1.out, _, HN.out, _, rfl, HS1.out, HG1.out.row (by omega)⟩
    | some c =>
      have hKe : (K == -1) = false := by rw [beq_eq_false_iff_ne, ← hKK.out, pk_some hc]; have := rv_lo c; omega
      by_cases h125 : c = [125]
      · subst h125
        have hK : K = 125 := (pk_eq HP.out q 125 (by decide)).2 hc |> hKK.out.symm.trans
        subst hK
        have hst : rs[q]? = none ∨ rs[q]? = some [125] := .inr hc
        clear hc
        have HN : Hid (Rd rs (.msg d num) p (.ok t q)) := by
          have := HB.out.more _ (.stop hst)
          rw [show (Res.ok .nil q).pre t = .ok t q from by show Res.ok (t.app .nil) _ = _; rw [Tr.app_nil]] at this
          exact this
        clear hst
        go_wp2
        go_ret2
        exact ⟨HA1.out, _, HN.out, _, rfl, HS1.out, HG1.out.row (by omega)⟩
      have hK125 : (K == 125) = false := by rw [beq_eq_false_iff_ne, ← hKK.out]; exact fun e => h125 (by have := (pk_eq HP.out q 125 (by decide)).1 e; rw [hc] at this; injection this)
      by_cases h123 : c = [123]
      · subst h123
        have HC : Hid (rs[q]? = some [123]) := hc
        have hK : K = 123 := (pk_eq HP.out q 123 (by decide)).2 hc |> hKK.out.symm.trans
        subst hK
        have ka := pargument_any d hd hM P w1 rs q HS1.out hc
        clear hc
        go_wp2_with fail
        refine ka.mono ?_
        rintro e w2 ⟨ha2, res, hrd, hm⟩
        have HA2 : Hid (Ag P w w2) := HA1.out.trans ha2
        have HG2 : Hid (Grow w2 w.heap.size 283 1 (.slice la n lc) n t vs) := HG1.out.ag ha2 hPl
        have HRD : Hid (Rd rs (.arg d) q res) := hrd
        have hob1 : ∀ g, (Value.slice la n lc).ownBlock = some g → g < w1.heap.size := fun g e => (World.ownsRow.lt HG1.out.own g e).2
        have hz1 := HA1.out.size
        clear ka hrd
        cases res with
        | okB => exact absurd (fine_of HRD.out (lt_of_some HC.out)) (fun h => h)
        | bad er a =>
          obtain ⟨u, v, rfl, hv, _⟩ := hm
          have HV : Hid (Flt w1.heap.size w2 v er a) := hv
          have HN : Hid (Rd rs (.msg d num) p (.bad er a)) := HB.out.more _ (.argB HC.out HRD.out)
          obtain ⟨b, rfl, _⟩ := hv
          go_wp2
          go_ret2
          exact ⟨HA2.out, _, HN.out, _, _, rfl, HV.out.mono (by omega), trivial⟩
        | ok tn q2 =>
          obtain ⟨v, rfl, hs2, hlt, hlay⟩ := hm
          have HS2 : Hid (Scn P w2 rs q2) := hs2
          have hq2 := hs2.pts.2.2
          have HB2 : Hid (Ms rs d num p q2 (n + 1) (t.app tn)) := HB.out.next (by omega) fun res hr => .argK HC.out HRD.out hr
          obtain ⟨vt, vx, rfl⟩ : ∃ vt vx, v = .iface vt vx := by
            cases hlay <;> exact ⟨_, _, rfl⟩
          have HLY : Hid (Lay w2 (fun g => w1.heap.size ≤ g) tn [.iface vt vx]) := hlay
          clear hs2 hlay
          have HG6 : Hid (Grow (w2.alloc (.cells #[.iface vt vx] 283)) w.heap.size 283 1 (.slice la n lc) n t vs) := HG2.out.alloc _
          have HY : Hid (Lay (w2.alloc (.cells #[.iface vt vx] 283)) (fun g => w.heap.size ≤ g ∧ (Value.slice la n lc).ownBlock ≠ some g) tn [.iface vt vx]) := HLY.out.mono (by simp) fun g hg hl => ⟨(allocB w2 _).block g hl, by omega, fun e => by have := hob1 g e; omega⟩
          obtain ⟨i0, hi0, hz0, hz1', hz2'⟩ := info_parts info_node
          have HI : Hid (Tryz.prog.info? 283 = some i0 ∧ i0.zero = some .nilIface ∧ i0.size = 1 ∧ i0.bytes = 16) := ⟨hi0, hz0, hz1', hz2'⟩
          have hBz : w.heap.size ≤ w2.heap.size := HA2.out.size
          clear hi0 hz0 hz1' hz2'
          go_wp2_with (at_builtin; refine wpList_append_own_at _ rfl _ _ 181 rfl w.heap.size 283 i0 .nilIface 1 16 Tryz.underlying181 HI.out.1 HI.out.2.1 HI.out.2.2.1 HI.out.2.2.2 rfl (by decide) (.slice la n lc) n vs rfl HG6.out.own ⟨w2.heap.size, 0, none⟩ 1 1 [.iface vt vx] rfl rfl ?c1 ?c2 ?c3 ?c4 ?c5 ?_)
          case c1 => exact cells_new w2 _ [.iface vt vx] 283 (by simp)
          case c2 => intro u hu; rw [List.mem_singleton.1 hu]; rfl
          case c3 => unfold maxLen; omega
          case c4 => omega
          case c5 => simp; omega
          intro v8 w8 hown8 hgrow8 _ hat8
          have hg8 := HG6.out.put HY.out hown8 hgrow8 (by simpa using hat8)
          have hob : ∀ g, (Value.slice la n lc).ownBlock = some g → w.heap.size ≤ g := fun g e => (World.ownsRow.lt HG6.out.own g e).1
          have HS8 : Hid (Scn P w8 rs q2) := (HS2.out.then (allocB _ (.cells #[.iface vt vx] 283))).grown hgrow8 (fun g e => by have := hob _ e; omega)
          have HA8 : Hid (Ag P w w8) := (HA2.out.then (allocB _ (.cells #[.iface vt vx] 283))).grown hgrow8 (fun g e => by have := hob _ e; omega)
          have HG8 : Hid (Grow w8 w.heap.size 283 1 v8 (n + 1) (t.app tn) (vs ++ [.iface vt vx])) := hg8
          have hpos8 := HS8.out.pos
          obtain ⟨va8, vc8, rfl⟩ := hg8.form
          clear hg8 hown8 hgrow8 hat8 HG6 HY hob
          go_wp2
          exact ⟨⟨q2, n + 1, _, _, .slice va8 (n + 1) vc8, rfl, HB2, HS8, HA8, HG8⟩, by rw [hpos8, hpos]; omega⟩
      have hK123 : (K == 123) = false := by rw [beq_eq_false_iff_ne, ← hKK.out]; exact fun e => h123 (by have := (pk_eq HP.out q 123 (by decide)).1 e; rw [hc] at this; injection this)
      cases num with
      | true =>
        by_cases h35 : c = [35]
        · subst h35
          have HC : Hid (rs[q]? = some [35]) := hc
          have hK : K = 35 := (pk_eq HP.out q 35 (by decide)).2 hc |> hKK.out.symm.trans
          subst hK
          have hlt := lt_of_some hc
          have hw3 : IntKind.i64.wrap ((q : Int) + 1) = (q : Int) + 1 := by rw [IntKind.wrap_i64]; omega
          obtain ⟨a1, c1, q1, f1⟩ := HS1.out.rows
          obtain ⟨hs2, ha2⟩ := HS1.out.inc hlt HA1.out
          have HS2 : Hid (Scn P (w1.setCell ⟨P, 1, none⟩ (.int .i64 ((q : Int) + 1))) rs (q + 1)) := hs2
          have HA2 : Hid (Ag P w (w1.setCell ⟨P, 1, none⟩ (.int .i64 ((q : Int) + 1)))) := ha2
          have HG2 : Hid (Grow (w1.setCell ⟨P, 1, none⟩ (.int .i64 ((q : Int) + 1))) w.heap.size 283 1 (.slice la n lc) n t vs) := HG1.out.set hPl _
          have HB2 : Hid (Ms rs d true p (q + 1) (n + 1) (t.app (.sign .nil))) := HB.out.next (by omega) fun res hr => .sign HC.out hr
          have hzz : (w1.setCell ⟨P, 1, none⟩ (.int .i64 ((q : Int) + 1))).heap.size = w1.heap.size := by simp
          clear hc hs2 ha2
          have HG6 : Hid (Grow ((w1.setCell ⟨P, 1, none⟩ (.int .i64 ((q : Int) + 1))).alloc (.cells #[.iface 287 (.agg #[])] 283)) w.heap.size 283 1 (.slice la n lc) n t vs) := HG2.out.alloc _
          have HY : Hid (Lay ((w1.setCell ⟨P, 1, none⟩ (.int .i64 ((q : Int) + 1))).alloc (.cells #[.iface 287 (.agg #[])] 283)) (fun g => w.heap.size ≤ g ∧ (Value.slice la n lc).ownBlock ≠ some g) (.sign .nil) [.iface 287 (.agg #[])]) := .sign .nil
          obtain ⟨i0, hi0, hz0, hz1', hz2'⟩ := info_parts info_node
          have HI : Hid (Tryz.prog.info? 283 = some i0 ∧ i0.zero = some .nilIface ∧ i0.size = 1 ∧ i0.bytes = 16) := ⟨hi0, hz0, hz1', hz2'⟩
          have hBz : w.heap.size ≤ (w1.setCell ⟨P, 1, none⟩ (.int .i64 ((q : Int) + 1))).heap.size := HA2.out.size
          clear hi0 hz0 hz1' hz2'
          go_wp2_with (at_builtin; refine wpList_append_own_at _ rfl _ _ 181 rfl w.heap.size 283 i0 .nilIface 1 16 Tryz.underlying181 HI.out.1 HI.out.2.1 HI.out.2.2.1 HI.out.2.2.2 rfl (by decide) (.slice la n lc) n vs rfl HG6.out.own ⟨w1.heap.size, 0, none⟩ 1 1 [.iface 287 (.agg #[])] rfl rfl ?c1 ?c2 ?c3 ?c4 ?c5 ?_)
          case c1 => exact cells_new (w1.setCell ⟨P, 1, none⟩ (.int .i64 ((q : Int) + 1))) _ [.iface 287 (.agg #[])] 283 (by simp)
          case c2 => intro u hu; rw [List.mem_singleton.1 hu]; rfl
          case c3 => unfold maxLen; omega
          case c4 => omega
          case c5 => simp; omega
          intro v8 w8 hown8 hgrow8 _ hat8
          have hg8 := HG6.out.put HY.out hown8 hgrow8 (by simpa using hat8)
          have hob : ∀ g, (Value.slice la n lc).ownBlock = some g → w.heap.size ≤ g := fun g e => (World.ownsRow.lt HG6.out.own g e).1
          have HS8 : Hid (Scn P w8 rs (q + 1)) := (HS2.out.then (allocB _ (.cells #[.iface 287 (.agg #[])] 283))).grown hgrow8 (fun g e => by have := hob _ e; omega)
          have HA8 : Hid (Ag P w w8) := (HA2.out.then (allocB _ (.cells #[.iface 287 (.agg #[])] 283))).grown hgrow8 (fun g e => by have := hob _ e; omega)
          have HG8 : Hid (Grow w8 w.heap.size 283 1 v8 (n + 1) (t.app (.sign .nil)) (vs ++ [.iface 287 (.agg #[])])) := hg8
          have hpos8 := HS8.out.pos
          obtain ⟨va8, vc8, rfl⟩ := hg8.form
          clear hg8 hown8 hgrow8 hat8 HG6 HY hob
          go_wp2
          exact ⟨⟨(q + 1), n + 1, _, _, .slice va8 (n + 1) vc8, rfl, HB2, HS8, HA8, HG8⟩, by rw [hpos8, hpos]; omega⟩
        have hK35 : (K == 35) = false := by rw [beq_eq_false_iff_ne, ← hKK.out]; exact fun e => h35 (by have := (pk_eq HP.out q 35 (by decide)).1 e; rw [hc] at this; injection this)
        have hsp : spec true c = false := by
          unfold spec
          simp [h125, h123, h35]
        clear h125 h123 h35
        have HC : Hid (rs[q]? = some c) := hc
        have ks := psaid_any P w1 rs q true HS1.out
        have hlt : q < q + (saidGo true false (rs.drop q)).2 := by
          have h1 := said_ne true c (rs.drop (q + 1)) (by rw [← drop_at hc]; exact (Pts.cps HP.out).drop q) hsp
          rw [← drop_at hc] at h1
          have h2 : (saidGo true false (rs.drop q)).2 ≠ 0 := by
            rw [drop_at hc]
            exact said_pos true c _ hsp
          omega
        have HB2 : Hid (Ms rs d true p (q + (saidGo true false (rs.drop q)).2) (n + 1) (t.app (.text (saidGo true false (rs.drop q)).1 .nil))) := HB.out.next hlt fun res hr => .said HC.out hsp hr
        clear hc hsp
        generalize (saidGo true false (rs.drop q)).1 = TX at *
        generalize q + (saidGo true false (rs.drop q)).2 = q2 at *
        go_wp2_with fail
        refine ks.mono ?_
        rintro e w2 ⟨rfl, hs2, ha2⟩
        have HS2 : Hid (Scn P w2 rs q2) := hs2
        have hq2 := hs2.pts.2.2
        have HA2 : Hid (Ag P w w2) := HA1.out.trans ha2
        have HG2 : Hid (Grow w2 w.heap.size 283 1 (.slice la n lc) n t vs) := HG1.out.ag ha2 hPl
        clear ks hs2 ha2
        have HG6 : Hid (Grow (w2.alloc (.cells #[.iface 285 (.agg #[.string ⟨TX.toArray⟩])] 283)) w.heap.size 283 1 (.slice la n lc) n t vs) := HG2.out.alloc _
        have HY : Hid (Lay (w2.alloc (.cells #[.iface 285 (.agg #[.string ⟨TX.toArray⟩])] 283)) (fun g => w.heap.size ≤ g ∧ (Value.slice la n lc).ownBlock ≠ some g) (.text TX .nil) [.iface 285 (.agg #[.string ⟨TX.toArray⟩])]) := .text .nil
        obtain ⟨i0, hi0, hz0, hz1', hz2'⟩ := info_parts info_node
        have HI : Hid (Tryz.prog.info? 283 = some i0 ∧ i0.zero = some .nilIface ∧ i0.size = 1 ∧ i0.bytes = 16) := ⟨hi0, hz0, hz1', hz2'⟩
        have hBz : w.heap.size ≤ w2.heap.size := HA2.out.size
        clear hi0 hz0 hz1' hz2'
        go_wp2_with (at_builtin; refine wpList_append_own_at _ rfl _ _ 181 rfl w.heap.size 283 i0 .nilIface 1 16 Tryz.underlying181 HI.out.1 HI.out.2.1 HI.out.2.2.1 HI.out.2.2.2 rfl (by decide) (.slice la n lc) n vs rfl HG6.out.own ⟨w2.heap.size, 0, none⟩ 1 1 [.iface 285 (.agg #[.string ⟨TX.toArray⟩])] rfl rfl ?c1 ?c2 ?c3 ?c4 ?c5 ?_)
        case c1 => exact cells_new w2 _ [.iface 285 (.agg #[.string ⟨TX.toArray⟩])] 283 (by simp)
        case c2 => intro u hu; rw [List.mem_singleton.1 hu]; rfl
        case c3 => unfold maxLen; omega
        case c4 => omega
        case c5 => simp; omega
        intro v8 w8 hown8 hgrow8 _ hat8
        have hg8 := HG6.out.put HY.out hown8 hgrow8 (by simpa using hat8)
        have hob : ∀ g, (Value.slice la n lc).ownBlock = some g → w.heap.size ≤ g := fun g e => (World.ownsRow.lt HG6.out.own g e).1
        have HS8 : Hid (Scn P w8 rs q2) := (HS2.out.then (allocB _ (.cells #[.iface 285 (.agg #[.string ⟨TX.toArray⟩])] 283))).grown hgrow8 (fun g e => by have := hob _ e; omega)
        have HA8 : Hid (Ag P w w8) := (HA2.out.then (allocB _ (.cells #[.iface 285 (.agg #[.string ⟨TX.toArray⟩])] 283))).grown hgrow8 (fun g e => by have := hob _ e; omega)
        have HG8 : Hid (Grow w8 w.heap.size 283 1 v8 (n + 1) (t.app (.text TX .nil)) (vs ++ [.iface 285 (.agg #[.string ⟨TX.toArray⟩])])) := hg8
        have hpos8 := HS8.out.pos
        obtain ⟨va8, vc8, rfl⟩ := hg8.form
        clear hg8 hown8 hgrow8 hat8 HG6 HY hob
        go_wp2
        exact ⟨⟨q2, n + 1, _, _, .slice va8 (n + 1) vc8, rfl, HB2, HS8, HA8, HG8⟩, by rw [hpos8, hpos]; omega⟩
      | false =>
        have hsp : spec false c = false := by
          unfold spec
          simp [h125, h123]
        clear h125 h123
        by_cases hK35 : (K == 35) = true
        · 
          have HC : Hid (rs[q]? = some c) := hc
          have ks := psaid_any P w1 rs q false HS1.out
          have hlt : q < q + (saidGo false false (rs.drop q)).2 := by
            have h1 := said_ne false c (rs.drop (q + 1)) (by rw [← drop_at hc]; exact (Pts.cps HP.out).drop q) hsp
            rw [← drop_at hc] at h1
            have h2 : (saidGo false false (rs.drop q)).2 ≠ 0 := by
              rw [drop_at hc]
              exact said_pos false c _ hsp
            omega
          have HB2 : Hid (Ms rs d false p (q + (saidGo false false (rs.drop q)).2) (n + 1) (t.app (.text (saidGo false false (rs.drop q)).1 .nil))) := HB.out.next hlt fun res hr => .said HC.out hsp hr
          clear hc hsp
          generalize (saidGo false false (rs.drop q)).1 = TX at *
          generalize q + (saidGo false false (rs.drop q)).2 = q2 at *
          go_wp2_with fail
          refine ks.mono ?_
          rintro e w2 ⟨rfl, hs2, ha2⟩
          have HS2 : Hid (Scn P w2 rs q2) := hs2
          have hq2 := hs2.pts.2.2
          have HA2 : Hid (Ag P w w2) := HA1.out.trans ha2
          have HG2 : Hid (Grow w2 w.heap.size 283 1 (.slice la n lc) n t vs) := HG1.out.ag ha2 hPl
          clear ks hs2 ha2
          have HG6 : Hid (Grow (w2.alloc (.cells #[.iface 285 (.agg #[.string ⟨TX.toArray⟩])] 283)) w.heap.size 283 1 (.slice la n lc) n t vs) := HG2.out.alloc _
          have HY : Hid (Lay (w2.alloc (.cells #[.iface 285 (.agg #[.string ⟨TX.toArray⟩])] 283)) (fun g => w.heap.size ≤ g ∧ (Value.slice la n lc).ownBlock ≠ some g) (.text TX .nil) [.iface 285 (.agg #[.string ⟨TX.toArray⟩])]) := .text .nil
          obtain ⟨i0, hi0, hz0, hz1', hz2'⟩ := info_parts info_node
          have HI : Hid (Tryz.prog.info? 283 = some i0 ∧ i0.zero = some .nilIface ∧ i0.size = 1 ∧ i0.bytes = 16) := ⟨hi0, hz0, hz1', hz2'⟩
          have hBz : w.heap.size ≤ w2.heap.size := HA2.out.size
          clear hi0 hz0 hz1' hz2'
          go_wp2_with (at_builtin; refine wpList_append_own_at _ rfl _ _ 181 rfl w.heap.size 283 i0 .nilIface 1 16 Tryz.underlying181 HI.out.1 HI.out.2.1 HI.out.2.2.1 HI.out.2.2.2 rfl (by decide) (.slice la n lc) n vs rfl HG6.out.own ⟨w2.heap.size, 0, none⟩ 1 1 [.iface 285 (.agg #[.string ⟨TX.toArray⟩])] rfl rfl ?c1 ?c2 ?c3 ?c4 ?c5 ?_)
          case c1 => exact cells_new w2 _ [.iface 285 (.agg #[.string ⟨TX.toArray⟩])] 283 (by simp)
          case c2 => intro u hu; rw [List.mem_singleton.1 hu]; rfl
          case c3 => unfold maxLen; omega
          case c4 => omega
          case c5 => simp; omega
          intro v8 w8 hown8 hgrow8 _ hat8
          have hg8 := HG6.out.put HY.out hown8 hgrow8 (by simpa using hat8)
          have hob : ∀ g, (Value.slice la n lc).ownBlock = some g → w.heap.size ≤ g := fun g e => (World.ownsRow.lt HG6.out.own g e).1
          have HS8 : Hid (Scn P w8 rs q2) := (HS2.out.then (allocB _ (.cells #[.iface 285 (.agg #[.string ⟨TX.toArray⟩])] 283))).grown hgrow8 (fun g e => by have := hob _ e; omega)
          have HA8 : Hid (Ag P w w8) := (HA2.out.then (allocB _ (.cells #[.iface 285 (.agg #[.string ⟨TX.toArray⟩])] 283))).grown hgrow8 (fun g e => by have := hob _ e; omega)
          have HG8 : Hid (Grow w8 w.heap.size 283 1 v8 (n + 1) (t.app (.text TX .nil)) (vs ++ [.iface 285 (.agg #[.string ⟨TX.toArray⟩])])) := hg8
          have hpos8 := HS8.out.pos
          obtain ⟨va8, vc8, rfl⟩ := hg8.form
          clear hg8 hown8 hgrow8 hat8 HG6 HY hob
          go_wp2
          exact ⟨⟨q2, n + 1, _, _, .slice va8 (n + 1) vc8, rfl, HB2, HS8, HA8, HG8⟩, by rw [hpos8, hpos]; omega⟩
        · have hK35 : (K == 35) = false := by simpa using hK35
          have HC : Hid (rs[q]? = some c) := hc
          have ks := psaid_any P w1 rs q false HS1.out
          have hlt : q < q + (saidGo false false (rs.drop q)).2 := by
            have h1 := said_ne false c (rs.drop (q + 1)) (by rw [← drop_at hc]; exact (Pts.cps HP.out).drop q) hsp
            rw [← drop_at hc] at h1
            have h2 : (saidGo false false (rs.drop q)).2 ≠ 0 := by
              rw [drop_at hc]
              exact said_pos false c _ hsp
            omega
          have HB2 : Hid (Ms rs d false p (q + (saidGo false false (rs.drop q)).2) (n + 1) (t.app (.text (saidGo false false (rs.drop q)).1 .nil))) := HB.out.next hlt fun res hr => .said HC.out hsp hr
          clear hc hsp
          generalize (saidGo false false (rs.drop q)).1 = TX at *
          generalize q + (saidGo false false (rs.drop q)).2 = q2 at *
          go_wp2_with fail
          refine ks.mono ?_
          rintro e w2 ⟨rfl, hs2, ha2⟩
          have HS2 : Hid (Scn P w2 rs q2) := hs2
          have hq2 := hs2.pts.2.2
          have HA2 : Hid (Ag P w w2) := HA1.out.trans ha2
          have HG2 : Hid (Grow w2 w.heap.size 283 1 (.slice la n lc) n t vs) := HG1.out.ag ha2 hPl
          clear ks hs2 ha2
          have HG6 : Hid (Grow (w2.alloc (.cells #[.iface 285 (.agg #[.string ⟨TX.toArray⟩])] 283)) w.heap.size 283 1 (.slice la n lc) n t vs) := HG2.out.alloc _
          have HY : Hid (Lay (w2.alloc (.cells #[.iface 285 (.agg #[.string ⟨TX.toArray⟩])] 283)) (fun g => w.heap.size ≤ g ∧ (Value.slice la n lc).ownBlock ≠ some g) (.text TX .nil) [.iface 285 (.agg #[.string ⟨TX.toArray⟩])]) := .text .nil
          obtain ⟨i0, hi0, hz0, hz1', hz2'⟩ := info_parts info_node
          have HI : Hid (Tryz.prog.info? 283 = some i0 ∧ i0.zero = some .nilIface ∧ i0.size = 1 ∧ i0.bytes = 16) := ⟨hi0, hz0, hz1', hz2'⟩
          have hBz : w.heap.size ≤ w2.heap.size := HA2.out.size
          clear hi0 hz0 hz1' hz2'
          go_wp2_with (at_builtin; refine wpList_append_own_at _ rfl _ _ 181 rfl w.heap.size 283 i0 .nilIface 1 16 Tryz.underlying181 HI.out.1 HI.out.2.1 HI.out.2.2.1 HI.out.2.2.2 rfl (by decide) (.slice la n lc) n vs rfl HG6.out.own ⟨w2.heap.size, 0, none⟩ 1 1 [.iface 285 (.agg #[.string ⟨TX.toArray⟩])] rfl rfl ?c1 ?c2 ?c3 ?c4 ?c5 ?_)
          case c1 => exact cells_new w2 _ [.iface 285 (.agg #[.string ⟨TX.toArray⟩])] 283 (by simp)
          case c2 => intro u hu; rw [List.mem_singleton.1 hu]; rfl
          case c3 => unfold maxLen; omega
          case c4 => omega
          case c5 => simp; omega
          intro v8 w8 hown8 hgrow8 _ hat8
          have hg8 := HG6.out.put HY.out hown8 hgrow8 (by simpa using hat8)
          have hob : ∀ g, (Value.slice la n lc).ownBlock = some g → w.heap.size ≤ g := fun g e => (World.ownsRow.lt HG6.out.own g e).1
          have HS8 : Hid (Scn P w8 rs q2) := (HS2.out.then (allocB _ (.cells #[.iface 285 (.agg #[.string ⟨TX.toArray⟩])] 283))).grown hgrow8 (fun g e => by have := hob _ e; omega)
          have HA8 : Hid (Ag P w w8) := (HA2.out.then (allocB _ (.cells #[.iface 285 (.agg #[.string ⟨TX.toArray⟩])] 283))).grown hgrow8 (fun g e => by have := hob _ e; omega)
          have HG8 : Hid (Grow w8 w.heap.size 283 1 v8 (n + 1) (t.app (.text TX .nil)) (vs ++ [.iface 285 (.agg #[.string ⟨TX.toArray⟩])])) := hg8
          have hpos8 := HS8.out.pos
          obtain ⟨va8, vc8, rfl⟩ := hg8.form
          clear hg8 hown8 hgrow8 hat8 HG6 HY hob
          go_wp2
          exact ⟨⟨q2, n + 1, _, _, .slice va8 (n + 1) vc8, rfl, HB2, HS8, HA8, HG8⟩, by rw [hpos8, hpos]; omega⟩
end Go.Proofs.YtaepcfidpekflaaGreatDoor
