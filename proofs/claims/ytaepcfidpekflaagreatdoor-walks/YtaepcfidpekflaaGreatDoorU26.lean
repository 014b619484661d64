/-
  Several texts in one (Mp). By the verifier.
-/
import Derived.Test.YtaepcfidpekflaaGreatDoorU25
namespace Go.Proofs.YtaepcfidpekflaaGreatDoor
open Go.RowKit Pg

set_option maxHeartbeats 6400000 in
theorem pargument_any (d : Nat) (hd : d ≤ 6) (hM : d < 6 → MsgOk (d + 1)) (P : Nat) (w : World) (rs : List Pg.T) (p : Nat) (h : Scn P w rs p) (hp : rs[p]? = some [123]) :
    Calls Tryz.prog 193 #[.pointer (some ⟨P, 0, none⟩), .int .i64 d] w fun e w' => Rdn P rs (.arg d) p w e w' := by
  have hPl := h.lt
  have hlt := lt_of_some hp
  have hle := h.pts.2.1
  obtain ⟨a0, c0, q0, f0⟩ := h.rows
  obtain ⟨hs1, ha1⟩ := h.inc hlt (Ag.refl P w)
  have hw : IntKind.i64.wrap ((p : Int) + 1) = (p : Int) + 1 := by rw [IntKind.wrap_i64]; omega
  have hb1 := allocB (w.setCell ⟨P, 1, none⟩ (.int .i64 ((p : Int) + 1))) (.cells #[.string ⟨#[]⟩, .int .i64 p] 189)
  have r1 := row_at (w.setCell ⟨P, 1, none⟩ (.int .i64 ((p : Int) + 1))) #[.string ⟨#[]⟩, .int .i64 p] 189
  have hz1 : (w.setCell ⟨P, 1, none⟩ (.int .i64 ((p : Int) + 1))).heap.size = w.heap.size := by simp
  rw [hz1] at r1
  have kb := pblanks_any P _ rs (p + 1) (hs1.then hb1)
  have ha2 := ha1.then hb1
  clear h hs1
  go_enter Tryz.func193, Tryz.ntmps193
  go_wp2_with fail
  refine kb.mono ?_
  rintro e w2 ⟨rfl, hs2, ha3⟩
  have HR2 : Hid (Row w2 w.heap.size #[.string ⟨#[]⟩, .int .i64 p]) := r1.ag ha3 (by omega)
  have HA2 : Hid (Ag P w w2) := ha2.trans ha3
  have hz2 : w.heap.size + 1 ≤ w2.heap.size := by have := ha3.size; simp at this; omega
  have hle2 := hs2.pts.2.2
  have kn := pname_any P w2 rs (bl rs (p + 1)) hs2
  clear kb r1 hb1 ha1 ha2 ha3 hz1 q0 f0 hs2
  go_wp2_with fail
  refine kn.mono ?_
  rintro e w3 ⟨ha3, hm⟩
  have HR3 : Hid (Row w3 w.heap.size #[.string ⟨#[]⟩, .int .i64 p]) := HR2.out.ag ha3 (by omega)
  have HA3 : Hid (Ag P w w3) := HA2.out.trans ha3
  have hz3 := ha3.size
  clear kn HR2 HA2 ha3
  cases hn : nameR rs (bl rs (p + 1)) with
  | inl a =>
    rw [hn] at hm
    obtain ⟨v, rfl, hv⟩ := hm
    have HN : Hid (nameR rs (bl rs (p + 1)) = .inl a) := hn
    have HV : Hid (Flt w2.heap.size w3 v 3 a) := hv
    obtain ⟨b, rfl, _⟩ := hv
    clear hn
    go_wp2
    go_ret2
    exact ⟨HA3.out, _, .nameB HN.out, _, _, rfl, HV.out.mono (by omega), trivial⟩
  | inr x =>
    obtain ⟨n, q⟩ := x
    rw [hn] at hm
    obtain ⟨rfl, hs3⟩ := hm
    have HN : Hid (nameR rs (bl rs (p + 1)) = .inr (n, q)) := hn
    have hpq : p < q := by
      have h1 := ((nameR_le hle2).1 n q hn).1
      have := bl_ge rs (p + 1)
      omega
    have hs4 := hs3.set (g := w.heap.size) (j := 0) hPl (.string ⟨n.toArray⟩)
    have HA4 : Hid (Ag P w (w3.setCell ⟨w.heap.size, 0, none⟩ (.string ⟨n.toArray⟩))) := HA3.out.setNew (Nat.le_refl _) 0 _
    have HR4 : Hid (Row (w3.setCell ⟨w.heap.size, 0, none⟩ (.string ⟨n.toArray⟩)) w.heap.size #[.string ⟨n.toArray⟩, .int .i64 p]) := HR3.out.setC 0 _ (by simp)
    have hz4 : (w3.setCell ⟨w.heap.size, 0, none⟩ (.string ⟨n.toArray⟩)).heap.size = w3.heap.size := by simp
    have kb := pblanks_any P _ rs q hs4
    have q3 := HR3.out.2.1
    have f3 := HR3.out.2.2
    clear hn hs3 hs4
    go_wp2_with fail
    refine kb.mono ?_
    rintro e w5 ⟨rfl, hs5, ha5⟩
    have HR5 : Hid (Row w5 w.heap.size #[.string ⟨n.toArray⟩, .int .i64 p]) := HR4.out.ag ha5 (by omega)
    have HA5 : Hid (Ag P w w5) := HA4.out.trans ha5
    have hz5 : w3.heap.size ≤ w5.heap.size := by have := ha5.size; omega
    have HS5 : Hid (Scn P w5 rs (bl rs q)) := hs5
    have hbq := bl_ge rs q
    have hbb := bl_bl rs q
    have kt := ptake_any P w5 rs (bl rs q) 125 (by decide) hs5
    clear kb HR4 HA4 HR3 HA3 hs5 ha5 q3 f3 hz4
    by_cases hc : rs[bl rs q]? = some [125]
    · have HC : Hid (rs[bl rs q]? = some [125]) := hc
      rw [decide_eq_true hc, if_pos hc] at kt
      clear hc hbb
      go_wp2_with fail
      refine kt.mono ?_
      rintro e w6 ⟨rfl, hs6, ha6⟩
      have HR6 : Hid (Row w6 w.heap.size #[.string ⟨n.toArray⟩, .int .i64 p]) := HR5.out.ag ha6 (by omega)
      have q6 := HR6.out.2.1
      go_wp2
      go_ret2
      exact ⟨HA5.out.trans ha6, _, .simple HN.out HC.out, _, rfl, hs6, by omega, .simple .nil⟩
    · have HC : Hid (rs[bl rs q]? ≠ some [125]) := hc
      rw [decide_eq_false hc, if_neg hc] at kt
      clear hc
      go_wp2_with fail
      refine kt.mono ?_
      rintro e w6 ⟨rfl, hs6, ha6⟩
      have HR6 : Hid (Row w6 w.heap.size #[.string ⟨n.toArray⟩, .int .i64 p]) := HR5.out.ag ha6 (by omega)
      have HA6 : Hid (Ag P w w6) := HA5.out.trans ha6
      have hz6 := ha6.size
      have kc := pcomma_any P w6 rs (bl rs q) hs6
      unfold Comma at kc
      rw [hbb] at kc
      have HBB : Hid (bl rs (bl rs q) = bl rs q) := hbb
      clear kt hs6 ha6 HR5 HA5 HS5 hbb
      go_wp2_with fail
      refine kc.mono ?_
      rintro e w7 ⟨ha7, hn⟩
      have HR7 : Hid (Row w7 w.heap.size #[.string ⟨n.toArray⟩, .int .i64 p]) := HR6.out.ag ha7 (by omega)
      have HA7 : Hid (Ag P w w7) := HA6.out.trans ha7
      have hz7 := ha7.size
      clear kc ha7 HR6 HA6
      rcases hn with ⟨h44, rfl, hs7⟩ | ⟨h44, v, rfl, hv⟩
      · have H44 : Hid (rs[bl rs q]? = some [44]) := h44
        have hbk := bl_ge rs (bl rs q + 1)
        have kk := pkind_any d hd hM P w7 rs p (bl rs (bl rs q + 1)) n hs7
        have q7 := HR7.out.2.1
        clear h44 hs7
        go_wp2_with fail
        refine kk.mono ?_
        rintro e w8 ⟨ha8, res, hrd, hm⟩
        have HRD : Hid (Rd rs (.arg d) p res) := hrd q HN.out H44.out rfl
        clear hrd kk
        cases res with
        | okB => exact hm.elim
        | bad er a =>
          obtain ⟨u, v, rfl, hv⟩ := hm
          go_wp2
          go_ret2
          exact ⟨HA7.out.trans ha8, _, HRD.out, _, _, rfl, hv.mono (by omega), trivial⟩
        | ok t q2 =>
          obtain ⟨v, rfl, hs8, hkq, hlay⟩ := hm
          have HLAY : Hid (Lay w8 (fun g => w7.heap.size ≤ g) t [v]) := hlay
          clear hlay
          go_wp2
          go_ret2
          exact ⟨HA7.out.trans ha8, _, HRD.out, _, rfl, hs8, by omega, HLAY.out.mono (Nat.le_refl _) fun g hg _ => ⟨rfl, by omega⟩⟩
      · have H44 : Hid (rs[bl rs q]? ≠ some [44]) := h44
        have HV : Hid (Flt w6.heap.size w7 v 3 (bl rs q)) := hv
        obtain ⟨b, rfl, _⟩ := hv
        clear h44
        go_wp2
        go_ret2
        exact ⟨HA7.out, _, .commaB HN.out HC.out H44.out, _, _, rfl, HV.out.mono (by omega), trivial⟩
end Go.Proofs.YtaepcfidpekflaaGreatDoor
