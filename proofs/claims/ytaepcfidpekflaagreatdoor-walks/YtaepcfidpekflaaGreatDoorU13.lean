/-
  Several texts in one (Ml). By the verifier.
-/
import Derived.Test.YtaepcfidpekflaaGreatDoorU12
namespace Go.Proofs.YtaepcfidpekflaaGreatDoor
open Go.RowKit Pg

theorem RowAt.set {w : World} {S : Nat → Prop} {k g j : Nat} {v : Value} {t : Pg.Tr} (h : RowAt w S k v t) (hS : ∀ x, S x → x ≠ g) (u : Value) : RowAt (w.setCell ⟨g, j, none⟩ u) S k v t :=
  h.mono (by simp) fun x hx _ => ⟨Below.heap_setCell _ _ _ _ (hS x hx), hx⟩
theorem RowAt.wide {w : World} {S S' : Nat → Prop} {k : Nat} {v : Value} {t : Pg.Tr} (h : RowAt w S k v t) (hS : ∀ x, S x → S' x) : RowAt w S' k v t := h.mono (Nat.le_refl _) fun x hx _ => ⟨rfl, hS x hx⟩
/-- A function value that reads a selector. -/
def Slv (P : Nat) (rs : List Pg.T) (num : Bool) (w : World) (v : Value) : Prop := ∃ g bd lb, v = .func (.func g) bd lb ∧ Enters g ∧ ∀ W q, Ag P w W → Scn P W rs q → Calls Tryz.prog g (bd ++ lb) W fun e w' => SelSaid P rs num q W e w'
theorem Slv.later {P : Nat} {rs : List Pg.T} {num : Bool} {w w' : World} {v : Value} (h : Slv P rs num w v) (ha : Ag P w w') : Slv P rs num w' v := by
  obtain ⟨g, bd, lb, h1, h2, h3⟩ := h
  exact ⟨g, bd, lb, h1, h2, fun W q hA hs => h3 W q (ha.trans hA) hs⟩
/-- The messages of a depth are read. -/
def MsgOk (d : Nat) : Prop := ∀ P w rs p num, Scn P w rs p → Calls Tryz.prog 160 #[.pointer (some ⟨P, 0, none⟩), .int .i64 d, .bool num] w fun e w' => Rdn P rs (.msg d num) p w e w'
/-- What the reading of a branch at the place p answers. -/
def BrSaid (P : Nat) (rs : List Pg.T) (num : Bool) (d p : Nat) (w : World) (e : Ending) (w' : World) : Prop := Ag P w w' ∧
  ((∃ (er a : Nat) (u : ByteArray × Int × Int × Option Addr × Nat × Nat) (v : Value), (∀ p0 first, bl rs p0 = p → (first = true ∨ rs[p]? ≠ some [125]) → Rd rs (.brs d num first) p0 (.bad er a)) ∧ e = .returned (.tuple #[.agg #[.string u.1, .int .u32 u.2.1, .int .i64 u.2.2.1, .slice u.2.2.2.1 u.2.2.2.2.1 u.2.2.2.2.2], v]) ∧ Flt w.heap.size w' v er a) ∨
   (∃ t m j v, (∀ p0 first res, bl rs p0 = p → (first = true ∨ rs[p]? ≠ some [125]) → Rd rs (.brs d num false) (j + 1) res → Rd rs (.brs d num first) p0 (res.pre (.br t p m .nil))) ∧ p ≤ j ∧ e = .returned (.tuple #[.agg #[.string ⟨(selV t).1.toArray⟩, .int .u32 ((selV t).2 : Nat), .int .i64 (p : Nat), v], .nilIface]) ∧ RowAt w' (fun g => w.heap.size < g) 1 v m ∧ Scn P w' rs (j + 1)))
theorem BrSaid.bad {P : Nat} {rs : List Pg.T} {num : Bool} {d p er a : Nat} {w w' : World} {s0 : ByteArray} {k z : Int} {ad : Option Addr} {n c : Nat} {v : Value} (hr : ∀ p0 first, bl rs p0 = p → (first = true ∨ rs[p]? ≠ some [125]) → Rd rs (.brs d num first) p0 (.bad er a)) (ha : Ag P w w') (hv : Flt w.heap.size w' v er a) : BrSaid P rs num d p w (.returned (.tuple #[.agg #[.string s0, .int .u32 k, .int .i64 z, .slice ad n c], v])) w' :=
  ⟨ha, .inl ⟨er, a, (s0, k, z, ad, n, c), v, hr, rfl, hv⟩⟩
theorem Ag.set4 {P g : Nat} {w w' : World} (h : Ag P w w') (hg : w.heap.size ≤ g) (a b c d : Value) : Ag P w ((((w'.setCell ⟨g, 0, none⟩ a).setCell ⟨g, 1, none⟩ b).setCell ⟨g, 2, none⟩ c).setCell ⟨g, 3, none⟩ d) := (((h.setNew hg 0 a).setNew hg 1 b).setNew hg 2 c).setNew hg 3 d
theorem Flt.set4 {B g : Nat} {w : World} {v : Value} {e x : Nat} (h : Flt B w v e x) (hg : g < B) (a b c d : Value) : Flt B ((((w.setCell ⟨g, 0, none⟩ a).setCell ⟨g, 1, none⟩ b).setCell ⟨g, 2, none⟩ c).setCell ⟨g, 3, none⟩ d) v e x := (((h.set hg a).set hg b).set hg c).set hg d
theorem Scn.set4 {P g : Nat} {w : World} {rs : List Pg.T} {p : Nat} (h : Scn P w rs p) (hg : P < g) (a b c d : Value) : Scn P ((((w.setCell ⟨g, 0, none⟩ a).setCell ⟨g, 1, none⟩ b).setCell ⟨g, 2, none⟩ c).setCell ⟨g, 3, none⟩ d) rs p := (((h.set hg a).set hg b).set hg c).set hg d
theorem RowAt.set4 {w : World} {S : Nat → Prop} {k g : Nat} {v : Value} {t : Pg.Tr} (h : RowAt w S k v t) (hS : ∀ x, S x → x ≠ g) (a b c d : Value) : RowAt ((((w.setCell ⟨g, 0, none⟩ a).setCell ⟨g, 1, none⟩ b).setCell ⟨g, 2, none⟩ c).setCell ⟨g, 3, none⟩ d) S k v t := (((h.set hS a).set hS b).set hS c).set hS d
/-- What must stand next, its answer by name. -/
theorem pneed_ret (P : Nat) (w : World) (rs : List Pg.T) (p : Nat) (b : UInt8) (hb : b.toNat < 128) (h : Scn P w rs p) :
    Calls Tryz.prog 241 #[.pointer (some ⟨P, 0, none⟩), .int .i32 b.toNat] w fun e w' => ∃ v, e = .returned v ∧ Ag P w w' ∧ ((rs[p]? = some [b] ∧ v = .nilIface ∧ Scn P w' rs (p + 1)) ∨ (rs[p]? ≠ some [b] ∧ Flt w.heap.size w' v 3 p)) := by
  refine (pneed_any P w rs p b hb h).mono ?_
  rintro e w' ⟨ha, ⟨h1, h2, h3⟩ | ⟨h1, v, h2, h3⟩⟩
  · exact ⟨_, h2, ha, .inl ⟨h1, rfl, h3⟩⟩
  · exact ⟨v, h2, ha, .inr ⟨h1, h3⟩⟩
theorem allocB (w : World) (o : Obj) : Below w.heap.size w (w.alloc o) := (Below.refl _ _).alloc (Nat.le_refl _) o
set_option maxHeartbeats 6400000 in
theorem pbranch_any (d : Nat) (hd : d ≤ 6) (hM : d < 6 → MsgOk (d + 1)) (P : Nat) (w : World) (rs : List Pg.T) (p : Nat) (num : Bool) (v : Value) (h : Scn P w rs p) (hv : Slv P rs num w v) :
    Calls Tryz.prog 279 #[.pointer (some ⟨P, 0, none⟩), v, .int .i64 d, .bool num] w fun e w' => BrSaid P rs num d p w e w' := by
  obtain ⟨g, bd, lb, rfl, eg, cm⟩ := hv
  unfold Enters at eg
  have hb0 := (Below.refl w.heap.size w).alloc (Nat.le_refl _) (.cells #[.string ⟨#[]⟩, .int .u32 0, .int .i64 0, .slice none 0 0] 332)
  have r0 := row_at w #[.string ⟨#[]⟩, .int .u32 0, .int .i64 0, .slice none 0 0] 332
  have hz0 : (w.alloc (.cells #[.string ⟨#[]⟩, .int .u32 0, .int .i64 0, .slice none 0 0] 332)).heap.size = w.heap.size + 1 := by simp
  have hPl := h.lt
  have hpl := h.pts.2.2
  have h0 := h.then hb0
  have ha0 : Ag P w _ := Ag.of hb0 (Nat.le_refl _)
  have c0 := cm _ p ha0 h0
  obtain ⟨a1, c1, q0, f0⟩ := h0.rows
  clear h h0 cm
  go_enter Tryz.func279, Tryz.ntmps279
  go_wp2_with fail
  refine c0.mono ?_
  rintro e w1 ⟨ha, hn⟩
  have HR1 : Hid (Row w1 w.heap.size #[.string ⟨#[]⟩, .int .u32 0, .int .i64 0, .slice none 0 0]) := r0.ag ha (by omega)
  have ha1 : Ag P w w1 := ha0.trans ha
  have hz1 : w.heap.size < w1.heap.size := by have := ha.size; omega
  rw [hz0] at hn
  clear c0 r0 hb0 hz0 ha ha0 q0 f0
  cases hr : selR num rs p with
  | inl a =>
    rw [hr] at hn
    obtain ⟨v, rfl, hv⟩ := hn
    have HV : Hid (Flt (w.heap.size + 1) w1 v 3 a) := hv
    have HN : Hid (∀ p0 first, bl rs p0 = p → (first = true ∨ rs[p]? ≠ some [125]) → Rd rs (.brs d num first) p0 (.bad 3 a)) := fun p0 first h1 h2 => .brsSel (by rw [h1]; exact h2) (by rw [h1]; exact hr)
    obtain ⟨b, rfl, _⟩ := hv
    have q1 := HR1.out.2.1
    have f1 := HR1.out.2.2
    clear hr
    go_wp2
    refine bodyPost_ret (v := .tuple #[.agg #[.string ⟨#[]⟩, .int .u32 0, .int .i64 0, .slice none 0 0], .iface 113 (.pointer (some ⟨b, 0, none⟩))]) (by simp [results, Tryz.results279, go_sem, q1, World.cell?_alloc_lt, hz1]) rfl ?_
    exact BrSaid.bad HN.out ((ha1.set4 (Nat.le_refl _) _ _ _ _).then (allocB _ _)) (((HV.out.set4 (by omega) _ _ _ _).keep (allocB _ _)).mono (by omega))
  | inr x =>
    obtain ⟨t, q⟩ := x
    rw [hr] at hn
    obtain ⟨rfl, hs1⟩ := hn
    have HSR : Hid (selR num rs p = .inr (t, q)) := hr
    have hpq : p ≤ q := ((selR_le (num := num) hpl).1 t q hr).1
    obtain ⟨F, hF⟩ : ∃ F, Hid ((selV t).1 = F) := ⟨_, rfl⟩
    obtain ⟨V, hV⟩ : ∃ V, Hid ((selV t).2 = V) := ⟨_, rfl⟩
    rw [hF.out, hV.out]
    have hb1 := allocB w1 (.cells #[.string ⟨F.toArray⟩, .int .u32 V] 330)
    have rb := row_at w1 #[.string ⟨F.toArray⟩, .int .u32 V] 330
    have kb := pblanks_any P _ rs q (hs1.then hb1)
    clear hr
    go_wp2_with fail
    refine kb.mono ?_
    rintro e w2 ⟨rfl, hs2, ha2⟩
    have HRB : Hid (Row w2 w1.heap.size #[.string ⟨F.toArray⟩, .int .u32 V]) := rb.ag ha2 (by have := ha1.size; omega)
    have HR2 : Hid (Row w2 w.heap.size #[.string ⟨#[]⟩, .int .u32 0, .int .i64 0, .slice none 0 0]) := (HR1.out.keep hb1).ag ha2 (by omega)
    have ha3 : Ag P w w2 := (ha1.then hb1).trans ha2
    have hz2 : w1.heap.size < w2.heap.size := by have := ha2.size; simp at this; omega
    have hlz : w.heap.size < w1.heap.size := hz1
    clear kb hs1 hb1 rb HR1 ha1 ha2 hz1
    generalize w1.heap.size = bb at *
    clear w1
    have kn := pneed_any P w2 rs (bl rs q) 123 (by decide) hs2
    obtain ⟨a2, c2, q2, f2⟩ := hs2.rows
    go_wp2_with fail
    refine kn.mono ?_
    rintro e w3 ⟨ha4, hn⟩
    have HRB3 : Hid (Row w3 bb #[.string ⟨F.toArray⟩, .int .u32 V]) := HRB.out.ag ha4 (by omega)
    have HR3 : Hid (Row w3 w.heap.size #[.string ⟨#[]⟩, .int .u32 0, .int .i64 0, .slice none 0 0]) := HR2.out.ag ha4 (by omega)
    have ha5 : Ag P w w3 := ha3.trans ha4
    have hz3 : bb < w3.heap.size := by have := ha4.size; omega
    have hzw : w2.heap.size ≤ w3.heap.size := ha4.size
    clear kn HRB HR2 ha3 ha4 q2 f2 hs2
    rcases hn with ⟨hc, rfl, hs3⟩ | ⟨hc, v, rfl, hv⟩
    · have HC : Hid (rs[bl rs q]? = some [123]) := hc
      clear hc
      by_cases h6 : d = 6
      · have e6 : ((d : Int) == 6) = true := by rw [h6]; rfl
        have HN : Hid (∀ p0 first, bl rs p0 = p → (first = true ∨ rs[p]? ≠ some [125]) → Rd rs (.brs d num first) p0 (.bad 4 (bl rs q))) := fun p0 first h1 h2 => by
          rw [h6]
          exact .brsDeep (by rw [h1]; exact h2) (by rw [h1]; exact HSR.out) HC.out
        have kf := pfault_any w3 4 (bl rs q)
        clear hs3 h6
        go_wp2_with (go_at_call 158; refine kf.mono ?_; rintro e w4 ⟨⟨v, rfl, hv⟩, hb4⟩; have HR4 := HR3.out.keep hb4; have q4 := HR4.2.1; have f4 := HR4.2.2)
        refine bodyPost_ret (v := .tuple #[.agg #[.string ⟨#[]⟩, .int .u32 0, .int .i64 0, .slice none 0 0], v]) (by simp [results, Tryz.results279, go_sem, q4]) rfl ?_
        exact BrSaid.bad HN.out ((ha5.then hb4).set4 (Nat.le_refl _) _ _ _ _) ((hv.set4 (by omega) _ _ _ _).mono (by omega))
      · have e6 : ((d : Int) == 6) = false := by rw [beq_eq_false_iff_ne]; omega
        have hw : IntKind.i64.wrap ((d : Int) + 1) = ((d + 1 : Nat) : Int) := by rw [IntKind.wrap_i64]; omega
        have km := hM (by omega) P w3 rs (bl rs q + 1) num hs3
        go_wp2_with fail
        refine km.mono ?_
        rintro e w4 ⟨ha6, res, hrd, hm⟩
        have HRB4 : Hid (Row w4 bb #[.string ⟨F.toArray⟩, .int .u32 V]) := HRB3.out.ag ha6 (by omega)
        have HR4 : Hid (Row w4 w.heap.size #[.string ⟨#[]⟩, .int .u32 0, .int .i64 0, .slice none 0 0]) := HR3.out.ag ha6 (by omega)
        have ha7 : Ag P w w4 := ha5.trans ha6
        have hz4 : bb < w4.heap.size := by have := ha6.size; omega
        have HD : Hid (d < 6) := by show d < 6; omega
        have hw34 := ha6.size
        have HRD : Hid (Rd rs (.msg (d + 1) num) (bl rs q + 1) res) := hrd
        clear km HRB3 HR3 ha5 ha6 hs3 hrd h6
        cases res with
        | okB t2 b2 q2 => exact absurd (fine_of HRD.out (lt_of_some HC.out)) (fun h => h)
        | bad er a =>
          obtain ⟨u, v, rfl, hv, _⟩ := hm
          have HN : Hid (∀ p0 first, bl rs p0 = p → (first = true ∨ rs[p]? ≠ some [125]) → Rd rs (.brs d num first) p0 (.bad er a)) := fun p0 first h1 h2 => .brsMsg (by rw [h1]; exact h2) (by rw [h1]; exact HSR.out) HC.out HD.out HRD.out
          have HV : Hid (Flt (w.heap.size + 1) w4 v er a) := hv.mono (by omega)
          obtain ⟨b, rfl, _⟩ := hv
          have q4 := HR4.out.2.1
          have f4 := HR4.out.2.2
          go_wp2
          refine bodyPost_ret (v := .tuple #[.agg #[.string ⟨#[]⟩, .int .u32 0, .int .i64 0, .slice none 0 0], .iface 113 (.pointer (some ⟨b, 0, none⟩))]) (by simp [results, Tryz.results279, go_sem, q4]) rfl ?_
          exact BrSaid.bad HN.out (ha7.set4 (Nat.le_refl _) _ _ _ _) ((HV.out.set4 (by omega) _ _ _ _).mono (by omega))
        | ok m j =>
          obtain ⟨v, rfl, hs4, hrow⟩ := hm
          have HROW : Hid (RowAt w4 (fun g => w3.heap.size ≤ g) 1 v m) := hrow
          have kn := fun W (hW : Below w4.heap.size w4 W) => pneed_ret P W rs j 125 (by decide) (hs4.then hW)
          obtain ⟨va, vn, vc, rfl⟩ : ∃ va vn vc, v = .slice va vn vc := by
            obtain ⟨us, h1, _⟩ := hrow
            rcases h1 with ⟨_, h1⟩ | ⟨g, n, c, h1, _⟩
            · exact ⟨_, _, _, h1⟩
            · exact ⟨_, _, _, h1⟩
          have q4 := HR4.out.2.1
          have f4 := HR4.out.2.2
          have qb4 := HRB4.out.2.1
          have HL : Hid (p ≤ j) := by
            have h1 := fine_of HRD.out (lt_of_some HC.out)
            have h2 := h1.2.1.le
            have := bl_ge rs q
            show p ≤ j
            omega
          have hdr : Below w4.heap.size w4 w4.drew := (Below.refl _ _).drew
          clear hrow
          go_wp2_with fail
          go_region_with (go_at_call 241; refine (kn _ (Below.refl _ _).drew).mono ?_; rintro e w5 ⟨y, rfl, ha8, hn⟩; have HR5 : Hid (Row w5 w.heap.size #[.string ⟨#[]⟩, .int .u32 0, .int .i64 0, .slice none 0 0]) := (HR4.out.keep (Below.refl _ _).drew).ag ha8 (by omega); have HRB5 : Hid (Row w5 bb #[.string ⟨F.toArray⟩, .int .u32 V]) := (HRB4.out.keep (Below.refl _ _).drew).ag ha8 (by omega); have q5 := HR5.out.2.1; have f5 := HR5.out.2.2; have qb5 := HRB5.out.2.1)
          all_goals
            go_wp2
            refine bodyPost_ret (v := .tuple #[.agg #[.string ⟨F.toArray⟩, .int .u32 V, .int .i64 p, .slice va vn vc], y]) (by simp [results, Tryz.results279, go_sem, q5]) rfl ?_
            have hag : Ag P w w5 := (ha7.then hdr).trans ha8
            rcases hn with ⟨hc5, rfl, hs5⟩ | ⟨hc5, hv5⟩
            · refine ⟨hag.set4 (Nat.le_refl _) _ _ _ _, .inr ⟨t, m, j, .slice va vn vc, fun p0 first res h1 h2 h3 => ?_, HL.out, by rw [hF.out, hV.out], ?_, hs5.set4 (by omega) _ _ _ _⟩⟩
              · have := Rd.brs (p := p0) (by rw [h1]; exact h2) (by rw [h1]; exact HSR.out) HC.out HD.out HRD.out hc5 h3
                rw [h1] at this
                exact this
              · exact ((((HROW.out.keep hdr).ag ha8 (fun g hg => by omega)).set4 (fun g hg => by omega) _ _ _ _)).wide (fun g hg => by omega)
            · exact BrSaid.bad (fun p0 first h1 h2 => .brsClose (by rw [h1]; exact h2) (by rw [h1]; exact HSR.out) HC.out HD.out HRD.out hc5) (hag.set4 (Nat.le_refl _) _ _ _ _) ((hv5.set4 (by have := hdr.size; omega) _ _ _ _).mono (by have := hdr.size; omega))
    · have HC : Hid (rs[bl rs q]? ≠ some [123]) := hc
      have HN : Hid (∀ p0 first, bl rs p0 = p → (first = true ∨ rs[p]? ≠ some [125]) → Rd rs (.brs d num first) p0 (.bad 3 (bl rs q))) := fun p0 first h1 h2 => .brsOpen (by rw [h1]; exact h2) (by rw [h1]; exact HSR.out) HC.out
      have HV : Hid (Flt (w.heap.size + 1) w3 v 3 (bl rs q)) := hv.mono (by omega)
      obtain ⟨b, rfl, _⟩ := hv
      have q3 := HR3.out.2.1
      have f3 := HR3.out.2.2
      clear hc
      go_wp2
      refine bodyPost_ret (v := .tuple #[.agg #[.string ⟨#[]⟩, .int .u32 0, .int .i64 0, .slice none 0 0], .iface 113 (.pointer (some ⟨b, 0, none⟩))]) (by simp [results, Tryz.results279, go_sem, q3]) rfl ?_
      exact BrSaid.bad HN.out (ha5.set4 (Nat.le_refl _) _ _ _ _) ((HV.out.set4 (by omega) _ _ _ _).mono (by omega))
end Go.Proofs.YtaepcfidpekflaaGreatDoor
