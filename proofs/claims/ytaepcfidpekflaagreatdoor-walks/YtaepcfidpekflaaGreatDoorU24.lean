/-
  Several texts in one (Mn). By the verifier.
-/
import Derived.Test.YtaepcfidpekflaaGreatDoorU23
namespace Go.Proofs.YtaepcfidpekflaaGreatDoor
open Go.RowKit Pg

theorem enters_byName : Enters 260 := enters_of Tryz.func260 (by kernel_rfl) rfl
theorem enters_numeral : Enters 263 := enters_of Tryz.func263 (by kernel_rfl) rfl
/-- Branches of an argument, its node made of them. -/
def Node (P : Nat) (rs : List Pg.T) (d : Nat) (num : Bool) (p : Nat) (mk : Value → Nat → Value) (w : World) (e : Ending) (w' : World) : Prop := ∃ res, Rd rs (.brs d num true) p res ∧ match res with
  | .okB t b q => ∃ v, e = .returned (.tuple #[mk v b, .nilIface]) ∧ Scn P w' rs q ∧ p < q ∧ RowAt w' (fun g => w.heap.size ≤ g) 4 v t
  | .bad er a => ∃ u v, e = .returned (.tuple #[u, v]) ∧ Flt w.heap.size w' v er a
  | .ok _ _ => False
def selN (n : Pg.T) (a : Nat) (v : Value) (b : Nat) : Value := .iface 296 (.agg #[.string ⟨n.toArray⟩, .int .i64 (a : Nat), v, .int .i64 (b : Nat)])
def pluN (n : Pg.T) (a : Nat) (ord : Bool) (off : Nat) (v : Value) (b : Nat) : Value := .iface 299 (.agg #[.string ⟨n.toArray⟩, .int .i64 (a : Nat), .bool ord, .int .u32 (off : Nat), v, .int .i64 (b : Nat)])
def SelSaidN (P : Nat) (rs : List Pg.T) (d p : Nat) (n : Pg.T) (a : Nat) (w : World) (e : Ending) (w' : World) : Prop := Ag P w w' ∧
  ((rs[bl rs p]? ≠ some [44] ∧ ∃ u v, e = .returned (.tuple #[u, v]) ∧ Flt w.heap.size w' v 3 (bl rs p)) ∨ (rs[bl rs p]? = some [44] ∧ Node P rs d false (bl rs (bl rs p + 1)) (selN n a) w e w'))
set_option maxHeartbeats 6400000 in
theorem pselectOf_any (d : Nat) (hd : d ≤ 6) (hM : d < 6 → MsgOk (d + 1)) (P : Nat) (w : World) (rs : List Pg.T) (p : Nat) (n : Pg.T) (a : Nat) (h : Scn P w rs p) :
    Calls Tryz.prog 242 #[.pointer (some ⟨P, 0, none⟩), .agg #[.string ⟨n.toArray⟩, .int .i64 a], .int .i64 d] w fun e w' => SelSaidN P rs d p n a w e w' := by
  have hPl := h.lt
  have hb0 : Below w.heap.size w ((w.alloc (.cells #[.pointer (some ⟨P, 0, none⟩)] 274)).alloc (.cells #[.string ⟨n.toArray⟩, .int .i64 a] 189)) := (allocB _ _).alloc (by simp) _
  have rs0 : Row ((w.alloc (.cells #[.pointer (some ⟨P, 0, none⟩)] 274)).alloc (.cells #[.string ⟨n.toArray⟩, .int .i64 a] 189)) w.heap.size #[.pointer (some ⟨P, 0, none⟩)] := (row_at w _ _).alloc _
  have ro0 : Row ((w.alloc (.cells #[.pointer (some ⟨P, 0, none⟩)] 274)).alloc (.cells #[.string ⟨n.toArray⟩, .int .i64 a] 189)) (w.heap.size + 1) #[.string ⟨n.toArray⟩, .int .i64 a] := by
    have := row_at (w.alloc (.cells #[.pointer (some ⟨P, 0, none⟩)] 274)) #[.string ⟨n.toArray⟩, .int .i64 a] 189
    rw [World.size_alloc] at this
    exact this
  have kc := pcomma_any P _ rs p (h.then hb0)
  have hz0 : ((w.alloc (.cells #[.pointer (some ⟨P, 0, none⟩)] 274)).alloc (.cells #[.string ⟨n.toArray⟩, .int .i64 a] 189)).heap.size = w.heap.size + 2 := by simp
  clear h
  go_enter Tryz.func242, Tryz.ntmps242
  go_wp2_with fail
  refine kc.mono ?_
  rintro e w1 ⟨ha, hn⟩
  have HRS : Hid (Row w1 w.heap.size #[.pointer (some ⟨P, 0, none⟩)]) := rs0.ag ha (by omega)
  have HRO : Hid (Row w1 (w.heap.size + 1) #[.string ⟨n.toArray⟩, .int .i64 a]) := ro0.ag ha (by omega)
  have HA1 : Hid (Ag P w w1) := (Ag.of hb0 (Nat.le_refl _)).trans ha
  have hz1 : w.heap.size + 2 ≤ w1.heap.size := by have := ha.size; omega
  rw [hz0] at hn
  clear kc rs0 ro0 hb0 hz0 ha
  rcases hn with ⟨hc, rfl, hs1⟩ | ⟨hc, v, rfl, hv⟩
  · have HC : Hid (rs[bl rs p]? = some [44]) := hc
    have hsl : Slv P rs false w1 (.func (.func 260) #[] #[.pointer (some ⟨w.heap.size, 0, none⟩)]) := ⟨_, _, _, rfl, enters_byName, fun W q hA hs => by
      have := pbyName_any P w.heap.size W rs q hs ((HRS.out.ag hA (by omega)).2.1 0)
      simpa using this⟩
    have kb := pbranches_any d hd hM P w1 rs (bl rs (bl rs p + 1)) false _ hs1 hsl
    have qs := HRS.out.2.1
    have qo := HRO.out.2.1
    clear hc hs1 hsl
    go_wp2_with fail
    refine kb.mono ?_
    rintro e w2 ⟨ha2, res, hrd, hm⟩
    have HRO2 : Hid (Row w2 (w.heap.size + 1) #[.string ⟨n.toArray⟩, .int .i64 a]) := HRO.out.ag ha2 (by omega)
    have HA2 : Hid (Ag P w w2) := HA1.out.trans ha2
    have HRD : Hid (Rd rs (.brs d false true) (bl rs (bl rs p + 1)) res) := hrd
    have hz2 : w1.heap.size ≤ w2.heap.size := ha2.size
    have hzz : w.heap.size + 1 < w2.heap.size := by omega
    have q2 := HRO2.out.2.1
    clear kb qs qo hrd HRS HRO
    cases res with
    | ok t q => obtain ⟨v, _, _, hx⟩ := hm; exact hx.elim
    | bad er x =>
      obtain ⟨u, v, rfl, hv, hu⟩ := hm
      simp only at hu
      subst hu
      have HV : Hid (Flt w1.heap.size w2 v er x) := hv
      clear hv
      go_wp2
      go_ret2
      exact ⟨HA2.out.then (allocB _ _), .inr ⟨HC.out, _, HRD.out, _, _, rfl, (HV.out.keep (allocB _ _)).mono (by omega)⟩⟩
    | okB t b q =>
      obtain ⟨v, rfl, hs, hlt, hrow⟩ := hm
      have HROW : Hid (RowAt w2 (fun g => w1.heap.size ≤ g) 4 v t) := hrow
      have HS : Hid (Scn P w2 rs q) := hs
      obtain ⟨va, vn, vc, rfl⟩ : ∃ va vn vc, v = .slice va vn vc := by
        obtain ⟨us, h1, _⟩ := hrow
        rcases h1 with ⟨_, h1⟩ | ⟨g, n, c, h1, _⟩
        · exact ⟨_, _, _, h1⟩
        · exact ⟨_, _, _, h1⟩
      clear hrow hs
      go_wp2
      go_ret2
      exact ⟨HA2.out.then (allocB _ _), .inr ⟨HC.out, _, HRD.out, _, rfl, HS.out.then (allocB _ _), hlt, (HROW.out.keep (allocB _ _)).wide (fun g hg => by omega)⟩⟩
  · have HC : Hid (rs[bl rs p]? ≠ some [44]) := hc
    have HV : Hid (Flt (w.heap.size + 2) w1 v 3 (bl rs p)) := hv
    obtain ⟨b, rfl, _⟩ := hv
    clear hc
    go_wp2
    go_ret2
    exact ⟨HA1.out, .inl ⟨HC.out, _, _, rfl, HV.out.mono (by omega)⟩⟩
def PluSaidN (P : Nat) (rs : List Pg.T) (d p : Nat) (n : Pg.T) (a : Nat) (ord : Bool) (w : World) (e : Ending) (w' : World) : Prop := Ag P w w' ∧
  ((rs[bl rs p]? ≠ some [44] ∧ ∃ u v, e = .returned (.tuple #[u, v]) ∧ Flt w.heap.size w' v 3 (bl rs p)) ∨ (rs[bl rs p]? = some [44] ∧
    ((∃ x u v, offR rs (bl rs (bl rs p + 1)) = .inl x ∧ e = .returned (.tuple #[u, v]) ∧ Flt w.heap.size w' v 3 x) ∨
     (∃ off i, offR rs (bl rs (bl rs p + 1)) = .inr (off, i) ∧ bl rs p < i ∧ Node P rs d true i (pluN n a ord (Pr.val off)) w e w'))))
set_option maxHeartbeats 6400000 in
theorem ppluralOf_any (d : Nat) (hd : d ≤ 6) (hM : d < 6 → MsgOk (d + 1)) (P : Nat) (w : World) (rs : List Pg.T) (p : Nat) (n : Pg.T) (a : Nat) (ord : Bool) (h : Scn P w rs p) :
    Calls Tryz.prog 243 #[.pointer (some ⟨P, 0, none⟩), .agg #[.string ⟨n.toArray⟩, .int .i64 a, .bool ord, .int .u32 0, .slice none 0 0, .int .i64 0], .int .i64 d] w fun e w' => PluSaidN P rs d p n a ord w e w' := by
  have hPl := h.lt
  have hb0 := allocB w (.cells #[.string ⟨n.toArray⟩, .int .i64 a, .bool ord, .int .u32 0, .slice none 0 0, .int .i64 0] 299)
  have r0 := row_at w #[.string ⟨n.toArray⟩, .int .i64 a, .bool ord, .int .u32 0, .slice none 0 0, .int .i64 0] 299
  have kc := pcomma_any P _ rs p (h.then hb0)
  have hz0 : (w.alloc (.cells #[.string ⟨n.toArray⟩, .int .i64 a, .bool ord, .int .u32 0, .slice none 0 0, .int .i64 0] 299)).heap.size = w.heap.size + 1 := by simp
  clear h
  go_enter Tryz.func243, Tryz.ntmps243
  go_wp2_with fail
  refine kc.mono ?_
  rintro e w1 ⟨ha, hn⟩
  have HR : Hid (Row w1 w.heap.size #[.string ⟨n.toArray⟩, .int .i64 a, .bool ord, .int .u32 0, .slice none 0 0, .int .i64 0]) := r0.ag ha (by omega)
  have HA1 : Hid (Ag P w w1) := (Ag.of hb0 (Nat.le_refl _)).trans ha
  have hz1 : w.heap.size + 1 ≤ w1.heap.size := by have := ha.size; omega
  rw [hz0] at hn
  clear kc r0 hb0 hz0 ha
  rcases hn with ⟨hc, rfl, hs1⟩ | ⟨hc, v, rfl, hv⟩
  · have HC : Hid (rs[bl rs p]? = some [44]) := hc
    have hle := hs1.pts.2.2
    have ko := poffset_any P w1 rs _ hs1
    clear hc hs1
    go_wp2_with fail
    refine ko.mono ?_
    rintro e w2 ⟨ha2, hm⟩
    have HR2 : Hid (Row w2 w.heap.size #[.string ⟨n.toArray⟩, .int .i64 a, .bool ord, .int .u32 0, .slice none 0 0, .int .i64 0]) := HR.out.ag ha2 (by omega)
    have HA2 : Hid (Ag P w w2) := HA1.out.trans ha2
    have hz2 : w1.heap.size ≤ w2.heap.size := ha2.size
    clear ko HR
    cases ho : offR rs (bl rs (bl rs p + 1)) with
    | inl x =>
      rw [ho] at hm
      obtain ⟨v, rfl, hv⟩ := hm
      have HO : Hid (offR rs (bl rs (bl rs p + 1)) = .inl x) := ho
      have HV : Hid (Flt w1.heap.size w2 v 3 x) := hv
      obtain ⟨b, rfl, _⟩ := hv
      clear ho
      go_wp2
      go_ret2
      exact ⟨HA2.out, .inr ⟨HC.out, .inl ⟨_, _, _, HO.out, rfl, HV.out.mono (by omega)⟩⟩⟩
    | inr x =>
      obtain ⟨off, i⟩ := x
      rw [ho] at hm
      obtain ⟨rfl, hs2⟩ := hm
      have HO : Hid (offR rs (bl rs (bl rs p + 1)) = .inr (off, i)) := ho
      have HI : Hid (bl rs p < i) := by
        show bl rs p < i
        have h1 := ((offR_le hle).1 off i ho).1
        have h2 := bl_ge rs (bl rs p + 1)
        omega
      obtain ⟨V, hV⟩ : ∃ V, Hid (Pr.val off = V) := ⟨_, rfl⟩
      rw [hV.out]
      have hs3 := hs2.set (g := w.heap.size) (j := 3) hPl (.int .u32 V)
      have ha3 := HA2.out.setNew (g := w.heap.size) (Nat.le_refl _) 3 (.int .u32 V)
      have hr3 := HR2.out.setC 3 (.int .u32 V) (by simp)
      have hsl : Slv P rs true (w2.setCell ⟨w.heap.size, 3, none⟩ (.int .u32 V)) (.func (.func 263) #[.pointer (some ⟨P, 0, none⟩)] #[]) := ⟨_, _, _, rfl, enters_numeral, fun W q hA hs => by
        have := pnumeral_any P W rs q hs
        simpa using this⟩
      have kb := pbranches_any d hd hM P _ rs i true _ hs3 hsl
      have q2 := HR2.out.2.1
      have f2 := HR2.out.2.2
      clear hs2 hs3 hsl ho
      go_wp2_with fail
      refine kb.mono ?_
      rintro e w4 ⟨ha4, res, hrd, hm⟩
      have HR4 : Hid (Row w4 w.heap.size #[.string ⟨n.toArray⟩, .int .i64 a, .bool ord, .int .u32 V, .slice none 0 0, .int .i64 0]) := hr3.ag ha4 (by omega)
      have HA4 : Hid (Ag P w w4) := ha3.trans ha4
      have HRD : Hid (Rd rs (.brs d true true) i res) := hrd
      have hz4 : w2.heap.size ≤ w4.heap.size := by have := ha4.size; simpa using this
      have hzz : w.heap.size < w4.heap.size := by omega
      have q4 := HR4.out.2.1
      have f4 := HR4.out.2.2
      have hsz : (w2.setCell ⟨w.heap.size, 3, none⟩ (.int .u32 V)).heap.size = w2.heap.size := by simp
      rw [hsz] at hm
      clear kb q2 f2 hrd HR2 hr3 ha3 ha4 hsz
      cases res with
      | ok t q => obtain ⟨v, _, _, hx⟩ := hm; exact hx.elim
      | bad er x =>
        obtain ⟨u, v, rfl, hv, hu⟩ := hm
        simp only at hu
        subst hu
        have HV : Hid (Flt w2.heap.size w4 v er x) := hv
        clear hv
        go_wp2
        go_ret2
        exact ⟨(HA4.out.setNew (Nat.le_refl _) 4 _).setNew (Nat.le_refl _) 5 _, .inr ⟨HC.out, .inr ⟨off, i, HO.out, HI.out, _, HRD.out, _, _, rfl, ((HV.out.set (by omega) _).set (by omega) _).mono (by omega)⟩⟩⟩
      | okB t b q =>
        obtain ⟨v, rfl, hs, hlt, hrow⟩ := hm
        have HROW : Hid (RowAt w4 (fun g => w2.heap.size ≤ g) 4 v t) := hrow
        have HS : Hid (Scn P w4 rs q) := hs
        obtain ⟨va, vn, vc, rfl⟩ : ∃ va vn vc, v = .slice va vn vc := by
          obtain ⟨us, h1, _⟩ := hrow
          rcases h1 with ⟨_, h1⟩ | ⟨g, n, c, h1, _⟩
          · exact ⟨_, _, _, h1⟩
          · exact ⟨_, _, _, h1⟩
        clear hrow hs
        go_wp2
        go_ret2
        exact ⟨(HA4.out.setNew (Nat.le_refl _) 4 _).setNew (Nat.le_refl _) 5 _, .inr ⟨HC.out, .inr ⟨off, i, HO.out, HI.out, _, HRD.out, .slice va vn vc, by rw [hV.out]; rfl, (HS.out.set hPl _).set hPl _, hlt, ((HROW.out.set (fun g hg => by omega) _).set (fun g hg => by omega) _).wide (fun g hg => by omega)⟩⟩⟩
  · have HC : Hid (rs[bl rs p]? ≠ some [44]) := hc
    have HV : Hid (Flt (w.heap.size + 1) w1 v 3 (bl rs p)) := hv
    obtain ⟨b, rfl, _⟩ := hv
    clear hc
    go_wp2
    go_ret2
    exact ⟨HA1.out, .inl ⟨HC.out, _, _, rfl, HV.out.mono (by omega)⟩⟩
end Go.Proofs.YtaepcfidpekflaaGreatDoor
